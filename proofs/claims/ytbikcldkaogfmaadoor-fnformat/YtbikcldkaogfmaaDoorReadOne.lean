/- Both readers of dates answer alike where a format says s at its end alone: plain facts. -/
import Derived.Test.YtbikcldkaogfmaaDoorReadI
import Derived.Test.YtbikcldkaogfmaaDoorDecBack
namespace Go.Proofs.YtbikcldkaogfmaaDoor
open Go.RowKit

/-- A format's pieces with s at most at the end. -/
def goodP : List (UInt8 × Bool) → Bool
  | [] => true
  | (c, l) :: r => (!(l && c == 115) || r.isEmpty) && goodP r
def setAll (x : Dt) : List (UInt8 × Bool) → M8 → M8
  | [], m => m
  | (_, false) :: r, m => setAll x r m
  | (c, true) :: r, m => setAll x r (setM m c (momN x c))
def addAll : List (UInt8 × Bool) → List UInt8 → List UInt8
  | [], ts => ts
  | (_, false) :: r, ts => addAll r ts
  | (c, true) :: r, ts => addAll r (addT ts c)
def takeAll (x : Dt) : List (UInt8 × Bool) → D6 → D6
  | [], d => d
  | (_, false) :: r, d => takeAll x r d
  | (c, true) :: r, d => takeAll x r (takeD d c (momN x c))
theorem setM_x (m : M8) (c : UInt8) (n : Int) : (setM m c n).x = takeD m.x c n := by
  unfold setM
  split
  · subst_vars; rfl
  · split
    · subst_vars; rfl
    · rfl
theorem setAll_x (x : Dt) : ∀ (ps : List (UInt8 × Bool)) (m : M8), (setAll x ps m).x = takeAll x ps m.x
  | [], m => rfl
  | (_, false) :: r, m => setAll_x x r m
  | (c, true) :: r, m => by rw [setAll, takeAll, setAll_x x r, setM_x]
theorem setAll_t (x : Dt) : ∀ (ps : List (UInt8 × Bool)) (m : M8), (setAll x ps m).t = if ps.contains (115, true) then x.time else m.t
  | [], m => rfl
  | (c, false) :: r, m => by
    rw [setAll, setAll_t x r m]
    have : ((c, false) :: r).contains (115, true) = r.contains (115, true) := by simp
    rw [this]
  | (c, true) :: r, m => by
    rw [setAll, setAll_t x r _]
    by_cases hc : c = 115
    · subst hc
      have e : (setM m 115 (momN x 115)).t = x.time := rfl
      rw [e]; simp
    · have h1 : ((c, true) :: r).contains (115, true) = r.contains (115, true) := by simp [Ne.symm hc]
      have h2 : (setM m c (momN x c)).t = m.t := by
        unfold setM
        split
        · rfl
        · rfl
      rw [h1, h2]
theorem addT_has (ts : List UInt8) (c b : UInt8) : (addT ts c).contains b = (ts.contains b || c == b) := by
  unfold addT
  split
  · rename_i h
    by_cases e : c = b
    · subst e; rw [h]; simp
    · simp [e]
  · by_cases e : c = b
    · subst e; simp
    · simp [e, Ne.symm e]
theorem addAll_has (b : UInt8) : ∀ (ps : List (UInt8 × Bool)) (ts : List UInt8), (addAll ps ts).contains b = (ts.contains b || ps.contains (b, true))
  | [], ts => by simp [addAll]
  | (c, false) :: r, ts => by rw [addAll, addAll_has b r ts]; simp
  | (c, true) :: r, ts => by
    rw [addAll, addAll_has b r _, addT_has]
    by_cases e : c = b
    · subst e; simp
    · have e2 : (c == b) = false := by simpa using e
      rw [e2]; simp [Ne.symm e]
theorem has_pieces (b : UInt8) (h37 : b ≠ 37) (h0 : b ≠ 0) : ∀ (n : Nat) (l : List UInt8), l.length ≤ n → hasL b l = (pieces l).contains (b, true)
  | _, [], _ => rfl
  | 0, c :: r, h => by simp at h
  | n + 1, [c], _ => by
    unfold pieces
    split
    · simp [hasL, h0]
    · simp [hasL]
  | n + 1, c :: d :: r, h => by
    by_cases hc : c = 37
    · subst hc
      by_cases hd : d = 37
      · subst hd
        rw [pieces_per, hasL_miss b 37 r (Ne.symm h37), has_pieces b h37 h0 n r (by simp at h; omega)]; simp
      · rw [pieces_let d r hd]
        by_cases hb : d = b
        · subst hb; rw [hasL_hit]; simp
        · rw [hasL_miss b d r hb, has_pieces b h37 h0 n r (by simp at h; omega)]; simp [Ne.symm hb]
    · rw [pieces_byte c _ hc, hasL_byte b c d r hc, has_pieces b h37 h0 n (d :: r) (by simp at h ⊢; omega)]; simp
/-- A number with noughts ahead, of a width that is enough. -/
theorem pad_facts (n : Int) (d : Nat) (h0 : 0 ≤ n) (h1 : n < ((10 ^ d : Nat) : Int)) (hd1 : 1 ≤ d) (hd2 : d ≤ 12) :
    (padV n (d : Int)).length = d ∧ allDig (padV n (d : Int)) = true ∧ (dnum (padV n (d : Int)) : Int) = n := by
  obtain ⟨u, rfl⟩ : ∃ u : Nat, n = u := ⟨n.toNat, by omega⟩
  obtain ⟨e, rfl⟩ : ∃ e, d = e + 1 := ⟨d - 1, by omega⟩
  have hl := digits_short e u (by omega)
  obtain ⟨b1, b2⟩ := digits_back u
  have hv : padV (u : Int) ((e + 1 : Nat) : Int) = List.replicate (e + 1 - (Lib.decDigits u).length) 48 ++ Lib.decDigits u := by
    unfold padV padL
    rw [if_neg (by omega), Lib.itoa_nonneg, show (((e + 1 : Nat) : Int)).toNat = e + 1 by omega]
  have hz : ∀ k : Nat, allDig (List.replicate k 48) = true := fun k => by
    unfold allDig
    rw [List.all_eq_true]
    intro c hc
    rw [List.eq_of_mem_replicate hc]; rfl
  have hzn : ∀ (k : Nat) (l : List UInt8), dnum (List.replicate k 48 ++ l) = dnum l := fun k l => by
    induction k with
    | zero => rfl
    | succ k ih => rw [List.replicate_succ, List.cons_append]; exact ih
  rw [hv]
  refine ⟨by simp; omega, ?_, by rw [hzn, b2]⟩
  unfold allDig at *
  rw [List.all_append, hz, b1]; rfl
theorem isDigB_10 (c : UInt8) : isDigB 10 c = isDig c := by unfold isDigB isDig; congr 1; exact decide_eq_decide.2 (by omega)
theorem allDigB_10 (l : List UInt8) : allDigB 10 l = allDig l := by unfold allDigB allDig; rw [show isDigB 10 = isDig from funext isDigB_10]
theorem dnumB_10 (l : List UInt8) : dnumB 10 l = dnum l := rfl
theorem valI_dig {l : List UInt8} (h : allDig l = true) : valI l = (dnum l : Int) := by
  unfold valI
  rw [allDigB_10, dnumB_10, h]; rfl
theorem lead_dig {l : List UInt8} (h : allDig l = true) : lead l = l.length := lead_whole l h
theorem numL_dig {l : List UInt8} (h : allDig l = true) (h1 : 1 ≤ l.length) (h2 : l.length ≤ 12) : numL l 12 = (dnum l : Int) := by
  unfold numL; rw [if_pos ⟨⟨h1, h2⟩, h⟩]
theorem mom_bd (c : UInt8) (f : Nat) (h : lookF c letL = some f) (hc : c ≠ 115) (x : Dt) (hx : x.Ok) : momN x c < ((10 ^ (digF c).toNat : Nat) : Int) ∧ digF c = digS c ∧ (1 ≤ (digF c).toNat ∧ (digF c).toNat ≤ 4) := by
  obtain ⟨⟨y1, y2⟩, ⟨m1, m2⟩, ⟨d1, d2⟩, ⟨h1, h2⟩, ⟨i1, i2⟩, ⟨s1, s2⟩, j1, j2⟩ := hx.fields
  unfold letL at h
  rw [lookF] at h
  by_cases k89 : 89 = c
  · subst k89; exact ⟨by show x.y < ((10 ^ 4 : Nat) : Int); omega, rfl, by decide⟩
  rw [if_neg k89] at h
  rw [lookF] at h
  by_cases k109 : 109 = c
  · subst k109; exact ⟨by show (x.mo : Int) < ((10 ^ 2 : Nat) : Int); omega, rfl, by decide⟩
  rw [if_neg k109] at h
  rw [lookF] at h
  by_cases k100 : 100 = c
  · subst k100; exact ⟨by show x.d < ((10 ^ 2 : Nat) : Int); omega, rfl, by decide⟩
  rw [if_neg k100] at h
  rw [lookF] at h
  by_cases k72 : 72 = c
  · subst k72; exact ⟨by show x.h < ((10 ^ 2 : Nat) : Int); omega, rfl, by decide⟩
  rw [if_neg k72] at h
  rw [lookF] at h
  by_cases k77 : 77 = c
  · subst k77; exact ⟨by show x.mi < ((10 ^ 2 : Nat) : Int); omega, rfl, by decide⟩
  rw [if_neg k77] at h
  rw [lookF] at h
  by_cases k83 : 83 = c
  · subst k83; exact ⟨by show x.s < ((10 ^ 2 : Nat) : Int); omega, rfl, by decide⟩
  rw [if_neg k83] at h
  rw [lookF] at h
  by_cases k106 : 106 = c
  · subst k106; exact ⟨by show (msum x.y x.mo + x.d) < ((10 ^ 3 : Nat) : Int); omega, rfl, by decide⟩
  rw [if_neg k106] at h
  rw [lookF, if_neg (Ne.symm hc)] at h
  cases h
/-- The text of s. -/
theorem sec_facts (x : Dt) (hx : x.Ok) : allDig (Lib.itoa x.time) = true ∧ (dnum (Lib.itoa x.time) : Int) = x.time ∧ 1 ≤ (Lib.itoa x.time).length ∧ (Lib.itoa x.time).length ≤ 12 := by
  have ht := hx.time_bd
  obtain ⟨u, hu⟩ : ∃ u : Nat, x.time = u := ⟨x.time.toNat, by omega⟩
  rw [hu, Lib.itoa_nonneg]
  obtain ⟨h2, h3⟩ := digits_back u
  exact ⟨h2, by rw [h3], digits_pos u, digits_short 11 u (by omega)⟩
theorem look_or (c : UInt8) : lookF c letL = none ∨ ∃ f, lookF c letL = some f := by cases lookF c letL <;> simp
theorem rdI_rend (x : Dt) (hx : x.Ok) : ∀ (ps : List (UInt8 × Bool)) (s : List UInt8) (m : M8) (ts : List UInt8), goodP ps = true → rendP x ps = some s → rdI ps s m ts = some (setAll x ps m, addAll ps ts)
  | [], s, m, ts, _, _ => by rw [rdI]; rfl
  | (c, false) :: r, s, m, ts, hg, hr => by
    have hg2 : goodP r = true := by simp [goodP] at hg; exact hg
    have e : rendP x ((c, false) :: r) = (rendP x r).map ([c] ++ ·) := rfl
    rw [e] at hr
    cases hq : rendP x r with
    | none => rw [hq] at hr; cases hr
    | some s' =>
      rw [hq] at hr
      simp at hr
      subst hr
      rw [rdI_fit, rdI_rend x hx r s' m ts hg2 hq]; rfl
  | (c, true) :: r, s, m, ts, hg, hr => by
    have hg2 : goodP r = true := by simp [goodP] at hg; exact hg.2
    have e : rendP x ((c, true) :: r) = (fieldV c x).bind fun s => (rendP x r).map (s ++ ·) := rfl
    rw [e] at hr
    rcases look_or c with hl | ⟨f, hl⟩
    · rw [look_none c hl x] at hr; cases hr
    obtain ⟨f1, _, f3, f4⟩ := look_some c f hl x hx
    rw [f1] at hr
    simp only [Option.bind_some] at hr
    cases hq : rendP x r with
    | none => rw [hq] at hr; cases hr
    | some s' =>
      rw [hq] at hr
      simp only [Option.map_some, Option.some.injEq] at hr
      subst hr
      obtain ⟨Q, hQ⟩ : ∃ Q, padV (momN x c) (digF c) = Q := ⟨_, rfl⟩
      have key : widI c (Q ++ s') = Q.length ∧ allDig Q = true ∧ (dnum Q : Int) = momN x c ∧ Q.length ≤ 12 := by
        by_cases hc : c = 115
        · subst hc
          have hr2 : r = [] := by simp [goodP] at hg; exact hg.1
          subst hr2
          have hs' : s' = [] := by simpa [rendP] using hq.symm
          subst hs'
          have hQ2 : Q = Lib.itoa x.time := by rw [← hQ]; exact pad_one x.time hx.time_bd.1
          obtain ⟨g1, g2, g3, g4⟩ := sec_facts x hx
          rw [List.append_nil, hQ2]
          refine ⟨?_, g1, g2, g4⟩
          unfold widI
          rw [if_pos rfl, lead_dig g1]; omega
        · obtain ⟨b1, _, b2, b3⟩ := mom_bd c f hl hc x hx
          have hd := (digF_bd c).1
          have p := pad_facts (momN x c) (digF c).toNat f3 b1 b2 (by omega)
          rw [show (((digF c).toNat : Nat) : Int) = digF c by omega, hQ] at p
          refine ⟨?_, p.2.1, p.2.2, by omega⟩
          unfold widI
          rw [if_neg hc, p.1]
      obtain ⟨k1, k2, k3, k4⟩ := key
      rw [hQ, rdI_step c r (Q ++ s') m ts (by rw [hl, k1]; rintro (h | h | h); cases h; simp at h; omega; omega), k1]
      rw [List.drop_left, List.take_left, valI_dig k2, k3, rdI_rend x hx r s' _ _ hg2 hq]; rfl

theorem sameD (c : UInt8) (d : D6) (n : Int) (h : c = 106 ∨ c = 115 ∨ c = 37) : takeD d c n = d := by
  rcases h with rfl | rfl | rfl <;> rfl
theorem drop_pre {s pre suf : List UInt8} (h : s = pre ++ suf) : s.drop pre.length = suf := by rw [h]; simp
theorem rdS_rend (x : Dt) (hx : x.Ok) (s : List UInt8) : ∀ (n : Nat) (f pre suf : List UInt8) (z : StS), f.length ≤ n → goodP (pieces f) = true → rend x f = some suf → s = pre ++ suf → z.i = pre.length →
    ∃ i, rdS s f z = some ⟨i, takeAll x (pieces f) z.x, if (pieces f).contains (115, true) then x.time else z.t⟩
  | _, [], pre, suf, z, _, _, _, _, _ => ⟨z.i, rfl⟩
  | 0, c :: r, pre, suf, z, h, _, _, _, _ => by simp at h
  | n + 1, c :: r, pre, suf, z, hn, hg, hr, hs, hi => by
    by_cases hc : c = 37
    rotate_left
    · rw [rend_byte x c r hc] at hr
      cases hq : rend x r with
      | none => rw [hq] at hr; cases hr
      | some s' =>
        rw [hq] at hr
        simp only [Option.map_some, Option.some.injEq] at hr
        subst hr
        rw [pieces_byte c r hc] at hg ⊢
        have hg2 : goodP (pieces r) = true := by simp [goodP] at hg; exact hg
        obtain ⟨i, h⟩ := rdS_rend x hx s n r (pre ++ [c]) s' ⟨z.i + 1, z.x, z.t⟩ (by simp at hn; omega) hg2 hq (by rw [hs]; simp) (by simp [hi])
        refine ⟨i, ?_⟩
        rw [rdS_byte s c r z hc, h, takeAll]
        simp
    · subst hc
      cases r with
      | nil => rw [rend_last] at hr; cases hr
      | cons d r =>
        cases hf : fieldS d x with
        | none => rw [rend_none x d r hf] at hr; cases hr
        | some Q =>
          rw [rend_some x d r Q hf] at hr
          cases hq : rend x r with
          | none => rw [hq] at hr; cases hr
          | some s' =>
            rw [hq] at hr
            simp only [Option.map_some, Option.some.injEq] at hr
            subst hr
            have hkn : knownS d = true := by rw [← known_some d x, hf]; rfl
            have hdp : s.drop z.i = Q ++ s' := by rw [hi]; exact drop_pre hs
            have hsl : s.length = z.i + Q.length + s'.length := by rw [hs, hi]; simp; omega
            by_cases hd : d = 37
            · subst hd
              have hQ : Q = [37] := by simpa [fieldS] using hf.symm
              subst hQ
              rw [pieces_per] at hg ⊢
              have hg2 : goodP (pieces r) = true := by simp [goodP] at hg; exact hg
              have hw : widS s 37 z.i = 1 := rfl
              have hnb : ¬ badS s 37 z := by
                unfold badS; rw [hw, hkn]
                rintro (⟨h, _⟩ | h | h)
                · exact absurd h (by decide)
                · cases h
                · simp at hsl; omega
              obtain ⟨i, h⟩ := rdS_rend x hx s n r (pre ++ [37]) s' (stepS s 37 z) (by simp at hn; omega) hg2 hq (by rw [hs]; simp) (by show z.i + widS s 37 z.i = _; rw [hw, hi]; simp)
              refine ⟨i, ?_⟩
              rw [rdS_step s 37 r z hnb, h, takeAll]
              simp [stepS, sameD]
            · have hfe : fieldV d x = some Q := by rw [← hf]; unfold fieldS; rw [if_neg hd]
              rw [pieces_let d r hd] at hg ⊢
              have hg2 : goodP (pieces r) = true := by simp [goodP] at hg; exact hg.2
              rcases look_or d with hl | ⟨fn, hl⟩
              · rw [look_none d hl x] at hfe; cases hfe
              obtain ⟨f1, _, f3, f4⟩ := look_some d fn hl x hx
              obtain hQ : padV (momN x d) (digF d) = Q := Option.some.inj (f1.symm.trans hfe)
              have key : widS s d z.i = Q.length ∧ allDig Q = true ∧ (dnum Q : Int) = momN x d ∧ (1 ≤ Q.length ∧ Q.length ≤ 12) := by
                by_cases hc : d = 115
                · subst hc
                  have hr2 : pieces r = [] := by simp [goodP] at hg; exact hg.1
                  have hs' : s' = [] := by
                    have := rend_pieces x _ r (Nat.le_refl _)
                    rw [hr2, hq] at this
                    simpa [rendP] using this
                  subst hs'
                  have hQ2 : Q = Lib.itoa x.time := by rw [← hQ]; exact pad_one x.time hx.time_bd.1
                  obtain ⟨g1, g2, g3, g4⟩ := sec_facts x hx
                  refine ⟨?_, by rw [hQ2]; exact g1, by rw [hQ2]; exact g2, by rw [hQ2]; exact ⟨g3, g4⟩⟩
                  unfold widS
                  rw [if_pos rfl, hdp, List.append_nil, hQ2, lead_dig g1]
                · obtain ⟨b1, b0, b2, b3⟩ := mom_bd d fn hl hc x hx
                  have hdb := (digF_bd d).1
                  have p := pad_facts (momN x d) (digF d).toNat f3 b1 b2 (by omega)
                  rw [show (((digF d).toNat : Nat) : Int) = digF d by omega, hQ] at p
                  refine ⟨?_, p.2.1, p.2.2, by omega⟩
                  unfold widS
                  rw [if_neg hc, p.1, ← b0]
              obtain ⟨k1, k2, k3, k4, k5⟩ := key
              have hnum : numS s d z.i = momN x d := by
                unfold numS
                rw [k1, hdp, List.take_left, numL_dig k2 k4 k5, k3]
              have hnb : ¬ badS s d z := by
                unfold badS; rw [k1, hkn]
                rintro (⟨_, h⟩ | h | h)
                · omega
                · cases h
                · omega
              obtain ⟨i, h⟩ := rdS_rend x hx s n r (pre ++ Q) s' (stepS s d z) (by simp at hn; omega) hg2 hq (by rw [hs]; simp) (by show z.i + widS s d z.i = _; rw [k1, hi]; simp)
              refine ⟨i, ?_⟩
              rw [rdS_step s d r z hnb, h, takeAll]
              have ex : (stepS s d z).x = takeD z.x d (momN x d) := by unfold stepS; simp only; rw [hnum]
              rw [ex]
              congr 2
              by_cases hc : d = 115
              · subst hc
                have et : (stepS s 115 z).t = x.time := by show (if (115 : UInt8) = 115 then numS s 115 z.i else z.t) = x.time; rw [if_pos rfl, hnum]; rfl
                rw [et]; simp
              · have et : (stepS s d z).t = z.t := by unfold stepS; simp only; rw [if_neg hc]
                rw [et]; simp [Ne.symm hc]

theorem timeV_bd (y mo d h mi s : Int) : timeV y mo d h mi s = -1 ∨ timeB (timeV y mo d h mi s) = true := by
  unfold timeV
  split
  · rename_i hk
    exact .inr (timeB_ok ((dateOk_iff y mo d h mi s).1 hk).2)
  · exact .inl rfl
theorem timeV_ok (x : Dt) (hx : x.Ok) : timeV x.y x.mo x.d x.h x.mi x.s = x.time := by
  have e : dateOkB x.y x.mo x.d x.h x.mi x.s = true := (dateOk_iff _ _ _ _ _ _).2 ⟨⟨by have := hx.m1; omega, by have := hx.m2; omega⟩, by
    rw [show ((x.mo : Int)).toNat = x.mo by omega]; exact hx⟩
  unfold timeV
  rw [if_pos e]
  rw [show ((x.mo : Int)).toNat = x.mo by omega]
/-- What is told where the text is a Render. -/
def toldR (f : List UInt8) (x : Dt) : Int := if (pieces f).contains (115, true) then x.time
  else if (pieces f).contains (89, true) && (pieces f).contains (109, true) && (pieces f).contains (100, true) then
    timeV (takeAll x (pieces f) ⟨0, 0, 0, 0, 0, 0⟩).y (takeAll x (pieces f) ⟨0, 0, 0, 0, 0, 0⟩).mo (takeAll x (pieces f) ⟨0, 0, 0, 0, 0, 0⟩).d (takeAll x (pieces f) ⟨0, 0, 0, 0, 0, 0⟩).h (takeAll x (pieces f) ⟨0, 0, 0, 0, 0, 0⟩).mi (takeAll x (pieces f) ⟨0, 0, 0, 0, 0, 0⟩).s else -1
theorem toldR_bd (f : List UInt8) (x : Dt) (hx : x.Ok) : toldR f x = -1 ∨ timeB (toldR f x) = true := by
  unfold toldR
  split
  · exact .inr (timeB_ok hx)
  · split
    · exact timeV_bd _ _ _ _ _ _
    · exact .inl rfl
theorem readI_rend {f s : List UInt8} {r : Int} (x : Dt) (hx : x.Ok) (hg : goodP (pieces f) = true) (hr : rend x f = some s) (h : ReadI f s r) : ∃ q, RendIs f (toldR f x) q ∧ r = if q = s then toldR f x else -1 := by
  unfold ReadI at h
  rw [rdI_rend x hx (pieces f) s zeroM [] hg (by rw [← rend_pieces x _ f (Nat.le_refl _)]; exact hr)] at h
  have e : toldM (setAll x (pieces f) zeroM) (addAll (pieces f) []) = toldR f x := by
    unfold toldM toldI toldR
    rw [setAll_x, setAll_t, addAll_has, addAll_has, addAll_has, addAll_has]
    simp only [List.contains_nil, Bool.false_or]
    split <;> rfl
  simp only [e] at h
  exact h
theorem readS_rend {f s : List UInt8} {r : Int} (x : Dt) (hx : x.Ok) (hg : goodP (pieces f) = true) (hr : rend x f = some s) (h : ReadS f s r) :
    (toldR f x < 0 ∧ r = -1) ∨ (0 ≤ toldR f x ∧ ∃ q, RendIs f (toldR f x) q ∧ r = if q = s then toldR f x else -1) := by
  unfold ReadS at h
  obtain ⟨i, hz⟩ := rdS_rend x hx s _ f [] s zeroS (Nat.le_refl _) hg hr rfl rfl
  rw [hz] at h
  have e : toldS f ⟨i, takeAll x (pieces f) zeroS.x, if (pieces f).contains (115, true) then x.time else zeroS.t⟩ = toldR f x := by
    unfold toldS toldR
    rw [has_pieces 115 (by decide) (by decide) _ f (Nat.le_refl _), has_pieces 89 (by decide) (by decide) _ f (Nat.le_refl _), has_pieces 109 (by decide) (by decide) _ f (Nat.le_refl _), has_pieces 100 (by decide) (by decide) _ f (Nat.le_refl _)]
    simp only
    split <;> rfl
  simp only [e] at h
  exact h
theorem rdI_nil : ∀ (ps : List (UInt8 × Bool)) (m : M8) (ts : List UInt8) (v : M8 × List UInt8), rdI ps [] m ts = some v → v = (m, ts)
  | [], m, ts, v, h => by rw [rdI] at h; exact (Option.some.inj h).symm
  | (c, false) :: r, m, ts, v, h => by rw [rdI_empty] at h; cases h
  | (c, true) :: r, m, ts, v, h => by
    have hw : 0 < widI c [] := by
      unfold widI
      split
      · omega
      · have := (digF_bd c).1; omega
    rw [rdI_bad c r [] m ts (.inr (.inl (by simpa using hw)))] at h; cases h
theorem rdS_nil : ∀ (n : Nat) (f : List UInt8) (z z' : StS), f.length ≤ n → z.t = -1 → rdS [] f z = some z' → z'.t = -1
  | _, [], z, z', _, ht, h => by rw [rdS] at h; cases h; exact ht
  | 0, c :: r, z, z', hn, _, _ => by simp at hn
  | n + 1, c :: r, z, z', hn, ht, h => by
    by_cases hc : c = 37
    rotate_left
    · rw [rdS_byte [] c r z hc] at h
      exact rdS_nil n r ⟨z.i + 1, z.x, z.t⟩ z' (by simp at hn; omega) ht h
    · subst hc
      cases r with
      | nil => rw [rdS_last] at h; cases h
      | cons d r =>
        by_cases hb : badS [] d z
        · rw [rdS_bad [] d r z hb] at h; cases h
        · rw [rdS_step [] d r z hb] at h
          refine rdS_nil n r _ z' (by simp at hn; omega) ?_ h
          unfold stepS
          simp only
          split
          · unfold numS; simp [numL]
          · exact ht
theorem rdS_none (x : Dt) (s : List UInt8) : ∀ (n : Nat) (f : List UInt8) (z : StS), f.length ≤ n → rend x f = none → rdS s f z = none
  | _, [], z, _, h => by rw [rend] at h; cases h
  | 0, c :: r, z, hn, _ => by simp at hn
  | n + 1, c :: r, z, hn, h => by
    by_cases hc : c = 37
    rotate_left
    · rw [rdS_byte s c r z hc]
      rw [rend_byte x c r hc] at h
      exact rdS_none x s n r _ (by simp at hn; omega) (by simpa using h)
    · subst hc
      cases r with
      | nil => exact rdS_last s z
      | cons d r =>
        cases hf : fieldS d x with
        | none => exact rdS_bad s d r z (.inr (.inl (by rw [← known_some d x, hf]; rfl)))
        | some Q =>
          rw [rend_some x d r Q hf] at h
          by_cases hb : badS s d z
          · exact rdS_bad s d r z hb
          · rw [rdS_step s d r z hb]
            exact rdS_none x s n r _ (by simp at hn; omega) (by simpa using h)
theorem toldI_none (m : M8) : toldM m [] = -1 := rfl
theorem readI_not {f s : List UInt8} {r : Int} (hn : ∀ x : Dt, x.Ok → rend x f ≠ some s) (h : ReadI f s r) : r = -1 := by
  unfold ReadI at h
  cases hq : rdI (pieces f) s zeroM [] with
  | none => rw [hq] at h; exact h
  | some v =>
    obtain ⟨m, ts⟩ := v
    rw [hq] at h
    obtain ⟨q, hR, hr⟩ := h
    by_cases hs : q = s
    rotate_left
    · rw [if_neg hs] at hr; exact hr
    rw [if_pos hs] at hr
    subst hs
    have hnil : q = [] → r = -1 := fun e => by
      rw [e] at hq
      have := rdI_nil _ _ _ _ hq
      cases this
      rw [hr]; exact toldI_none zeroM
    rcases hR with ⟨_, e⟩ | ⟨x, hx, _, e⟩
    · exact hnil e
    · unfold rendV at e
      cases hx2 : rend x f with
      | none => rw [hx2] at e; exact hnil e
      | some t => rw [hx2] at e; exact absurd (by rw [hx2, e]; rfl) (hn x hx)
theorem readS_not {f s : List UInt8} {r : Int} (hn : ∀ x : Dt, x.Ok → rend x f ≠ some s) (h : ReadS f s r) : r = -1 := by
  unfold ReadS at h
  cases hq : rdS s f zeroS with
  | none => rw [hq] at h; exact h
  | some z =>
    rw [hq] at h
    rcases h with ⟨_, h⟩ | ⟨h0, q, hR, hr⟩
    · exact h
    by_cases hs : q = s
    rotate_left
    · rw [if_neg hs] at hr; exact hr
    subst hs
    exfalso
    rcases hR with ⟨hf, e⟩ | ⟨x, hx, _, e⟩
    · rw [e] at hq
      have ht := rdS_nil _ f zeroS z (Nat.le_refl _) rfl hq
      unfold toldS at h0 hf
      split at h0
      · omega
      · rename_i k
        rw [if_neg k] at hf
        split at h0
        · rename_i k2
          rw [if_pos k2] at hf
          rcases timeV_bd z.x.y z.x.mo z.x.d z.x.h z.x.mi z.x.s with e1 | e1
          · rw [e1] at h0; omega
          · rw [e1] at hf; cases hf
        · omega
    · unfold rendV at e
      cases hx2 : rend x f with
      | none => rw [rdS_none x q _ f zeroS (Nat.le_refl _) hx2] at hq; cases hq
      | some t => rw [hx2] at e; exact absurd (by rw [hx2, e]; rfl) (hn x hx)
theorem read_one {f s : List UInt8} {r1 r2 : Int} (hg : goodP (pieces f) = true) (h1 : ReadS f s r1) (h2 : ReadI f s r2) : r1 = r2 := by
  by_cases hx : ∃ x : Dt, x.Ok ∧ rend x f = some s
  · obtain ⟨x, hx, hr⟩ := hx
    obtain ⟨q, hq, e2⟩ := readI_rend x hx hg hr h2
    rcases readS_rend x hx hg hr h1 with ⟨hlt, e1⟩ | ⟨_, q', hq', e1⟩
    · have hm : toldR f x = -1 := by
        rcases toldR_bd f x hx with h | h
        · exact h
        · have := (inB_iff.1 h).1; omega
      rw [e1, e2, hm]; simp
    · rw [e1, e2, RendIs.one hq hq']
  · have hn : ∀ x : Dt, x.Ok → rend x f ≠ some s := fun x h e => hx ⟨x, h, e⟩
    rw [readS_not hn h1, readI_not hn h2]
theorem read_back {f s : List UInt8} {r : Int} (h : ReadI f s r) : r = -1 ∨ RendIs f r s := by
  unfold ReadI at h
  cases hq : rdI (pieces f) s zeroM [] with
  | none => rw [hq] at h; exact .inl h
  | some v =>
    obtain ⟨m, ts⟩ := v
    rw [hq] at h
    obtain ⟨q, hR, hr⟩ := h
    by_cases hs : q = s
    · rw [if_pos hs] at hr; subst hs; rw [hr]; exact .inr hR
    · rw [if_neg hs] at hr; exact .inl hr
end Go.Proofs.YtbikcldkaogfmaaDoor
