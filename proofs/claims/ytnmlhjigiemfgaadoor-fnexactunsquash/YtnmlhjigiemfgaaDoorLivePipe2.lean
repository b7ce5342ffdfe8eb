/- The live pipe comes through, on whatever tape. -/
import Derived.Test.YtnmlhjigiemfgaaDoorLivePipe
namespace Go.Proofs.YtnmlhjigiemfgaaDoor
open Go Go.Conc
open Go.ConcN (sumTo upd sumTo_upd upd_ne upd_same)

section
variable {P : Program} {c : Nat} {S : World → Prop} {Mine : Loc → Prop} {z : Value} {Fin : Goroutine → World → Prop} {j cap : Nat}

theorem get_ms_ne {gs : Array Goroutine} {f : Goroutine → Goroutine} {i k : Nat} {x : Goroutine} (h : k ≠ i) : ((gs.map f).setIfInBounds i x)[k]? = (gs[k]?).map f := by
  rw [Array.getElem?_setIfInBounds_ne (Ne.symm h), Array.getElem?_map]
theorem get_ms_eq {gs : Array Goroutine} {f : Goroutine → Goroutine} {i : Nat} {x g : Goroutine} (h : gs[i]? = some g) : ((gs.map f).setIfInBounds i x)[i]? = some x := by
  have := (Array.getElem?_eq_some_iff.1 h).1
  rw [Array.getElem?_setIfInBounds_self_of_lt (by simpa using this)]
theorem get_s_ne {gs : Array Goroutine} {i k : Nat} {x : Goroutine} (h : k ≠ i) : (gs.setIfInBounds i x)[k]? = gs[k]? := by
  rw [Array.getElem?_setIfInBounds_ne (Ne.symm h)]
theorem get_s_eq {gs : Array Goroutine} {i : Nat} {x g : Goroutine} (h : gs[i]? = some g) : (gs.setIfInBounds i x)[i]? = some x := by
  have := (Array.getElem?_eq_some_iff.1 h).1
  rw [Array.getElem?_setIfInBounds_self_of_lt this]
theorem size_ms {gs : Array Goroutine} {f : Goroutine → Goroutine} {i : Nat} {x : Goroutine} : ((gs.map f).setIfInBounds i x).size = gs.size := by simp
theorem size_s {gs : Array Goroutine} {i : Nat} {x : Goroutine} : (gs.setIfInBounds i x).size = gs.size := by simp

def Onward (P : Program) (c : Nat) (S : World → Prop) (Mine : Loc → Prop) (z : Value) (Fin : Goroutine → World → Prop) (j cap K M : Nat) (gs : Array Goroutine) (w : World) (sl : Option (Nat × Nat)) (T : Trace) : Prop :=
  ∃ gs' w' sl' ops K' M', stepT P (crowd gs w sl) = (.next (crowd gs' w' sl'), ops) ∧ (K' < K ∨ (K' = K ∧ M' < M)) ∧ Live P c S Mine z Fin j cap K' M' gs' w' (T ++ ops)
def Through (P : Program) (Fin : Goroutine → World → Prop) (gs : Array Goroutine) (w : World) (sl : Option (Nat × Nat)) (T : Trace) : Prop :=
  ∃ gs' a' w' sl' ops q' B', stepT P (crowd gs w sl) = (.next (crowd gs' w' sl'), ops) ∧ gs'[0]? = some a' ∧ Fin a' w' ∧ Leavers P (T ++ ops) gs' q' ∧ Past NoShun B' (T ++ ops)

theorem stopB_running {vs : List Value} {g : Goroutine} {w : World} (h : StopBX P c S Mine vs g w) : g.status = .running := by cases vs <;> exact h.1
theorem stopA_running {vs : List Value} {g : Goroutine} {w : World} (h : StopA P c S Mine z Fin vs g w) : g.status = .running := by cases vs <;> exact h.1
theorem sends_run {len : Nat} {vs : List Value} {g : Goroutine} (h : SendsX P c S Mine vs g) {w : World} (hS : S w) : ∃ n, ChildAt P c S Mine cap len false vs (n + 1) g := by
  obtain ⟨n, hn⟩ := (sendsX_iff P c S Mine vs g).1 h
  exact ⟨n, .run rfl hn (hn.running (fun _ _ h => stopB_running h) w hS)⟩

/-- GOROUTINE 0 STANDS AT ITS RECEIVE. -/
theorem live_recv (hj0 : 0 < j) (hcap : 0 < cap) (hSc : ∀ w w₁, Aside c w w₁ → S w → S w₁) {gs : Array Goroutine} {w : World} {sl sl' : Option (Nat × Nat)} {T : Trace} {d : Nat}
    {a b : Goroutine} {q : Nat → Nat} {bs vs : List Value} {closed : Bool} {s r ma mb K M : Nat}
    (h0 : gs[0]? = some a) (hjb : gs[j]? = some b) (hoth : ∀ i g, 0 < i → i ≠ j → gs[i]? = some g → QuitsD P (q i) (Deaf T i) g) (habove : ∀ i, gs.size ≤ i → Deaf T i = 0)
    (hc : w.heap[c]? = some (.chan cap bs.toArray closed s r false)) (hS : S w) (hle : bs.length ≤ cap) (hB : ChildAt P c S Mine cap bs.length closed vs mb b) (hT : LT j c Mine T closed)
    (hK : K = 2 * vs.length + bs.length + (if closed then 0 else 1)) (hM : M = ma + mb + sumTo gs.size q) (hma : 0 < ma)
    (hstop : ∀ w₁, Aside c w w₁ → StopA P c S Mine z Fin (bs ++ vs) a w₁) (hst : stepT P (crowd gs w sl) = runT P (crowd gs (w.at d) sl') 0) :
    Onward P c S Mine z Fin j cap K M gs w sl T ∨ Through P Fin gs w sl T := by
  have hj0' : j ≠ 0 := by omega
  have hSd : S (w.at d) := hSc _ _ (Aside.at c w d) hS
  have hcd : (w.at d).heap[c]? = some (.chan cap bs.toArray closed s r false) := hc
  have hstop' := hstop (w.at d) (Aside.at c w d)
  rw [stopA_eq] at hstop'
  obtain ⟨har, es, hcm, hes, hnext⟩ := hstop'
  have hT1 := hT.mainEv hj0' (fn := a.frame.fn) (pos := a.frame.place) hes
  have hoth1 : ∀ i g, 0 < i → i ≠ j → gs[i]? = some g → QuitsD P (q i) (Deaf (T ++ MemOp.ofEvents 0 a.frame.fn a.frame.place es) i) g := by
    intro i g h1 h2 h3
    rw [deaf_ofEvents_other T (by omega)]
    exact hoth i g h1 h2 h3
  have habove1 : ∀ i, gs.size ≤ i → Deaf (T ++ MemOp.ofEvents 0 a.frame.fn a.frame.place es) i = 0 := by
    intro i h1
    have hlt : 0 < gs.size := (Array.getElem?_eq_some_iff.1 h0).1
    rw [deaf_ofEvents_other T (by omega)]
    exact habove i h1
  have hnobody : (b.status ≠ .blocked) → ∀ send, partners (gs.setIfInBounds 0 ph) c send = [] := by
    intro hb send
    refine partners_nil fun k x hx => ?_
    rcases getElem?_stand gs 0 k x hx with ⟨_, rfl⟩ | ⟨hk, hx'⟩
    · exact offersAt_ph _ _
    · refine offersAt_of_not_blocked (fun hb' => ?_) _ _
      by_cases hkj : k = j
      · subst hkj
        rw [hjb] at hx'
        obtain rfl := Option.some.inj hx'
        exact hb hb'
      · rcases (hoth k x (by omega) hkj hx').status with h1 | h1 <;> rw [h1] at hb' <;> cases hb'
  -- what a plain communication of goroutine 0's leaves of the others
  have hothc : ∀ (x : Goroutine) (u : Trace), (∀ op ∈ u, ∀ m, op.act ≠ .mark m) → ∀ i g, 0 < i → i ≠ j → (gs.setIfInBounds 0 x)[i]? = some g → QuitsD P (q i) (Deaf (T ++ (MemOp.ofEvents 0 a.frame.fn a.frame.place es ++ u)) i) g := by
    intro x u hu i g h1 h2 h3
    rw [get_s_ne (by omega)] at h3
    rw [← Array.append_assoc, deaf_comm _ i u hu]
    exact hoth1 i g h1 h2 h3
  have habovec : ∀ (u : Trace), (∀ op ∈ u, ∀ m, op.act ≠ .mark m) → ∀ i, gs.size ≤ i → Deaf (T ++ (MemOp.ofEvents 0 a.frame.fn a.frame.place es ++ u)) i = 0 := by
    intro u hu i h1
    rw [← Array.append_assoc, deaf_comm _ i u hu]
    exact habove1 i h1
  cases bs with
  | nil =>
    cases closed with
    | true =>
      right
      obtain ⟨n2, hq2⟩ : ∃ n2, QuitsIn P n2 b ∧ vs = [] := by
        cases hB with
        | run hcl _ _ => cases hcl
        | park hcl _ _ => cases hcl
        | gone _ h => exact ⟨_, h, rfl⟩
      obtain ⟨hq2, rfl⟩ := hq2
      have hp := hnobody (by rcases hq2.status with h1 | h1 <;> rw [h1] <;> simp) true
      have hrun := crowd_recv_closed (P := P) (sl := sl') (i := 0) h0 (show stepG P (0 == 0) a (w.at d) = _ from hcm) hcd hp
      rw [finishComm_recv] at hrun
      have hfin : Fin (Conc.served (core a) (.tuple #[z, .bool false])) (w.at d) := hnext (w.at d) (Aside.refl _ _)
      obtain ⟨B, hPast⟩ := hT1.done { g := 0, fn := (core a).frame.fn, pos := (core a).frame.place, act := .recvClosed c } rfl rfl
      refine ⟨_, _, _, _, _, upd q j n2, B, hst.trans hrun, get_s_eq h0, hfin, ⟨fun i g hi hg => ?_, fun i hi => ?_⟩, by rw [← Array.append_assoc]; exact hPast⟩
      · rw [get_s_ne (by omega)] at hg
        rw [← Array.append_assoc, deaf_comm _ i _ (by simp)]
        by_cases hij : i = j
        · subst hij
          rw [hjb] at hg
          obtain rfl := Option.some.inj hg
          rw [upd_same, hT1.hj]
          exact QuitsD.of_quitsIn hq2
        · rw [upd_ne _ _ hij]
          exact hoth1 i g hi hij hg
      · rw [size_s] at hi
        exact habovec _ (by simp) i hi
    | false =>
      left
      have hb : b.status ≠ .blocked := by
        cases hB with
        | run _ _ hr => rw [hr]; simp
        | park _ hl _ => simp at hl; omega
        | gone h _ => cases h
      have hp := hnobody hb true
      have hrun := crowd_waits (P := P) (sl := sl') (i := 0) h0 (show stepG P (0 == 0) a (w.at d) = _ from hcm) (fun cc hcc => by
        simp only [List.mem_toArray, List.mem_singleton] at hcc
        subst hcc
        exact ways_recv_none hcd hp)
      refine ⟨_, _, _, _, K, M - ma, hst.trans hrun, .inr ⟨rfl, by omega⟩, ⟨_, b, q, [], vs, false, s, r, 0, mb, get_s_eq h0, by rw [get_s_ne hj0']; exact hjb, fun i g h1 h2 h3 => ?_, fun i hi => ?_, hcd, hSd, hle,
        .park rfl rfl (fun w₁ h₁ => hstop w₁ ((Aside.at c w d).trans h₁)), hB, hT1, hK, by rw [size_s]; omega⟩⟩
      · rw [get_s_ne (by omega)] at h3
        exact hoth1 i g h1 h2 h3
      · rw [size_s] at hi
        exact habove1 i hi
  | cons b0 bs' =>
    left
    have hlen : 0 < (b0 :: bs').toArray.size := by simp
    cases hB with
    | park hcl hl hsend =>
      rename_i v vs' b2 z2
      subst hcl
      have hp : partners (gs.setIfInBounds 0 ph) c true = [(j, 0)] := by
        rw [partners_one (j := j) (g := parked b2 #[scase c v z2] .send) (by rw [get_s_ne hj0']; exact hjb) (fun k x hk hx => ?_)]
        · rw [offersAt_parked_send]; simp
        · rcases getElem?_stand gs 0 k x hx with ⟨_, rfl⟩ | ⟨hk0, hx'⟩
          · exact offersAt_ph _ _
          · refine offersAt_of_not_blocked (fun hb' => ?_) _ _
            rcases (hoth k x (by omega) hk hx').status with h1 | h1 <;> rw [h1] at hb' <;> cases hb'
      have hrun := crowd_recv_shift (P := P) (sl := sl') (i := 0) h0 (show stepG P (0 == 0) a (w.at d) = _ from hcm) hcd hlen hj0' hjb hp
      have e1 : ((b0 :: bs').toArray.extract 1 (b0 :: bs').toArray.size).push v = (bs' ++ [v]).toArray := by simp
      have e2 : (b0 :: bs').toArray.getD 0 undef = b0 := by simp
      rw [e1, e2] at hrun
      obtain ⟨n2, hn2⟩ := sends_run (cap := cap) (len := (bs' ++ [v]).length) hsend hSd
      have hnx : Recvs P c S Mine z Fin (bs' ++ v :: vs') (Conc.served (core a) (.tuple #[b0, .bool true])) ((w.at d).setChan c cap (bs' ++ [v]).toArray false (s + 1) (r + 1) false) :=
        hnext _ (aside_setChan _ ..)
      obtain ⟨n3, hn3⟩ := (recvs_iff P c S Mine z Fin _ _ _).1 hnx
      refine ⟨_, _, _, _, 2 * vs'.length + (bs' ++ [v]).length + 1, (n3 + 1) + (n2 + 1) + sumTo gs.size q, hst.trans hrun, .inl ?_, ⟨_, _, q, bs' ++ [v], vs', false, s + 1, r + 1, n3 + 1, n2 + 1, get_s_eq (g := a) (by rw [get_s_ne hj0'.symm]; exact h0), ?_, fun i g h1 h2 h3 => ?_, fun i hi => ?_, chan_setChan hcd, hSc _ _ (aside_setChan _ ..) hSd, ?_,
        .run rfl (by rw [List.append_assoc]; exact hn3), hn2, ?_, by simp, by rw [size_s, size_s]⟩⟩
      · rw [hK]; simp <;> omega
      · rw [get_s_ne hj0']; exact get_s_eq hjb
      · rw [get_s_ne (by omega), get_s_ne h2] at h3
        rw [← Array.append_assoc, deaf_comm _ i _ (by simp)]
        exact hoth1 i g h1 h2 h3
      · rw [size_s, size_s] at hi
        exact habovec _ (by simp) i hi
      · simp at hl ⊢; omega
      · rw [← Array.append_assoc]
        exact hT1.comm (by simp [MemAct.touch?])
    | run hcl hG hr =>
      rename_i n2
      have hp := hnobody (by rw [hr]; simp) true
      have hrun := crowd_recv_buf (P := P) (sl := sl') (i := 0) h0 (show stepG P (0 == 0) a (w.at d) = _ from hcm) hcd hlen hp
      rw [finishComm_recv] at hrun
      have e1 : ((b0 :: bs').toArray.extract 1 (b0 :: bs').toArray.size) = bs'.toArray := by simp
      have e2 : (b0 :: bs').toArray.getD 0 undef = b0 := by simp
      rw [e1, e2] at hrun
      have hnx : Recvs P c S Mine z Fin (bs' ++ vs) (Conc.served (core a) (.tuple #[b0, .bool true])) ((w.at d).setChan c cap bs'.toArray closed s (r + 1) false) := hnext _ (aside_setChan _ ..)
      obtain ⟨n3, hn3⟩ := (recvs_iff P c S Mine z Fin _ _ _).1 hnx
      refine ⟨_, _, _, _, 2 * vs.length + bs'.length + (if closed then 0 else 1), (n3 + 1) + (n2 + 1) + sumTo gs.size q, hst.trans hrun, .inl ?_, ⟨_, b, q, bs', vs, closed, s, r + 1, n3 + 1, n2 + 1, get_s_eq h0, by rw [get_s_ne hj0']; exact hjb, fun i g h1 h2 h3 => hothc _ _ (by simp) i g h1 h2 h3, fun i hi => ?_, chan_setChan hcd, hSc _ _ (aside_setChan _ ..) hSd, ?_,
        .run rfl hn3, .run hcl hG hr, ?_, rfl, by rw [size_s]⟩⟩
      · rw [hK]; simp <;> omega
      · rw [size_s] at hi
        exact habovec _ (by simp) i hi
      · simp at hle; omega
      · rw [← Array.append_assoc]
        exact hT1.comm (by simp [MemAct.touch?])
    | gone hcl hq2 =>
      have hp := hnobody (by rcases hq2.status with h1 | h1 <;> rw [h1] <;> simp) true
      have hrun := crowd_recv_buf (P := P) (sl := sl') (i := 0) h0 (show stepG P (0 == 0) a (w.at d) = _ from hcm) hcd hlen hp
      rw [finishComm_recv] at hrun
      have e1 : ((b0 :: bs').toArray.extract 1 (b0 :: bs').toArray.size) = bs'.toArray := by simp
      have e2 : (b0 :: bs').toArray.getD 0 undef = b0 := by simp
      rw [e1, e2] at hrun
      have hnx : Recvs P c S Mine z Fin (bs' ++ []) (Conc.served (core a) (.tuple #[b0, .bool true])) ((w.at d).setChan c cap bs'.toArray closed s (r + 1) false) := hnext _ (aside_setChan _ ..)
      obtain ⟨n3, hn3⟩ := (recvs_iff P c S Mine z Fin _ _ _).1 hnx
      refine ⟨_, _, _, _, 2 * ([] : List Value).length + bs'.length + (if closed then 0 else 1), (n3 + 1) + mb + sumTo gs.size q, hst.trans hrun, .inl ?_, ⟨_, b, q, bs', [], closed, s, r + 1, n3 + 1, mb, get_s_eq h0, by rw [get_s_ne hj0']; exact hjb, fun i g h1 h2 h3 => hothc _ _ (by simp) i g h1 h2 h3, fun i hi => ?_, chan_setChan hcd, hSc _ _ (aside_setChan _ ..) hSd, ?_,
        .run rfl hn3, .gone hcl hq2, ?_, rfl, by rw [size_s]⟩⟩
      · rw [hK]; simp <;> omega
      · rw [size_s] at hi
        exact habovec _ (by simp) i hi
      · simp at hle; omega
      · rw [← Array.append_assoc]
        exact hT1.comm (by simp [MemAct.touch?])

/-- THE SENDER STANDS AT A SEND OR AT THE CLOSE. -/
theorem live_send (hj0 : 0 < j) (hSc : ∀ w w₁, Aside c w w₁ → S w → S w₁) {gs : Array Goroutine} {w : World} {sl sl' : Option (Nat × Nat)} {T : Trace} {d : Nat}
    {a b : Goroutine} {q : Nat → Nat} {bs vs : List Value} {s r ma n K M : Nat}
    (h0 : gs[0]? = some a) (hjb : gs[j]? = some b) (hoth : ∀ i g, 0 < i → i ≠ j → gs[i]? = some g → QuitsD P (q i) (Deaf T i) g) (habove : ∀ i, gs.size ≤ i → Deaf T i = 0)
    (hc : w.heap[c]? = some (.chan cap bs.toArray false s r false)) (hS : S w) (hle : bs.length ≤ cap) (hA : MainAt P c S Mine z Fin bs.length false (bs ++ vs) w ma a) (hT : LT j c Mine T false)
    (hK : K = 2 * vs.length + bs.length + 1) (hM : M = ma + (n + 1) + sumTo gs.size q)
    (hstop : StopBX P c S Mine vs b w) (hst : stepT P (crowd gs w sl) = runT P (crowd gs (w.at d) sl') j) :
    Onward P c S Mine z Fin j cap K M gs w sl T := by
  have hj0' : j ≠ 0 := by omega
  have hjf : (j == 0) = false := by simp; omega
  have hSd : S (w.at d) := hSc _ _ (Aside.at c w d) hS
  have hcd : (w.at d).heap[c]? = some (.chan cap bs.toArray false s r false) := hc
  have hjlt : j < gs.size := (Array.getElem?_eq_some_iff.1 hjb).1
  have hothE : ∀ (es : Array Event) (fn : FuncId) (pos : String) i g, 0 < i → i ≠ j → gs[i]? = some g → QuitsD P (q i) (Deaf (T ++ MemOp.ofEvents j fn pos es) i) g := by
    intro es fn pos i g h1 h2 h3
    rw [deaf_ofEvents_other T (by omega)]
    exact hoth i g h1 h2 h3
  have haboveE : ∀ (es : Array Event) (fn : FuncId) (pos : String) i, gs.size ≤ i → Deaf (T ++ MemOp.ofEvents j fn pos es) i = 0 := by
    intro es fn pos i h1
    rw [deaf_ofEvents_other T (by omega)]
    exact habove i h1
  cases vs with
  | nil =>
    obtain ⟨hbr, hmw, g₂, es, n2, hstp, hes, hq2⟩ := hstop
    have hstp' := hstp (w.at d) cap bs.toArray s r false hSd hcd
    have hrun := runT_crowd_go (P := P) (sl := sl') (i := j) hjb (by rw [hjf]; exact hstp')
    have hT1 := (hT.childEv hj0' (fn := b.frame.fn) (pos := b.frame.place) hes).close { g := j, fn := b.frame.fn, pos := b.frame.place, act := .close c } rfl rfl
    have hev : MemOp.ofEvents j b.frame.fn b.frame.place (es.push ⟨.obj c, true, true⟩) = MemOp.ofEvents j b.frame.fn b.frame.place es ++ #[{ g := j, fn := b.frame.fn, pos := b.frame.place, act := .close c }] := by
      rw [ofEvents_eq, ofEvents_eq, Array.map_push]
      rfl
    rw [hev] at hrun
    have hw' : ((w.at d).setChan c cap bs.toArray true s r false).heap[c]? = some (.chan cap bs.toArray true s r false) := chan_setChan hcd
    have hg2 : (g₂.status != .blocked) = true ∧ (g₂.status != .waiting) = true := by rcases hq2.status with h1 | h1 <;> rw [h1] <;> exact ⟨rfl, rfl⟩
    -- goroutine 0: as it was, or let try again
    obtain ⟨a', ma', hA', hwk⟩ : ∃ a' ma', MainAt P c S Mine z Fin bs.length true (bs ++ []) ((w.at d).setChan c cap bs.toArray true s r false) ma' a' ∧ woken P b g₂ ((w.at d).setChan c cap bs.toArray true s r false) a = a' := by
      cases hA with
      | run hr h =>
        refine ⟨a, _, .run hr (Goes.rely (R := Aside c) (fun _ _ _ h1 h2 => h1.trans h2) h (aside_at_setChan w d c cap bs.toArray true s r false)), woken_run hr⟩
      | park hcl hl h =>
        rename_i a0
        refine ⟨{ parked (core a0) #[rcase c z] (.recv true) with status := .running }, 0 + 1, .run rfl (show Goes P true (Aside c) (DA c S Mine) (StopA P c S Mine z Fin (bs ++ [])) 0 _ _ from fun w₁ h₁ => ?_), ?_⟩
        · have := h w₁ ((aside_at_setChan w d c cap bs.toArray true s r false).trans h₁)
          rw [stopA_eq] at this ⊢
          exact atRecv_retry (a := a0) rfl rfl rfl rfl this
        · unfold woken
          rw [hmw, hg2.1, hg2.2]
          exact again_recv_closed hw'
    refine ⟨_, _, _, _, 2 * ([] : List Value).length + bs.length + 0, ma' + n2 + sumTo gs.size q, hst.trans hrun, .inl (by rw [hK]; simp), ⟨a', g₂, q, bs, [], true, s, r, ma', n2, ?_, get_ms_eq hjb, fun i g h1 h2 h3 => ?_, fun i hi => ?_, hw', hSc _ _ (aside_setChan _ ..) hSd, hle, hA', .gone rfl hq2, ?_, rfl, by rw [size_ms]⟩⟩
    · rw [get_ms_ne hj0'.symm, h0]
      exact congrArg some hwk
    · rw [get_ms_ne h2] at h3
      obtain ⟨y, hy, rfl⟩ := Option.map_eq_some_iff.1 h3
      rw [woken_quitsD (hoth i y h1 h2 hy), ← Array.append_assoc, deaf_comm _ i _ (by simp)]
      exact hothE es _ _ i y h1 h2 hy
    · rw [size_ms] at hi
      rw [← Array.append_assoc, deaf_comm _ i _ (by simp)]
      exact haboveE es _ _ i hi
    · rw [← Array.append_assoc]; exact hT1
  | cons v vs' =>
    obtain ⟨hbr, g₂, z2, es, hstp, hes, hnext⟩ := hstop
    have hstp' := hstp (w.at d) hSd
    have hT1 := hT.childEv hj0' (fn := b.frame.fn) (pos := b.frame.place) hes
    obtain ⟨n2, hn2⟩ := sends_run (cap := cap) (len := (bs ++ [v]).length) hnext hSd
    have hothers : ∀ k x, k ≠ 0 → (gs.setIfInBounds j ph)[k]? = some x → offersAt x c false = [] := by
      intro k x hk hx
      rcases getElem?_stand gs j k x hx with ⟨_, rfl⟩ | ⟨hkj, hx'⟩
      · exact offersAt_ph _ _
      · refine offersAt_of_not_blocked (fun hb' => ?_) _ _
        rcases (hoth k x (by omega) hkj hx').status with h1 | h1 <;> rw [h1] at hb' <;> cases hb'
    cases hA with
    | park hcl hl h =>
      rename_i a0
      have hbs : bs = [] := List.length_eq_zero_iff.1 hl
      subst hbs
      have h0' : (gs.setIfInBounds j ph)[0]? = some (parked (core a0) #[rcase c z] (.recv true)) := by rw [get_s_ne hj0'.symm]; exact h0
      have hp : partners (gs.setIfInBounds j ph) c false = [(0, 0)] := by
        rw [partners_one h0' hothers, offersAt_parked_recv]; simp
      have hrun := crowd_send_meets (P := P) (sl := sl') (i := j) hjb (by rw [hjf]; exact hstp') hcd hj0'.symm h0 hp
      rw [finishComm_recv, finishComm_send] at hrun
      have hstopA := h (w.at d) (Aside.at c w d)
      rw [stopA_eq] at hstopA
      obtain ⟨_, es0, _, _, hnx⟩ := hstopA
      have hnx' : Recvs P c S Mine z Fin vs' (Conc.served (core a0) (.tuple #[v, .bool true])) ((w.at d).setChan c cap ([] : List Value).toArray false (s + 1) (r + 1) false) := hnx _ (aside_setChan _ ..)
      obtain ⟨n3, hn3⟩ := (recvs_iff P c S Mine z Fin _ _ _).1 hnx'
      obtain ⟨n2', hn2'⟩ := sends_run (cap := cap) (len := ([] : List Value).length) hnext hSd
      refine ⟨_, _, _, _, 2 * vs'.length + ([] : List Value).length + 1, (n3 + 1) + (n2' + 1) + sumTo gs.size q, hst.trans hrun, .inl (by rw [hK]; simp), ⟨_, _, q, [], vs', false, s + 1, r + 1, n3 + 1, n2' + 1, ?_, get_s_eq (g := b) (by rw [get_s_ne hj0']; exact hjb), fun i g h1 h2 h3 => ?_, fun i hi => ?_, chan_setChan hcd, hSc _ _ (aside_setChan _ ..) hSd, by simp, .run rfl hn3, hn2', ?_, rfl, by rw [size_s, size_s]⟩⟩
      · rw [get_s_ne hj0'.symm]; exact get_s_eq h0
      · rw [get_s_ne h2, get_s_ne (by omega)] at h3
        rw [← Array.append_assoc, deaf_comm _ i _ (by simp)]
        exact hothE es _ _ i g h1 h2 h3
      · rw [size_s, size_s] at hi
        rw [← Array.append_assoc, deaf_comm _ i _ (by simp)]
        exact haboveE es _ _ i hi
      · rw [← Array.append_assoc]
        exact hT1.comm (by simp [MemAct.touch?])
    | run hr hG =>
      rename_i na
      have hp : partners (gs.setIfInBounds j ph) c false = [] := by
        refine partners_nil fun k x hx => ?_
        by_cases hk : k = 0
        · subst hk
          rw [get_s_ne hj0'.symm, h0] at hx
          obtain rfl := Option.some.inj hx
          exact offersAt_of_not_blocked (by rw [hr]; simp) _ _
        · exact hothers k x hk hx
      by_cases hroom : bs.length < cap
      · have hrun := crowd_send_room (P := P) (sl := sl') (i := j) hjb (by rw [hjf]; exact hstp') hcd (by simpa using hroom) hp
        rw [finishComm_send] at hrun
        have e1 : bs.toArray.push v = (bs ++ [v]).toArray := by simp
        rw [e1] at hrun
        refine ⟨_, _, _, _, 2 * vs'.length + (bs ++ [v]).length + 1, (na + 1) + (n2 + 1) + sumTo gs.size q, hst.trans hrun, .inl (by rw [hK]; simp <;> omega), ⟨a, _, q, bs ++ [v], vs', false, s + 1, r, na + 1, n2 + 1, by rw [get_s_ne hj0'.symm]; exact h0, get_s_eq hjb, fun i g h1 h2 h3 => ?_, fun i hi => ?_, chan_setChan hcd, hSc _ _ (aside_setChan _ ..) hSd, by simp <;> omega,
          .run hr (by rw [List.append_assoc]; exact Goes.rely (R := Aside c) (fun _ _ _ h1 h2 => h1.trans h2) hG (aside_at_setChan w d c cap (bs ++ [v]).toArray false (s + 1) r false)), hn2, ?_, by simp, by rw [size_s]⟩⟩
        · rw [get_s_ne h2] at h3
          rw [← Array.append_assoc, deaf_comm _ i _ (by simp)]
          exact hothE es _ _ i g h1 h2 h3
        · rw [size_s] at hi
          rw [← Array.append_assoc, deaf_comm _ i _ (by simp)]
          exact haboveE es _ _ i hi
        · rw [← Array.append_assoc]
          exact hT1.comm (by simp [MemAct.touch?])
      · have hfull : bs.length = cap := by omega
        have hrun := crowd_waits (P := P) (sl := sl') (i := j) hjb (by rw [hjf]; exact hstp') (fun cc hcc => by
          simp only [List.mem_toArray, List.mem_singleton] at hcc
          subst hcc
          exact ways_send_none hcd (by simp; omega) hp)
        refine ⟨_, _, _, _, K, (na + 1) + 0 + sumTo gs.size q, hst.trans hrun, .inr ⟨rfl, by omega⟩, ⟨a, _, q, bs, v :: vs', false, s, r, na + 1, 0, by rw [get_s_ne hj0'.symm]; exact h0, get_s_eq hjb, fun i g h1 h2 h3 => ?_, fun i hi => ?_, hcd, hSd, hle,
          .run hr (Goes.rely (R := Aside c) (fun _ _ _ h1 h2 => h1.trans h2) hG (Aside.at c w d)), .park rfl hfull hnext, hT1, hK, by rw [size_s]⟩⟩
        · rw [get_s_ne h2] at h3
          exact hothE es _ _ i g h1 h2 h3
        · rw [size_s] at hi
          exact haboveE es _ _ i hi

/-- ONE STEP OF THE MACHINE. -/
theorem live_step (hj0 : 0 < j) (hcap : 0 < cap) (hSc : ∀ w w₁, Aside c w w₁ → S w → S w₁) {K M : Nat} {gs : Array Goroutine} {w : World} {T : Trace} (sl : Option (Nat × Nat))
    (h : Live P c S Mine z Fin j cap K M gs w T) : Onward P c S Mine z Fin j cap K M gs w sl T ∨ Through P Fin gs w sl T := by
  obtain ⟨a, b, q, bs, vs, closed, s, r, ma, mb, h0, hjb, hoth, habove, hc, hS, hle, hA, hB, hT, hK, hM⟩ := h.ex
  have hj0' : j ≠ 0 := by omega
  have haw : ∀ g ∈ gs, awake g := by
    intro g hg
    obtain ⟨i, hi, rfl⟩ := Array.mem_iff_getElem.1 hg
    have hgi : gs[i]? = some gs[i] := Array.getElem?_eq_getElem hi
    by_cases hi0 : i = 0
    · have : gs[i] = a := by
        have e : gs[i]? = some a := by rw [hi0]; exact h0
        rw [hgi] at e; exact Option.some.inj e
      rw [this]; exact awake_of (hA.runs.elim .inl fun x => .inr (.inl x))
    · by_cases hij : i = j
      · have : gs[i] = b := by
          have e : gs[i]? = some b := by rw [hij]; exact hjb
          rw [hgi] at e; exact Option.some.inj e
        rw [this]; exact awake_of hB.runs
      · exact awake_of ((hoth i _ (by omega) hij hgi).status.elim .inl fun x => .inr (.inr x))
  have hsome : ∃ (i : Nat) (g : Goroutine), gs[i]? = some g ∧ g.status = .running := by
    cases hA with
    | run hr _ => exact ⟨0, a, h0, hr⟩
    | park hcl hl _ =>
      cases hB with
      | run _ _ hr => exact ⟨j, b, hjb, hr⟩
      | park _ hl' _ => omega
      | gone hcl' _ => rw [hcl] at hcl'; cases hcl'
  obtain ⟨i, g, d, sl', hi, hg, hst⟩ := crowd_pick (P := P) (w := w) (sl := sl) haw hsome
  have hSd : S (w.at d) := hSc _ _ (Aside.at c w d) hS
  have hcd : (w.at d).heap[c]? = some (.chan cap bs.toArray closed s r false) := hc
  by_cases hi0 : i = 0
  · subst hi0
    obtain rfl : g = a := by rw [h0] at hi; exact (Option.some.inj hi).symm
    cases hA with
    | park _ _ _ => cases hg
    | run hr hG =>
      rename_i n
      have hcases : (∀ w₁, Aside c w w₁ → StopA P c S Mine z Fin (bs ++ vs) g w₁) ∨ ∃ n', n = n' + 1 ∧ ∀ w₁, Aside c w w₁ → (stepG P true g w₁).goes fun g' w' es => DA c S Mine w₁ w' es ∧ Goes P true (Aside c) (DA c S Mine) (StopA P c S Mine z Fin (bs ++ vs)) n' g' w' := by
        cases n with
        | zero => exact .inl hG
        | succ n' => exact hG.imp id fun x => ⟨n', rfl, x.2⟩
      rcases hcases with hstop | ⟨n', rfl, hstep⟩
      · exact live_recv hj0 hcap hSc h0 hjb hoth habove hc hS hle hB hT hK hM (by omega) hstop hst
      · left
        obtain ⟨a', w', es, hgo, ⟨hSw, hcw, hes⟩, hG'⟩ := goes_elim (hstep (w.at d) (Aside.at c w d))
        have hrun := runT_crowd_go (P := P) (sl := sl') (i := 0) h0 (show stepG P (0 == 0) g (w.at d) = _ from hgo)
        have hc' : w'.heap[c]? = some (.chan cap bs.toArray closed s r false) := by rw [hcw]; exact hcd
        refine ⟨_, _, _, _, K, (n' + 1) + mb + sumTo gs.size q, hst.trans hrun, .inr ⟨rfl, by omega⟩, ⟨a', b, q, bs, vs, closed, s, r, n' + 1, mb, get_ms_eq h0, ?_, fun i x h1 h2 h3 => ?_, fun i hi' => ?_, hc', hSw hSd, hle, .run (hG'.running (fun _ _ h => stopA_running h) w' (Aside.refl _ _)) hG', hB, hT.mainEv hj0' hes, hK, by rw [size_ms]⟩⟩
        · rw [get_ms_ne hj0', hjb]
          exact congrArg some (hB.woken g a' hc')
        · rw [get_ms_ne (by omega)] at h3
          obtain ⟨y, hy, rfl⟩ := Option.map_eq_some_iff.1 h3
          rw [woken_quitsD (hoth i y h1 h2 hy), deaf_ofEvents_other T (by omega)]
          exact hoth i y h1 h2 hy
        · rw [size_ms] at hi'
          have hlt : 0 < gs.size := (Array.getElem?_eq_some_iff.1 h0).1
          rw [deaf_ofEvents_other T (by omega)]
          exact habove i hi'
  · have hif : (i == 0) = false := by simp; omega
    left
    by_cases hij : i = j
    · subst hij
      obtain rfl : g = b := by rw [hjb] at hi; exact (Option.some.inj hi).symm
      cases hB with
      | park _ _ _ => cases hg
      | run hcl hG hr =>
        rename_i n
        subst hcl
        have hcases : (∀ w₁, S w₁ → StopBX P c S Mine vs g w₁) ∨ ∃ n', n = n' + 1 ∧ ∀ w₁, S w₁ → (stepG P false g w₁).goes fun g' w' es => DBX Mine w₁ w' es ∧ Goes P false (fun _ w₁ => S w₁) (DBX Mine) (StopBX P c S Mine vs) n' g' w' := by
          cases n with
          | zero => exact .inl hG
          | succ n' => exact hG.imp id fun x => ⟨n', rfl, x.2⟩
        rcases hcases with hstop | ⟨n', rfl, hstep⟩
        · exact live_send hj0 hSc h0 hjb hoth habove hc hS hle hA hT hK hM (hstop w hS) hst
        · obtain ⟨b', w', es, hgo, ⟨⟨d', hw'⟩, hes⟩, hG'⟩ := goes_elim (hstep (w.at d) hSd)
          subst hw'
          have hcd' : ((w.at d).at d').heap[c]? = some (.chan cap bs.toArray false s r false) := hc
          have hSd' : S ((w.at d).at d') := hSc _ _ ((Aside.at c w d).trans (Aside.at c _ d')) hS
          have hrun := runT_crowd_go (P := P) (sl := sl') (i := i) hjb (by rw [hif]; exact hgo)
          have hG2 : Goes P false (fun _ w₁ => S w₁) (DBX Mine) (StopBX P c S Mine vs) n' b' default := by
            cases n' with
            | zero => exact fun w₁ h₁ => hG' w₁ h₁
            | succ n'' => exact hG'.imp (fun x w₁ h₁ => x w₁ h₁) (fun x => ⟨x.1, fun w₁ h₁ => x.2 w₁ h₁⟩)
          refine ⟨_, _, _, _, K, ma + (n' + 1) + sumTo gs.size q, hst.trans hrun, .inr ⟨rfl, by omega⟩, ⟨a, b', q, bs, vs, false, s, r, ma, n' + 1, ?_, get_ms_eq hjb, fun k x h1 h2 h3 => ?_, fun k hk' => ?_, hcd', hSd', hle, hA.aside ((Aside.at c w d).trans (Aside.at c _ d')), .run rfl hG2 (hG2.running (fun _ _ h => stopB_running h) w hS), hT.childEv hj0' hes, hK, by rw [size_ms]⟩⟩
          · rw [get_ms_ne (Ne.symm hi0), h0]
            exact congrArg some (hA.woken g b' hcd')
          · rw [get_ms_ne h2] at h3
            obtain ⟨y, hy, rfl⟩ := Option.map_eq_some_iff.1 h3
            rw [woken_quitsD (hoth k y h1 h2 hy), deaf_ofEvents_other T (Ne.symm h2)]
            exact hoth k y h1 h2 hy
          · rw [size_ms] at hk'
            have hlt : i < gs.size := (Array.getElem?_eq_some_iff.1 hjb).1
            rw [deaf_ofEvents_other T (by omega)]
            exact habove k hk'
      | gone hcl hq =>
        cases mb with
        | zero => rw [show g.status = .finished from hq] at hg; cases hg
        | succ n' =>
          rcases hq with hf | ⟨_, b', hgo, hq'⟩
          · rw [hf] at hg; cases hg
          have hrun := runT_crowd_go (P := P) (sl := sl') (i := i) hjb (by rw [hif]; exact hgo (w.at d))
          refine ⟨_, _, _, _, K, ma + n' + sumTo gs.size q, hst.trans hrun, .inr ⟨rfl, by omega⟩, ⟨a, b', q, bs, [], closed, s, r, ma, n', ?_, get_ms_eq hjb, fun k x h1 h2 h3 => ?_, fun k hk' => ?_, hcd, hSd, hle, hA.aside (Aside.at c w d), .gone hcl hq', hT.leaver' hj0', hK, by rw [size_ms]⟩⟩
          · rw [get_ms_ne (Ne.symm hi0), h0]
            exact congrArg some (hA.woken g b' hcd)
          · rw [get_ms_ne h2] at h3
            obtain ⟨y, hy, rfl⟩ := Option.map_eq_some_iff.1 h3
            rw [woken_quitsD (hoth k y h1 h2 hy), deaf_ofEvents_other T (Ne.symm h2)]
            exact hoth k y h1 h2 hy
          · rw [size_ms] at hk'
            have hlt : i < gs.size := (Array.getElem?_eq_some_iff.1 hjb).1
            rw [deaf_ofEvents_other T (by omega)]
            exact habove k hk'
    · have hq := hoth i g (by omega) hij hi
      have hlt : i < gs.size := (Array.getElem?_eq_some_iff.1 hi).1
      cases hqi : q i with
      | zero => rw [hqi] at hq; rw [hq.1] at hg; cases hg
      | succ k =>
        rw [hqi] at hq
        rcases hq with ⟨hf, _⟩ | ⟨_, g', es, hm, hstp, hq'⟩
        · rw [hf] at hg; cases hg
        have hrun := runT_crowd_go (P := P) (sl := sl') (i := i) hi (by rw [hif]; exact hstp (w.at d))
        have hsum : sumTo gs.size (upd q i k) + (k + 1) = sumTo gs.size q + k := by
          have := sumTo_upd q k id hlt
          simpa [hqi] using this
        refine ⟨_, _, _, _, K, ma + mb + sumTo gs.size (upd q i k), hst.trans hrun, .inr ⟨rfl, by omega⟩, ⟨a, b, upd q i k, bs, vs, closed, s, r, ma, mb, ?_, ?_, fun x y h1 h2 h3 => ?_, fun x hx' => ?_, hcd, hSd, hle, hA.aside (Aside.at c w d), hB, hT.leaver hi0 hij hm, hK, by rw [size_ms]⟩⟩
        · rw [get_ms_ne (Ne.symm hi0), h0]
          exact congrArg some (hA.woken g g' hcd)
        · rw [get_ms_ne (Ne.symm hij), hjb]
          exact congrArg some (hB.woken g g' hcd)
        · by_cases hxi : x = i
          · subst hxi
            rw [get_ms_eq hi] at h3
            obtain rfl := Option.some.inj h3
            rw [upd_same, Deaf_own]
            exact hq'
          · rw [get_ms_ne hxi] at h3
            obtain ⟨y0, hy, rfl⟩ := Option.map_eq_some_iff.1 h3
            rw [woken_quitsD (hoth x y0 h1 h2 hy), upd_ne _ _ hxi, deaf_ofEvents_other T (Ne.symm hxi)]
            exact hoth x y0 h1 h2 hy
        · rw [size_ms] at hx'
          rw [deaf_ofEvents_other T (by omega)]
          exact habove x hx'

/-- ████ THE LIVE PIPE COMES THROUGH. ████ -/
theorem live_runs (hj0 : 0 < j) (hcap : 0 < cap) (hSc : ∀ w w₁, Aside c w w₁ → S w → S w₁) : ∀ (K M : Nat) (gs : Array Goroutine) (w : World) (T : Trace) (sl : Option (Nat × Nat)),
    Live P c S Mine z Fin j cap K M gs w T → ∃ (N : Nat) (gs' : Array Goroutine) (a' : Goroutine) (w' : World) (sl' : Option (Nat × Nat)) (T' : Trace) (q' : Nat → Nat) (B' : Nat),
      runNT P N (crowd gs w sl) T = (.next (crowd gs' w' sl'), T') ∧ gs'[0]? = some a' ∧ Fin a' w' ∧ Leavers P T' gs' q' ∧ Past NoShun B' T' := by
  intro K
  induction K using Nat.strongRecOn with
  | ind K ihK =>
    intro M
    induction M using Nat.strongRecOn with
    | ind M ihM =>
      intro gs w T sl h
      rcases live_step hj0 hcap hSc sl h with ⟨gs', w', sl', ops, K', M', hs, hlt, hL⟩ | ⟨gs', a', w', sl', ops, q', B', hs, h1, h2, h3, h4⟩
      · have hr : ∃ (N : Nat) (gs'' : Array Goroutine) (a' : Goroutine) (w'' : World) (sl'' : Option (Nat × Nat)) (T' : Trace) (q' : Nat → Nat) (B' : Nat),
            runNT P N (crowd gs' w' sl') (T ++ ops) = (.next (crowd gs'' w'' sl''), T') ∧ gs''[0]? = some a' ∧ Fin a' w'' ∧ Leavers P T' gs'' q' ∧ Past NoShun B' T' := by
          rcases hlt with hlt | ⟨rfl, hlt⟩
          · exact ihK K' hlt M' gs' w' _ sl' hL
          · exact ihM M' hlt gs' w' _ sl' hL
        obtain ⟨N, gs'', a', w'', sl'', T', q', B', hr, k⟩ := hr
        exact ⟨N + 1, gs'', a', w'', sl'', T', q', B', by simp only [runNT, hs]; exact hr, k⟩
      · exact ⟨1, gs', a', w', sl', _, q', B', by simp only [runNT, hs], h1, h2, h3, h4⟩
end
end Go.Proofs.YtnmlhjigiemfgaaDoor
