/- An age comes back from its text; sizes of numerals: plain facts. -/
import Derived.Test.YtbikcldkaogfmaaDoorAgeText
import Derived.Test.YtbikcldkaogfmaaDoorDecBack
namespace Go.Proofs.YtbikcldkaogfmaaDoor
open Go.RowKit

theorem lead_numeral (q : Int) (h0 : 0 ≤ q) (h1 : q ≤ 999999999) (c : UInt8) (hc : isDig c = false) (r : List UInt8) :
    lead (Lib.itoa q ++ c :: r) = (Lib.itoa q).length := by
  rw [lead_app _ _ (itoa_facts q h0 h1).1, lead_cons, hc]; simp
theorem ageL_unit (c : UInt8) (u : Int) (hc : unitB c = u) (hd : isDig c = false) (hu : 1 ≤ u) (f : Nat) (q x : Int) (r : List UInt8) (h0 : 0 ≤ q) (h1 : q ≤ 999999999)
    (hb : x + q * u ≤ 253402300799) : ageL (f + 1) (Lib.itoa q ++ c :: r) x = ageL f r (x + q * u) := by
  obtain ⟨f1, f2, f3, f4⟩ := itoa_facts q h0 h1
  have hl := lead_numeral q h0 h1 c hd r
  have hdr : (Lib.itoa q ++ c :: r).drop (lead (Lib.itoa q ++ c :: r)) = c :: r := by rw [hl]; simp
  have hun : unitV (c :: r) = u := hc
  have htk : (Lib.itoa q ++ c :: r).take (lead (Lib.itoa q ++ c :: r)) = Lib.itoa q := by rw [hl]; simp
  have hd2 : (Lib.itoa q ++ c :: r).drop (lead (Lib.itoa q ++ c :: r) + 1) = r := by rw [← List.drop_drop, hdr]; rfl
  rw [ageL_step (by simp) ⟨by rw [hl]; exact ⟨f3, f4⟩, by rw [hdr, hun]; omega⟩ (by rw [htk, hdr, hun, f2]; exact hb), hd2, htk, hdr, hun, f2]
theorem age_more (c : UInt8) (u : Int) (hc : unitB c = u) (hd : isDig c = false) (hu : 1 ≤ u) (r : List (UInt8 × Int)) (U : Int) (hU : U ≤ 999999999 * u)
    (ih : ∀ (m x : Int) (f : Nat), 0 ≤ m → m < u → 0 ≤ x → x + m ≤ 253402300799 → (ageT r m).length < f → ageL f (ageT r m) x = x + m) :
    ∀ (m x : Int) (f : Nat), 0 ≤ m → m < U → 0 ≤ x → x + m ≤ 253402300799 → (ageT ((c, u) :: r) m).length < f → ageL f (ageT ((c, u) :: r) m) x = x + m := by
  intro m x f hm hmU hx hb hf
  have hq0 : 0 ≤ m / u := Int.ediv_nonneg hm (by omega)
  have hq1 : m / u < 999999999 := Int.ediv_lt_of_lt_mul (by omega) (by omega)
  have hdm := Int.mul_ediv_add_emod m u
  have hr0 : 0 ≤ m % u := Int.emod_nonneg _ (by omega)
  have hr1 : m % u < u := Int.emod_lt_of_pos _ (by omega)
  have hmc : m / u * u = u * (m / u) := Int.mul_comm _ _
  have hnn : 0 ≤ m / u * u := Int.mul_nonneg hq0 (by omega)
  by_cases hle : u ≤ m
  · have e : ageT ((c, u) :: r) m = Lib.itoa (m / u) ++ c :: ageT r (m % u) := by rw [ageT, if_pos hle]; simp
    rw [e] at hf ⊢
    obtain ⟨g, rfl⟩ : ∃ g, f = g + 1 := ⟨f - 1, by omega⟩
    rw [ageL_unit c u hc hd hu g (m / u) x _ hq0 (by omega) (by omega), ih (m % u) (x + m / u * u) g hr0 hr1 (by omega) (by omega) (by simp at hf; omega)]
    omega
  · have e : ageT ((c, u) :: r) m = ageT r m := by rw [ageT, if_neg hle, Int.emod_eq_of_lt hm (by omega)]; simp
    rw [e] at hf ⊢
    exact ih m x f hm (by omega) hx hb hf
theorem age_all (m x : Int) (f : Nat) (h0 : 0 ≤ m) (hx : 0 ≤ x) (hb : x + m ≤ 253402300799) (hf : (ageT unitsL m).length < f) : ageL f (ageT unitsL m) x = x + m := by
  refine age_more 119 604800 rfl rfl (by decide) _ 253402300800 (by decide) ?_ m x f h0 (by omega) hx hb hf
  refine age_more 100 86400 rfl rfl (by decide) _ _ (by decide) ?_
  refine age_more 104 3600 rfl rfl (by decide) _ _ (by decide) ?_
  refine age_more 109 60 rfl rfl (by decide) _ _ (by decide) ?_
  refine age_more 115 1 rfl rfl (by decide) _ _ (by decide) ?_
  intro m x f h0 h1 _ _ _
  obtain rfl : m = 0 := by omega
  show ageL f [] x = x + 0
  rw [ageL_nil]; omega
theorem numeral_not (q : Int) (h0 : 0 ≤ q) (h1 : q ≤ 999999999) (c : UInt8) (hc : isDig c = false) (r : List UInt8) : numL (Lib.itoa q ++ c :: r) 9 < 0 := by
  refine num_not ?_
  rw [lead_numeral q h0 h1 c hc r]
  rintro ⟨_, e⟩
  simp at e
theorem ageT_not : ∀ (us : List (UInt8 × Int)), (∀ p ∈ us, isDig p.1 = false ∧ 1 ≤ p.2) → ∀ (m : Int), 0 ≤ m → (∀ p ∈ us, m / p.2 ≤ 999999999) → ageT us m = [] ∨ numL (ageT us m) 9 < 0
  | [], _, m, _, _ => Or.inl rfl
  | (c, u) :: r, h, m, hm, hq => by
    obtain ⟨hc, hu⟩ : isDig c = false ∧ 1 ≤ u := h (c, u) (by simp)
    by_cases hle : u ≤ m
    · right
      have e : ageT ((c, u) :: r) m = Lib.itoa (m / u) ++ c :: ageT r (m % u) := by rw [ageT, if_pos hle]; simp
      rw [e]
      exact numeral_not _ (Int.ediv_nonneg hm (by omega)) (hq (c, u) (by simp)) c hc _
    · have e : ageT ((c, u) :: r) m = ageT r m := by rw [ageT, if_neg hle, Int.emod_eq_of_lt hm (by omega)]; simp
      rw [e]
      exact ageT_not r (fun p hp => h p (by simp [hp])) m hm (fun p hp => hq p (by simp [hp]))
theorem ageT_num (n : Int) (h1 : 1 ≤ n) (h2 : n ≤ 253402300799) : ageT unitsL n ≠ [] ∧ numL (ageT unitsL n) 9 < 0 := by
  have hne : ageT unitsL n ≠ [] := by
    intro e
    have := age_all n 0 1 (by omega) (by omega) (by omega) (by rw [e]; simp)
    rw [e, ageL_nil] at this
    omega
  refine ⟨hne, ?_⟩
  by_cases hw : 604800 ≤ n
  · have e : ageT unitsL n = Lib.itoa (n / 604800) ++ 119 :: ageT [(100, 86400), (104, 3600), (109, 60), (115, 1)] (n % 604800) := by
      show (if (604800 : Int) ≤ n then Lib.itoa (n / 604800) ++ [119] else []) ++ ageT [(100, 86400), (104, 3600), (109, 60), (115, 1)] (n % 604800) = _
      rw [if_pos hw]; simp
    rw [e]
    exact numeral_not _ (by omega) (by omega) 119 rfl _
  · rcases ageT_not unitsL (by decide) n (by omega) (by intro p hp; simp [unitsL] at hp; rcases hp with rfl | rfl | rfl | rfl | rfl <;> simp <;> omega) with h | h
    · exact absurd h hne
    · exact h
theorem age_back (n : Int) (h : ageTextV n ≠ []) : ageV (ageTextV n) = n := by
  unfold ageTextV at h ⊢
  by_cases hi : inB n 0 253402300799 = false
  · rw [if_pos hi] at h; exact absurd rfl h
  rw [if_neg hi] at h ⊢
  have hb : 0 ≤ n ∧ n ≤ 253402300799 := by simpa [inB] using hi
  by_cases hz : n = 0
  · subst hz; decide
  rw [if_neg hz]
  obtain ⟨h1, h2⟩ := ageT_num n (by omega) hb.2
  unfold ageV
  rw [if_neg h1, if_neg (by omega), age_all n 0 _ hb.1 (by omega) (by omega) (by omega)]
  omega
theorem ageTextV_len (n : Int) : (ageTextV n).length ≤ 1000 := by
  unfold ageTextV
  split
  · simp
  split
  · simp
  rename_i h1 h2
  have hb : 0 ≤ n ∧ n ≤ 253402300799 := by simpa [inB] using h1
  have step : ∀ (c : UInt8) (u : Int) (r : List (UInt8 × Int)) (m : Int) (B : Nat), 1 ≤ u → 0 ≤ m → m ≤ 253402300799 → (ageT r (m % u)).length ≤ B → (ageT ((c, u) :: r) m).length ≤ B + 101 := by
    intro c u r m B hu h0 h1 hB
    rw [ageT]
    have hq1 : m / u ≤ m := Int.ediv_le_self _ h0
    have := itoa_short (m / u) (Int.ediv_nonneg h0 (by omega)) (by omega)
    split
    · simp; omega
    · simp; omega
  refine Nat.le_trans (step 119 604800 _ n 404 (by omega) hb.1 hb.2 ?_) (by omega)
  refine Nat.le_trans (step 100 86400 _ _ 303 (by omega) (by omega) (by omega) ?_) (by omega)
  refine Nat.le_trans (step 104 3600 _ _ 202 (by omega) (by omega) (by omega) ?_) (by omega)
  refine Nat.le_trans (step 109 60 _ _ 101 (by omega) (by omega) (by omega) ?_) (by omega)
  refine Nat.le_trans (step 115 1 _ _ 0 (by omega) (by omega) (by omega) ?_) (by omega)
  simp [ageT]
theorem num_numeral (k : Int) (h0 : 0 ≤ k) (h1 : k ≤ 999999999) : numL (Lib.itoa k) 9 = k := by
  obtain ⟨f1, f2, f3, f4⟩ := itoa_facts k h0 h1
  unfold numL
  rw [if_pos ⟨⟨f3, f4⟩, f1⟩, f2]
theorem size_plain (k : Int) (h0 : 0 ≤ k) (h1 : k ≤ 999999999) : sizeV (Lib.itoa k) = k := by
  obtain ⟨f1, f2, f3, f4⟩ := itoa_facts k h0 h1
  have hn := num_numeral k h0 h1
  unfold sizeV
  cases hq : (Lib.itoa k).getLast? with
  | none => rw [List.getLast?_eq_none_iff] at hq; rw [hq] at f3; simp at f3
  | some c =>
    have hm : c ∈ Lib.itoa k := List.mem_of_getLast? hq
    have hd : isDig c = true := List.all_eq_true.1 f1 c hm
    simp only
    by_cases hmb : mulB c = 1
    · rw [if_pos hmb]; exact hn
    · rw [mulB_dig c hmb] at hd; cases hd
theorem size_lettered (k : Int) (h0 : 0 ≤ k) (h1 : k ≤ 999999999) (c : UInt8) (x : Int) (hc : mulB c = x) (hx : x ≠ 1) : sizeV (Lib.itoa k ++ [c]) = k * x := by
  unfold sizeV
  rw [List.getLast?_append]
  simp only [List.getLast?_singleton, Option.some_or, List.dropLast_concat, hc, num_numeral k h0 h1]
  rw [if_neg hx, if_neg (by omega)]
theorem age_lettered (k : Int) (h0 : 0 ≤ k) (h1 : k ≤ 65536) (c : UInt8) (u : Int) (hc : unitB c = u) (hd : isDig c = false) (hu : 1 ≤ u) (hu2 : u ≤ 60) : ageV (Lib.itoa k ++ [c]) = k * u := by
  have hp : k * u ≤ 65536 * 60 := by
    refine Int.le_trans (Int.mul_le_mul_of_nonneg_right h1 (by omega)) (Int.mul_le_mul_of_nonneg_left hu2 (by decide))
  unfold ageV
  rw [if_neg (by simp), if_neg (by have := numeral_not k h0 (by omega) c hd []; omega), ageL_unit c u hc hd hu _ k 0 [] h0 (by omega) (by omega), ageL_nil]
  omega
end Go.Proofs.YtbikcldkaogfmaaDoor
