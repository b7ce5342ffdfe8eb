/- Contracts of spec.AgeText and impl.AgeText. -/
import Derived.Test.YtbikcldkaogfmaaDoorImplAges
import Derived.Test.YtbikcldkaogfmaaDoorImplDec
namespace Go.Proofs.YtbikcldkaogfmaaDoor
open Go.RowKit

/-- The letters with their seconds. -/
def unitsL : List (UInt8 × Int) := [(119, 604800), (100, 86400), (104, 3600), (109, 60), (115, 1)]
def ageT : List (UInt8 × Int) → Int → List UInt8
  | [], _ => []
  | (c, u) :: r, n => (if u ≤ n then Lib.itoa (n / u) ++ [c] else []) ++ ageT r (n % u)
def ageTextV (n : Int) : List UInt8 := if inB n 0 253402300799 = false then [] else if n = 0 then [48, 115] else ageT unitsL n
theorem ageT_hit {k : Nat} {c : UInt8} {u n : Int} {r : List (UInt8 × Int)} (h : unitsL.drop k = (c, u) :: r) (hu : u ≤ n) (o : List UInt8) :
    o ++ ageT (unitsL.drop k) n = (o ++ Lib.itoa (n / u) ++ [c]) ++ ageT (unitsL.drop (k + 1)) (n % u) := by
  have h2 : unitsL.drop (k + 1) = r := by rw [← List.drop_drop, h]; rfl
  rw [h2, h, ageT, if_pos hu]; simp
theorem ageT_hit1 {k : Nat} {c : UInt8} {n : Int} {r : List (UInt8 × Int)} (h : unitsL.drop k = (c, 1) :: r) (hu : 1 ≤ n) (o : List UInt8) :
    o ++ ageT (unitsL.drop k) n = (o ++ Lib.itoa n ++ [c]) ++ ageT (unitsL.drop (k + 1)) 0 := by
  rw [ageT_hit h hu o, Int.ediv_one, Int.emod_one]
theorem ageT_miss {k : Nat} {c : UInt8} {u n : Int} {r : List (UInt8 × Int)} (h : unitsL.drop k = (c, u) :: r) (hu : ¬ u ≤ n) (h0 : 0 ≤ n) (o : List UInt8) :
    o ++ ageT (unitsL.drop k) n = o ++ ageT (unitsL.drop (k + 1)) n := by
  have h2 : unitsL.drop (k + 1) = r := by rw [← List.drop_drop, h]; rfl
  rw [h2, h, ageT, if_neg hu, Int.emod_eq_of_lt h0 (by omega)]; simp
theorem itoa_short (n : Int) (h1 : 0 ≤ n) (h2 : n ≤ 253402300799) : (Lib.itoa n).length ≤ 100 :=
  Nat.le_trans (Lib.itoa_length_le n (by omega) (by omega)) (by decide)
theorem wd_at0 (w : World) : (Instr.index 9 (.string ⟨#[119, 100, 104, 109, 115]⟩) (.int .i64 0)).run Tryd.prog w = .ok (.int .u8 119) w := by kernel_rfl
theorem wd_cut0 (w : World) : (Instr.slice 9 (.string ⟨#[119, 100, 104, 109, 115]⟩) (some (.int .i64 0)) (some (.int .i64 1)) none).run Tryd.prog w = .ok (.string ⟨#[119]⟩) w := by kernel_rfl
theorem specUnit0 (w : World) : Calls Tryd.prog 48 #[.int .u8 119] w fun e w' => e = .returned (.int .i64 604800) ∧ w = w' := specUnit 119 w
theorem wd_at1 (w : World) : (Instr.index 9 (.string ⟨#[119, 100, 104, 109, 115]⟩) (.int .i64 1)).run Tryd.prog w = .ok (.int .u8 100) w := by kernel_rfl
theorem wd_cut1 (w : World) : (Instr.slice 9 (.string ⟨#[119, 100, 104, 109, 115]⟩) (some (.int .i64 1)) (some (.int .i64 2)) none).run Tryd.prog w = .ok (.string ⟨#[100]⟩) w := by kernel_rfl
theorem specUnit1 (w : World) : Calls Tryd.prog 48 #[.int .u8 100] w fun e w' => e = .returned (.int .i64 86400) ∧ w = w' := specUnit 100 w
theorem wd_at2 (w : World) : (Instr.index 9 (.string ⟨#[119, 100, 104, 109, 115]⟩) (.int .i64 2)).run Tryd.prog w = .ok (.int .u8 104) w := by kernel_rfl
theorem wd_cut2 (w : World) : (Instr.slice 9 (.string ⟨#[119, 100, 104, 109, 115]⟩) (some (.int .i64 2)) (some (.int .i64 3)) none).run Tryd.prog w = .ok (.string ⟨#[104]⟩) w := by kernel_rfl
theorem specUnit2 (w : World) : Calls Tryd.prog 48 #[.int .u8 104] w fun e w' => e = .returned (.int .i64 3600) ∧ w = w' := specUnit 104 w
theorem wd_at3 (w : World) : (Instr.index 9 (.string ⟨#[119, 100, 104, 109, 115]⟩) (.int .i64 3)).run Tryd.prog w = .ok (.int .u8 109) w := by kernel_rfl
theorem wd_cut3 (w : World) : (Instr.slice 9 (.string ⟨#[119, 100, 104, 109, 115]⟩) (some (.int .i64 3)) (some (.int .i64 4)) none).run Tryd.prog w = .ok (.string ⟨#[109]⟩) w := by kernel_rfl
theorem specUnit3 (w : World) : Calls Tryd.prog 48 #[.int .u8 109] w fun e w' => e = .returned (.int .i64 60) ∧ w = w' := specUnit 109 w
theorem wd_at4 (w : World) : (Instr.index 9 (.string ⟨#[119, 100, 104, 109, 115]⟩) (.int .i64 4)).run Tryd.prog w = .ok (.int .u8 115) w := by kernel_rfl
theorem wd_cut4 (w : World) : (Instr.slice 9 (.string ⟨#[119, 100, 104, 109, 115]⟩) (some (.int .i64 4)) (some (.int .i64 5)) none).run Tryd.prog w = .ok (.string ⟨#[115]⟩) w := by kernel_rfl
theorem specUnit4 (w : World) : Calls Tryd.prog 48 #[.int .u8 115] w fun e w' => e = .returned (.int .i64 1) ∧ w = w' := specUnit 115 w

end Go.Proofs.YtbikcldkaogfmaaDoor
