/- spec.Match. impl.reachedBehind at each piece; impl.Match. -/
import Derived.Test.YtipepbnmllbonaaGreatDoorM24
import Derived.Test.YtipepbnmllbonaaGreatDoorM7
import Derived.Test.YtipepbnmllbonaaGreatDoorM25
import Derived.Test.YtipepbnmllbonaaGreatDoorM20
import Derived.Test.YtipepbnmllbonaaGreatDoorM10
namespace Go.Proofs.YtipepbnmllbonaaGreatDoor
open Go.RowKit

/-- What Match tells. -/
def matB (l name : List UInt8) : Bool := patB l && nameB name && matchV l name
theorem patB_some {l : List UInt8} (h : patB l = true) : l.length ≤ 60 ∧ ∃ ps, piecesL l = some ps := by
  unfold patB at h
  simp only [Bool.and_eq_true, decide_eq_true_eq] at h
  obtain ⟨ps, hp⟩ := Option.isSome_iff_exists.1 h.2
  exact ⟨h.1.1, ps, hp⟩
theorem matchV_some {l name : List UInt8} {ps : List Pc} (h : piecesL l = some ps) : matchV l name = runF name ps (fun k => k == 0) name.length := by unfold matchV; rw [h]

set_option maxRecDepth 100000 in
theorem specMatch (s q : ByteArray) (hm : s.size ≤ maxLen) (w : World) :
    Calls Tryz.prog 122 #[.string s, .string q] w fun e w' => e = .returned (.bool (matB s.data.toList q.data.toList)) ∧ Below w.heap.size w w' := by
  have CP := Lib.hid (fun W => specPatternOk s hm W)
  have CN := Lib.hid (fun W => specNameOk q W)
  unfold matB
  cases hp : patB s.data.toList with
  | false =>
    rw [hp] at CP
    simp only [Bool.false_and]
    clear hp
    go_enter Tryz.func122, Tryz.ntmps122
    go_wp2_with fail
    refine (CP.out _).mono ?_
    rintro e W1 ⟨rfl, rfl⟩
    go_wp2
    go_ret
    exact ⟨rfl, Below.refl _ _⟩
  | true =>
    rw [hp] at CP
    cases hn : nameB q.data.toList with
    | false =>
      rw [hn] at CN
      simp only [Bool.true_and, Bool.false_and]
      clear hp hn
      go_enter Tryz.func122, Tryz.ntmps122
      go_wp2_with fail
      refine (CP.out _).mono ?_
      rintro e W1 ⟨rfl, rfl⟩
      go_wp2_with fail
      refine (CN.out _).mono ?_
      rintro e W1 ⟨rfl, rfl⟩
      go_wp2
      go_ret
      exact ⟨rfl, Below.refl _ _⟩
    | true =>
      rw [hn] at CN
      simp only [Bool.true_and]
      obtain ⟨h1, ps, h2⟩ := patB_some hp
      have h3 := nameB_len hn
      have hsz : s.data.toList.length = s.size := by simp
      have hqz : q.data.toList.length = q.size := by simp
      have CA := Lib.hid (fun W => specAll s q (by omega) (by omega) (matchV s.data.toList q.data.toList) ⟨ps, h2, by rw [matchV_some h2, hqz]⟩ W)
      generalize matchV s.data.toList q.data.toList = b at CA
      clear hp hn h1 h2 h3 hsz hqz
      go_enter Tryz.func122, Tryz.ntmps122
      go_wp2_with fail
      refine (CP.out _).mono ?_
      rintro e W1 ⟨rfl, rfl⟩
      go_wp2_with fail
      refine (CN.out _).mono ?_
      rintro e W1 ⟨rfl, rfl⟩
      go_wp2_with fail
      refine (CA.out _).mono ?_
      rintro e W1 ⟨rfl, hb⟩
      go_wp2
      go_ret
      exact ⟨rfl, hb⟩
end Go.Proofs.YtipepbnmllbonaaGreatDoor
namespace Go.Proofs.YtipepbnmllbonaaGreatDoor
open Go.RowKit

/-- A set with no more than sixty ranges. -/
def Pc.small : Pc → Prop
  | .set _ rs => rs.length ≤ 60
  | _ => True
theorem bodyF_len : ∀ (n : Nat) (l : List UInt8), (bodyF n l).length ≤ n
  | 0, l => by unfold bodyF; simp
  | n + 1, l => by
    unfold bodyF
    repeat' split
    all_goals first
      | exact Nat.zero_le _
      | exact Nat.succ_le_succ (bodyF_len n _)
theorem pieceL_small {l : List UInt8} {p : Pc} {n : Nat} (h : pieceL l = some (p, n)) (hl : l.length ≤ 60) : p.small := by
  cases l with
  | nil => cases h
  | cons c r =>
    by_cases h1 : c = 42
    · subst h1; cases h; exact trivial
    by_cases h2 : c = 63
    · subst h2; cases h; exact trivial
    by_cases h3 : c = 91
    · subst h3
      rw [pieceL_set] at h
      obtain ⟨m, hm, he⟩ := Option.map_eq_some_iff.1 h
      simp only [Prod.mk.injEq] at he
      obtain ⟨rfl, rfl⟩ := he
      show (bodyL _).length ≤ 60
      unfold bodyL
      refine Nat.le_trans (bodyF_len _ _) ?_
      rw [List.length_take, setB_eq, List.length_drop]
      simp at hl
      omega
    by_cases h4 : c = 92
    · subst h4
      cases r with
      | nil => cases h
      | cons d t => cases h; exact trivial
    · rw [pieceL_sign r h1 h2 h3 h4] at h
      cases h
      exact trivial
theorem piecesL_small : ∀ (n : Nat) (l : List UInt8) (ps : List Pc), l.length ≤ n → l.length ≤ 60 → piecesL l = some ps → ∀ p ∈ ps, p.small
  | n, l, ps, hn, hl, h => by
    by_cases hne : l = []
    · subst hne; rw [piecesL_nil] at h; cases h; intro p hp; cases hp
    cases hp : pieceL l with
    | none => rw [piecesL_none hne hp] at h; cases h
    | some y =>
      obtain ⟨p, k⟩ := y
      rw [piecesL_some hp] at h
      obtain ⟨ps2, h3, h4⟩ := Option.map_eq_some_iff.1 h
      have hk := pieceL_pos hp
      cases n with
      | zero => exact (hne (List.eq_nil_of_length_eq_zero (by omega))).elim
      | succ n =>
        intro p2 hp2
        rw [← h4] at hp2
        rcases List.mem_cons.1 hp2 with rfl | hp2
        · exact pieceL_small hp hl
        · exact piecesL_small n (l.drop k) ps2 (by rw [List.length_drop]; omega) (by rw [List.length_drop]; omega) h3 p2 hp2
theorem implReached (v : Value) (p : Pc) (B : Nat) (q : ByteArray) (g : Nat) (F : Nat → Bool) (w : World) (hv : PcAt w B v p) (hsm : p.small) (hR : BRow w g (q.size + 1) F) (hq : q.size ≤ 900) :
    Calls Tryz.prog 121 #[v, .string q, .slice (some ⟨g, 0, none⟩) (q.size + 1) (q.size + 1)] w fun e w' => e = .returned (.slice (some ⟨w.heap.size, 0, none⟩) (q.size + 1) (q.size + 1)) ∧ BRow w' w.heap.size (q.size + 1) (stepF q.data.toList p F) ∧ Below w.heap.size w w' := by
  cases p with
  | star => obtain rfl := hv; exact reachStar q g F w hR hq
  | any => obtain rfl := hv; exact reachSet .any rfl _ _ _ q g F w (fun c W _ => standsAny c W) hR hq
  | sign b => obtain rfl := hv; exact reachSign b q g F w hR hq
  | set t rs =>
    obtain ⟨c, rfl, n1, n2, sv, rfl, rest⟩ := hv
    have hC : ClosAt w B t rs _ := ⟨n1, n2, sv, rfl, rest⟩
    exact reachSet (.set t rs) rfl _ _ _ q g F w (fun c W hb => standsSet c t rs _ B W (hC.on hb) hsm) hR hq
end Go.Proofs.YtipepbnmllbonaaGreatDoor
