/- A text made small, as plain lists; the contracts of spec.Squash and spec.Unsquash. -/
import Derived.Test.YtnmlhjigiemfgaaDoorSpecSpread
import Derived.Test.YtnmlhjigiemfgaaDoorSpecCrc
import Derived.Test.YtnmlhjigiemfgaaDoorPadV
import Derived.Test.YtnmlhjigiemfgaaDoorDecBack
namespace Go.Proofs.YtnmlhjigiemfgaaDoor
open Go.RowKit

/-- What stands ahead of the runs. -/
def hdrV (n c : Nat) : List UInt8 := [83, 81] ++ padV n 5 ++ padV c 10 ++ [10]
/-- What Squash tells. -/
def squashV (l : List UInt8) : List UInt8 := if l.length ≤ 3000 then hdrV l.length (crcV l) ++ runsV l else []
theorem padV_eq (n : Nat) (d : Nat) (h : 1 ≤ d ∧ d ≤ 12) : padV (n : Int) (d : Int) = padL (Lib.decDigits n) d := by
  unfold padV; rw [if_neg (by omega)]; rfl
theorem padL_len (l : List UInt8) (d : Nat) (h : l.length ≤ d) : (padL l d).length = d := by
  unfold padL; rw [List.length_append, List.length_replicate]; omega
theorem dnum_noughts (l : List UInt8) : ∀ k : Nat, dnum (List.replicate k 48 ++ l) = dnum l
  | 0 => rfl
  | k + 1 => by rw [List.replicate_succ]; exact dnum_noughts l k
theorem pad_back (n d : Nat) : dnum (padL (Lib.decDigits n) d) = n := by
  unfold padL; rw [dnum_noughts]; exact (digits_back n).2
theorem hdr_parts {n c : Nat} : hdrV n c = [83, 81] ++ padL (Lib.decDigits n) 5 ++ padL (Lib.decDigits c) 10 ++ [10] := by
  unfold hdrV
  rw [show padV (n : Int) 5 = padL (Lib.decDigits n) 5 from padV_eq n 5 (by omega), show padV (c : Int) 10 = padL (Lib.decDigits c) 10 from padV_eq c 10 (by omega)]
theorem hdrV_len {n c : Nat} (hn : n < 100000) (hc : c < 4294967296) : (hdrV n c).length = 18 := by
  rw [hdr_parts]
  simp only [List.length_append, padL_len _ 5 (digits_short 4 n (by omega)), padL_len _ 10 (digits_short 9 c (by omega))]
  rfl
theorem hdrV_inj {n c m d : Nat} (hn : n < 100000) (hc : c < 4294967296) (hm : m < 100000) (hd : d < 4294967296) (h : hdrV n c = hdrV m d) : n = m ∧ c = d := by
  rw [hdr_parts, hdr_parts] at h
  have h1 := List.append_inj_left' h rfl
  have l1 := padL_len _ 5 (digits_short 4 n (by omega))
  have l2 := padL_len _ 5 (digits_short 4 m (by omega))
  obtain ⟨h2, h3⟩ := List.append_inj h1 (by simp only [List.length_append, l1, l2])
  have h4 := List.append_cancel_left h2
  have e1 := congrArg dnum h4
  have e2 := congrArg dnum h3
  rw [pad_back, pad_back] at e1 e2
  exact ⟨e1, e2⟩
theorem squashV_eq {l : List UInt8} (h : l.length ≤ 3000) : squashV l = hdrV l.length (crcV l) ++ runsV l := if_pos h
theorem squashV_long {l : List UInt8} (h : ¬ l.length ≤ 3000) : squashV l = [] := if_neg h
theorem squashV_len {l : List UInt8} (h : l.length ≤ 3000) : (squashV l).length = 18 + (runsV l).length := by
  rw [squashV_eq h, List.length_append, hdrV_len (by omega) (crcV_lt l)]
theorem squashV_drop {l : List UInt8} (h : l.length ≤ 3000) : (squashV l).drop 18 = runsV l := by
  rw [squashV_eq h, List.drop_append_of_le_length (by rw [hdrV_len (by omega) (crcV_lt l)]; exact Nat.le_refl _), List.drop_eq_nil_of_le (by rw [hdrV_len (by omega) (crcV_lt l)]; exact Nat.le_refl _)]; rfl
theorem squashV_take {l : List UInt8} (h : l.length ≤ 3000) : (squashV l).take 18 = hdrV l.length (crcV l) := by
  rw [squashV_eq h, List.take_append_of_le_length (by rw [hdrV_len (by omega) (crcV_lt l)]; exact Nat.le_refl _), List.take_of_length_le (by rw [hdrV_len (by omega) (crcV_lt l)]; exact Nat.le_refl _)]
/-- What Unsquash tells. -/
def unsqO (l : List UInt8) : Option (List UInt8) :=
  match spreadO (l.drop 18) with
  | none => none
  | some t => if 18 ≤ l.length ∧ squashV t = l then some t else none
theorem unsqO_iff {l t : List UInt8} : unsqO l = some t ↔ t.length ≤ 3000 ∧ squashV t = l := by
  unfold unsqO
  constructor
  · intro h
    cases hs : spreadO (l.drop 18) with
    | none => rw [hs] at h; cases h
    | some u =>
      rw [hs] at h
      simp only [] at h
      split at h
      · rename_i h1; cases h; exact ⟨(spreadO_iff.1 hs).1, h1.2⟩
      · cases h
  · rintro ⟨h1, rfl⟩
    rw [squashV_drop h1, spreadO_iff.2 ⟨h1, rfl⟩]
    show (if 18 ≤ (squashV t).length ∧ squashV t = squashV t then some t else none) = some t
    rw [if_pos ⟨by rw [squashV_len h1]; omega, rfl⟩]
theorem unsqO_short {l : List UInt8} (h : l.length < 18) : unsqO l = none := by
  cases hu : unsqO l with
  | none => rfl
  | some t =>
    obtain ⟨h1, h2⟩ := unsqO_iff.1 hu
    have := squashV_len h1
    rw [h2] at this
    omega

set_option maxRecDepth 100000 in
set_option maxHeartbeats 4000000 in
theorem specSquash (s : ByteArray) (w : World) (hs : s.size ≤ 1048576) :
    Calls Tryd.prog 17 #[.string s] w fun e w' => e = .returned (.string (strOf (squashV s.data.toList))) ∧ Below w.heap.size w w' := by
  have hsz : s.data.toList.length = s.size := by simp
  by_cases hl : s.size ≤ 3000
  rotate_left
  · rw [squashV_long (by omega)]
    have hli : 3000 < (s.size : Int) := by omega
    clear hl hsz
    go_enter Tryd.func17, Tryd.ntmps17
    go_wp2
    go_ret
    exact ⟨rfl, Below.refl _ _⟩
  have hli : ¬ 3000 < (s.size : Int) := by omega
  rw [squashV_eq (by omega), hsz]
  have hcl := crcV_lt s.data.toList
  have HRL := Lib.hid (runsV_len _ s.data.toList (Nat.le_refl _))
  have hrl : (runsV s.data.toList).length ≤ 9000 := by have := HRL.out; omega
  have C1 := Lib.hid (fun W => specPadText (s.size : Int) 5 W (by omega) (by omega))
  have C2 := Lib.hid (fun W => specCrc s (by unfold maxLen; omega) W)
  have C3 := Lib.hid (fun W => specPadText ((crcV s.data.toList : Nat) : Int) 10 W (by omega) (by omega))
  have C4 := Lib.hid (fun W => specRuns s W hs)
  have hp1 : (padV (s.size : Int) 5).length ≤ 5 := by rw [show padV (s.size : Int) 5 = padL (Lib.decDigits s.size) 5 from padV_eq _ 5 (by omega), padL_len _ 5 (digits_short 4 s.size (by omega))]; exact Nat.le_refl _
  have hp2 : (padV ((crcV s.data.toList : Nat) : Int) 10).length ≤ 10 := by rw [show padV ((crcV s.data.toList : Nat) : Int) 10 = padL (Lib.decDigits (crcV s.data.toList)) 10 from padV_eq _ 10 (by omega), padL_len _ 10 (digits_short 9 _ (by omega))]; exact Nat.le_refl _
  have HH := Lib.hid (show hdrV s.size (crcV s.data.toList) = [83, 81] ++ padV (s.size : Int) 5 ++ padV ((crcV s.data.toList : Nat) : Int) 10 ++ [10] from rfl)
  have hcw : IntKind.i64.wrap ((crcV s.data.toList : Nat) : Int) = ((crcV s.data.toList : Nat) : Int) := IntWalk.i64_in _ (by omega)
  generalize hdrV s.size (crcV s.data.toList) = hd at HH
  generalize padV (s.size : Int) 5 = p1 at C1 hp1 HH
  generalize padV ((crcV s.data.toList : Nat) : Int) 10 = p2 at C3 hp2 HH
  generalize crcV s.data.toList = cr at C2 C3 hcw hcl
  generalize runsV s.data.toList = rn at C4 hrl
  have a1 : ∀ w, (Op.stringOp .add ⟨#[83, 81]⟩ (strOf p1)).run Tryd.prog w = .ok (.string (strOf ([83, 81] ++ p1))) w := fun w => run_add [83, 81] p1 (by simp; omega) w
  have a2 := run_add ([83, 81] ++ p1) p2 (by simp; omega)
  have a3 : ∀ w, (Op.stringOp .add (strOf ([83, 81] ++ p1 ++ p2)) ⟨#[10]⟩).run Tryd.prog w = .ok (.string (strOf ([83, 81] ++ p1 ++ p2 ++ [10]))) w := fun w => run_add ([83, 81] ++ p1 ++ p2) [10] (by simp; omega) w
  have a4 := run_add ([83, 81] ++ p1 ++ p2 ++ [10]) rn (by simp; omega)
  rw [← HH.out] at a3 a4
  generalize [83, 81] ++ p1 ++ p2 = q2 at a2 a3
  generalize [83, 81] ++ p1 = q1 at a1 a2
  clear HRL HH hl hsz hp1 hp2 hrl
  go_enter Tryd.func17, Tryd.ntmps17
  go_wp2_with fail
  refine (C1.out _).mono ?_
  rintro e W1 ⟨rfl, rfl⟩
  go_wp2_with fail
  refine (C2.out _).mono ?_
  rintro e W1 ⟨rfl, rfl⟩
  go_wp2_with fail
  refine (C3.out _).mono ?_
  rintro e W1 ⟨rfl, rfl⟩
  go_wp2_with fail
  refine (C4.out _).mono ?_
  rintro e W1 ⟨rfl, hb⟩
  go_wp2
  go_ret
  exact ⟨rfl, hb⟩

set_option maxRecDepth 100000 in
set_option maxHeartbeats 4000000 in
theorem specUnsquash (s : ByteArray) (w : World) (hs : s.size ≤ 1048576) :
    Calls Tryd.prog 18 #[.string s] w fun e w' => e = .returned (sprT (unsqO s.data.toList)) ∧ Below w.heap.size w w' := by
  have hsz : s.data.toList.length = s.size := by simp
  by_cases hl : s.size < 18
  · rw [unsqO_short (by omega)]
    have hli : (s.size : Int) < 18 := by omega
    clear hl hsz
    go_enter Tryd.func18, Tryd.ntmps18
    go_wp2
    go_ret2
    exact ⟨rfl, Below.refl _ _⟩
  have hli : ¬ (s.size : Int) < 18 := by omega
  have h18 : (18 : Int) ≤ (s.size : Int) := by omega
  have hsl : ∀ W, (Instr.slice 9 (.string s) (some (.int .i64 18)) none none).run Tryd.prog W = .ok (.string (strOf (s.data.toList.drop 18))) W := fun W => by
    rw [run_slice_string_l (w := W) (t := 9) (s := s) (kl := .i64) (l := 18) (ht := Tryd.underlying9) (h0 := by omega) (h1 := by omega)]
    show Result.ok (Value.string (s.extract 18 s.size)) W = _
    have e : (s.extract 18 s.size).data.toList = s.data.toList.drop 18 := by
      rw [ByteArray.data_extract, Array.toList_extract, List.extract_eq_take_drop, List.take_of_length_le (by simp)]
    rw [← e]
    cases s.extract 18 s.size
    simp [strOf]
  have C1 := Lib.hid (fun W => specSpread (strOf (s.data.toList.drop 18)) W (by rw [strOf_size, List.length_drop]; omega))
  rw [strOf_data] at C1
  have HU := Lib.hid (show unsqO s.data.toList = match spreadO (s.data.toList.drop 18) with | none => none | some t => if 18 ≤ s.data.toList.length ∧ squashV t = s.data.toList then some t else none from rfl)
  have HS := Lib.hid (fun t (h : spreadO (s.data.toList.drop 18) = some t) => (spreadO_iff.1 h).1)
  generalize strOf (s.data.toList.drop 18) = x at C1 hsl
  cases ho : spreadO (s.data.toList.drop 18) with
  | none =>
    rw [ho] at C1 HU
    rw [HU.out]
    clear HU HS ho hl hsz
    go_enter Tryd.func18, Tryd.ntmps18
    go_wp2_with fail
    refine (C1.out _).mono ?_
    rintro e W1 ⟨rfl, hb⟩
    unfold sprT
    go_wp2
    go_ret2
    exact ⟨rfl, hb⟩
  | some t =>
    have ht := HS.out t ho
    rw [ho] at C1 HU
    simp only [] at HU
    have C2 := Lib.hid (fun W => specSquash (strOf t) W (by rw [strOf_size]; omega))
    rw [strOf_data] at C2
    have hcmp : ((strOf (squashV t)).toList == s.toList) = (squashV t == s.data.toList) := by rw [Lib.toList_data, Lib.toList_data, strOf_data]
    by_cases h2 : squashV t = s.data.toList
    · rw [HU.out, if_pos ⟨by omega, h2⟩]
      have hcm : ((strOf (squashV t)).toList == s.toList) = true := by rw [hcmp, h2]; simp
      generalize strOf (squashV t) = y at C2 hcm
      clear HU HS ho hl hsz hcmp h2
      go_enter Tryd.func18, Tryd.ntmps18
      go_wp2_with fail
      refine (C1.out _).mono ?_
      rintro e W1 ⟨rfl, hb⟩
      have HB := Lib.hid hb
      unfold sprT
      simp only [Option.getD_some, Option.isSome_some]
      clear hb
      go_wp2_with fail
      refine (C2.out _).mono ?_
      rintro e W2 ⟨rfl, hb2⟩
      go_wp2
      go_ret2
      exact ⟨rfl, HB.out.trans (hb2.mono HB.out.size)⟩
    · rw [HU.out, if_neg (fun h => h2 h.2)]
      have hcm : ((strOf (squashV t)).toList == s.toList) = false := by rw [hcmp]; simpa using h2
      generalize strOf (squashV t) = y at C2 hcm
      clear HU HS ho hl hsz hcmp h2
      go_enter Tryd.func18, Tryd.ntmps18
      go_wp2_with fail
      refine (C1.out _).mono ?_
      rintro e W1 ⟨rfl, hb⟩
      have HB := Lib.hid hb
      unfold sprT
      simp only [Option.getD_some, Option.isSome_some]
      clear hb
      go_wp2_with fail
      refine (C2.out _).mono ?_
      rintro e W2 ⟨rfl, hb2⟩
      go_wp2
      go_ret2
      exact ⟨rfl, HB.out.trans (hb2.mono HB.out.size)⟩
end Go.Proofs.YtnmlhjigiemfgaaDoor
