/- Contracts of impl.pathOf, firstNames, Join, DirOf, BaseOf, Under, and of spec's. -/
import Derived.Test.YtipepbnmllbonaaDoorImplPath
namespace Go.Proofs.YtipepbnmllbonaaDoor
open Go.RowKit

theorem elemS : Tryd.prog.elem 33 = 9 := by kernel_rfl
theorem addr_zero (g : Nat) : (⟨g, 0, none⟩ : Addr).add (0 * 1) = ⟨g, 0, none⟩ := by unfold Addr.add; split <;> simp_all
theorem slice_first (W : World) (g n cap k : Nat) (x : Int) (hx : x = k) (hk : k ≤ cap) :
    (Instr.slice 33 (.slice (some ⟨g, 0, none⟩) n cap) none (some (.int .i64 x)) (some (.int .i64 x))).run Tryd.prog W = .ok (.slice (some ⟨g, 0, none⟩) k k) W := by
  subst hx
  rw [run_slice_hm W 33 (some ⟨g, 0, none⟩) n cap (by kernel_rfl) .i64 .i64 k k (by omega) (by omega) (by omega), elemS, Tryd.sizeOf9]
  simp only [Result.andThen, sliced, Option.map, addr_zero, Int.toNat_natCast, Nat.sub_zero, ite_self]
theorem slice_to (W : World) (g n cap k : Nat) (x : Int) (hx : x = k) (hk : k ≤ cap) :
    (Instr.slice 33 (.slice (some ⟨g, 0, none⟩) n cap) none (some (.int .i64 x)) none).run Tryd.prog W = .ok (.slice (some ⟨g, 0, none⟩) k cap) W := by
  subst hx
  rw [run_slice_h W 33 (some ⟨g, 0, none⟩) n cap (by kernel_rfl) .i64 k (by omega) (by omega), elemS, Tryd.sizeOf9]
  simp only [Result.andThen, sliced, Option.map, addr_zero, Int.toNat_natCast, Nat.sub_zero, ite_self]
theorem slice_nil (W : World) (x : Int) (hx : x = 0) :
    (Instr.slice 33 (.slice none 0 0) none (some (.int .i64 x)) none).run Tryd.prog W = .ok (.slice none 0 0) W := by
  subst hx
  rw [run_slice_h W 33 none 0 0 (by kernel_rfl) .i64 0 (by omega) (by omega), elemS, Tryd.sizeOf9]
  rfl

/-- names[:k:k] -/
theorem implFirst (w : World) (v : Value) (ls : List (List UInt8)) (k : Nat) (h : Rd w v ls) (hn : ls ≠ []) (hk : k ≤ ls.length) :
    Calls Tryd.prog 42 #[v, .int .i64 k] w fun e w' => ∃ g, e = .returned (.slice (some ⟨g, 0, none⟩) k k) ∧ Rd w (.slice (some ⟨g, 0, none⟩) k k) (ls.take k) ∧ w' = w := by
  obtain ⟨g, cap, rfl, hg, hcap, hm, hcell⟩ := h.at hn
  have hsl := slice_first w g ls.length cap k k rfl (by omega)
  have HR := Lib.hid (show Rd w (.slice (some ⟨g, 0, none⟩) k k) (ls.take k) from ⟨some ⟨g, 0, none⟩, k, by rw [List.length_take, Nat.min_eq_left hk], by rw [List.length_take]; omega, by omega, .inr ⟨g, rfl, hg, fun j hj => by
    rw [List.length_take] at hj
    rw [hcell j (by omega), List.getElem_take]⟩⟩)
  clear hcell h
  go_enter Tryd.func42, Tryd.ntmps42
  go_wp2
  go_ret
  exact ⟨g, rfl, HR.out, rfl⟩

theorem join_path {ls : List (List UInt8)} (h : ls ≠ []) : 47 :: Lib.join ls [47] = pathL ls := by
  cases ls with
  | nil => exact absurd rfl h
  | cons x r =>
    rw [Lib.join_cons, pathL_ne (by simp), joinT_cons]
    congr 2
theorem joinLen {ls : List (List UInt8)} (h : fit ls = true) : (Lib.join ls [47]).length ≤ 246 := by
  by_cases hn : ls = []
  · subst hn; rw [Lib.join_nil]; simp
  · have h1 := pathL_len h
    rw [← join_path hn] at h1
    simp at h1; omega

set_option maxHeartbeats 1000000 in
theorem implPathOf (w : World) (v : Value) (ls : List (List UInt8)) (h : Rd w v ls) :
    Calls Tryd.prog 41 #[v] w fun e w' => e = .returned (.string (strOf (pathV ls))) ∧ Below w.heap.size w w' := by
  have CF := implFit w v ls h
  cases hf : fit ls with
  | false =>
    have HP := Lib.hid (show pathV ls = [] by unfold pathV; rw [hf]; rfl)
    rw [hf] at CF
    go_enter Tryd.func41, Tryd.ntmps41
    go_wp2_with (go_at_call 48; refine CF.mono ?_; rintro e w1 ⟨rfl, hb1⟩)
    go_ret
    exact ⟨ret_str (by rw [HP.out]; rfl), hb1⟩
  | true =>
    have HP := Lib.hid (show pathV ls = pathL ls by unfold pathV; rw [hf]; rfl)
    have hjl := joinLen hf
    have hl6 := (fit_mem hf).1
    rw [hf] at CF
    by_cases hn : ls = []
    · subst hn
      obtain ⟨a, cap, rfl, _⟩ := h
      have hadd := run_add [47] [] (by simp)
      rw [show strOf [47] = (⟨#[47]⟩ : ByteArray) from rfl, show strOf [] = (⟨#[]⟩ : ByteArray) from rfl] at hadd
      go_enter Tryd.func41, Tryd.ntmps41
      go_wp2_with (first
        | (go_at_call 48; refine CF.mono ?_; rintro e w1 ⟨rfl, hb1⟩)
        | (go_at_call 49; refine (Tryd.strings_Join_none _ _ _ _).mono ?_; rintro e w2 ⟨rfl, hw2⟩; rw [hw2]))
      go_ret
      exact ⟨ret_str (by rw [HP.out]; rfl), hb1⟩
    · have hadd := run_add [47] (Lib.join ls [47]) (by simp; omega)
      rw [show strOf [47] = (⟨#[47]⟩ : ByteArray) from rfl] at hadd
      have HQ := Lib.hid (show [47] ++ Lib.join ls [47] = pathL ls from join_path hn)
      have CJ := Lib.hid (show ∀ W, Below w.heap.size w W → Calls Tryd.prog 49 #[v, .string ⟨#[47]⟩] W fun e w' => e = .returned (.string (strOf (Lib.join ls [47]))) ∧ Below W.heap.size W w' from fun W hb => by
        obtain ⟨g, cap, rfl, hg, hcap, hm, hcell⟩ := (h.on hb).at hn
        unfold maxLen at hm
        have c := Tryd.strings_Join g 0 cap (ls.map strOf) ⟨#[47]⟩ W (fun j x hx => by
          rw [List.getElem?_map] at hx
          cases hq : ls[j]? with
          | none => rw [hq] at hx; cases hx
          | some y =>
            rw [hq] at hx; cases hx
            obtain ⟨hj, rfl⟩ := List.getElem?_eq_some_iff.1 hq
            rw [Nat.zero_add]; exact hcell j hj) hg (by rw [List.length_map]; omega) (by rw [List.length_map]; exact hcap) (by
            rw [List.map_map, show ((fun x : ByteArray => x.data.toList) ∘ strOf) = id from funext fun l => strOf_data l, List.map_id]
            show (Lib.join ls [47]).length ≤ _
            omega)
        rw [List.map_map, show ((fun x : ByteArray => x.data.toList) ∘ strOf) = id from funext fun l => strOf_data l, List.map_id, List.length_map] at c
        exact c)
      generalize Lib.join ls [47] = q at hadd HQ CJ
      clear h hn
      go_enter Tryd.func41, Tryd.ntmps41
      go_wp2_with (first
        | (go_at_call 48; refine CF.mono ?_; rintro e w1 ⟨rfl, hb1⟩; have CJ1 := CJ.out _ hb1)
        | (go_at_call 49; refine CJ1.mono ?_; rintro e w2 ⟨rfl, hb2⟩))
      go_ret
      exact ⟨ret_str (by rw [HP.out, ← HQ.out]; rfl), hb1.trans (hb2.mono hb1.size)⟩

theorem fit_drop {ns : List (List UInt8)} (h : fit ns = true) : fit ns.dropLast = true :=
  fit_of (by have := (fit_mem h).1; simp; omega) fun n hn => (fit_mem h).2 n (List.dropLast_subset _ hn)

set_option maxHeartbeats 1000000 in
theorem implDirOf (s : ByteArray) (w : World) (hs : s.size ≤ 2000000) :
    Calls Tryd.prog 25 #[.string s] w fun e w' => e = .returned (.string (strOf (dirV s.data.toList))) ∧ Below w.heap.size w w' := by
  have CN := implNamesOf s w hs
  have HJ := Lib.hid (show dirV s.data.toList = match namesO s.data.toList with | none => [] | some ns => if ns = [] then [] else pathL ns.dropLast from rfl)
  have HL := Lib.hid (show ∀ ns, namesO s.data.toList = some ns → fit ns = true from fun ns h => (namesO_is h).1)
  generalize namesO s.data.toList = no at CN HJ HL
  cases no with
  | none =>
    go_enter Tryd.func25, Tryd.ntmps25
    go_wp2_with (go_at_call 40; refine CN.mono ?_; rintro e w' ⟨v, rfl, hS, hb⟩)
    go_ret
    exact ⟨ret_str (by rw [HJ.out]; rfl), hb⟩
  | some ns =>
    have hfit := HL.out ns rfl
    clear HL
    by_cases hn : ns = []
    · subst hn
      go_enter Tryd.func25, Tryd.ntmps25
      go_wp2_with (go_at_call 40; refine CN.mono ?_; rintro e w' ⟨v, rfl, hS, hb⟩; obtain ⟨av, cv, rfl, _⟩ := hS.rd)
      go_ret
      exact ⟨ret_str (by rw [HJ.out]; rfl), hb⟩
    · have HQ := Lib.hid (show pathV (ns.take (ns.length - 1)) = pathL ns.dropLast by rw [← List.dropLast_eq_take]; unfold pathV; rw [fit_drop hfit]; rfl)
      have hpos : 1 ≤ ns.length := by
        cases ns with
        | nil => exact absurd rfl hn
        | cons => simp
      have hlt : ns.length ≤ 6 := (fit_mem hfit).1
      have hne : ((ns.length : Int) == 0) = false := by simp; omega
      have hsub : (ns.length : Int) - 1 = ((ns.length - 1 : Nat) : Int) := by omega
      have HN := Lib.hid hn
      clear hn hfit
      go_enter Tryd.func25, Tryd.ntmps25
      go_wp2_with fail
      refine CN.mono ?_
      rintro e W1 ⟨v, rfl, hS, hb⟩
      have hR : Rd W1 v ns := hS.rd
      have HS := Lib.hid hS
      have CF := Lib.hid (implFirst W1 v ns (ns.length - 1) hR HN.out (by omega))
      obtain ⟨av, cv, rfl, _⟩ := hR
      rw [← hsub] at CF
      clear hS hsub
      go_wp2_with (first
        | (go_at_call 42; refine CF.out.mono ?_; rintro e w2 ⟨g, rfl, hR2, hw2⟩; have CP := implPathOf _ _ _ hR2; rw [hw2])
        | (go_at_call 41; refine CP.mono ?_; rintro e w3 ⟨rfl, hb3⟩))
      go_ret
      exact ⟨ret_str (by rw [HJ.out, if_neg HN.out, HQ.out]), hb.trans (hb3.mono hb.size)⟩

set_option maxHeartbeats 1000000 in
theorem implBaseOf (s : ByteArray) (w : World) (hs : s.size ≤ 2000000) :
    Calls Tryd.prog 28 #[.string s] w fun e w' => e = .returned (.string (strOf (baseV s.data.toList))) ∧ Below w.heap.size w w' := by
  have CN := implNamesOf s w hs
  have HJ := Lib.hid (show baseV s.data.toList = match namesO s.data.toList with | none => [] | some ns => ns.getLastD [] from rfl)
  have HL := Lib.hid (show ∀ ns, namesO s.data.toList = some ns → ns.length ≤ 6 from fun ns h => (fit_mem (namesO_is h).1).1)
  generalize namesO s.data.toList = no at CN HJ HL
  cases no with
  | none =>
    go_enter Tryd.func28, Tryd.ntmps28
    go_wp2_with (go_at_call 40; refine CN.mono ?_; rintro e w' ⟨v, rfl, hS, hb⟩)
    go_ret
    exact ⟨ret_str (by rw [HJ.out]; rfl), hb⟩
  | some ns =>
    have hlt := HL.out ns rfl
    clear HL
    by_cases hn : ns = []
    · subst hn
      go_enter Tryd.func28, Tryd.ntmps28
      go_wp2_with (go_at_call 40; refine CN.mono ?_; rintro e w' ⟨v, rfl, hS, hb⟩; obtain ⟨av, cv, rfl, _⟩ := hS.rd)
      go_ret
      exact ⟨ret_str (by rw [HJ.out]; rfl), hb⟩
    · obtain ⟨ms, n, rfl⟩ : ∃ ms n, ns = ms ++ [n] := ⟨ns.dropLast, ns.getLast hn, (List.dropLast_concat_getLast hn).symm⟩
      have hln : (ms ++ [n]).length = ms.length + 1 := by simp
      rw [hln] at hlt
      have HQ := Lib.hid (show (ms ++ [n]).getLastD [] = n by simp)
      clear hn
      go_enter Tryd.func28, Tryd.ntmps28
      go_wp2_with fail
      refine CN.mono ?_
      rintro e W1 ⟨v, rfl, hS, hb⟩
      obtain ⟨g, cap, hv, hg, hcap, hm, hcell⟩ := (show Rd W1 v (ms ++ [n]) from hS.rd).at (by simp)
      rw [hln] at hv
      subst hv
      have hc := hcell ms.length (by simp)
      rw [List.getElem_concat_length (by rfl)] at hc
      have hm1 : ((ms.length + 1 : Nat) : Int) - 1 = (ms.length : Int) := by omega
      clear hcell hS
      go_wp2
      go_ret
      exact ⟨ret_str (by rw [HJ.out, HQ.out]), hb⟩
end Go.Proofs.YtipepbnmllbonaaDoor
