/- Generic library functions laid at this program, each a table of numbers and one theorem. slices.Delete and slices.SortFunc over the row of the tree that is worked on. -/
import Derived.Shelf.SlGeneric
import Derived.Shelf.SlicesE.Delete
import Derived.Ground.SlgnProg
import Derived.Shelf.SlSortCmp.Whole1
import Derived.Shelf.SlSortCmp.NoneTotal
import Derived.Ground.SlsfProg
import Derived.Test.YtipedabppgbfcaaGreatDoorProg
import Derived.Test.YtipedabppgbfcaaGreatDoorK23
set_option linter.all false
namespace Go.Proofs
open Go.Shelf
def Tryz.wkDel_ren : Go.Shelf.Ren := ⟨fun | 45 => 160 | n => n, fun | 22 => 135 | 23 => 149 | 3 => 3 | 4 => 4 | 0 => 0 | n => n, fun | n => n⟩
theorem Tryz.wkDel : Go.Proofs.SlLaysE.n45 Tryz.prog Tryz.wkDel_ren := {
  mixed := by kernel_rfl
  f45 := ⟨Tryz.f160.name, by decide, Tryz.func160.trans (congrArg some (by kernel_rfl))⟩
  t0 := Tryz.underlying0
  a0 := Tryz.isAgg0
  z0 := Tryz.sizeOf0
  v0 := Tryz.zeroValue0
  t3 := Tryz.underlying3
  a3 := Tryz.isAgg3
  z3 := Tryz.sizeOf3
  v3 := Tryz.zeroValue3
  t4 := Tryz.underlying4
  a4 := Tryz.isAgg4
  z4 := Tryz.sizeOf4
  v4 := Tryz.zeroValue4
  t22 := Tryz.underlying135
  a22 := Tryz.isAgg135
  z22 := Tryz.sizeOf135
  v22 := Tryz.zeroValue135
  a23 := Tryz.isAgg149
  z23 := Tryz.sizeOf149 }
def Tryz.wkSort_ren : Go.Shelf.Ren := ⟨fun | 6 => 161 | 15 => 184 | 14 => 183 | 28 => 207 | 29 => 208 | 20 => 199 | 21 => 200 | 22 => 201 | 23 => 202 | 24 => 203 | 25 => 204 | 26 => 205 | 27 => 206 | 46 => 218 | 47 => 219 | 48 => 220 | 49 => 221 | 50 => 222 | 57 => 234 | n => n, fun | 22 => 135 | 24 => 149 | 25 => 183 | 3 => 3 | 39 => 167 | 0 => 0 | 53 => 185 | 55 => 226 | 4 => 4 | 46 => 219 | 45 => 218 | 50 => 172 | 5 => 5 | 9 => 9 | 66 => 233 | 70 => 237 | 76 => 247 | 77 => 248 | n => n, fun | n => n⟩
theorem Tryz.wkSort : Go.Proofs.SlLaysF.n6 Tryz.prog Tryz.wkSort_ren := {
  mixed := by kernel_rfl
  f6 := ⟨Tryz.f161.name, by decide, Tryz.func161.trans (congrArg some (by kernel_rfl))⟩
  f14 := ⟨Tryz.f183.name, by decide, Tryz.func183.trans (congrArg some (by kernel_rfl))⟩
  f15 := Tryz.func184.trans (congrArg some (by kernel_rfl))
  f20 := ⟨Tryz.f199.name, by decide, Tryz.func199.trans (congrArg some (by kernel_rfl))⟩
  f21 := ⟨Tryz.f200.name, by decide, Tryz.func200.trans (congrArg some (by kernel_rfl))⟩
  f22 := ⟨Tryz.f201.name, by decide, Tryz.func201.trans (congrArg some (by kernel_rfl))⟩
  f23 := ⟨Tryz.f202.name, by decide, Tryz.func202.trans (congrArg some (by kernel_rfl))⟩
  f24 := ⟨Tryz.f203.name, by decide, Tryz.func203.trans (congrArg some (by kernel_rfl))⟩
  f25 := ⟨Tryz.f204.name, by decide, Tryz.func204.trans (congrArg some (by kernel_rfl))⟩
  f26 := ⟨Tryz.f205.name, by decide, Tryz.func205.trans (congrArg some (by kernel_rfl))⟩
  f27 := ⟨Tryz.f206.name, by decide, Tryz.func206.trans (congrArg some (by kernel_rfl))⟩
  f28 := Tryz.func207.trans (congrArg some (by kernel_rfl))
  f29 := Tryz.func208.trans (congrArg some (by kernel_rfl))
  f46 := ⟨Tryz.f218.name, by decide, Tryz.func218.trans (congrArg some (by kernel_rfl))⟩
  f47 := Tryz.func219.trans (congrArg some (by kernel_rfl))
  f48 := Tryz.func220.trans (congrArg some (by kernel_rfl))
  f49 := ⟨Tryz.f221.name, by decide, Tryz.func221.trans (congrArg some (by kernel_rfl))⟩
  f50 := ⟨Tryz.f222.name, by decide, Tryz.func222.trans (congrArg some (by kernel_rfl))⟩
  f57 := ⟨Tryz.f234.name, by decide, Tryz.func234.trans (congrArg some (by kernel_rfl))⟩
  t0 := Tryz.underlying0
  a0 := Tryz.isAgg0
  z0 := Tryz.sizeOf0
  v0 := Tryz.zeroValue0
  t3 := Tryz.underlying3
  a3 := Tryz.isAgg3
  z3 := Tryz.sizeOf3
  v3 := Tryz.zeroValue3
  t4 := Tryz.underlying4
  a4 := Tryz.isAgg4
  z4 := Tryz.sizeOf4
  v4 := Tryz.zeroValue4
  t5 := Tryz.underlying5
  a5 := Tryz.isAgg5
  z5 := Tryz.sizeOf5
  v5 := Tryz.zeroValue5
  t9 := Tryz.underlying9
  a9 := Tryz.isAgg9
  z9 := Tryz.sizeOf9
  v9 := Tryz.zeroValue9
  t22 := Tryz.underlying135
  a22 := Tryz.isAgg135
  z22 := Tryz.sizeOf135
  v22 := Tryz.zeroValue135
  a24 := Tryz.isAgg149
  z24 := Tryz.sizeOf149
  t25 := Tryz.underlying183
  a25 := Tryz.isAgg183
  z25 := Tryz.sizeOf183
  v25 := Tryz.zeroValue183
  t39 := Tryz.underlying167
  a39 := Tryz.isAgg167
  z39 := Tryz.sizeOf167
  v39 := Tryz.zeroValue167
  t45 := Tryz.underlying218
  a45 := Tryz.isAgg218
  z45 := Tryz.sizeOf218
  v45 := Tryz.zeroValue218
  t46 := Tryz.underlying219
  a46 := Tryz.isAgg219
  z46 := Tryz.sizeOf219
  v46 := Tryz.zeroValue219
  t50 := Tryz.underlying172
  a50 := Tryz.isAgg172
  z50 := Tryz.sizeOf172
  v50 := Tryz.zeroValue172
  t53 := Tryz.underlying185
  a53 := Tryz.isAgg185
  z53 := Tryz.sizeOf185
  v53 := Tryz.zeroValue185
  t55 := Tryz.underlying226
  a55 := Tryz.isAgg226
  z55 := Tryz.sizeOf226
  v55 := Tryz.zeroValue226
  t66 := Tryz.underlying233
  a66 := Tryz.isAgg233
  z66 := Tryz.sizeOf233
  v66 := Tryz.zeroValue233
  t70 := Tryz.underlying237
  a70 := Tryz.isAgg237
  z70 := Tryz.sizeOf237
  v70 := Tryz.zeroValue237
  t76 := Tryz.underlying247
  a76 := Tryz.isAgg247
  z76 := Tryz.sizeOf247
  v76 := Tryz.zeroValue247
  t77 := Tryz.underlying248
  a77 := Tryz.isAgg248
  z77 := Tryz.sizeOf248
  v77 := Tryz.zeroValue248 }
end Go.Proofs
namespace Go.Proofs.YtipedabppgbfcaaGreatDoor
open Go.RowKit Go.Sort
variable {R : World}

/-- An element of the row: a node's interface value, or the nil one. -/
def wkEnc : Option (Nat × Nd) → Value
  | none => .nilIface
  | some q => wkVal q
theorem wkEnc_one : OneCell wkEnc := fun x => by cases x <;> rfl
theorem putRow_own {α : Type} [Inhabited α] (enc : α → Value) {w : World} {B g cap : Nat} {e : TypeId} {cur : Array Value} (hg : w.heap[g]? = some (.cells cur e (0, 0))) (hs : cur.size = cap) (hcm : cap ≤ maxLen) (hB : B ≤ g) (d : Array α) (hd : d.size ≤ cap) (m : Nat) (hm : m ≤ d.size) (q : Nat) :
    (putRow enc (Sort.ahead w q) g 0 d).ownsRow B e 1 (.slice (some ⟨g, 0, none⟩) m cap) m ((d.toList.take m).map enc) ∧ w.grownBy (putRow enc (Sort.ahead w q) g 0 d) (some g) := by
  refine ⟨⟨by simp; omega, .inr ⟨g, cap, putCells enc 0 d cur, rfl, hB, ?_, by omega, hcm, by simp [putCells, hs], ?_⟩⟩, ⟨rfl, rfl, rfl, by simp [putRow, mapBlock, Sort.ahead], fun k hk hne => ?_⟩⟩
  · show (Array.modify w.heap g (onCells (putCells enc 0 d)))[g]? = _
    rw [Array.getElem?_modify, if_pos rfl, hg]
    rfl
  · apply List.ext_getElem?
    intro k
    rw [Nat.mul_one, List.getElem?_take, List.getElem?_map, List.getElem?_take]
    by_cases hk : k < m
    · rw [if_pos hk, if_pos hk]
      unfold putCells
      rw [Array.getElem?_toList, Array.getElem?_mapIdx, Array.getElem?_eq_getElem (by omega), Array.getElem?_toList, Array.getElem?_eq_getElem (by omega)]
      simp only [Option.map_some]
      rw [if_pos ⟨Nat.zero_le _, by omega⟩]
      rw [Nat.sub_zero, getElem!_pos d k (by omega)]
    · rw [if_neg hk, if_neg hk]; rfl
  · show (Array.modify w.heap g (onCells (putCells enc 0 d)))[k]? = _
    rw [Array.getElem?_modify, if_neg (fun e => hne (by rw [e]))]

set_option maxRecDepth 100000 in
set_option maxHeartbeats 1000000 in
theorem wkDelete (w : World) (B p : Nat) (v : Value) (ps : List (Nat × Nd)) (next : Int) (h : Work R w B p v ps next) (i : Nat) (hi : i < ps.length) :
    Calls Tryz.prog 160 #[v, .int .i64 i, .int .i64 ((i : Int) + 1)] w fun e w' => ∃ v', e = .returned v' ∧ w'.ownsRow B 149 1 v' (ps.take i ++ ps.drop (i + 1)).length ((ps.take i ++ ps.drop (i + 1)).map wkVal) ∧ w.grownBy w' v.ownBlock := by
  rcases h.form with ⟨_, rfl⟩ | ⟨g, cap, rfl, hB, hg, hc, hf, hl, hm, cur, hgc, hcs⟩
  · simp at hi
  obtain ⟨j0, ji, jz0, jz1, jz2⟩ := info_parts infoWk
  have hH : Holds wkEnc w g 0 (ps.map some).toArray := fun j hj => by
    have hj2 : j < ps.length := by simpa using hj
    refine ⟨?_, by rw [Nat.zero_add]; exact hf j⟩
    rw [Nat.zero_add, hc j hj2, getElem!_pos _ j hj]
    simp [wkEnc]
  have hm2 : cap ≤ 9223372036854775807 := hm
  have CD := AnyE.slices_Delete Tryz.wkDel wkEnc wkEnc_one none (fun w => Tryz.zeroValue149 w) j0 ji jz1 g 0 cap i (i + 1) (ps.map some).toArray w hH (by simpa using hl) hm2 (by omega) (by simp; omega)
  have hsz : (ps.map some).toArray.size = ps.length := by simp
  rw [hsz] at CD
  change Calls Tryz.prog 160 _ _ _ at CD
  rw [show ((i : Int) + 1) = ((i + 1 : Nat) : Int) by omega]
  refine CD.mono ?_
  rintro e w' ⟨rfl, q, rfl⟩
  obtain ⟨h1, h2⟩ := putRow_own wkEnc (B := B) hgc hcs hm hB ((ps.map some).toArray.toList.take i ++ (ps.map some).toArray.toList.drop (i + 1) ++ List.replicate (i + 1 - i) none).toArray (by simp; omega) (ps.length - (i + 1 - i)) (by simp; omega) q
  refine ⟨_, rfl, ?_, h2⟩
  have e1 : (ps.take i ++ ps.drop (i + 1)).length = ps.length - (i + 1 - i) := by simp; omega
  have e2 : (((ps.map some).toArray.toList.take i ++ (ps.map some).toArray.toList.drop (i + 1) ++ List.replicate (i + 1 - i) none).toArray.toList.take (ps.length - (i + 1 - i))).map wkEnc = (ps.take i ++ ps.drop (i + 1)).map wkVal := by
    rw [List.toList_toArray, List.take_append_of_le_length (by simp; omega), List.take_of_length_le (by simp; omega)]
    simp only [List.toList_toArray, ← List.map_take, ← List.map_drop, ← List.map_append, List.map_map]
    rfl
  rw [e2, ← e1] at h1
  rw [← e1]
  exact h1
end Go.Proofs.YtipedabppgbfcaaGreatDoor
