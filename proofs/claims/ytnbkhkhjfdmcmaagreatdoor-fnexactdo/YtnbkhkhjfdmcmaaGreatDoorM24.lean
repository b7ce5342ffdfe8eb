/- Generic library functions laid at this program, each a table of numbers and one theorem. slices.Delete and slices.SortFunc over the row of the tree that is worked on. -/
import Derived.Shelf.SlGeneric
import Derived.Shelf.SlicesE.Delete
import Derived.Ground.SlgnProg
import Derived.Shelf.SlSortCmp.Whole1
import Derived.Shelf.SlSortCmp.NoneTotal
import Derived.Ground.SlsfProg
import Derived.Test.YtnbkhkhjfdmcmaaGreatDoorProg
import Derived.Test.YtnbkhkhjfdmcmaaGreatDoorM23
namespace Go.Proofs
open Go.Shelf
def Tryz.wkDel_ren : Go.Shelf.Ren := ⟨fun | 45 => 168 | n => n, fun | 22 => 136 | 23 => 150 | 3 => 3 | 4 => 4 | 0 => 0 | n => n, fun | n => n⟩
theorem Tryz.wkDel : Go.Proofs.SlLaysE.n45 Tryz.prog Tryz.wkDel_ren := {
  mixed := by kernel_rfl
  f45 := ⟨Tryz.f168.name, by decide, Tryz.func168.trans (congrArg some (by kernel_rfl))⟩
  t0 := Tryz.underlying0
  a0 := Tryz.isAgg0
  z0 := Tryz.sizeOf0
  v0 := Tryz.zeroValue0
  t3 := Tryz.underlying3
  a3 := Tryz.isAgg3
  z3 := Tryz.sizeOf3
  v3 := Tryz.zeroValue3
  t4 := Tryz.underlying4
  a4 := Tryz.isAgg4
  z4 := Tryz.sizeOf4
  v4 := Tryz.zeroValue4
  t22 := Tryz.underlying136
  a22 := Tryz.isAgg136
  z22 := Tryz.sizeOf136
  v22 := Tryz.zeroValue136
  a23 := Tryz.isAgg150
  z23 := Tryz.sizeOf150 }
def Tryz.wkSort_ren : Go.Shelf.Ren := ⟨fun | 6 => 169 | 15 => 198 | 14 => 197 | 28 => 225 | 29 => 226 | 20 => 217 | 21 => 218 | 22 => 219 | 23 => 220 | 24 => 221 | 25 => 222 | 26 => 223 | 27 => 224 | 46 => 244 | 47 => 245 | 48 => 246 | 49 => 247 | 50 => 248 | 57 => 256 | n => n, fun | 22 => 136 | 24 => 150 | 25 => 189 | 3 => 3 | 39 => 173 | 0 => 0 | 53 => 203 | 55 => 243 | 4 => 4 | 46 => 236 | 45 => 235 | 50 => 178 | 5 => 5 | 9 => 9 | 66 => 260 | 70 => 264 | 76 => 276 | 77 => 277 | n => n, fun | n => n⟩
theorem Tryz.wkSort : Go.Proofs.SlLaysF.n6 Tryz.prog Tryz.wkSort_ren := {
  mixed := by kernel_rfl
  f6 := ⟨Tryz.f169.name, by decide, Tryz.func169.trans (congrArg some (by kernel_rfl))⟩
  f14 := ⟨Tryz.f197.name, by decide, Tryz.func197.trans (congrArg some (by kernel_rfl))⟩
  f15 := Tryz.func198.trans (congrArg some (by kernel_rfl))
  f20 := ⟨Tryz.f217.name, by decide, Tryz.func217.trans (congrArg some (by kernel_rfl))⟩
  f21 := ⟨Tryz.f218.name, by decide, Tryz.func218.trans (congrArg some (by kernel_rfl))⟩
  f22 := ⟨Tryz.f219.name, by decide, Tryz.func219.trans (congrArg some (by kernel_rfl))⟩
  f23 := ⟨Tryz.f220.name, by decide, Tryz.func220.trans (congrArg some (by kernel_rfl))⟩
  f24 := ⟨Tryz.f221.name, by decide, Tryz.func221.trans (congrArg some (by kernel_rfl))⟩
  f25 := ⟨Tryz.f222.name, by decide, Tryz.func222.trans (congrArg some (by kernel_rfl))⟩
  f26 := ⟨Tryz.f223.name, by decide, Tryz.func223.trans (congrArg some (by kernel_rfl))⟩
  f27 := ⟨Tryz.f224.name, by decide, Tryz.func224.trans (congrArg some (by kernel_rfl))⟩
  f28 := Tryz.func225.trans (congrArg some (by kernel_rfl))
  f29 := Tryz.func226.trans (congrArg some (by kernel_rfl))
  f46 := ⟨Tryz.f244.name, by decide, Tryz.func244.trans (congrArg some (by kernel_rfl))⟩
  f47 := Tryz.func245.trans (congrArg some (by kernel_rfl))
  f48 := Tryz.func246.trans (congrArg some (by kernel_rfl))
  f49 := ⟨Tryz.f247.name, by decide, Tryz.func247.trans (congrArg some (by kernel_rfl))⟩
  f50 := ⟨Tryz.f248.name, by decide, Tryz.func248.trans (congrArg some (by kernel_rfl))⟩
  f57 := ⟨Tryz.f256.name, by decide, Tryz.func256.trans (congrArg some (by kernel_rfl))⟩
  t0 := Tryz.underlying0
  a0 := Tryz.isAgg0
  z0 := Tryz.sizeOf0
  v0 := Tryz.zeroValue0
  t3 := Tryz.underlying3
  a3 := Tryz.isAgg3
  z3 := Tryz.sizeOf3
  v3 := Tryz.zeroValue3
  t4 := Tryz.underlying4
  a4 := Tryz.isAgg4
  z4 := Tryz.sizeOf4
  v4 := Tryz.zeroValue4
  t5 := Tryz.underlying5
  a5 := Tryz.isAgg5
  z5 := Tryz.sizeOf5
  v5 := Tryz.zeroValue5
  t9 := Tryz.underlying9
  a9 := Tryz.isAgg9
  z9 := Tryz.sizeOf9
  v9 := Tryz.zeroValue9
  t22 := Tryz.underlying136
  a22 := Tryz.isAgg136
  z22 := Tryz.sizeOf136
  v22 := Tryz.zeroValue136
  a24 := Tryz.isAgg150
  z24 := Tryz.sizeOf150
  t25 := Tryz.underlying189
  a25 := Tryz.isAgg189
  z25 := Tryz.sizeOf189
  v25 := Tryz.zeroValue189
  t39 := Tryz.underlying173
  a39 := Tryz.isAgg173
  z39 := Tryz.sizeOf173
  v39 := Tryz.zeroValue173
  t45 := Tryz.underlying235
  a45 := Tryz.isAgg235
  z45 := Tryz.sizeOf235
  v45 := Tryz.zeroValue235
  t46 := Tryz.underlying236
  a46 := Tryz.isAgg236
  z46 := Tryz.sizeOf236
  v46 := Tryz.zeroValue236
  t50 := Tryz.underlying178
  a50 := Tryz.isAgg178
  z50 := Tryz.sizeOf178
  v50 := Tryz.zeroValue178
  t53 := Tryz.underlying203
  a53 := Tryz.isAgg203
  z53 := Tryz.sizeOf203
  v53 := Tryz.zeroValue203
  t55 := Tryz.underlying243
  a55 := Tryz.isAgg243
  z55 := Tryz.sizeOf243
  v55 := Tryz.zeroValue243
  t66 := Tryz.underlying260
  a66 := Tryz.isAgg260
  z66 := Tryz.sizeOf260
  v66 := Tryz.zeroValue260
  t70 := Tryz.underlying264
  a70 := Tryz.isAgg264
  z70 := Tryz.sizeOf264
  v70 := Tryz.zeroValue264
  t76 := Tryz.underlying276
  a76 := Tryz.isAgg276
  z76 := Tryz.sizeOf276
  v76 := Tryz.zeroValue276
  t77 := Tryz.underlying277
  a77 := Tryz.isAgg277
  z77 := Tryz.sizeOf277
  v77 := Tryz.zeroValue277 }
end Go.Proofs
namespace Go.Proofs.YtnbkhkhjfdmcmaaGreatDoor
open Go.RowKit Go.Sort

/-- An element of the row: a node's interface value, or the nil one. -/
def wkEnc : Option (Nat × Nd) → Value
  | none => .nilIface
  | some q => wkVal q
theorem wkEnc_one : OneCell wkEnc := fun x => by cases x <;> rfl
theorem putRow_own {α : Type} [Inhabited α] (enc : α → Value) {w : World} {B g cap : Nat} {e : TypeId} {cur : Array Value} (hg : w.heap[g]? = some (.cells cur e (0, 0))) (hs : cur.size = cap) (hcm : cap ≤ maxLen) (hB : B ≤ g) (d : Array α) (hd : d.size ≤ cap) (m : Nat) (hm : m ≤ d.size) (q : Nat) :
    (putRow enc (Sort.ahead w q) g 0 d).ownsRow B e 1 (.slice (some ⟨g, 0, none⟩) m cap) m ((d.toList.take m).map enc) ∧ w.grownBy (putRow enc (Sort.ahead w q) g 0 d) (some g) := by
  refine ⟨⟨by simp; omega, .inr ⟨g, cap, putCells enc 0 d cur, rfl, hB, ?_, by omega, hcm, by simp [putCells, hs], ?_⟩⟩, ⟨rfl, rfl, rfl, by simp [putRow, mapBlock, Sort.ahead], fun k hk hne => ?_⟩⟩
  · show (Array.modify w.heap g (onCells (putCells enc 0 d)))[g]? = _
    rw [Array.getElem?_modify, if_pos rfl, hg]
    rfl
  · apply List.ext_getElem?
    intro k
    rw [Nat.mul_one, List.getElem?_take, List.getElem?_map, List.getElem?_take]
    by_cases hk : k < m
    · rw [if_pos hk, if_pos hk]
      unfold putCells
      rw [Array.getElem?_toList, Array.getElem?_mapIdx, Array.getElem?_eq_getElem (by omega), Array.getElem?_toList, Array.getElem?_eq_getElem (by omega)]
      simp only [Option.map_some]
      rw [if_pos ⟨Nat.zero_le _, by omega⟩]
      rw [Nat.sub_zero, getElem!_pos d k (by omega)]
    · rw [if_neg hk, if_neg hk]; rfl
  · show (Array.modify w.heap g (onCells (putCells enc 0 d)))[k]? = _
    rw [Array.getElem?_modify, if_neg (fun e => hne (by rw [e]))]

set_option maxRecDepth 100000 in
set_option maxHeartbeats 1000000 in
theorem wkDelete (w : World) (B p : Nat) (v : Value) (ps : List (Nat × Nd)) (next : Int) (h : Work w B p v ps next) (i : Nat) (hi : i < ps.length) :
    Calls Tryz.prog 168 #[v, .int .i64 i, .int .i64 ((i : Int) + 1)] w fun e w' => ∃ v', e = .returned v' ∧ w'.ownsRow B 150 1 v' (ps.take i ++ ps.drop (i + 1)).length ((ps.take i ++ ps.drop (i + 1)).map wkVal) ∧ w.grownBy w' v.ownBlock := by
  rcases h.form with ⟨_, rfl⟩ | ⟨g, cap, rfl, hB, hg, hc, hf, hl, hm, cur, hgc, hcs⟩
  · simp at hi
  obtain ⟨j0, ji, jz0, jz1, jz2⟩ := info_parts infoWk
  have hH : Holds wkEnc w g 0 (ps.map some).toArray := fun j hj => by
    have hj2 : j < ps.length := by simpa using hj
    refine ⟨?_, by rw [Nat.zero_add]; exact hf j⟩
    rw [Nat.zero_add, hc j hj2, getElem!_pos _ j hj]
    simp [wkEnc]
  have hm2 : cap ≤ 9223372036854775807 := hm
  have CD := AnyE.slices_Delete Tryz.wkDel wkEnc wkEnc_one none (fun w => Tryz.zeroValue150 w) j0 ji jz1 g 0 cap i (i + 1) (ps.map some).toArray w hH (by simpa using hl) hm2 (by omega) (by simp; omega)
  have hsz : (ps.map some).toArray.size = ps.length := by simp
  rw [hsz] at CD
  change Calls Tryz.prog 168 _ _ _ at CD
  rw [show ((i : Int) + 1) = ((i + 1 : Nat) : Int) by omega]
  refine CD.mono ?_
  rintro e w' ⟨rfl, q, rfl⟩
  obtain ⟨h1, h2⟩ := putRow_own wkEnc (B := B) hgc hcs hm hB ((ps.map some).toArray.toList.take i ++ (ps.map some).toArray.toList.drop (i + 1) ++ List.replicate (i + 1 - i) none).toArray (by simp; omega) (ps.length - (i + 1 - i)) (by simp; omega) q
  refine ⟨_, rfl, ?_, h2⟩
  have e1 : (ps.take i ++ ps.drop (i + 1)).length = ps.length - (i + 1 - i) := by simp; omega
  have e2 : (((ps.map some).toArray.toList.take i ++ (ps.map some).toArray.toList.drop (i + 1) ++ List.replicate (i + 1 - i) none).toArray.toList.take (ps.length - (i + 1 - i))).map wkEnc = (ps.take i ++ ps.drop (i + 1)).map wkVal := by
    rw [List.toList_toArray, List.take_append_of_le_length (by simp; omega), List.take_of_length_le (by simp; omega)]
    simp only [List.toList_toArray, ← List.map_take, ← List.map_drop, ← List.map_append, List.map_map]
    rfl
  rw [e2, ← e1] at h1
  rw [← e1]
  exact h1
end Go.Proofs.YtnbkhkhjfdmcmaaGreatDoor
