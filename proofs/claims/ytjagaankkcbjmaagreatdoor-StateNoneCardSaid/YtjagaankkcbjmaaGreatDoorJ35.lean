/-
  A QUEUE MORE, A QUEUE FEWER: what that does to a state in memory.
-/
import Derived.Test.YtjagaankkcbjmaaGreatDoorJ27
import Derived.Shelf.SlIter.Nil
import Derived.Shelf.SlIterI.Nil
import Derived.Shelf.SortM.Plain
import Derived.Shelf.SortM.SortNone
import Derived.Test.YtjagaankkcbjmaaGreatDoorProg
import Derived.Test.YtjagaankkcbjmaaGreatDoorJ34
import Derived.Test.YtjagaankkcbjmaaGreatDoorJ29
import Derived.Sort.KeysCollected
import Derived.Test.YtjagaankkcbjmaaGreatDoorJ19
import Derived.RangeFuncNested
import Derived.RangeFuncBound
import Derived.RangeFuncCalls
import Derived.RangeFuncLeaves
import Derived.RangeFuncBox
import Derived.Shelf.Abstract
import Derived.Shelf.RegionOpen
import Derived.OwnWalkIn
import Derived.TacticsInMore
import Derived.LoopNIn
import Derived.LoopIn
import Derived.Maps.AppendAt
namespace Go.Proofs.YtjagaankkcbjmaaGreatDoor
open Go.RowKit

/-- A pair more, by the order of names. -/
def insK {α : Type} (n : ByteArray) (x : α) : List (ByteArray × α) → List (ByteArray × α)
  | [] => [(n, x)]
  | y :: t => if B.cmpS n y.1 < 0 then (n, x) :: y :: t else y :: insK n x t
section
variable {w w2 w3 : World} {p : Nat} {ft : Ix → Nat → Prop} {d : Ad} {s : Sm} {Fq : Nat → Prop}
end
end Go.Proofs.YtjagaankkcbjmaaGreatDoor

/-
  makeQueue, dropQueue, by their contracts.
-/
namespace Go.Proofs.YtjagaankkcbjmaaGreatDoor
open Go.RowKit

/-- ActQueue's answer. -/
def queueM (s : Sm) (n : ByteArray) (k : Int) : Int × Sm := match findQ s.qs n with
  | some q => (if (q.most : Int) = k then 0 else 12, s)
  | none => if 16 ≤ s.qs.length then (5, s) else (0, { s with qs := insK n (F.newS k.toNat) s.qs })
theorem SAt.len_ps {w : World} {p : Nat} {ft : Ix → Nat → Prop} {d : Ad} {s : Sm} (h : SAt w p ft d s) : d.ps.length = s.qs.length := by
  have := congrArg List.length h.names
  simpa using this
end Go.Proofs.YtjagaankkcbjmaaGreatDoor

/-
  THE SHELF's CONTRACTS of maps.Keys, slices.Sorted and slices.Sort at queues' names and at links' sites, at this dump.
-/
namespace Go.Proofs
open Go.Shelf
def Tryz.keysQ_ren : Go.Shelf.Ren := ⟨fun | 7 => 132 | 10 => 212 | n => n, fun | 23 => 92 | 26 => 9 | 3 => 153 | 28 => 208 | 0 => 0 | 27 => 207 | 33 => 161 | 4 => 4 | n => n, fun | n => n⟩
theorem Tryz.keysQ : Go.Proofs.SlLaysZ.n7 Tryz.prog Tryz.keysQ_ren := {
  mixed := by kernel_rfl
  f7 := ⟨Tryz.f132.name, by decide, Tryz.func132.trans (congrArg some (by kernel_rfl))⟩
  f10 := ⟨Tryz.f212.name, by decide, Tryz.func212.trans (congrArg some (by kernel_rfl))⟩
  t0 := Tryz.underlying0
  a0 := Tryz.isAgg0
  z0 := Tryz.sizeOf0
  v0 := Tryz.zeroValue0
  t4 := Tryz.underlying4
  a4 := Tryz.isAgg4
  z4 := Tryz.sizeOf4
  v4 := Tryz.zeroValue4
  t23 := Tryz.underlying92
  a23 := Tryz.isAgg92
  z23 := Tryz.sizeOf92
  v23 := Tryz.zeroValue92
  t26 := Tryz.underlying9
  a26 := Tryz.isAgg9
  z26 := Tryz.sizeOf9
  v26 := Tryz.zeroValue9
  t27 := Tryz.underlying207
  a27 := Tryz.isAgg207
  z27 := Tryz.sizeOf207
  v27 := Tryz.zeroValue207
  t28 := Tryz.underlying208
  a28 := Tryz.isAgg208
  z28 := Tryz.sizeOf208
  v28 := Tryz.zeroValue208
  t33 := Tryz.underlying161
  a33 := Tryz.isAgg161
  z33 := Tryz.sizeOf161
  v33 := Tryz.zeroValue161 }
def Tryz.sortedS_ren : Go.Shelf.Ren := ⟨fun | 6 => 131 | 8 => 210 | 9 => 211 | 11 => 265 | 13 => 233 | 12 => 266 | 23 => 284 | 24 => 285 | 14 => 316 | 15 => 317 | 16 => 318 | 17 => 319 | 18 => 320 | 19 => 321 | 20 => 322 | 21 => 323 | 22 => 324 | 25 => 357 | 26 => 326 | 27 => 327 | 28 => 358 | 29 => 359 | 30 => 360 | 31 => 375 | n => n, fun | 26 => 9 | 28 => 208 | 24 => 43 | 0 => 0 | 3 => 3 | 37 => 72 | 48 => 334 | 50 => 32 | 4 => 4 | 40 => 326 | 39 => 325 | 45 => 331 | 5 => 5 | 9 => 9 | 51 => 361 | 55 => 364 | 57 => 384 | 58 => 341 | 33 => 161 | n => n, fun | n => n⟩
theorem Tryz.sortedS : Go.Proofs.SlLaysZ.n6 Tryz.prog Tryz.sortedS_ren := {
  mixed := by kernel_rfl
  f6 := ⟨Tryz.f131.name, by decide, Tryz.func131.trans (congrArg some (by kernel_rfl))⟩
  f8 := ⟨Tryz.f210.name, by decide, Tryz.func210.trans (congrArg some (by kernel_rfl))⟩
  f11 := ⟨Tryz.f265.name, by decide, Tryz.func265.trans (congrArg some (by kernel_rfl))⟩
  t0 := Tryz.underlying0
  a0 := Tryz.isAgg0
  z0 := Tryz.sizeOf0
  v0 := Tryz.zeroValue0
  t24 := Tryz.underlying43
  a24 := Tryz.isAgg43
  z24 := Tryz.sizeOf43
  v24 := Tryz.zeroValue43
  t26 := Tryz.underlying9
  a26 := Tryz.isAgg9
  z26 := Tryz.sizeOf9
  v26 := Tryz.zeroValue9
  t28 := Tryz.underlying208
  a28 := Tryz.isAgg208
  z28 := Tryz.sizeOf208
  v28 := Tryz.zeroValue208
  i26 := by kernel_rfl }
def Tryz.sortS_ren : Go.Shelf.Ren := ⟨fun | 6 => 211 | 8 => 233 | 9 => 266 | 19 => 284 | 20 => 285 | 21 => 316 | 22 => 317 | 23 => 318 | 24 => 319 | 25 => 320 | 26 => 321 | 27 => 322 | 28 => 323 | 29 => 324 | 36 => 357 | 31 => 326 | 32 => 327 | 37 => 358 | 38 => 359 | 39 => 360 | 41 => 375 | n => n, fun | 27 => 43 | 29 => 9 | 3 => 3 | 32 => 72 | 26 => 43 | 0 => 0 | 44 => 334 | 46 => 32 | 4 => 4 | 36 => 326 | 35 => 325 | 41 => 331 | 5 => 5 | 9 => 9 | 53 => 361 | 57 => 364 | 63 => 384 | 64 => 341 | n => n, fun | n => n⟩
theorem Tryz.sortS : Go.Proofs.SlLaysM.n6 Tryz.prog Tryz.sortS_ren := {
  mixed := by kernel_rfl
  f6 := ⟨Tryz.f211.name, by decide, Tryz.func211.trans (congrArg some (by kernel_rfl))⟩
  f8 := Tryz.func233.trans (congrArg some (by kernel_rfl))
  f9 := ⟨Tryz.f266.name, by decide, Tryz.func266.trans (congrArg some (by kernel_rfl))⟩
  f19 := Tryz.func284.trans (congrArg some (by kernel_rfl))
  f20 := Tryz.func285.trans (congrArg some (by kernel_rfl))
  f21 := ⟨Tryz.f316.name, by decide, Tryz.func316.trans (congrArg some (by kernel_rfl))⟩
  f22 := ⟨Tryz.f317.name, by decide, Tryz.func317.trans (congrArg some (by kernel_rfl))⟩
  f23 := ⟨Tryz.f318.name, by decide, Tryz.func318.trans (congrArg some (by kernel_rfl))⟩
  f24 := ⟨Tryz.f319.name, by decide, Tryz.func319.trans (congrArg some (by kernel_rfl))⟩
  f25 := ⟨Tryz.f320.name, by decide, Tryz.func320.trans (congrArg some (by kernel_rfl))⟩
  f26 := ⟨Tryz.f321.name, by decide, Tryz.func321.trans (congrArg some (by kernel_rfl))⟩
  f27 := ⟨Tryz.f322.name, by decide, Tryz.func322.trans (congrArg some (by kernel_rfl))⟩
  f28 := ⟨Tryz.f323.name, by decide, Tryz.func323.trans (congrArg some (by kernel_rfl))⟩
  f29 := ⟨Tryz.f324.name, by decide, Tryz.func324.trans (congrArg some (by kernel_rfl))⟩
  f31 := Tryz.func326.trans (congrArg some (by kernel_rfl))
  f32 := Tryz.func327.trans (congrArg some (by kernel_rfl))
  f36 := ⟨Tryz.f357.name, by decide, Tryz.func357.trans (congrArg some (by kernel_rfl))⟩
  f37 := ⟨Tryz.f358.name, by decide, Tryz.func358.trans (congrArg some (by kernel_rfl))⟩
  f38 := ⟨Tryz.f359.name, by decide, Tryz.func359.trans (congrArg some (by kernel_rfl))⟩
  f39 := ⟨Tryz.f360.name, by decide, Tryz.func360.trans (congrArg some (by kernel_rfl))⟩
  f41 := ⟨Tryz.f375.name, by decide, Tryz.func375.trans (congrArg some (by kernel_rfl))⟩
  t0 := Tryz.underlying0
  a0 := Tryz.isAgg0
  z0 := Tryz.sizeOf0
  v0 := Tryz.zeroValue0
  t3 := Tryz.underlying3
  a3 := Tryz.isAgg3
  z3 := Tryz.sizeOf3
  v3 := Tryz.zeroValue3
  t4 := Tryz.underlying4
  a4 := Tryz.isAgg4
  z4 := Tryz.sizeOf4
  v4 := Tryz.zeroValue4
  t5 := Tryz.underlying5
  a5 := Tryz.isAgg5
  z5 := Tryz.sizeOf5
  v5 := Tryz.zeroValue5
  t9 := Tryz.underlying9
  a9 := Tryz.isAgg9
  z9 := Tryz.sizeOf9
  v9 := Tryz.zeroValue9
  t26 := Tryz.underlying43
  a26 := Tryz.isAgg43
  z26 := Tryz.sizeOf43
  v26 := Tryz.zeroValue43
  t27 := Tryz.underlying43
  a27 := Tryz.isAgg43
  z27 := Tryz.sizeOf43
  v27 := Tryz.zeroValue43
  t29 := Tryz.underlying9
  a29 := Tryz.isAgg9
  z29 := Tryz.sizeOf9
  v29 := Tryz.zeroValue9
  t32 := Tryz.underlying72
  a32 := Tryz.isAgg72
  z32 := Tryz.sizeOf72
  v32 := Tryz.zeroValue72
  t35 := Tryz.underlying325
  a35 := Tryz.isAgg325
  z35 := Tryz.sizeOf325
  v35 := Tryz.zeroValue325
  t36 := Tryz.underlying326
  a36 := Tryz.isAgg326
  z36 := Tryz.sizeOf326
  v36 := Tryz.zeroValue326
  t41 := Tryz.underlying331
  a41 := Tryz.isAgg331
  z41 := Tryz.sizeOf331
  v41 := Tryz.zeroValue331
  t44 := Tryz.underlying334
  a44 := Tryz.isAgg334
  z44 := Tryz.sizeOf334
  v44 := Tryz.zeroValue334
  t46 := Tryz.underlying32
  a46 := Tryz.isAgg32
  z46 := Tryz.sizeOf32
  v46 := Tryz.zeroValue32
  t53 := Tryz.underlying361
  a53 := Tryz.isAgg361
  z53 := Tryz.sizeOf361
  v53 := Tryz.zeroValue361
  t57 := Tryz.underlying364
  a57 := Tryz.isAgg364
  z57 := Tryz.sizeOf364
  v57 := Tryz.zeroValue364
  t63 := Tryz.underlying384
  a63 := Tryz.isAgg384
  z63 := Tryz.sizeOf384
  v63 := Tryz.zeroValue384
  t64 := Tryz.underlying341
  a64 := Tryz.isAgg341
  z64 := Tryz.sizeOf341
  v64 := Tryz.zeroValue341 }
def Tryz.keysL_ren : Go.Shelf.Ren := ⟨fun | 7 => 137 | 10 => 219 | n => n, fun | 23 => 94 | 26 => 3 | 3 => 67 | 28 => 217 | 0 => 0 | 27 => 216 | 33 => 142 | 4 => 4 | n => n, fun | n => n⟩
theorem Tryz.keysL : Go.Proofs.SlLaysZI.n7 Tryz.prog Tryz.keysL_ren := {
  mixed := by kernel_rfl
  f7 := ⟨Tryz.f137.name, by decide, Tryz.func137.trans (congrArg some (by kernel_rfl))⟩
  f10 := ⟨Tryz.f219.name, by decide, Tryz.func219.trans (congrArg some (by kernel_rfl))⟩
  t0 := Tryz.underlying0
  a0 := Tryz.isAgg0
  z0 := Tryz.sizeOf0
  v0 := Tryz.zeroValue0
  t4 := Tryz.underlying4
  a4 := Tryz.isAgg4
  z4 := Tryz.sizeOf4
  v4 := Tryz.zeroValue4
  t23 := Tryz.underlying94
  a23 := Tryz.isAgg94
  z23 := Tryz.sizeOf94
  v23 := Tryz.zeroValue94
  t26 := Tryz.underlying3
  a26 := Tryz.isAgg3
  z26 := Tryz.sizeOf3
  v26 := Tryz.zeroValue3
  t27 := Tryz.underlying216
  a27 := Tryz.isAgg216
  z27 := Tryz.sizeOf216
  v27 := Tryz.zeroValue216
  t28 := Tryz.underlying217
  a28 := Tryz.isAgg217
  z28 := Tryz.sizeOf217
  v28 := Tryz.zeroValue217
  t33 := Tryz.underlying142
  a33 := Tryz.isAgg142
  z33 := Tryz.sizeOf142
  v33 := Tryz.zeroValue142 }
def Tryz.sortedI_ren : Go.Shelf.Ren := ⟨fun | 6 => 136 | 8 => 218 | 9 => 163 | 11 => 267 | 13 => 233 | 12 => 232 | 23 => 284 | 24 => 285 | 14 => 275 | 15 => 276 | 16 => 277 | 17 => 278 | 18 => 279 | 19 => 280 | 20 => 281 | 21 => 282 | 22 => 283 | 25 => 325 | 26 => 326 | 27 => 327 | 28 => 328 | 29 => 329 | 30 => 330 | 31 => 361 | n => n, fun | 26 => 3 | 28 => 217 | 24 => 87 | 0 => 0 | 3 => 3 | 37 => 72 | 48 => 334 | 50 => 32 | 4 => 4 | 40 => 326 | 39 => 325 | 45 => 331 | 5 => 5 | 9 => 9 | 51 => 361 | 55 => 364 | 57 => 384 | 58 => 341 | 33 => 142 | n => n, fun | n => n⟩
theorem Tryz.sortedI : Go.Proofs.SlLaysZI.n6 Tryz.prog Tryz.sortedI_ren := {
  mixed := by kernel_rfl
  f6 := ⟨Tryz.f136.name, by decide, Tryz.func136.trans (congrArg some (by kernel_rfl))⟩
  f8 := ⟨Tryz.f218.name, by decide, Tryz.func218.trans (congrArg some (by kernel_rfl))⟩
  f11 := ⟨Tryz.f267.name, by decide, Tryz.func267.trans (congrArg some (by kernel_rfl))⟩
  t0 := Tryz.underlying0
  a0 := Tryz.isAgg0
  z0 := Tryz.sizeOf0
  v0 := Tryz.zeroValue0
  t24 := Tryz.underlying87
  a24 := Tryz.isAgg87
  z24 := Tryz.sizeOf87
  v24 := Tryz.zeroValue87
  t26 := Tryz.underlying3
  a26 := Tryz.isAgg3
  z26 := Tryz.sizeOf3
  v26 := Tryz.zeroValue3
  t28 := Tryz.underlying217
  a28 := Tryz.isAgg217
  z28 := Tryz.sizeOf217
  v28 := Tryz.zeroValue217
  i26 := by kernel_rfl }
end Go.Proofs

/-
  names, wanting, by their contracts.
-/
namespace Go.Proofs.YtjagaankkcbjmaaGreatDoor
open Go.RowKit Go.Maps Go.Shelf Go.WideShapes Go.Sort

theorem own1_lower {w : World} {b c : Nat} {e : TypeId} {v : Value} {cs : List Value} (h : Own1 w b e v cs) (hc : c ≤ b) : Own1 w c e v cs := by
  refine ⟨h.1, ?_⟩
  rcases h.2 with hn | ⟨g, cap, cur, hv, hbg, rest⟩
  · exact .inl hn
  · exact .inr ⟨g, cap, cur, hv, Nat.le_trans hc hbg, rest⟩
theorem own1_same {w w' : World} {b : Nat} {e : TypeId} {v : Value} {cs : List Value} (h : Own1 w b e v cs) (hs : ∀ g, v.ownBlock = some g → w'.heap[g]? = w.heap[g]?) : Own1 w' b e v cs := by
  refine ⟨h.1, ?_⟩
  rcases h.2 with hn | ⟨g, cap, cur, hv, hbg, hg, rest⟩
  · exact .inl hn
  · exact .inr ⟨g, cap, cur, hv, hbg, by rw [hs g (by rw [hv]; rfl)]; exact hg, rest⟩
theorem cb_lt : ∀ (a b : List UInt8), Lib.compareBytes a b < 0 → a < b
  | [], [], h => by simp [Lib.compareBytes] at h
  | [], _ :: _, _ => List.nil_lt_cons _ _
  | _ :: _, [], h => by simp [Lib.compareBytes] at h
  | x :: a, y :: b, h => by
    unfold Lib.compareBytes at h
    rw [List.cons_lt_cons_iff]
    by_cases h1 : x < y
    · exact .inl h1
    · rw [if_neg h1] at h
      by_cases h2 : y < x
      · rw [if_pos h2] at h; simp at h
      · rw [if_neg h2] at h
        have e : x = y := UInt8.toNat_inj.1 (by rw [UInt8.lt_iff_toNat_lt] at h1 h2; omega)
        exact .inr ⟨e, cb_lt a b h⟩
/-- The names of a list rise. -/
def UpK {α : Type} (l : List (ByteArray × α)) : Prop := (l.map Prod.fst).Pairwise fun a b => B.cmpS a b < 0
theorem keysQ_sorted {l : List Pe} (ho : UpK l) {ss : List (List UInt8)} (hp : ss.Perm (strKeys (DofG pkl pd l))) : (ss.mergeSort (fun x y => decide (x ≤ y))).map Go.Proofs.encStr = scells (l.map Prod.fst) ∧ ss.length = l.length := by
  have h1 : (strKeys (DofG pkl pd l)).Perm (l.map fun e => e.1.data.toList) := by
    unfold DofG strKeys
    refine ((sorted_perm (entsG pkl pd l)).map _).trans ?_
    unfold entsG
    rw [List.map_map]
    exact List.Perm.refl _
  have h2 := hp.trans h1
  have h3 : (l.map fun e => e.1.data.toList).Pairwise fun a b => leB a b = true := by
    rw [List.pairwise_map]
    refine (List.pairwise_map.1 ho).imp fun {a b} h => ?_
    simp only [leB, decide_eq_true_eq]
    exact List.le_of_lt (cb_lt _ _ h)
  refine ⟨?_, by rw [h2.length_eq, List.length_map]⟩
  have h4 := mergeSort_of_perm h2
  rw [List.mergeSort_of_pairwise h3] at h4
  rw [show ss.mergeSort (fun x y => decide (x ≤ y)) = ss.mergeSort leB from rfl, h4]
  unfold scells
  rw [List.map_map, List.map_map]
  exact List.map_congr_left fun e _ => by simp [Go.Proofs.encStr]
theorem sortsS_at (m : Nat) : AnyZ.SortsIn Tryz.prog Tryz.sortedS_ren Fence.wide m :=
  ⟨fun blk off cap ss W hH hblk hsz => callsIn_wide.2 (AnyM.slices_Sort_string Tryz.sortS blk off cap ss W hH hblk hsz),
   fun p cap W => callsIn_wide.2 (AnyM.slices_Sort_string_none Tryz.sortS p cap W)⟩
theorem keysQ_at (mb : Option Nat) (W : World) : Calls Tryz.prog 132 #[.map mb] W fun e w' => e = .returned (.func (.func 212) #[] #[.pointer (some ⟨W.heap.size, 0, none⟩)]) ∧ w' = W.alloc (.cells #[.map mb] 92) :=
  callsIn_wide.1 (AnyZ.keys_in Tryz.keysQ Fence.wide 5 trivial rfl mb W)
set_option maxHeartbeats 1000000 in
theorem sortedQ_at (b : Nat) (l : List Pe) (w : World) (hown : DAt w b l) (ho : UpK l) (hlen : l.length ≤ 1000000) :
    Calls Tryz.prog 131 #[.func (.func 212) #[] #[.pointer (some ⟨w.heap.size, 0, none⟩)]] (w.alloc (.cells #[.map (some b)] 92)) fun e w' => ∃ v, e = .returned v ∧ Own1 w' w.heap.size 9 v (scells (l.map Prod.fst)) ∧ Below w.heap.size w w' := by
  have hbl := hown.lt
  have hsz : Maps.size (DofG pkl pd l) = l.length := by rw [size_DofG]
  have hseq : SeqGives Fence.wide 2 Tryz.prog 212 #[.pointer (some ⟨w.heap.size, 0, none⟩)] Go.Proofs.encStr (fun ss => ss.Perm (strKeys (DofG pkl pd l))) (Maps.size (DofG pkl pd l)) (w.alloc (.cells #[.map (some b)] 92)) :=
    AnyZ.keys_gives (ρ := Tryz.keysQ_ren) { Tryz.keysQ with } Fence.wide _ trivial rfl (by omega) w.heap.size b _ (DofG pkl pd l) _ (by simp) (by simp) (hown.same (Below.heap_alloc _ _ b hbl))
  refine (callsIn_wide.1 (AnyZ.sorted_in Tryz.sortedS Fence.wide 5 trivial trivial trivial trivial rfl (by omega) (sortsS_at _) (enters_of Tryz.func211 (by kernel_rfl) rfl) 212 #[.pointer (some ⟨w.heap.size, 0, none⟩)] trivial (enters_of Tryz.func212 (by kernel_rfl) rfl) _ _ (by rw [hsz]; unfold maxLen; omega) (by rw [hsz]; omega) _ hseq)).mono ?_
  rintro e w' ⟨v, ss, rfl, hS, hrow, _, hb⟩
  obtain ⟨h1, h2⟩ := keysQ_sorted ho hS
  rw [h1, h2] at hrow
  refine ⟨v, rfl, ?_, ((Below.refl _ w).alloc (Nat.le_refl _) _).trans (hb.mono (by simp))⟩
  have h3 : w'.ownsRow (w.alloc (.cells #[.map (some b)] 92)).heap.size 9 1 v (scells (l.map Prod.fst)).length (scells (l.map Prod.fst)) := by
    rw [show (scells (l.map Prod.fst)).length = l.length by simp [scells]]
    exact hrow
  exact own1_lower h3 (by simp)
/-- The numbers that are a map's keys. -/
theorem keysL_sorted {l : List Le} (ho : Up l) {ss : List Int} (hp : ss.Perm (intKeys (DofG lkl ld l))) : (ss.mergeSort (fun x y => decide (x ≤ y))).map encZ = icells (l.map Prod.fst) ∧ ss.length = l.length := by
  have h1 : (intKeys (DofG lkl ld l)).Perm (l.map Prod.fst) := by
    unfold DofG intKeys
    refine ((sorted_perm (entsG lkl ld l)).map _).trans ?_
    unfold entsG
    rw [List.map_map]
    exact List.Perm.refl _
  have h2 := hp.trans h1
  have h3 : (l.map Prod.fst).Pairwise fun a b => decide (a ≤ b) = true := by
    refine ho.imp fun {a b} h => ?_
    simp only [decide_eq_true_eq]
    omega
  refine ⟨?_, by rw [h2.length_eq, List.length_map]⟩
  have h4 : ss.mergeSort (fun x y => decide (x ≤ y)) = (l.map Prod.fst).mergeSort (fun x y => decide (x ≤ y)) := by
    refine List.Perm.eq_of_pairwise (le := fun a b : Int => decide (a ≤ b) = true) (fun a b _ _ h1 h2 => ?_) (List.pairwise_mergeSort (fun a b c h1 h2 => ?_) (fun a b => ?_) _) (List.pairwise_mergeSort (fun a b c h1 h2 => ?_) (fun a b => ?_) _) (((List.mergeSort_perm _ _).trans h2).trans (List.mergeSort_perm _ _).symm)
    · simp at h1 h2; omega
    · simp at h1 h2 ⊢; omega
    · simp; omega
    · simp at h1 h2 ⊢; omega
    · simp; omega
  rw [h4, List.mergeSort_of_pairwise h3]
  rfl
theorem sortsI_at (m : Nat) : AnyZI.SortsIn Tryz.prog Tryz.sortedI_ren Fence.wide m :=
  ⟨fun blk off cap ss W hH hblk hsz => callsIn_wide.2 (AnyM.slices_Sort_int Tryz.sortI blk off cap ss W hH hblk hsz),
   fun p cap W => callsIn_wide.2 (AnyM.slices_Sort_int_none Tryz.sortI p cap W)⟩
theorem keysL_at (mb : Option Nat) (W : World) : Calls Tryz.prog 137 #[.map mb] W fun e w' => e = .returned (.func (.func 219) #[] #[.pointer (some ⟨W.heap.size, 0, none⟩)]) ∧ w' = W.alloc (.cells #[.map mb] 94) :=
  callsIn_wide.1 (AnyZI.keys_in Tryz.keysL Fence.wide 5 trivial rfl mb W)
set_option maxHeartbeats 1000000 in
theorem sortedL_at (b : Nat) (l : List Le) (w : World) (hown : LAt w b l) (ho : Up l) (hlen : l.length ≤ 1000000) :
    Calls Tryz.prog 136 #[.func (.func 219) #[] #[.pointer (some ⟨w.heap.size, 0, none⟩)]] (w.alloc (.cells #[.map (some b)] 94)) fun e w' => ∃ v, e = .returned v ∧ Own1 w' w.heap.size 3 v (icells (l.map Prod.fst)) ∧ Below w.heap.size w w' := by
  have hbl := hown.lt
  have hsz : Maps.size (DofG lkl ld l) = l.length := by rw [size_DofG]
  have hseq : SeqGives Fence.wide 2 Tryz.prog 219 #[.pointer (some ⟨w.heap.size, 0, none⟩)] encZ (fun ss => ss.Perm (intKeys (DofG lkl ld l))) (Maps.size (DofG lkl ld l)) (w.alloc (.cells #[.map (some b)] 94)) :=
    AnyZI.keys_gives (ρ := Tryz.keysL_ren) { Tryz.keysL with } Fence.wide _ trivial rfl (by omega) w.heap.size b _ (DofG lkl ld l) _ (by simp) (by simp) (hown.same (Below.heap_alloc _ _ b hbl))
  refine (callsIn_wide.1 (AnyZI.sorted_in Tryz.sortedI Fence.wide 5 trivial trivial trivial trivial rfl (by omega) (sortsI_at _) (enters_of Tryz.func163 (by kernel_rfl) rfl) 219 #[.pointer (some ⟨w.heap.size, 0, none⟩)] trivial (enters_of Tryz.func219 (by kernel_rfl) rfl) _ _ (by rw [hsz]; unfold maxLen; omega) (by rw [hsz]; omega) _ hseq)).mono ?_
  rintro e w' ⟨v, ss, rfl, hS, hrow, _, hb⟩
  obtain ⟨h1, h2⟩ := keysL_sorted ho hS
  rw [h1, h2] at hrow
  refine ⟨v, rfl, ?_, ((Below.refl _ w).alloc (Nat.le_refl _) _).trans (hb.mono (by simp))⟩
  have h3 : w'.ownsRow (w.alloc (.cells #[.map (some b)] 94)).heap.size 3 1 v (icells (l.map Prod.fst)).length (icells (l.map Prod.fst)) := by
    rw [show (icells (l.map Prod.fst)).length = l.length by simp [icells]]
    exact hrow
  exact own1_lower h3 (by simp)
set_option maxRecDepth 20000 in
theorem names14_any (p : Nat) (G : Nat → Prop) (s : Sm) (w : World) (h : SS w p G s) (hu : UpK s.qs) (hl : s.qs.length ≤ 1000000) :
    Calls Tryz.prog 59 #[.pointer (some ⟨p, 0, none⟩)] w fun e w' => ∃ v, e = .returned v ∧ Own1 w' w.heap.size 9 v (scells (s.qs.map Prod.fst)) ∧ Below w.heap.size w w' := by
  obtain ⟨ft, d, hs, _⟩ := h
  have hS := sortedQ_at d.qm d.ps w hs.qmap (by unfold UpK; rw [hs.names]; exact hu) (by rw [hs.len_ps]; exact hl)
  rw [hs.names] at hS
  have hK := keysQ_at (some d.qm) w
  obtain ⟨c0, c1, c2, c3, c4, c5, c6, c7, c8, c9⟩ := cells10 hs.blk
  clear hs
  go_enter Tryz.func59, Tryz.ntmps59
  go_wp2_with fail
  refine hK.mono ?_
  rintro e w1 ⟨rfl, rfl⟩
  go_wp2_with fail
  refine hS.mono ?_
  rintro e w2 ⟨v, rfl, row, b⟩
  obtain ⟨va, vc, hv⟩ := row.row.slice
  subst hv
  clear hS hK
  go_wp2
  go_ret
  exact ⟨_, rfl, row, b⟩
set_option maxRecDepth 20000 in
theorem wanting14_any (p : Nat) (G : Nat → Prop) (s : Sm) (w : World) (h : SS w p G s) (hu : Up s.lk) (hl : s.lk.length ≤ 1000000) :
    Calls Tryz.prog 62 #[.pointer (some ⟨p, 0, none⟩)] w fun e w' => ∃ v, e = .returned v ∧ Own1 w' w.heap.size 3 v (icells (s.lk.map Prod.fst)) ∧ Below w.heap.size w w' := by
  obtain ⟨ft, d, hs, _⟩ := h
  have hlen : d.es.length = s.lk.length := by have := congrArg List.length hs.tos; simpa using this
  have hS := sortedL_at d.lm d.es w hs.lmap (by unfold Up; rw [hs.tos]; exact hu) (by rw [hlen]; exact hl)
  rw [hs.tos] at hS
  have hK := keysL_at (some d.lm) w
  obtain ⟨c0, c1, c2, c3, c4, c5, c6, c7, c8, c9⟩ := cells10 hs.blk
  clear hs
  go_enter Tryz.func62, Tryz.ntmps62
  go_wp2_with fail
  refine hK.mono ?_
  rintro e w1 ⟨rfl, rfl⟩
  go_wp2_with fail
  refine hS.mono ?_
  rintro e w2 ⟨v, rfl, row, b⟩
  obtain ⟨va, vc, hv⟩ := row.row.slice
  subst hv
  clear hS hK
  go_wp2
  go_ret
  exact ⟨_, rfl, row, b⟩
end Go.Proofs.YtjagaankkcbjmaaGreatDoor

/-
  PACKAGE seen: the function that all hands back, by its contract.
-/
namespace Go.Proofs.YtjagaankkcbjmaaGreatDoor.S
open Go.RowKit Go.Shelf
set_option maxRecDepth 20000

attribute [local go_sem] Oper.semAt_some

/-- The places of those of which there is something, below k. -/
def liveK (f : Nat → List (Nat × Nat)) (k : Nat) : List Nat := (List.range k).filter fun i => decide (0 < topL (f i))
def liveL (f : Nat → List (Nat × Nat)) : List Nat := liveK f 8
theorem liveK_len (f : Nat → List (Nat × Nat)) (k : Nat) : (liveK f k).length ≤ k := by
  have := List.length_filter_le (fun i => decide (0 < topL (f i))) (List.range k)
  simpa [liveK] using this
theorem liveK_yes {f : Nat → List (Nat × Nat)} {k : Nat} (h : 0 < topL (f k)) : liveK f (k + 1) = liveK f k ++ [k] := by simp [liveK, List.range_succ, List.filter_append, h]
theorem liveK_no {f : Nat → List (Nat × Nat)} {k : Nat} (h : ¬ 0 < topL (f k)) : liveK f (k + 1) = liveK f k := by simp [liveK, List.range_succ, List.filter_append, h]
theorem liveK_pre {f : Nat → List (Nat × Nat)} {k m : Nat} (h : k ≤ m) : liveK f k <+: liveK f m := by
  obtain ⟨d, rfl⟩ := Nat.exists_eq_add_of_le h
  induction d with
  | zero => exact List.prefix_refl _
  | succ d ih =>
    refine (ih (by omega)).trans ?_
    rw [← Nat.add_assoc]
    by_cases ht : 0 < topL (f (k + d))
    · rw [liveK_yes ht]; exact List.prefix_append _ _
    · rw [liveK_no ht]; exact List.prefix_refl _

/-- What a book hands back for each origin, however memory grows. -/
def Gives (w : World) (b : Value) (s : Nat → Value) (f : Nat → List (Nat × Nat)) : Prop := ∀ V, Below w.heap.size w V → ∀ i : Nat, i < 8 → Calls Tryz.prog 134 #[b, .int .i64 ((i : Int) + 1)] V (fun e w' => e = .returned (s i) ∧ w' = V) ∧ Lies V (s i) (f i)
theorem Told.gives {w : World} {b : Value} {f : Nat → List (Nat × Nat)} (h : Told w b f) : ∃ s, Gives w b s f := by
  rcases h.way with ⟨rfl, rfl⟩ | ⟨p, s, rfl, hp, hs⟩
  · exact ⟨fun _ => .pointer none, fun V _ i _ => ⟨of_none _ _ V (.inl rfl) (.inl rfl), .inl ⟨rfl, rfl⟩⟩⟩
  · exact ⟨s, fun V hV i hi => ⟨of_ptr p i _ s V hi rfl (by rw [hV.block p (Array.getElem?_eq_some_iff.1 hp).1]; exact hp), (hs i hi).below hV (Nat.le_refl _)⟩⟩
/-- What a round keeps. -/
def KeepB (n₀ Bn : Nat) (W W' : World) : Prop := Below n₀ W W' ∧ W'.heap[Bn]? = W.heap[Bn]?
theorem keepB_t {n₀ Bn : Nat} {A B C : World} (h : KeepB n₀ Bn A B) (k : KeepB n₀ Bn B C) : KeepB n₀ Bn A C := ⟨h.1.trans k.1, k.2.trans h.2⟩
theorem keepB_b {n₀ Bn : Nat} {w : World} (hn : n₀ ≤ w.heap.size) (hB : Bn < w.heap.size) (W : World) (l : Nat) (o o' : Obj) (hl : w.heap.size ≤ l) (h : W.heap[l]? = some o) (h1 : o.isCells = false) (h2 : o.isWalk = false) : KeepB n₀ Bn W (W.putObj l o') :=
  ⟨belowK_b hn W l o o' hl h h1 h2, World.putObj_heap_other (by omega)⟩

theorem all_any (q : Option Addr) (w : World) :
    Calls Tryz.prog 133 #[.pointer q] w fun e w' => e = .returned (.func (.func 213) #[] #[.pointer (some ⟨w.heap.size, 0, none⟩)]) ∧ w' = w.alloc (.cells #[.pointer q] 93) := by
  go_enter Tryz.func133, Tryz.ntmps133
  go_wp2
  go_ret
  exact ⟨rfl, rfl⟩

set_option maxRecDepth 100000 in
set_option maxHeartbeats 2000000 in
theorem all1_in (n : Nat) (_hn : 1 ≤ n) (l Bn : Nat) (b : Value) (s : Nat → Value) (f : Nat → List (Nat × Nat)) (w : World) (hg : Gives w b s f) (J Jx : List Nat → World → Prop)
    (hY : ∀ (pre : List Nat) (x : Nat) (W : World), x < 8 → J pre W → pre.length < 8 → YieldAt Fence.wide (n - 1) Tryz.prog l #[.int .i64 ((x : Int) + 1), s x] W fun e W' =>
      (e = .returned (.bool true) ∧ J (pre ++ [x]) W' ∧ KeepB w.heap.size Bn W W') ∨ (e = .returned (.bool false) ∧ Jx (pre ++ [x]) W'))
    (W : World) (hW : Below w.heap.size w W) (hBn : W.cell? ⟨Bn, 0, none⟩ = some b) (h0 : J [] W) :
    CallsIn Fence.wide n Tryz.prog 213 #[.func (.yield l) #[] #[], .pointer (some ⟨Bn, 0, none⟩)] W fun e W' => (∃ v, e = .returned v) ∧
      ((∃ ys, ys = liveL f ∧ J ys W') ∨ (∃ pre, pre <+: liveL f ∧ Jx pre W')) := by
  refine callsIn_of_wp Tryz.func213 rfl trivial ?_ rfl
  simp only [Tryz.ntmps213, List.size_toArray, List.length_cons, List.length_nil, Nat.reduceAdd, Nat.reduceSub, Array.replicate_succ, Array.replicate_zero, List.push_toArray, List.append_toArray, List.nil_append, List.cons_append]
  gi_wp2
  gi_loopw [3] (fun p wr => ∃ k : Nat, p = .int .i64 ((k : Int) + 1) ∧ k ≤ 8 ∧ Below w.heap.size w wr ∧ wr.cell? ⟨Bn, 0, none⟩ = some b ∧ J (liveK f k) wr)
    (fun p _ => 9 - (intOf p).toNat)
  case atStart => exact ⟨0, rfl, by omega, hW, hBn, h0⟩
  case round =>
    obtain ⟨k, rfl, hk, hB, hc, hJ⟩ := hrel
    have hKn := known_any ((k : Int) + 1) wr
    by_cases hlt : k < 8
    · rw [show knownB ((k : Int) + 1) = true from decide_eq_true (by omega)] at hKn
      obtain ⟨hO, hL⟩ := hg wr hB k hlt
      have hT := top_any (s k) (f k) wr hL
      obtain ⟨q, hq⟩ := hL.ptr
      have hst := @liveK_yes f k
      have hst2 := @liveK_no f k
      have HP : Hid (liveK f k ++ [k] = liveK f (k + 1) → liveK f k ++ [k] <+: liveL f) := fun e => by rw [e]; exact liveK_pre (by omega)
      have hYk := hY (liveK f k) k wr hlt hJ (by have := liveK_len f k; omega)
      rw [hq] at hO hT hYk
      generalize hm : topL (f k) = m at hT hst hst2
      clear hm hL hY
      by_cases hp : 0 < m
      · have hd : decide ((0 : Int) < (m : Int)) = true := decide_eq_true (by omega)
        have HS : Hid (liveK f (k + 1) = liveK f k ++ [k]) := hst hp
        clear hst hst2
        obtain ⟨fn, tmps, assign, body, hy, hR⟩ := hYk
        gi_wp2_with (first
          | (refine ⟨trivial, ?_⟩; gi_at_call 214; refine (callsIn_wide.2 hKn).mono ?_; rintro e w' ⟨rfl, rfl⟩)
          | (refine ⟨trivial, ?_⟩; gi_at_call 134; refine (callsIn_wide.2 hO).mono ?_; rintro e w' ⟨rfl, rfl⟩)
          | (refine ⟨trivial, ?_⟩; gi_at_call 215; refine (callsIn_wide.2 hT).mono ?_; rintro e w' ⟨rfl, rfl⟩))
        refine hR.mono ?_
        rintro e W3 (⟨rfl, hJ3, hk3⟩ | ⟨rfl, hJx3⟩)
        · gi_wp2
          go_roundw
          case rel => exact ⟨k + 1, by go_num, by omega, hB.trans hk3.1, (World.cell?_of_block (a := ⟨Bn, 0, none⟩) hk3.2).trans hc, by rw [HS.out]; exact hJ3⟩
          case measure => simp [intOf]; omega
        · gi_wp2
          refine bodyPost_ret (results_none rfl _ _ _) rfl ?_
          exact ⟨⟨_, rfl⟩, .inr ⟨_, HP.out HS.out.symm, hJx3⟩⟩
      · have HS : Hid (liveK f (k + 1) = liveK f k) := hst2 hp
        clear hst hst2
        obtain rfl : m = 0 := by omega
        rw [show ((0 : Nat) : Int) = 0 from rfl] at hT
        gi_wp2_with (first
          | (refine ⟨trivial, ?_⟩; gi_at_call 214; refine (callsIn_wide.2 hKn).mono ?_; rintro e w' ⟨rfl, rfl⟩)
          | (refine ⟨trivial, ?_⟩; gi_at_call 134; refine (callsIn_wide.2 hO).mono ?_; rintro e w' ⟨rfl, rfl⟩)
          | (refine ⟨trivial, ?_⟩; gi_at_call 215; refine (callsIn_wide.2 hT).mono ?_; rintro e w' ⟨rfl, rfl⟩))
        refine ⟨fun f h => (by cases h), ?_⟩
        gi_wp2
        go_roundw
        case rel => exact ⟨k + 1, by go_num, by omega, hB, hc, by rw [HS.out]; exact hJ⟩
        case measure => simp [intOf]; omega
    · obtain rfl : k = 8 := by omega
      rw [show knownB (((8 : Nat) : Int) + 1) = false from rfl] at hKn
      gi_wp2_with (refine ⟨trivial, ?_⟩; gi_at_call 214; refine (callsIn_wide.2 hKn).mono ?_; rintro e w' ⟨rfl, rfl⟩)
      go_end0
      exact ⟨⟨_, rfl⟩, .inl ⟨_, rfl, hJ⟩⟩
end Go.Proofs.YtjagaankkcbjmaaGreatDoor.S
