import Derived.Shelf.SlIter.Nil
import Derived.Shelf.SlIterI.Nil
import Derived.Shelf.SortM.Plain
import Derived.Shelf.SortM.SortNone
import Derived.Test.YtjagaankkcbjmaaGreatDoorProg
import Derived.Test.YtjagaankkcbjmaaGreatDoorQr30
import Derived.Test.YtjagaankkcbjmaaGreatDoorQr23
import Derived.Sort.KeysCollected
import Derived.Test.YtjagaankkcbjmaaGreatDoorQr29
import Derived.Test.YtjagaankkcbjmaaGreatDoorQr10
import Derived.Test.YtjagaankkcbjmaaGreatDoorQr28
import Derived.Test.YtjagaankkcbjmaaGreatDoorQr13
set_option maxHeartbeats 1000000
set_option maxRecDepth 20000
namespace Go.Proofs
open Go.Shelf
def Tryz.keysQ_ren : Go.Shelf.Ren := ⟨fun | 7 => 132 | 10 => 212 | n => n,fun | 23 => 92 | 26 => 9 | 3 => 153 | 28 => 208 | 0 => 0 | 27 => 207 | 33 => 161 | 4 => 4 | n => n,fun | n => n⟩
theorem Tryz.keysQ : Go.Proofs.SlLaysZ.n7 Tryz.prog Tryz.keysQ_ren := {
 mixed := by kernel_rfl
 f7 := ⟨Tryz.f132.name,by decide,Tryz.func132.trans (congrArg some (by kernel_rfl))⟩
 f10 := ⟨Tryz.f212.name,by decide,Tryz.func212.trans (congrArg some (by kernel_rfl))⟩
 t0 := Tryz.underlying0
 a0 := Tryz.isAgg0
 z0 := Tryz.sizeOf0
 v0 := Tryz.zeroValue0
 t4 := Tryz.underlying4
 a4 := Tryz.isAgg4
 z4 := Tryz.sizeOf4
 v4 := Tryz.zeroValue4
 t23 := Tryz.underlying92
 a23 := Tryz.isAgg92
 z23 := Tryz.sizeOf92
 v23 := Tryz.zeroValue92
 t26 := Tryz.underlying9
 a26 := Tryz.isAgg9
 z26 := Tryz.sizeOf9
 v26 := Tryz.zeroValue9
 t27 := Tryz.underlying207
 a27 := Tryz.isAgg207
 z27 := Tryz.sizeOf207
 v27 := Tryz.zeroValue207
 t28 := Tryz.underlying208
 a28 := Tryz.isAgg208
 z28 := Tryz.sizeOf208
 v28 := Tryz.zeroValue208
 t33 := Tryz.underlying161
 a33 := Tryz.isAgg161
 z33 := Tryz.sizeOf161
 v33 := Tryz.zeroValue161 }
def Tryz.sortedS_ren : Go.Shelf.Ren := ⟨fun | 6 => 131 | 8 => 210 | 9 => 211 | 11 => 265 | 13 => 233 | 12 => 266 | 23 => 284 | 24 => 285 | 14 => 316 | 15 => 317 | 16 => 318 | 17 => 319 | 18 => 320 | 19 => 321 | 20 => 322 | 21 => 323 | 22 => 324 | 25 => 357 | 26 => 326 | 27 => 327 | 28 => 358 | 29 => 359 | 30 => 360 | 31 => 375 | n => n,fun | 26 => 9 | 28 => 208 | 24 => 43 | 0 => 0 | 3 => 3 | 37 => 72 | 48 => 334 | 50 => 32 | 4 => 4 | 40 => 326 | 39 => 325 | 45 => 331 | 5 => 5 | 9 => 9 | 51 => 361 | 55 => 364 | 57 => 384 | 58 => 341 | 33 => 161 | n => n,fun | n => n⟩
theorem Tryz.sortedS : Go.Proofs.SlLaysZ.n6 Tryz.prog Tryz.sortedS_ren := {
 mixed := by kernel_rfl
 f6 := ⟨Tryz.f131.name,by decide,Tryz.func131.trans (congrArg some (by kernel_rfl))⟩
 f8 := ⟨Tryz.f210.name,by decide,Tryz.func210.trans (congrArg some (by kernel_rfl))⟩
 f11 := ⟨Tryz.f265.name,by decide,Tryz.func265.trans (congrArg some (by kernel_rfl))⟩
 t0 := Tryz.underlying0
 a0 := Tryz.isAgg0
 z0 := Tryz.sizeOf0
 v0 := Tryz.zeroValue0
 t24 := Tryz.underlying43
 a24 := Tryz.isAgg43
 z24 := Tryz.sizeOf43
 v24 := Tryz.zeroValue43
 t26 := Tryz.underlying9
 a26 := Tryz.isAgg9
 z26 := Tryz.sizeOf9
 v26 := Tryz.zeroValue9
 t28 := Tryz.underlying208
 a28 := Tryz.isAgg208
 z28 := Tryz.sizeOf208
 v28 := Tryz.zeroValue208
 i26 := by kernel_rfl }
def Tryz.sortS_ren : Go.Shelf.Ren := ⟨fun | 6 => 211 | 8 => 233 | 9 => 266 | 19 => 284 | 20 => 285 | 21 => 316 | 22 => 317 | 23 => 318 | 24 => 319 | 25 => 320 | 26 => 321 | 27 => 322 | 28 => 323 | 29 => 324 | 36 => 357 | 31 => 326 | 32 => 327 | 37 => 358 | 38 => 359 | 39 => 360 | 41 => 375 | n => n,fun | 27 => 43 | 29 => 9 | 3 => 3 | 32 => 72 | 26 => 43 | 0 => 0 | 44 => 334 | 46 => 32 | 4 => 4 | 36 => 326 | 35 => 325 | 41 => 331 | 5 => 5 | 9 => 9 | 53 => 361 | 57 => 364 | 63 => 384 | 64 => 341 | n => n,fun | n => n⟩
theorem Tryz.sortS : Go.Proofs.SlLaysM.n6 Tryz.prog Tryz.sortS_ren := {
 mixed := by kernel_rfl
 f6 := ⟨Tryz.f211.name,by decide,Tryz.func211.trans (congrArg some (by kernel_rfl))⟩
 f8 := Tryz.func233.trans (congrArg some (by kernel_rfl))
 f9 := ⟨Tryz.f266.name,by decide,Tryz.func266.trans (congrArg some (by kernel_rfl))⟩
 f19 := Tryz.func284.trans (congrArg some (by kernel_rfl))
 f20 := Tryz.func285.trans (congrArg some (by kernel_rfl))
 f21 := ⟨Tryz.f316.name,by decide,Tryz.func316.trans (congrArg some (by kernel_rfl))⟩
 f22 := ⟨Tryz.f317.name,by decide,Tryz.func317.trans (congrArg some (by kernel_rfl))⟩
 f23 := ⟨Tryz.f318.name,by decide,Tryz.func318.trans (congrArg some (by kernel_rfl))⟩
 f24 := ⟨Tryz.f319.name,by decide,Tryz.func319.trans (congrArg some (by kernel_rfl))⟩
 f25 := ⟨Tryz.f320.name,by decide,Tryz.func320.trans (congrArg some (by kernel_rfl))⟩
 f26 := ⟨Tryz.f321.name,by decide,Tryz.func321.trans (congrArg some (by kernel_rfl))⟩
 f27 := ⟨Tryz.f322.name,by decide,Tryz.func322.trans (congrArg some (by kernel_rfl))⟩
 f28 := ⟨Tryz.f323.name,by decide,Tryz.func323.trans (congrArg some (by kernel_rfl))⟩
 f29 := ⟨Tryz.f324.name,by decide,Tryz.func324.trans (congrArg some (by kernel_rfl))⟩
 f31 := Tryz.func326.trans (congrArg some (by kernel_rfl))
 f32 := Tryz.func327.trans (congrArg some (by kernel_rfl))
 f36 := ⟨Tryz.f357.name,by decide,Tryz.func357.trans (congrArg some (by kernel_rfl))⟩
 f37 := ⟨Tryz.f358.name,by decide,Tryz.func358.trans (congrArg some (by kernel_rfl))⟩
 f38 := ⟨Tryz.f359.name,by decide,Tryz.func359.trans (congrArg some (by kernel_rfl))⟩
 f39 := ⟨Tryz.f360.name,by decide,Tryz.func360.trans (congrArg some (by kernel_rfl))⟩
 f41 := ⟨Tryz.f375.name,by decide,Tryz.func375.trans (congrArg some (by kernel_rfl))⟩
 t0 := Tryz.underlying0
 a0 := Tryz.isAgg0
 z0 := Tryz.sizeOf0
 v0 := Tryz.zeroValue0
 t3 := Tryz.underlying3
 a3 := Tryz.isAgg3
 z3 := Tryz.sizeOf3
 v3 := Tryz.zeroValue3
 t4 := Tryz.underlying4
 a4 := Tryz.isAgg4
 z4 := Tryz.sizeOf4
 v4 := Tryz.zeroValue4
 t5 := Tryz.underlying5
 a5 := Tryz.isAgg5
 z5 := Tryz.sizeOf5
 v5 := Tryz.zeroValue5
 t9 := Tryz.underlying9
 a9 := Tryz.isAgg9
 z9 := Tryz.sizeOf9
 v9 := Tryz.zeroValue9
 t26 := Tryz.underlying43
 a26 := Tryz.isAgg43
 z26 := Tryz.sizeOf43
 v26 := Tryz.zeroValue43
 t27 := Tryz.underlying43
 a27 := Tryz.isAgg43
 z27 := Tryz.sizeOf43
 v27 := Tryz.zeroValue43
 t29 := Tryz.underlying9
 a29 := Tryz.isAgg9
 z29 := Tryz.sizeOf9
 v29 := Tryz.zeroValue9
 t32 := Tryz.underlying72
 a32 := Tryz.isAgg72
 z32 := Tryz.sizeOf72
 v32 := Tryz.zeroValue72
 t35 := Tryz.underlying325
 a35 := Tryz.isAgg325
 z35 := Tryz.sizeOf325
 v35 := Tryz.zeroValue325
 t36 := Tryz.underlying326
 a36 := Tryz.isAgg326
 z36 := Tryz.sizeOf326
 v36 := Tryz.zeroValue326
 t41 := Tryz.underlying331
 a41 := Tryz.isAgg331
 z41 := Tryz.sizeOf331
 v41 := Tryz.zeroValue331
 t44 := Tryz.underlying334
 a44 := Tryz.isAgg334
 z44 := Tryz.sizeOf334
 v44 := Tryz.zeroValue334
 t46 := Tryz.underlying32
 a46 := Tryz.isAgg32
 z46 := Tryz.sizeOf32
 v46 := Tryz.zeroValue32
 t53 := Tryz.underlying361
 a53 := Tryz.isAgg361
 z53 := Tryz.sizeOf361
 v53 := Tryz.zeroValue361
 t57 := Tryz.underlying364
 a57 := Tryz.isAgg364
 z57 := Tryz.sizeOf364
 v57 := Tryz.zeroValue364
 t63 := Tryz.underlying384
 a63 := Tryz.isAgg384
 z63 := Tryz.sizeOf384
 v63 := Tryz.zeroValue384
 t64 := Tryz.underlying341
 a64 := Tryz.isAgg341
 z64 := Tryz.sizeOf341
 v64 := Tryz.zeroValue341 }
def Tryz.keysL_ren : Go.Shelf.Ren := ⟨fun | 7 => 137 | 10 => 219 | n => n,fun | 23 => 94 | 26 => 3 | 3 => 67 | 28 => 217 | 0 => 0 | 27 => 216 | 33 => 142 | 4 => 4 | n => n,fun | n => n⟩
theorem Tryz.keysL : Go.Proofs.SlLaysZI.n7 Tryz.prog Tryz.keysL_ren := {
 mixed := by kernel_rfl
 f7 := ⟨Tryz.f137.name,by decide,Tryz.func137.trans (congrArg some (by kernel_rfl))⟩
 f10 := ⟨Tryz.f219.name,by decide,Tryz.func219.trans (congrArg some (by kernel_rfl))⟩
 t0 := Tryz.underlying0
 a0 := Tryz.isAgg0
 z0 := Tryz.sizeOf0
 v0 := Tryz.zeroValue0
 t4 := Tryz.underlying4
 a4 := Tryz.isAgg4
 z4 := Tryz.sizeOf4
 v4 := Tryz.zeroValue4
 t23 := Tryz.underlying94
 a23 := Tryz.isAgg94
 z23 := Tryz.sizeOf94
 v23 := Tryz.zeroValue94
 t26 := Tryz.underlying3
 a26 := Tryz.isAgg3
 z26 := Tryz.sizeOf3
 v26 := Tryz.zeroValue3
 t27 := Tryz.underlying216
 a27 := Tryz.isAgg216
 z27 := Tryz.sizeOf216
 v27 := Tryz.zeroValue216
 t28 := Tryz.underlying217
 a28 := Tryz.isAgg217
 z28 := Tryz.sizeOf217
 v28 := Tryz.zeroValue217
 t33 := Tryz.underlying142
 a33 := Tryz.isAgg142
 z33 := Tryz.sizeOf142
 v33 := Tryz.zeroValue142 }
def Tryz.sortedI_ren : Go.Shelf.Ren := ⟨fun | 6 => 136 | 8 => 218 | 9 => 163 | 11 => 267 | 13 => 233 | 12 => 232 | 23 => 284 | 24 => 285 | 14 => 275 | 15 => 276 | 16 => 277 | 17 => 278 | 18 => 279 | 19 => 280 | 20 => 281 | 21 => 282 | 22 => 283 | 25 => 325 | 26 => 326 | 27 => 327 | 28 => 328 | 29 => 329 | 30 => 330 | 31 => 361 | n => n,fun | 26 => 3 | 28 => 217 | 24 => 87 | 0 => 0 | 3 => 3 | 37 => 72 | 48 => 334 | 50 => 32 | 4 => 4 | 40 => 326 | 39 => 325 | 45 => 331 | 5 => 5 | 9 => 9 | 51 => 361 | 55 => 364 | 57 => 384 | 58 => 341 | 33 => 142 | n => n,fun | n => n⟩
theorem Tryz.sortedI : Go.Proofs.SlLaysZI.n6 Tryz.prog Tryz.sortedI_ren := {
 mixed := by kernel_rfl
 f6 := ⟨Tryz.f136.name,by decide,Tryz.func136.trans (congrArg some (by kernel_rfl))⟩
 f8 := ⟨Tryz.f218.name,by decide,Tryz.func218.trans (congrArg some (by kernel_rfl))⟩
 f11 := ⟨Tryz.f267.name,by decide,Tryz.func267.trans (congrArg some (by kernel_rfl))⟩
 t0 := Tryz.underlying0
 a0 := Tryz.isAgg0
 z0 := Tryz.sizeOf0
 v0 := Tryz.zeroValue0
 t24 := Tryz.underlying87
 a24 := Tryz.isAgg87
 z24 := Tryz.sizeOf87
 v24 := Tryz.zeroValue87
 t26 := Tryz.underlying3
 a26 := Tryz.isAgg3
 z26 := Tryz.sizeOf3
 v26 := Tryz.zeroValue3
 t28 := Tryz.underlying217
 a28 := Tryz.isAgg217
 z28 := Tryz.sizeOf217
 v28 := Tryz.zeroValue217
 i26 := by kernel_rfl }
end Go.Proofs
namespace Go.Proofs.YtjagaankkcbjmaaGreatDoor
open Go.RowKit Go.Maps Go.Shelf Go.WideShapes Go.Sort
theorem own1_lower {w : World} {b c : Nat} {e : TypeId} {v : Value} {cs : List Value} (h : Own1 w b e v cs) (hc : c <= b) : Own1 w c e v cs := by
 refine ⟨h.1,?_⟩
 rcases h.2 with hn | ⟨g,cap,cur,hv,hbg,rest⟩
 ·exact .inl hn
 ·exact .inr ⟨g,cap,cur,hv,Nat.le_trans hc hbg,rest⟩
theorem own1_same {w w' : World} {b : Nat} {e : TypeId} {v : Value} {cs : List Value} (h : Own1 w b e v cs) (hs : ∀ g,v.ownBlock = some g -> w'.heap[g]? = w.heap[g]?) : Own1 w' b e v cs := by
 refine ⟨h.1,?_⟩
 rcases h.2 with hn | ⟨g,cap,cur,hv,hbg,hg,rest⟩
 ·exact .inl hn
 ·exact .inr ⟨g,cap,cur,hv,hbg,by rw [hs g (by rw [hv]; rfl)]; exact hg,rest⟩
theorem cb_lt : ∀ (a b : List UInt8),Lib.compareBytes a b < 0 -> a < b
 |[],[],h => by simp [Lib.compareBytes] at h
 |[],_ :: _,_ => List.nil_lt_cons _ _
 |_ :: _,[],h => by simp [Lib.compareBytes] at h
 |x :: a,y :: b,h => by
  unfold Lib.compareBytes at h
  rw [List.cons_lt_cons_iff]
  by_cases h1 : x < y
  ·exact .inl h1
  ·rw [if_neg h1] at h
   by_cases h2 : y < x
   ·rw [if_pos h2] at h; simp at h
   ·rw [if_neg h2] at h
    have e : x = y := UInt8.toNat_inj.1 (by rw [UInt8.lt_iff_toNat_lt] at h1 h2; omega)
    exact .inr ⟨e,cb_lt a b h⟩
def UpK {α : Type} (l : List (ByteArray × α)) : Prop := (l.map Prod.fst).Pairwise fun a b => B.cmpS a b < 0
theorem keysQ_sorted {l : List Pe} (ho : UpK l) {ss : List (List UInt8)} (hp : ss.Perm (strKeys (DofG pkl pd l))) : (ss.mergeSort (fun x y => decide (x <= y))).map Go.Proofs.encStr = scells (l.map Prod.fst) /\ ss.length = l.length := by
 have h1 : (strKeys (DofG pkl pd l)).Perm (l.map fun e => e.1.data.toList) := by
  unfold DofG strKeys
  refine ((sorted_perm (entsG pkl pd l)).map _).trans ?_
  unfold entsG
  rw [List.map_map]
  exact List.Perm.refl _
 have h2 := hp.trans h1
 have h3 : (l.map fun e => e.1.data.toList).Pairwise fun a b => leB a b = true := by
  rw [List.pairwise_map]
  refine (List.pairwise_map.1 ho).imp fun {a b} h => ?_
  simp only [leB,decide_eq_true_eq]
  exact List.le_of_lt (cb_lt _ _ h)
 refine ⟨?_,by rw [h2.length_eq,List.length_map]⟩
 have h4 := mergeSort_of_perm h2
 rw [List.mergeSort_of_pairwise h3] at h4
 rw [show ss.mergeSort (fun x y => decide (x <= y)) = ss.mergeSort leB from rfl,h4]
 unfold scells
 rw [List.map_map,List.map_map]
 exact List.map_congr_left fun e _ => by simp [Go.Proofs.encStr]
theorem sortsS_at (m : Nat) : AnyZ.SortsIn Tryz.prog Tryz.sortedS_ren Fence.wide m :=
 ⟨fun blk off cap ss W hH hblk hsz => callsIn_wide.2 (AnyM.slices_Sort_string Tryz.sortS blk off cap ss W hH hblk hsz),
  fun p cap W => callsIn_wide.2 (AnyM.slices_Sort_string_none Tryz.sortS p cap W)⟩
theorem keysQ_at (mb : Option Nat) (W : World) : Calls Tryz.prog 132 #[.map mb] W fun e w' => e = .returned (.func (.func 212) #[] #[.pointer (some ⟨W.heap.size,0,none⟩)]) /\ w' = W.alloc (.cells #[.map mb] 92) :=
 callsIn_wide.1 (AnyZ.keys_in Tryz.keysQ Fence.wide 5 trivial rfl mb W)
theorem sortedQ_at (b : Nat) (l : List Pe) (w : World) (hown : DAt w b l) (ho : UpK l) (hlen : l.length <= 1000000) :
  Calls Tryz.prog 131 #[.func (.func 212) #[] #[.pointer (some ⟨w.heap.size,0,none⟩)]] (w.alloc (.cells #[.map (some b)] 92)) fun e w' => ∃ v,e = .returned v /\ Own1 w' w.heap.size 9 v (scells (l.map Prod.fst)) /\ Below w.heap.size w w' := by
 have hbl := hown.lt
 have hsz : Maps.size (DofG pkl pd l) = l.length := by rw [size_DofG]
 have hseq : SeqGives Fence.wide 2 Tryz.prog 212 #[.pointer (some ⟨w.heap.size,0,none⟩)] Go.Proofs.encStr (fun ss => ss.Perm (strKeys (DofG pkl pd l))) (Maps.size (DofG pkl pd l)) (w.alloc (.cells #[.map (some b)] 92)) :=
  AnyZ.keys_gives (ρ := Tryz.keysQ_ren) { Tryz.keysQ with } Fence.wide _ trivial rfl (by omega) w.heap.size b _ (DofG pkl pd l) _ (by simp) (by simp) (hown.same (Below.heap_alloc _ _ b hbl))
 refine (callsIn_wide.1 (AnyZ.sorted_in Tryz.sortedS Fence.wide 5 trivial trivial trivial trivial rfl (by omega) (sortsS_at _) (enters_of Tryz.func211 (by kernel_rfl) rfl) 212 #[.pointer (some ⟨w.heap.size,0,none⟩)] trivial (enters_of Tryz.func212 (by kernel_rfl) rfl) _ _ (by rw [hsz]; unfold maxLen; omega) (by rw [hsz]; omega) _ hseq)).mono ?_
 rintro e w' ⟨v,ss,rfl,hS,hrow,_,hb⟩
 obtain ⟨h1,h2⟩ := keysQ_sorted ho hS
 rw [h1,h2] at hrow
 refine ⟨v,rfl,?_,((Below.refl _ w).alloc (Nat.le_refl _) _).trans (hb.mono (by simp))⟩
 have h3 : w'.ownsRow (w.alloc (.cells #[.map (some b)] 92)).heap.size 9 1 v (scells (l.map Prod.fst)).length (scells (l.map Prod.fst)) := by
  rw [show (scells (l.map Prod.fst)).length = l.length by simp [scells]]
  exact hrow
 exact own1_lower h3 (by simp)
theorem keysL_sorted {l : List Le} (ho : Up l) {ss : List Int} (hp : ss.Perm (intKeys (DofG lkl ld l))) : (ss.mergeSort (fun x y => decide (x <= y))).map encZ = icells (l.map Prod.fst) /\ ss.length = l.length := by
 have h1 : (intKeys (DofG lkl ld l)).Perm (l.map Prod.fst) := by
  unfold DofG intKeys
  refine ((sorted_perm (entsG lkl ld l)).map _).trans ?_
  unfold entsG
  rw [List.map_map]
  exact List.Perm.refl _
 have h2 := hp.trans h1
 have h3 : (l.map Prod.fst).Pairwise fun a b => decide (a <= b) = true := by
  refine ho.imp fun {a b} h => ?_
  simp only [decide_eq_true_eq]
  omega
 refine ⟨?_,by rw [h2.length_eq,List.length_map]⟩
 have h4 : ss.mergeSort (fun x y => decide (x <= y)) = (l.map Prod.fst).mergeSort (fun x y => decide (x <= y)) := by
  refine List.Perm.eq_of_pairwise (le := fun a b : Int => decide (a <= b) = true) (fun a b _ _ h1 h2 => ?_) (List.pairwise_mergeSort (fun a b c h1 h2 => ?_) (fun a b => ?_) _) (List.pairwise_mergeSort (fun a b c h1 h2 => ?_) (fun a b => ?_) _) (((List.mergeSort_perm _ _).trans h2).trans (List.mergeSort_perm _ _).symm)
  ·simp at h1 h2; omega
  ·simp at h1 h2 ⊢; omega
  ·simp; omega
  ·simp at h1 h2 ⊢; omega
  ·simp; omega
 rw [h4,List.mergeSort_of_pairwise h3]
 rfl
theorem sortsI_at (m : Nat) : AnyZI.SortsIn Tryz.prog Tryz.sortedI_ren Fence.wide m :=
 ⟨fun blk off cap ss W hH hblk hsz => callsIn_wide.2 (AnyM.slices_Sort_int Tryz.sortI blk off cap ss W hH hblk hsz),
  fun p cap W => callsIn_wide.2 (AnyM.slices_Sort_int_none Tryz.sortI p cap W)⟩
theorem keysL_at (mb : Option Nat) (W : World) : Calls Tryz.prog 137 #[.map mb] W fun e w' => e = .returned (.func (.func 219) #[] #[.pointer (some ⟨W.heap.size,0,none⟩)]) /\ w' = W.alloc (.cells #[.map mb] 94) :=
 callsIn_wide.1 (AnyZI.keys_in Tryz.keysL Fence.wide 5 trivial rfl mb W)
theorem sortedL_at (b : Nat) (l : List Le) (w : World) (hown : LAt w b l) (ho : Up l) (hlen : l.length <= 1000000) :
  Calls Tryz.prog 136 #[.func (.func 219) #[] #[.pointer (some ⟨w.heap.size,0,none⟩)]] (w.alloc (.cells #[.map (some b)] 94)) fun e w' => ∃ v,e = .returned v /\ Own1 w' w.heap.size 3 v (icells (l.map Prod.fst)) /\ Below w.heap.size w w' := by
 have hbl := hown.lt
 have hsz : Maps.size (DofG lkl ld l) = l.length := by rw [size_DofG]
 have hseq : SeqGives Fence.wide 2 Tryz.prog 219 #[.pointer (some ⟨w.heap.size,0,none⟩)] encZ (fun ss => ss.Perm (intKeys (DofG lkl ld l))) (Maps.size (DofG lkl ld l)) (w.alloc (.cells #[.map (some b)] 94)) :=
  AnyZI.keys_gives (ρ := Tryz.keysL_ren) { Tryz.keysL with } Fence.wide _ trivial rfl (by omega) w.heap.size b _ (DofG lkl ld l) _ (by simp) (by simp) (hown.same (Below.heap_alloc _ _ b hbl))
 refine (callsIn_wide.1 (AnyZI.sorted_in Tryz.sortedI Fence.wide 5 trivial trivial trivial trivial rfl (by omega) (sortsI_at _) (enters_of Tryz.func163 (by kernel_rfl) rfl) 219 #[.pointer (some ⟨w.heap.size,0,none⟩)] trivial (enters_of Tryz.func219 (by kernel_rfl) rfl) _ _ (by rw [hsz]; unfold maxLen; omega) (by rw [hsz]; omega) _ hseq)).mono ?_
 rintro e w' ⟨v,ss,rfl,hS,hrow,_,hb⟩
 obtain ⟨h1,h2⟩ := keysL_sorted ho hS
 rw [h1,h2] at hrow
 refine ⟨v,rfl,?_,((Below.refl _ w).alloc (Nat.le_refl _) _).trans (hb.mono (by simp))⟩
 have h3 : w'.ownsRow (w.alloc (.cells #[.map (some b)] 94)).heap.size 3 1 v (icells (l.map Prod.fst)).length (icells (l.map Prod.fst)) := by
  rw [show (icells (l.map Prod.fst)).length = l.length by simp [icells]]
  exact hrow
 exact own1_lower h3 (by simp)
theorem names14_any (p : Nat) (G : Nat -> Prop) (s : Sm) (w : World) (h : SS w p G s) (hu : UpK s.qs) (hl : s.qs.length <= 1000000) :
  Calls Tryz.prog 59 #[.pointer (some ⟨p,0,none⟩)] w fun e w' => ∃ v,e = .returned v /\ Own1 w' w.heap.size 9 v (scells (s.qs.map Prod.fst)) /\ Below w.heap.size w w' := by
 obtain ⟨ft,d,hs,_⟩ := h
 have hS := sortedQ_at d.qm d.ps w hs.qmap (by unfold UpK; rw [hs.names]; exact hu) (by rw [hs.len_ps]; exact hl)
 rw [hs.names] at hS
 have hK := keysQ_at (some d.qm) w
 obtain ⟨c0,c1,c2,c3,c4,c5,c6,c7,c8,c9⟩ := cells10 hs.blk
 clear hs
 go_enter Tryz.func59,Tryz.ntmps59
 go_wp2_with fail
 refine hK.mono ?_
 rintro e w1 ⟨rfl,rfl⟩
 go_wp2_with fail
 refine hS.mono ?_
 rintro e w2 ⟨v,rfl,row,b⟩
 obtain ⟨va,vc,hv⟩ := row.row.slice
 subst hv
 clear hS hK
 go_wp2
 go_ret
 exact ⟨_,rfl,row,b⟩
theorem wanting14_any (p : Nat) (G : Nat -> Prop) (s : Sm) (w : World) (h : SS w p G s) (hu : Up s.lk) (hl : s.lk.length <= 1000000) :
  Calls Tryz.prog 62 #[.pointer (some ⟨p,0,none⟩)] w fun e w' => ∃ v,e = .returned v /\ Own1 w' w.heap.size 3 v (icells (s.lk.map Prod.fst)) /\ Below w.heap.size w w' := by
 obtain ⟨ft,d,hs,_⟩ := h
 have hlen : d.es.length = s.lk.length := by have := congrArg List.length hs.tos; simpa using this
 have hS := sortedL_at d.lm d.es w hs.lmap (by unfold Up; rw [hs.tos]; exact hu) (by rw [hlen]; exact hl)
 rw [hs.tos] at hS
 have hK := keysL_at (some d.lm) w
 obtain ⟨c0,c1,c2,c3,c4,c5,c6,c7,c8,c9⟩ := cells10 hs.blk
 clear hs
 go_enter Tryz.func62,Tryz.ntmps62
 go_wp2_with fail
 refine hK.mono ?_
 rintro e w1 ⟨rfl,rfl⟩
 go_wp2_with fail
 refine hS.mono ?_
 rintro e w2 ⟨v,rfl,row,b⟩
 obtain ⟨va,vc,hv⟩ := row.row.slice
 subst hv
 clear hS hK
 go_wp2
 go_ret
 exact ⟨_,rfl,row,b⟩
end Go.Proofs.YtjagaankkcbjmaaGreatDoor
namespace Go.Proofs.YtjagaankkcbjmaaGreatDoor
open Go.RowKit
inductive All2 {α β : Type} (R : α -> β -> Prop) : List α -> List β -> Prop
 |nil : All2 R [] []
 |cons {a : α} {b : β} {l : List α} {m : List β} : R a b -> All2 R l m -> All2 R (a :: l) (b :: m)
theorem All2.len {α β : Type} {R : α -> β -> Prop} {l : List α} {m : List β} (h : All2 R l m) : l.length = m.length := by
 induction h with
 |nil => rfl
 |cons _ _ ih => simp [ih]
theorem All2.imp {α β : Type} {R S : α -> β -> Prop} {l : List α} {m : List β} (h : All2 R l m) (hi : ∀ a b,R a b -> S a b) : All2 S l m := by
 induction h with
 |nil => exact .nil
 |cons h _ ih => exact .cons (hi _ _ h) ih
theorem All2.snoc {α β : Type} {R : α -> β -> Prop} {l : List α} {m : List β} (h : All2 R l m) {a : α} {b : β} (hr : R a b) : All2 R (l ++ [a]) (m ++ [b]) := by
 induction h with
 |nil => exact .cons hr .nil
 |cons h _ ih => exact .cons h ih
theorem All2.at {α β : Type} {R : α -> β -> Prop} {l : List α} {m : List β} (h : All2 R l m) : ∀ (i : Nat) (hi : i < l.length) (hj : i < m.length),R l[i] m[i] := by
 induction h with
 |nil => intro i hi; simp at hi
 |cons h _ ih =>
  intro i hi hj
  cases i with
  |zero => exact h
  |succ i => exact ih i (by simpa using hi) (by simpa using hj)
structure But (T : TypeId) (B : Nat) (w w' : World) : Prop where
 bel : Below B w w'
 size : w.heap.size <= w'.heap.size
 keep : ∀ (k : Nat) (c : Array Value) (T' : TypeId) (z : Nat × Nat),w.heap[k]? = some (.cells c T' z) -> T' ≠ T -> w'.heap[k]? = w.heap[k]?
theorem owns_but {w w' : World} {lo B : Nat} {T T' : TypeId} {K n : Nat} {v : Value} {cs : List Value} (h : w.ownsRow lo T' K v n cs) (hb : But T B w w') (hne : T' ≠ T) : w'.ownsRow lo T' K v n cs := by
 refine ⟨h.1,?_⟩
 rcases h.2 with hn | ⟨g,cap,cur,hv,hbg,hg,rest⟩
 ·exact .inl hn
 ·exact .inr ⟨g,cap,cur,hv,hbg,by rw [hb.keep g _ _ _ hg hne]; exact hg,rest⟩
theorem owns_same {w w' : World} {lo : Nat} {T' : TypeId} {K n : Nat} {v : Value} {cs : List Value} (h : w.ownsRow lo T' K v n cs) (hs : ∀ g,lo <= g -> g < w.heap.size -> w'.heap[g]? = w.heap[g]?) : w'.ownsRow lo T' K v n cs := by
 refine ⟨h.1,?_⟩
 rcases h.2 with hn | ⟨g,cap,cur,hv,hbg,hg,rest⟩
 ·exact .inl hn
 ·exact .inr ⟨g,cap,cur,hv,hbg,by rw [hs g hbg (Array.getElem?_eq_some_iff.1 hg).1]; exact hg,rest⟩
theorem owns_lower {w : World} {b c : Nat} {T' : TypeId} {K n : Nat} {v : Value} {cs : List Value} (h : w.ownsRow b T' K v n cs) (hc : c <= b) : w.ownsRow c T' K v n cs := by
 refine ⟨h.1,?_⟩
 rcases h.2 with hn | ⟨g,cap,cur,hv,hbg,rest⟩
 ·exact .inl hn
 ·exact .inr ⟨g,cap,cur,hv,Nat.le_trans hc hbg,rest⟩
theorem but_grown {w w' : World} {lo : Nat} {T : TypeId} {K n : Nat} {v : Value} {cs : List Value} (h : w.ownsRow lo T K v n cs) (hg : w.grownBy w' v.ownBlock) (hlo : lo <= w.heap.size) : But T lo w w' := by
 refine ⟨(Below.refl _ _).grown hg hlo (fun k hk => (World.ownsRow.lt h k hk).1),hg.size,fun k c T' z hk hne => hg.block k (Array.getElem?_eq_some_iff.1 hk).1 fun e => ?_⟩
 rcases h.2 with ⟨rfl,_⟩ | ⟨g,cap,cur,hv,hbg,hg',_⟩
 ·simp [Value.ownBlock] at e
 ·rw [hv] at e
  simp only [Value.ownBlock] at e
  injection e with e
  subst e
  rw [hk] at hg'
  injection hg' with hg'
  injection hg' with _ h2 _
  exact hne h2
theorem but_setCell {w : World} {g j B : Nat} {c : Array Value} {T : TypeId} {z : Nat × Nat} (h : w.heap[g]? = some (.cells c T z)) (hB : B <= g) (v : Value) : But T B w (w.setCell ⟨g,j,none⟩ v) := by
 refine ⟨(Below.refl _ _).setCell (p := ⟨g,j,none⟩) hB v,by simp,fun k c' T' z' hk hne => heap_setCell_other _ _ _ _ fun e => ?_⟩
 have e : k = g := e
 subst e
 rw [h] at hk
 injection hk with hk
 injection hk with _ h2 _
 exact hne h2.symm
theorem but_setRow {w : World} {g B : Nat} {c : Array Value} {T : TypeId} {z : Nat × Nat} (h : w.heap[g]? = some (.cells c T z)) (hB : B <= g) (cs : Array Value) : But T B w (w.setRow g cs) := by
 refine ⟨below_setRow (Below.refl _ _) hB cs,by simp [World.setRow],fun k c' T' z' hk hne => setRow_other14 _ _ _ _ fun e => ?_⟩
 subst e
 rw [h] at hk
 injection hk with hk
 injection hk with _ h2 _
 exact hne h2.symm
structure Pt where
 seq : Int
 boots : Int
 x : Sl
 b : Sl
 q : Sl
 s : Sl
 l : Sl
def ptcells (x : Pt) : List Value := [.int .u64 x.seq,.int .u64 x.boots,slv x.x,slv x.b,slv x.q,slv x.s,slv x.l]
abbrev ptv (x : Pt) : Value := .agg #[.int .u64 x.seq,.int .u64 x.boots,slv x.x,slv x.b,slv x.q,slv x.s,slv x.l]
def zSl : Sl := (none,0,0)
def zPt : Pt := ⟨0,0,zSl,zSl,zSl,zSl,zSl⟩
theorem infoPt : (Tryz.prog.info? 57).map (·.size) = some 7 := by kernel_rfl
theorem onePt (x : Pt) : (ptcells x).toArray.all (·.oneCell') = true := by simp [ptcells,Value.oneCell']
def spcells (x : Int × Sl) : List Value := [.int .i64 x.1,slv x.2]
instance encSp : K.Enc spcells 2 := ⟨fun _ => rfl,fun m u hu => by simp [spcells] at hu; rcases hu with rfl | rfl <;> rfl,by decide⟩
theorem infoQP : ∃ i,Tryz.prog.info? 86 = some i /\ i.zero = some (qpv zQp) /\ i.size = 5 /\ i.bytes = 80 := by
 have hinfo : (Tryz.prog.info? 86).map (fun i => (i.zero,i.size,i.bytes)) = some (some (qpv zQp),5,80) := by kernel_rfl
 cases h : Tryz.prog.info? 86 with
 |none => rw [h] at hinfo; simp at hinfo
 |some i =>
  rw [h] at hinfo
  simp only [Option.map_some,Option.some.injEq,Prod.mk.injEq] at hinfo
  exact ⟨i,rfl,hinfo.1,hinfo.2.1,hinfo.2.2⟩
theorem infoSP : ∃ i,Tryz.prog.info? 132 = some i /\ i.zero = some (.agg #[.int .i64 0,.slice none 0 0]) /\ i.size = 2 /\ i.bytes = 32 := by
 have hinfo : (Tryz.prog.info? 132).map (fun i => (i.zero,i.size,i.bytes)) = some (some (.agg #[.int .i64 0,.slice none 0 0]),2,32) := by kernel_rfl
 cases h : Tryz.prog.info? 132 with
 |none => rw [h] at hinfo; simp at hinfo
 |some i =>
  rw [h] at hinfo
  simp only [Option.map_some,Option.some.injEq,Prod.mk.injEq] at hinfo
  exact ⟨i,rfl,hinfo.1,hinfo.2.1,hinfo.2.2⟩
theorem infoLP : ∃ i,Tryz.prog.info? 136 = some i /\ i.zero = some (.agg #[.int .i64 0,.slice none 0 0]) /\ i.size = 2 /\ i.bytes = 32 := by
 have hinfo : (Tryz.prog.info? 136).map (fun i => (i.zero,i.size,i.bytes)) = some (some (.agg #[.int .i64 0,.slice none 0 0]),2,32) := by kernel_rfl
 cases h : Tryz.prog.info? 136 with
 |none => rw [h] at hinfo; simp at hinfo
 |some i =>
  rw [h] at hinfo
  simp only [Option.map_some,Option.some.injEq,Prod.mk.injEq] at hinfo
  exact ⟨i,rfl,hinfo.1,hinfo.2.1,hinfo.2.2⟩
abbrev OwnQp (w : World) (base : Nat) (v : Value) (l : List Qp) : Prop := K.OwnOf qpcells 5 86 w base v l
abbrev OwnSp (w : World) (base : Nat) (v : Value) (l : List (Int × Sl)) : Prop := K.OwnOf spcells 2 132 w base v l
abbrev OwnLp (w : World) (base : Nat) (v : Value) (l : List (Int × Sl)) : Prop := K.OwnOf spcells 2 136 w base v l
def SpIs (w : World) (base : Nat) (bk : Nat -> List (Nat × Nat)) (x : Int × Sl) (o : Int) : Prop := x.1 = o /\ S.Own2 w base (slv x.2) (S.ofF bk o)
def LpIs (w : World) (base : Nat) (x : Int × Sl) (y : Int × List Ms) : Prop := x.1 = y.1 /\ OwnM w base (slv x.2) y.2
structure PtIs (w : World) (base : Nat) (P : Pt) (s : Sm) (qs : List (ByteArray × F.St)) (os : List Int) (lk : List (Int × List Ms)) : Prop where
 seq : P.seq = s.seq
 boots : P.boots = s.boots
 x : B.OwnX w base (slv P.x) s.tb.xs
 b : B.OwnB w base (slv P.b) s.tb.bs
 q : ∃ Q,OwnQp w base (slv P.q) Q /\ All2 (fun x y => QpIs w base x y.1 y.2) Q qs
 s : ∃ Q,OwnSp w base (slv P.s) Q /\ All2 (SpIs w base s.bk) Q os
 l : ∃ Q,OwnLp w base (slv P.l) Q /\ All2 (LpIs w base) Q lk
def PartsIs (w : World) (base : Nat) (P : Pt) (s : Sm) : Prop := PtIs w base P s s.qs (S.places (S.liveL s.bk)) s.lk
section
variable {w w' : World} {base : Nat} {P : Pt} {s : Sm} {qs : List (ByteArray × F.St)} {os : List Int} {lk : List (Int × List Ms)}
theorem PtIs.same (h : PtIs w base P s qs os lk) (hs : ∀ g,base <= g -> g < w.heap.size -> w'.heap[g]? = w.heap[g]?) : PtIs w' base P s qs os lk := by
 obtain ⟨Q1,q1,a1⟩ := h.q
 obtain ⟨Q2,q2,a2⟩ := h.s
 obtain ⟨Q3,q3,a3⟩ := h.l
 exact ⟨h.seq,h.boots,owns_same h.x hs,owns_same h.b hs,⟨Q1,owns_same q1 hs,a1.imp fun _ _ r => ⟨r.name,r.most,r.next,owns_same r.r hs,owns_same r.o hs⟩⟩,⟨Q2,owns_same q2 hs,a2.imp fun _ _ r => ⟨r.1,owns_same r.2 hs⟩⟩,⟨Q3,owns_same q3 hs,a3.imp fun _ _ r => ⟨r.1,owns_same r.2 hs⟩⟩⟩
theorem PtIs.kept (h : PtIs w base P s qs os lk) (hb : Below w.heap.size w w') : PtIs w' base P s qs os lk := h.same fun g _ hg => hb.block g hg
theorem PtIs.butPt {B : Nat} (h : PtIs w base P s qs os lk) (hb : But 57 B w w') : PtIs w' base P s qs os lk := by
 obtain ⟨Q1,q1,a1⟩ := h.q
 obtain ⟨Q2,q2,a2⟩ := h.s
 obtain ⟨Q3,q3,a3⟩ := h.l
 exact ⟨h.seq,h.boots,owns_but h.x hb (by decide),owns_but h.b hb (by decide),⟨Q1,owns_but q1 hb (by decide),a1.imp fun _ _ r => ⟨r.name,r.most,r.next,owns_but r.r hb (by decide),owns_but r.o hb (by decide)⟩⟩,⟨Q2,owns_but q2 hb (by decide),a2.imp fun _ _ r => ⟨r.1,owns_but r.2 hb (by decide)⟩⟩,⟨Q3,owns_but q3 hb (by decide),a3.imp fun _ _ r => ⟨r.1,owns_but r.2 hb (by decide)⟩⟩⟩
theorem PtIs.addQ {B : Nat} (h : PtIs w base P s qs os lk) (hb : But 86 B w w') {v : Sl} {Q : List Qp} {x : Qp} {y : ByteArray × F.St} (a1 : All2 (fun x y => QpIs w base x y.1 y.2) Q qs) (hv : OwnQp w' base (slv v) (Q ++ [x])) (hx : QpIs w base x y.1 y.2) : PtIs w' base { P with q := v } s (qs ++ [y]) os lk := by
 obtain ⟨Q2,q2,a2⟩ := h.s
 obtain ⟨Q3,q3,a3⟩ := h.l
 exact ⟨h.seq,h.boots,owns_but h.x hb (by decide),owns_but h.b hb (by decide),⟨Q ++ [x],hv,(a1.snoc hx).imp fun _ _ r => ⟨r.name,r.most,r.next,owns_but r.r hb (by decide),owns_but r.o hb (by decide)⟩⟩,⟨Q2,owns_but q2 hb (by decide),a2.imp fun _ _ r => ⟨r.1,owns_but r.2 hb (by decide)⟩⟩,⟨Q3,owns_but q3 hb (by decide),a3.imp fun _ _ r => ⟨r.1,owns_but r.2 hb (by decide)⟩⟩⟩
theorem PtIs.addS {B : Nat} (h : PtIs w base P s qs os lk) (hb : But 132 B w w') {v : Sl} {Q : List (Int × Sl)} {x : Int × Sl} {o : Int} (a2 : All2 (SpIs w base s.bk) Q os) (hv : OwnSp w' base (slv v) (Q ++ [x])) (hx : SpIs w base s.bk x o) : PtIs w' base { P with s := v } s qs (os ++ [o]) lk := by
 obtain ⟨Q1,q1,a1⟩ := h.q
 obtain ⟨Q3,q3,a3⟩ := h.l
 exact ⟨h.seq,h.boots,owns_but h.x hb (by decide),owns_but h.b hb (by decide),⟨Q1,owns_but q1 hb (by decide),a1.imp fun _ _ r => ⟨r.name,r.most,r.next,owns_but r.r hb (by decide),owns_but r.o hb (by decide)⟩⟩,⟨Q ++ [x],hv,(a2.snoc hx).imp fun _ _ r => ⟨r.1,owns_but r.2 hb (by decide)⟩⟩,⟨Q3,owns_but q3 hb (by decide),a3.imp fun _ _ r => ⟨r.1,owns_but r.2 hb (by decide)⟩⟩⟩
theorem PtIs.addL {B : Nat} (h : PtIs w base P s qs os lk) (hb : But 136 B w w') {v : Sl} {Q : List (Int × Sl)} {x : Int × Sl} {y : Int × List Ms} (a3 : All2 (LpIs w base) Q lk) (hv : OwnLp w' base (slv v) (Q ++ [x])) (hx : LpIs w base x y) : PtIs w' base { P with l := v } s qs os (lk ++ [y]) := by
 obtain ⟨Q1,q1,a1⟩ := h.q
 obtain ⟨Q2,q2,a2⟩ := h.s
 exact ⟨h.seq,h.boots,owns_but h.x hb (by decide),owns_but h.b hb (by decide),⟨Q1,owns_but q1 hb (by decide),a1.imp fun _ _ r => ⟨r.name,r.most,r.next,owns_but r.r hb (by decide),owns_but r.o hb (by decide)⟩⟩,⟨Q2,owns_but q2 hb (by decide),a2.imp fun _ _ r => ⟨r.1,owns_but r.2 hb (by decide)⟩⟩,⟨Q ++ [x],hv,(a3.snoc hx).imp fun _ _ r => ⟨r.1,owns_but r.2 hb (by decide)⟩⟩⟩
end
structure PIn (w V : World) (g1 : Nat) (P : Pt) (s : Sm) (qs : List (ByteArray × F.St)) (os : List Int) (lk : List (Int × List Ms)) : Prop where
 bel : Below w.heap.size w V
 box : V.heap[w.heap.size]? = some (.cells (ptcells zPt).toArray 57 (0,0))
 blk : V.heap[g1]? = some (.cells (ptcells P).toArray 57 (0,0))
 ne : w.heap.size < g1
 is : PtIs V w.heap.size P s qs os lk
section
variable {w V V1 V2 : World} {g1 : Nat} {P : Pt} {s : Sm} {qs : List (ByteArray × F.St)} {os : List Int} {lk : List (Int × List Ms)}
theorem PIn.go (h : PIn w V g1 P s qs os lk) (hb : Below V.heap.size V V1) : PIn w V1 g1 P s qs os lk :=
 ⟨keptW h.bel hb,(hb.block _ (Array.getElem?_eq_some_iff.1 h.box).1).trans h.box,(hb.block _ (Array.getElem?_eq_some_iff.1 h.blk).1).trans h.blk,h.ne,h.is.kept hb⟩
theorem PIn.start {xv bv : Sl} (hb : Below w.heap.size w V) (box : V.heap[w.heap.size]? = some (.cells (ptcells zPt).toArray 57 (0,0))) (blk : V.heap[g1]? = some (.cells (ptcells zPt).toArray 57 (0,0))) (ne : w.heap.size < g1) (hx : B.OwnX V w.heap.size (slv xv) s.tb.xs) (hB : B.OwnB V w.heap.size (slv bv) s.tb.bs) :
  PIn w (V.setRow g1 (ptcells ⟨s.seq,s.boots,xv,bv,zSl,zSl,zSl⟩).toArray) g1 ⟨s.seq,s.boots,xv,bv,zSl,zSl,zSl⟩ s [] [] [] := by
 have bu := but_setRow (B := w.heap.size) blk (Nat.le_of_lt ne) (ptcells ⟨s.seq,s.boots,xv,bv,zSl,zSl,zSl⟩).toArray
 have h0 : PtIs V w.heap.size ⟨s.seq,s.boots,xv,bv,zSl,zSl,zSl⟩ s [] [] [] := ⟨rfl,rfl,hx,hB,⟨[],K.ownOf_nil _ _,.nil⟩,⟨[],K.ownOf_nil _ _,.nil⟩,⟨[],K.ownOf_nil _ _,.nil⟩⟩
 exact ⟨below_setRow hb (Nat.le_of_lt ne) _,(setRow_other14 _ _ _ _ (by omega)).trans box,setRow_heap _ _ _ _ _ _ blk,ne,h0.butPt bu⟩
theorem PIn.put (h : PIn w V g1 P s qs os lk) {T : TypeId} (hb : But T w.heap.size V V1) (hT : 57 ≠ T) {P' : Pt} {qs' : List (ByteArray × F.St)} {os' : List Int} {lk' : List (Int × List Ms)} (hi : PtIs V1 w.heap.size P' s qs' os' lk') {j : Nat} {v : Value} (hj : (ptcells P).set j v = ptcells P') : PIn w (V1.setCell ⟨g1,j,none⟩ v) g1 P' s qs' os' lk' := by
 have blk1 := (hb.keep _ _ _ _ h.blk hT).trans h.blk
 have bu := but_setCell (B := w.heap.size) (j := j) blk1 (Nat.le_of_lt h.ne) v
 have hlt := Array.getElem?_eq_some_iff.1 h.box
 refine ⟨(h.bel.trans hb.bel).trans bu.bel,?_,?_,h.ne,hi.butPt bu⟩
 ·exact (heap_setCell_other _ _ _ _ (by show w.heap.size ≠ g1; have := h.ne; omega)).trans ((hb.keep _ _ _ _ h.box hT).trans h.box)
 ·rw [<- hj]
  exact set_list blk1 v
end
def toM (m : Ms) : F.Msg := ⟨m.origin,m.seq,m.hop,m.ex,m.key,m.body⟩
def pushQ (m : Ms) (s : Sm) (n : ByteArray) : Sm := match findQ s.qs n with
 |some q => { s with qs := setQ s.qs n (q.push (toM m)).2 }
 |none => s
theorem pushQ_some {m : Ms} {s : Sm} {n : ByteArray} {q : F.St} (h : findQ s.qs n = some q) : pushQ m s n = { s with qs := setQ s.qs n (q.push (toM m)).2 } := by unfold pushQ; rw [h]
def linkAdd (m : Ms) (s : Sm) (t : Int) : Sm := { s with lk := insL t (linkOf s.lk t ++ [m]) s.lk }
def hopM (m : Ms) : Ms := { m with hop := m.hop + 1 }
theorem pushQ_names (m : Ms) (s : Sm) (n : ByteArray) : (pushQ m s n).qs.map Prod.fst = s.qs.map Prod.fst := by
 cases h : findQ s.qs n with
 |none => unfold pushQ; rw [h]
 |some q => rw [pushQ_some h]; exact setQ_names _ _ _
theorem pushQ_lk (m : Ms) (s : Sm) (n : ByteArray) : (pushQ m s n).lk = s.lk := by
 unfold pushQ
 split <;> rfl
theorem findQ_mem {l : List (ByteArray × F.St)} {n : ByteArray} (h : n ∈ l.map Prod.fst) : ∃ q,findQ l n = some q := by
 cases hq : findQ l n with
 |none => exact absurd h (findQ_none hq)
 |some q => exact ⟨q,rfl⟩
structure Sm.Whole (s : Sm) : Prop where
 fit : s.Fit
 qok : ∀ x ∈ s.qs,x.2.Ok
theorem Sm.Whole.push {s : Sm} (h : s.Whole) (m : Ms) (n : ByteArray) : (pushQ m s n).Whole := by
 have hn := pushQ_names m s n
 have hl := pushQ_lk m s n
 refine ⟨⟨by rw [hn]; exact h.fit.names,fun x hx => ?_,by rw [hl]; exact h.fit.tos,by rw [hl]; exact h.fit.small,by rw [hl]; exact h.fit.few⟩,fun x hx => ?_⟩
 ·have : x.1 ∈ (pushQ m s n).qs.map Prod.fst := List.mem_map.2 ⟨x,hx,rfl⟩
  rw [hn] at this
  obtain ⟨y,hy,e⟩ := List.mem_map.1 this
  rw [<- e]
  exact h.fit.short y hy
 ·cases hq : findQ s.qs n with
  |none => unfold pushQ at hx; rw [hq] at hx; exact h.qok x hx
  |some q =>
   rw [pushQ_some hq] at hx
   obtain ⟨x1,x2⟩ := x
   rcases mem_setQ hx with ⟨rfl,rfl⟩ | ⟨_,hm⟩
   ·exact (h.qok _ (findQ_some hq)).push _
   ·exact h.qok _ hm
theorem pushAll_whole {s : Sm} (h : s.Whole) (m : Ms) (l : List ByteArray) : (l.foldl (pushQ m) s).Whole /\ (l.foldl (pushQ m) s).qs.map Prod.fst = s.qs.map Prod.fst /\ (l.foldl (pushQ m) s).lk = s.lk := by
 induction l generalizing s with
 |nil => exact ⟨h,rfl,rfl⟩
 |cons n t ih =>
  obtain ⟨h1,h2,h3⟩ := ih (h.push m n)
  exact ⟨h1,h2.trans (pushQ_names m s n),h3.trans (pushQ_lk m s n)⟩
def takenM (s : Sm) (m : Ms) (ways : List Int) : Sm :=
 ways.foldl (linkAdd (hopM m)) ((intoM s m).foldl (pushQ m) { s with bk := S.addF s.bk m.origin m.seq.toNat,seq := if m.origin = s.site then m.seq.toNat else s.seq })
def enterM (s : Sm) (m : Ms) : Int × Sm := match admitM s m with
 |(ways,er) => if er ≠ 0 then (er,s) else if (intoM s m).any (fullN s) = true then (6,s) else if ways.any (fullT s) = true then (6,s) else (0,takenM s m ways)
def Away (V : World) (G : Nat -> Prop) (v : Value) (n : Nat) : Prop := n = 0 \/ ∃ g cap,v = .slice (some ⟨g,0,none⟩) n cap /\ g < V.heap.size /\ ¬ G g
theorem Away.move {V V' : World} {G G' : Nat -> Prop} {v : Value} {n : Nat} (h : Away V G v n) (m : Moved V V' G G') : Away V' G' v n :=
 h.imp id fun ⟨g,cap,h1,h2,h3⟩ => ⟨g,cap,h1,Nat.lt_of_lt_of_le h2 m.size,fun hg => (m.sub g hg).elim h3 fun h => by omega⟩
theorem Row.away {V V' : World} {G G' : Nat -> Prop} {v : Value} {cs : List Value} (h : Row V v cs) (a : Away V G v cs.length) (m : Moved V V' G G') : Row V' v cs := by
 rcases h with h | ⟨ad,cap,hv,h1,h2,h3⟩
 ·exact .inl h
 ·refine .inr ⟨ad,cap,hv,h1,h2,fun j u hj => ?_⟩
  have hj' := (List.getElem?_eq_some_iff.1 hj).1
  rcases a with a | ⟨g,cap',hv',hg,hn⟩
  ·omega
  ·rw [hv] at hv'
   injection hv' with e
   injection e with e
   have hb : (ad.add j).block = g := by rw [e]; exact Addr.block_add _ _
   rw [World.cell?_of_block (w := V) (a := ad.add j) (by rw [hb]; exact m.block g hg hn)]
   exact h3 j u hj
theorem away_of {V : World} {G : Nat -> Prop} {base : Nat} {v : Value} {cs : List Value} (hr : Row V v cs) (hn : Newer base v cs.length) (hG : ∀ k,G k -> k < base) : Away V G v cs.length := by
 rcases hn with hn | ⟨g,cap,hv,hg⟩
 ·exact .inl hn
 ·by_cases h0 : cs.length = 0
  ·exact .inl h0
  ·refine .inr ⟨g,cap,hv,?_,fun hk => by have := hG g hk; omega⟩
   rcases hr with ⟨_,e⟩ | ⟨ad,cap',e,_,_,h3⟩
   ·rw [e] at h0; exact absurd rfl h0
   ·rw [hv] at e
    injection e with e
    injection e with e
    have hc := h3 0 _ (List.getElem?_eq_getElem (show 0 < cs.length by omega))
    have := World.block_lt_of_cell? V _ hc
    rw [<- e,Addr.block_add] at this
    exact this
def EIn (w V : World) (p bm : Nat) (G : Nat -> Prop) (s : Sm) (m : Ms) (vn : Value) (ns : List ByteArray) (vw : Value) (ts : List Int) : Prop :=
 ∃ G',SS V p G' s /\ Moved w V G G' /\ (V.heap[bm]? = some (.cells (mcells m).toArray 40 (0,0)) /\ ¬ G' bm) /\ (Row V vn (scells ns) /\ Away V G' vn ns.length) /\ Row V vw (icells ts) /\ Away V G' vw ts.length
theorem EIn.step {w V V' : World} {p bm : Nat} {G G' G'' : Nat -> Prop} {s' : Sm} {m : Ms} {vn : Value} {ns : List ByteArray} {vw : Value} {ts : List Int} (m0 : Moved w V G G') (hb : V.heap[bm]? = some (.cells (mcells m).toArray 40 (0,0)) /\ ¬ G' bm) (hn : Row V vn (scells ns) /\ Away V G' vn ns.length) (ht : Row V vw (icells ts) /\ Away V G' vw ts.length) (h' : SS V' p G'' s') (m' : Moved V V' G' G'') : EIn w V' p bm G s' m vn ns vw ts := by
 have hlt := (Array.getElem?_eq_some_iff.1 hb.1).1
 refine ⟨G'',h',m0.trans m',⟨(m'.block bm hlt hb.2).trans hb.1,fun hg => (m'.sub bm hg).elim hb.2 fun h => by omega⟩,⟨hn.1.away (by rw [scells_length]; exact hn.2) m',hn.2.move m'⟩,ht.1.away (by rw [icells_length]; exact ht.2) m',ht.2.move m'⟩
theorem EIn.pushAt {w V : World} {p bm : Nat} {G : Nat -> Prop} {sc : Sm} {m : Ms} {vn : Value} {ns : List ByteArray} {vw : Value} {ts : List Int} (h : EIn w V p bm G sc m vn ns vw ts) (wh : sc.Whole) {x : ByteArray} {q : F.St} (hx : x.size <= maxLen) (hq : findQ sc.qs x = some q) :
  ∃ (qm b : Nat) (Fq : Nat -> Prop),(∀ V',V'.heap[p]? = V.heap[p]? -> V'.heap[qm]? = V.heap[qm]? -> V'.heap[bm]? = V.heap[bm]? -> V'.cell? ⟨p,7,none⟩ = some (.map (some qm)) /\ (Instr.lookup 92 (.map (some qm)) (.string x) false).run Tryz.prog V' = .ok (.pointer (some ⟨b,0,none⟩)) V' /\ V'.cell? ⟨bm,0,none⟩ = some (.int .i64 m.origin) /\ V'.cell? ⟨bm,1,none⟩ = some (.int .u64 m.seq) /\ V'.cell? ⟨bm,2,none⟩ = some (.int .i64 m.hop) /\ V'.cell? ⟨bm,3,none⟩ = some (.string m.ex) /\ V'.cell? ⟨bm,4,none⟩ = some (.string m.key) /\ V'.cell? ⟨bm,5,none⟩ = some (.string m.body)) /\ F.Q V.drew b Fq q /\ ∀ V' F',F.Q V' b F' (q.push (toM m)).2 -> Moved V.drew V' Fq F' -> EIn w V' p bm G (pushQ m sc x) m vn ns vw ts /\ V'.heap[p]? = V.heap[p]? /\ V'.heap[qm]? = V.heap[qm]? /\ V'.heap[bm]? = V.heap[bm]? := by
 obtain ⟨G',⟨ft,d,hs,hF⟩,m0,hb,hn,ht⟩ := h
 rcases hs.queueAt wh.fit x with ⟨q1,_⟩ | ⟨q',b,q1,q2,q3,q4⟩
 ·rw [q1] at hq; cases hq
 obtain rfl := Option.some.inj (q1.symm.trans hq)
 refine ⟨d.qm,b,ft (.queue x),fun V' h1 h2 h3 => ?_,q4.same fun _ _ => rfl,fun V' F' t' m' => ?_⟩
 ·have hc := (cells10 (h1.trans hs.blk)).2.2.2.2.2.2.2.1
  have hl := DAt.look (w := V') (hs.qmap.same h2) (hs.dl wh.fit) hx
  rw [q2] at hl
  exact ⟨hc,hl,cellsM (h3.trans hb.1)⟩
 ·have m1 : Moved V V' (ft (.queue x)) F' := Moved.from_below (drew_below V) m'
  have e : G' = fun k => ∃ a,ft a k := funext fun k => propext (hF k)
  have h' := hs.turnQueue q3 m1 t'
  have mm : Moved V V' G' (fun k => ∃ a,upd ft (.queue x) F' a k) := by rw [e]; exact moved_upd m1
  have hE := EIn.step m0 hb hn ht ⟨_,d,h',fun k => Iff.rfl⟩ mm
  rw [<- pushQ_some hq] at hE
  refine ⟨hE,hs.others m1 .main (by simp) p ((hs.fm p).2 rfl),hs.others m1 .qmap (by simp) d.qm ((hs.fq _).2 rfl),?_⟩
  exact mm.block bm (Array.getElem?_eq_some_iff.1 hb.1).1 hb.2
structure Like (V V' : World) (p lm bm : Nat) : Prop where
 p : V'.heap[p]? = V.heap[p]?
 lm : V'.heap[lm]? = V.heap[lm]?
 bm : V'.heap[bm]? = V.heap[bm]?
theorem EIn.addAt {w V : World} {p bm : Nat} {G : Nat -> Prop} {sc : Sm} {m : Ms} {vn : Value} {ns : List ByteArray} {vw : Value} {ts : List Int} (h : EIn w V p bm G sc m vn ns vw ts) (fit : sc.Fit) (up : Up sc.lk) (hnl : sc.lk.length <= 1000000) {t : Int} (ht : I64 t) :
  ∃ (lm : Nat) (vl : Value),(p < V.heap.size /\ lm < V.heap.size /\ bm < V.heap.size) /\ (∀ V' : World,V'.heap[p]? = V.heap[p]? -> V'.cell? ⟨p,9,none⟩ = some (.map (some lm))) /\ (∀ V' : World,V'.heap[bm]? = V.heap[bm]? -> V'.cell? ⟨bm,0,none⟩ = some (.int .i64 m.origin) /\ V'.cell? ⟨bm,1,none⟩ = some (.int .u64 m.seq) /\ V'.cell? ⟨bm,2,none⟩ = some (.int .i64 m.hop) /\ V'.cell? ⟨bm,3,none⟩ = some (.string m.ex) /\ V'.cell? ⟨bm,4,none⟩ = some (.string m.key) /\ V'.cell? ⟨bm,5,none⟩ = some (.string m.body)) /\ (∀ V' : World,V'.heap[lm]? = V.heap[lm]? -> (Instr.lookup 94 (.map (some lm)) (.int .i64 t) false).run Tryz.prog V' = .ok vl V') /\ OwnM V 0 vl (linkOf sc.lk t) /\
   ∀ X w2 v',Below V.heap.size V X -> X.grownBy w2 vl.ownBlock -> OwnM w2 0 v' (linkOf sc.lk t ++ [m]) -> K.NewOr X vl v' -> Like V w2 p lm bm /\ ∃ w3,(Instr.mapUpdate 94 (.map (some lm)) (.int .i64 t) v').run Tryz.prog w2 = .ok () w3 /\ EIn w w3 p bm G (linkAdd m sc t) m vn ns vw ts /\ w3.heap[p]? = V.heap[p]? /\ w3.heap[bm]? = V.heap[bm]? := by
 obtain ⟨G',⟨ft,d,hs,hF⟩,m0,hb,hn,htt⟩ := h
 have hpl := hs.lts .main p ((hs.fm p).2 rfl)
 have hll := hs.lts .lmap d.lm ((hs.fl _).2 rfl)
 have hbl := (Array.getElem?_eq_some_iff.1 hb.1).1
 have hfoot := hs.linkFoot fit t
 refine ⟨d.lm,linkV d t,⟨hpl,hll,hbl⟩,fun V' h1 => (cells10 (h1.trans hs.blk)).2.2.2.2.2.2.2.2.2,fun V' h1 => cellsM (h1.trans hb.1),fun V' h1 => LAt.look (w := V') (hs.lmap.same h1) (hs.ll fit) ht,hs.linkAt fit t,fun X w2 v' bX g2 o2 hnew => ?_⟩
 have hX : SAt X p ft d sc := hs.same fun a k hk => bX.block k (hs.lts a k hk)
 have ne : ∀ k,k < V.heap.size -> ¬ ft (.link t) k -> w2.heap[k]? = V.heap[k]? := fun k hk hn => (g2.block k (Nat.lt_of_lt_of_le hk bX.size) fun e => hn ((hfoot k).2 e.symm)).trans (bX.block k hk)
 have np : ¬ ft (.link t) p := fun hk => by have := hs.one _ _ p hk ((hs.fm p).2 rfl); cases this
 have nl : ¬ ft (.link t) d.lm := fun hk => by have := hs.one _ _ d.lm hk ((hs.fl _).2 rfl); cases this
 have nb : ¬ ft (.link t) bm := fun hk => hb.2 ((hF bm).2 ⟨_,hk⟩)
 have L : Like V w2 p d.lm bm := ⟨ne p hpl np,ne d.lm hll nl,ne bm hbl nb⟩
 obtain ⟨va,vc,hv⟩ := o2.rng.slice
 have hl2 : LAt w2 d.lm d.es := hs.lmap.same L.lm
 have hlen : d.es.length <= 1000000000 := by
  have h1 := congrArg List.length hs.tos
  simp only [List.length_map] at h1
  omega
 rw [hv] at o2 hnew ⊢
 obtain ⟨w3,r3,d3,g3⟩ := hl2.put (hs.ll fit) ht va _ vc hlen
 obtain ⟨s3,m3⟩ := hX.putLink fit up ht g2 o2 hnew d3 g3
 have e : G' = fun k => ∃ a,ft a k := funext fun k => propext (hF k)
 have mm := Moved.from_below bX m3
 rw [<- e] at mm
 refine ⟨L,w3,r3,EIn.step m0 hb hn htt ⟨_,_,s3,fun k => Iff.rfl⟩ mm,?_,mm.block bm hbl hb.2⟩
 have hpq : p ≠ d.lm := fun e => by have := hs.one .main .lmap p ((hs.fm p).2 rfl) ((hs.fl p).2 e); cases this
 exact (g3.block p (by have := g2.size; have := bX.size; omega) (by simpa using hpq)).trans L.p
theorem insL_mem {α : Type} {t : Int} {v : α} {l : List (Int × α)} (up : Up l) {x : Int × α} (h : x ∈ insL t v l) : x = (t,v) \/ x ∈ l := by
 rcases List.mem_cons.1 ((insL_perm t v l up).mem_iff.1 h) with h | h
 ·exact .inl h
 ·exact .inr (List.mem_filter.1 h).1
theorem insL_len {α : Type} {t : Int} {v : α} {l : List (Int × α)} (up : Up l) : (insL t v l).length <= l.length + 1 := by
 rw [(insL_perm t v l up).length_eq,List.length_cons]
 have := List.length_filter_le (fun y : Int × α => !decide (y.1 = t)) l
 omega
structure Lk (n : Nat) (s : Sm) : Prop where
 fit : s.Fit
 up : Up s.lk
 few : ∀ x ∈ s.lk,x.2.length <= 200 + n
 len : s.lk.length <= 8 + n
theorem linkOf_le {s : Sm} {k : Nat} (h : ∀ x ∈ s.lk,x.2.length <= k) (t : Int) : (linkOf s.lk t).length <= k := by
 unfold linkOf
 cases hf : s.lk.find? fun x => decide (x.1 = t) with
 |none => exact Nat.zero_le _
 |some y => exact h y (List.mem_of_find?_eq_some hf)
theorem Lk.add {n : Nat} {s : Sm} (h : Lk n s) (hn : n <= 500) (m : Ms) {t : Int} (ht : I64 t) : Lk (n + 1) (linkAdd m s t) := by
 have hl := linkOf_le h.few t
 have hu := insL_up t (linkOf s.lk t ++ [m]) s.lk h.up
 have hf : ∀ x ∈ (linkAdd m s t).lk,x.2.length <= 200 + (n + 1) := fun x hx => by
  rcases insL_mem h.up hx with rfl | hx
  ·show (linkOf s.lk t ++ [m]).length <= _
   rw [List.length_append]
   simp only [List.length_cons,List.length_nil]
   omega
  ·have := h.few x hx; omega
 refine ⟨⟨h.fit.names,h.fit.short,hu.imp fun h => Int.ne_of_lt h,fun x hx => ?_,fun x hx => by have := hf x hx; omega⟩,hu,hf,?_⟩
 ·rcases insL_mem h.up hx with rfl | hx
  ·exact ht
  ·exact h.fit.small x hx
 ·have := insL_len (t := t) (v := linkOf s.lk t ++ [m]) h.up
  have := h.len
  show (insL t (linkOf s.lk t ++ [m]) s.lk).length <= _
  omega
theorem linkAll_lk {s : Sm} {n : Nat} (h : Lk n s) (m : Ms) (l : List Int) (hl : ∀ t ∈ l,I64 t) (hn : n + l.length <= 500) : Lk (n + l.length) (l.foldl (linkAdd m) s) := by
 induction l generalizing s n with
 |nil => exact h
 |cons t r ih =>
  have h1 := h.add (by simp only [List.length_cons] at hn; omega) m (hl t List.mem_cons_self)
  have h2 := ih h1 (fun x hx => hl x (List.mem_cons_of_mem _ hx)) (by simp only [List.length_cons] at hn; omega)
  rw [show n + (t :: r).length = n + 1 + r.length by simp only [List.length_cons]; omega]
  exact h2
end Go.Proofs.YtjagaankkcbjmaaGreatDoor
