import Derived.Test.YtjagaankkcbjmaaGreatDoorQrA
import Derived.Test.YtjagaankkcbjmaaGreatDoorQr23
import Derived.Test.YtjagaankkcbjmaaGreatDoorRows
import Derived.Test.YtjagaankkcbjmaaGreatDoorQr22
import Derived.WalkKit
import Derived.ProofKit
import Derived.OpenShut
import Derived.ChangeOld
import Derived.SizedLaws
import Derived.DataReads
import Derived.DataElems
import Derived.Deep.DeepHandedRow
namespace Go.Proofs.YtjagaankkcbjmaaGreatDoor.K
end Go.Proofs.YtjagaankkcbjmaaGreatDoor.K
namespace Go.Proofs.YtjagaankkcbjmaaGreatDoor.O
open Go.Proofs.YtjagaankkcbjmaaGreatDoor.K
open Go.RowKit Go.Sort Go.Shelf
def inUpto (l : List (Int × Int)) (H a : Int) (k : Nat) : List Int := ((List.range k).map fun i : Nat => (i : Int)).filter fun n => decide (far l a n ≠ -1 /\ far l a n <= H)
set_option maxRecDepth 20000 in
set_option maxHeartbeats 2000000 in
theorem onward_any (S H a x : Int) (v : Value) (l : List (Int × Int)) (w : World) (hr : RowOf ecells w v l) :
  Calls Tryz.prog 26 #[tv S v H,.int .i64 a,.int .i64 x] w fun e w' => ∃ v',e = .returned v' /\ RowI w' w.heap.size v' (onwardT S l H a x) /\ Below w.heap.size w w' := by
 obtain ⟨ad,cap,rfl⟩ := hr.slice
 have hF := fun W hW => far_any S H a x (.slice ad l.length cap) l W hW
 have hN : Hid _ := fun W hW => next_any S H x (.slice ad l.length cap) l W hW
 have hB0 : Hid (Boxed w ((w.alloc (.cells #[.int .i64 S,.slice ad l.length cap,.int .i64 H] 24)).alloc (.cells #[.int .i64 a] 3)) S (.slice ad l.length cap) H) := (boxed_new _ _ _ _).next ((Below.refl _ _).alloc (yyH _) _) (by simp)
 have hO0 : Hid (((w.alloc (.cells #[.int .i64 S,.slice ad l.length cap,.int .i64 H] 24)).alloc (.cells #[.int .i64 a] 3)).cell? ⟨w.heap.size + 1,0,none⟩ = some (.int .i64 a)) := by
  show World.cell? _ _ = _
  rw [World.cell?_alloc_at _ _ _ _ (by simp)]; rfl
 have HR : Hid (RowOf ecells w (.slice ad l.length cap) l) := hr
 clear hr
 have hrg := farT_range S l H a x
 have hq : Hid (∀ y,farT S l H a x = y -> (¬ (0 <= y /\ y < H) -> onwardT S l H a x = []) /\ (0 <= y /\ y < H -> onwardT S l H a x = (nextT S l H x).filter fun n => !(n == a))) := fun y hy => ⟨fun h => by rw [onwardT,hy,if_neg h],fun h => by rw [onwardT,hy,if_pos h]⟩
 generalize hd : farT S l H a x = d at *
 have hQ := hq.out d rfl
 have HQ : Hid ((¬ (0 <= d /\ d < H) -> onwardT S l H a x = []) /\ (0 <= d /\ d < H -> onwardT S l H a x = (nextT S l H x).filter fun n => !(n == a))) := hQ
 clear hq hQ hd
 by_cases hin : 0 <= d /\ d < H
 ·have hn1 : ¬ d = -1 := by omega
  have hn2 : decide (H <= d) = false := decide_eq_false (by omega)
  go_enter Tryz.func26,Tryz.ntmps26
  go_wp2_with (first
   |(go_at_call 76; refine (hF _ (hB0.out.row HR.out)).mono ?_; rintro e w2 ⟨rfl,b2⟩; have hB1 : Hid (Boxed w w2 S (.slice ad l.length cap) H) := hB0.out.next b2 hB0.out.lt; have hO1 : Hid (w2.cell? ⟨w.heap.size + 1,0,none⟩ = some (.int .i64 a)) := (b2.cell (p := ⟨w.heap.size + 1,0,none⟩) (World.block_lt_of_cell? _ _ hO0.out)).trans hO0.out; have p0 := hB1.out.c0; have p1 := hB1.out.c1; have p2 := hB1.out.c2; clear b2)
   |(go_at_call 78; refine (hN.out _ (hB1.out.row HR.out)).mono ?_; rintro e w3 ⟨v3,rfl,r3,b3⟩; have hB2 : Hid (Boxed w w3 S (.slice ad l.length cap) H) := hB1.out.next b3 hB1.out.lt; have hO2 : Hid (w3.cell? ⟨w.heap.size + 1,0,none⟩ = some (.int .i64 a)) := (b3.cell (p := ⟨w.heap.size + 1,0,none⟩) (World.block_lt_of_cell? _ _ hO1.out)).trans hO1.out; have hlt : Hid (w.heap.size + 1 < w2.heap.size) := World.block_lt_of_cell? _ _ hO1.out; have hle : Hid (w2.heap.size <= w3.heap.size) := b3.size; clear p0 p1 p2 b3)
   |(go_at_call 77; refine (del_any _ _ _ _ a (w.heap.size + 1) r3 hle.out hlt.out hO2.out).mono ?_; rintro e w4 ⟨v4,rfl,r4,b4⟩))
  go_ret
  refine ⟨_,rfl,?_,hB2.out.bel.trans (b4.mono (by have := hlt.out; omega))⟩
  rw [HQ.out.2 hin]
  exact r4.mono (by have := hlt.out; omega)
 ·have hE := HQ.out.1 hin
  by_cases hn1 : d = -1
  ·subst hn1
   go_enter Tryz.func26,Tryz.ntmps26
   go_wp2_with (go_at_call 76; refine (hF _ (hB0.out.row HR.out)).mono ?_; rintro e w2 ⟨rfl,b2⟩; have hB1 : Hid (Boxed w w2 S (.slice ad l.length cap) H) := hB0.out.next b2 hB0.out.lt; clear b2)
   go_ret
   exact ⟨_,rfl,.inl ⟨rfl,hE⟩,hB1.out.bel⟩
  ·have hn2 : H <= d := by omega
   go_enter Tryz.func26,Tryz.ntmps26
   go_wp2_with (go_at_call 76; refine (hF _ (hB0.out.row HR.out)).mono ?_; rintro e w2 ⟨rfl,b2⟩; have hB1 : Hid (Boxed w w2 S (.slice ad l.length cap) H) := hB0.out.next b2 hB0.out.lt; have p2 := hB1.out.c2; clear b2)
   go_ret
   exact ⟨_,rfl,.inl ⟨rfl,hE⟩,hB1.out.bel⟩
def mostUpto (S : Int) (l : List (Int × Int)) (H : Int) (i : Nat) : Int := ((sites S).take i).foldl (fun m a => mostOf S l H m a (withinT S l H a)) 0
end Go.Proofs.YtjagaankkcbjmaaGreatDoor.O
namespace Go.Proofs.YtjagaankkcbjmaaGreatDoor.O
open Go.Proofs.YtjagaankkcbjmaaGreatDoor.K
open Go.ChangeShapes Go.WideShapes Go.ChangeAt Go.RowKit
set_option maxRecDepth 20000
theorem own : ownKnob Tryz.prog.godebug = none := by kernel_rfl
theorem laidOut : laidOutB Tryz.prog = true := by kernel_rfl
theorem cellsI : Tryz.prog.cellsOf 3 = 1 := by kernel_rfl
theorem cellsEd : Tryz.prog.cellsOf 110 = 2 := by kernel_rfl
theorem cellsEds : Tryz.prog.cellsOf 22 = 1 := by kernel_rfl
theorem cellsTopo : Tryz.prog.cellsOf 24 = 3 := by kernel_rfl
theorem list2 {α : Type} {cs : List α} (h : cs.length = 2) : ∃ a b,cs = [a,b] := by
 match cs,h with
 |[a,b],_ => exact ⟨a,b,rfl⟩
theorem list3 {α : Type} {cs : List α} (h : cs.length = 3) : ∃ a b c,cs = [a,b,c] := by
 match cs,h with
 |[a,b,c],_ => exact ⟨a,b,c,rfl⟩
theorem structs_trod {α : Type} {enc : α -> List Value} {K : Nat} [E : Enc enc K] {H : Type} {en : TypeId × Value -> H} {P : Program} {W : World} {S e : TypeId} (hS : P.underlying S = some (.slice e)) (hK : P.cellsOf e = K)
  (hel : ∀ n cs (x : DataW H × List MemPlace),DataW.trod en P W 0 (fun _ => true) true n e cs = some x -> ∃ a : α,cs = enc a)
  {fuel : Nat} {cs : List Value} {xd : DataW H × List MemPlace} (hf : DataW.trod en P W 0 (fun _ => true) true fuel S cs = some xd) : ∃ a len cap l,cs = [.slice a len cap] /\ RowOf enc W (.slice a len cap) l := by
 rcases DataW.trod_slice hS hf with ⟨hcs,_⟩ | ⟨x,len,cap,elems,rest,n,_,hcs,hd,_,hl,hm,hlen,hone,_,_⟩
 ·exact ⟨none,0,0,[],hcs,.inl ⟨rfl,rfl⟩⟩
 ·subst hcs
  have each : ∀ i : Fin len,∃ b : α,(∀ j,j < K -> W.cell? (x.add (i.1 * K + j)) = (enc b)[j]?) := fun i => by
   have h1 := hone i.1 i.2
   have hi' : i.1 < elems.length := by omega
   rw [hK,List.getElem?_eq_getElem hi'] at h1
   cases hc : W.cells? 0 (x.add (i.1 * K)) K with
   |none => rw [hc] at h1; cases h1
   |some cs =>
    rw [hc] at h1
    have h2 : DataW.trod en P W 0 (fun _ => true) true n e cs = some elems[i.1] := h1
    obtain ⟨b,rfl⟩ := hel _ _ _ h2
    refine ⟨b,fun j hj => ?_⟩
    rw [<- Addr.add_add]
    exact (World.cells?_some hc).2.2 j hj
  obtain ⟨f,hff⟩ := Classical.axiomOfChoice each
  have hlf : (List.ofFn f).length = len := by simp
  refine ⟨some x,len,cap,List.ofFn f,rfl,.inr ⟨x,cap,by rw [hlf],by rw [hlf]; omega,hm,fun j u hj => ?_⟩⟩
  have hjl : j < (List.ofFn f).length * K := by rw [<- cellsOf_length (enc := enc)]; exact (List.getElem?_eq_some_iff.1 hj).1
  have hp := E.pos
  have h1 : j / K < (List.ofFn f).length := Nat.div_lt_of_lt_mul (by rw [Nat.mul_comm]; exact hjl)
  have h2 : j % K < K := Nat.mod_lt _ hp
  have h3 : j / K * K + j % K = j := by rw [Nat.mul_comm]; exact Nat.div_add_mod j K
  have hg := cellsOf_get (enc := enc) (List.ofFn f) (j / K) (j % K) h1 h2
  rw [h3,hj] at hg
  rw [hlf] at h1
  have := (hff ⟨j / K,h1⟩) (j % K) h2
  simp only at this
  rw [h3] at this
  rw [this,hg]
  simp
section
variable {H : Type} {enc : TypeId × Value -> H} {W : World}
theorem edge_cells {fuel : Nat} {cs : List Value} {x : DataW H × List MemPlace} (h : DataW.trod enc Tryz.prog W 0 (fun _ => true) true fuel 110 cs = some x) : ∃ a : Int × Int,cs = ecells a := by
 obtain ⟨xs,n,_,hxd,hl,hx,hf⟩ := DataW.trod_struct Tryz.underlying110 h
 have hl' : cs.length = 2 := hl.trans cellsEd
 have f0 := hf 0 _ rfl
 have f1 := hf 1 _ rfl
 change DataW.trod enc Tryz.prog W 0 (fun _ => true) true n 3 (List.take (Tryz.prog.cellsOf 3) (List.drop 0 cs)) = xs[0]? at f0
 change DataW.trod enc Tryz.prog W 0 (fun _ => true) true n 3 (List.take (Tryz.prog.cellsOf 3) (List.drop 1 cs)) = xs[1]? at f1
 rw [cellsI] at f0 f1
 have hx' : xs.length = 2 := hx
 obtain ⟨x0,x1,rfl⟩ := list2 hx'
 obtain ⟨c0,c1,rfl⟩ := list2 hl'
 obtain ⟨k,h0,_,_⟩ := DataW.trod_int Tryz.underlying3 f0
 obtain ⟨m,h1,_,_⟩ := DataW.trod_int Tryz.underlying3 f1
 have e0 : [c0] = [.int .i64 k] := h0
 have e1 : [c1] = [.int .i64 m] := h1
 simp at e0 e1
 exact ⟨(k,m),by rw [e0,e1]; rfl⟩
theorem topo_cells {fuel : Nat} {cs : List Value} {x : DataW H × List MemPlace} (h : DataW.trod enc Tryz.prog W 0 (fun _ => true) true fuel 24 cs = some x) : ∃ (S H : Int) (a : Option Addr) (len cap : Nat) (l : List (Int × Int)),cs = [.int .i64 S,.slice a len cap,.int .i64 H] /\ RowOf ecells W (.slice a len cap) l := by
 obtain ⟨xs,n,_,hxd,hl,hx,hf⟩ := DataW.trod_struct Tryz.underlying24 h
 have hl' : cs.length = 3 := hl.trans cellsTopo
 have f0 := hf 0 _ rfl
 have f1 := hf 1 _ rfl
 have f2 := hf 2 _ rfl
 change DataW.trod enc Tryz.prog W 0 (fun _ => true) true n 3 (List.take (Tryz.prog.cellsOf 3) (List.drop 0 cs)) = xs[0]? at f0
 change DataW.trod enc Tryz.prog W 0 (fun _ => true) true n 22 (List.take (Tryz.prog.cellsOf 22) (List.drop 1 cs)) = xs[1]? at f1
 change DataW.trod enc Tryz.prog W 0 (fun _ => true) true n 3 (List.take (Tryz.prog.cellsOf 3) (List.drop 2 cs)) = xs[2]? at f2
 rw [cellsI] at f0 f2
 rw [cellsEds] at f1
 have hx' : xs.length = 3 := hx
 obtain ⟨x0,x1,x2,rfl⟩ := list3 hx'
 obtain ⟨c0,c1,c2,rfl⟩ := list3 hl'
 obtain ⟨k,h0,_,_⟩ := DataW.trod_int Tryz.underlying3 f0
 obtain ⟨a,len,cap,l,h1,hr⟩ := structs_trod (enc := ecells) Tryz.underlying22 cellsEd (fun n cs x hx => edge_cells hx) f1
 obtain ⟨m,h2,_,_⟩ := DataW.trod_int Tryz.underlying3 f2
 have e0 : [c0] = [.int .i64 k] := h0
 have e1 : [c1] = [.slice a len cap] := h1
 have e2 : [c2] = [.int .i64 m] := h2
 simp at e0 e1 e2
 exact ⟨k,m,a,len,cap,l,by rw [e0,e1,e2],hr⟩
end
structure Tp where
 S : Int
 v : Value
 H : Int
abbrev tpv (t : Tp) : Value := tv t.S t.v t.H
theorem open_topo {H : Type} {enc : TypeId × Value -> H} {W : World} {base : Nat} {v : Value} {d : DataW H} {p : List MemPlace} (hval : Value.okWide Tryz.prog W .any base 24 v)
  (h : DataW.Trod enc Tryz.prog W 0 (fun _ => true) true 24 v d p) : ∃ a : Tp,v = tpv a /\ ∃ l,RowOf ecells W a.v l := by
 obtain ⟨cs,hcs,_⟩ := okWide_struct Tryz.underlying24 hval
 obtain ⟨fuel,hf⟩ := h
 obtain ⟨S,Hh,a,len,cap,l,hm,hr⟩ := topo_cells hf
 refine ⟨⟨S,.slice a len cap,Hh⟩,?_,l,hr⟩
 rw [hcs] at hm ⊢
 have h1 : cs.toList = [.int .i64 S,.slice a len cap,.int .i64 Hh] := hm
 have h2 : cs = #[.int .i64 S,.slice a len cap,.int .i64 Hh] := by apply Array.ext'; exact h1
 rw [h2]
end Go.Proofs.YtjagaankkcbjmaaGreatDoor.O
