import Derived.Test.YtjagaankkcbjmaaGreatDoorQr22
import Derived.WalkMore
import Derived.Laws.ResultCell
import Derived.Laws.Rows
import Derived.Deep.LoopGhost
import Derived.Shelf.SortM.Plain
import Derived.Shelf.SortM.SortNone
import Derived.Shelf.SlicesE.DeleteFunc
import Derived.Test.YtjagaankkcbjmaaGreatDoorProg
set_option maxHeartbeats 2000000
set_option maxRecDepth 20000
namespace Go.Proofs.YtjagaankkcbjmaaGreatDoor.K
end Go.Proofs.YtjagaankkcbjmaaGreatDoor.K
namespace Go.Proofs.YtjagaankkcbjmaaGreatDoor.O
open Go.Proofs.YtjagaankkcbjmaaGreatDoor.K
open Go.RowKit Go.Sort
structure WaysIn (w wr : World) (S H : Int) (v : Value) (f : Int -> Int) : Prop where
 bel : Below w.heap.size w wr
 box : wr.heap[w.heap.size]? = some (.cells #[.int .i64 S,v,.int .i64 H] 24 (0,0))
 res : Arr wr (w.heap.size + 1) 241 9 (fun _ => .int .i64 0)
 arr : Arr wr (w.heap.size + 2) 241 9 (fun i => .int .i64 (f i))
theorem WaysIn.next {w wr wq : World} {S H : Int} {v : Value} {f : Int -> Int} (h : WaysIn w wr S H v f) (hb : Below wr.heap.size wr wq) : WaysIn w wq S H v f := by
 have h1 := h.arr.lt
 exact ⟨h.bel.trans (hb.mono h.bel.size),by rw [hb.block _ (by omega)]; exact h.box,h.res.below hb (by omega),h.arr.below hb h1⟩
theorem WaysIn.c1 {w wr : World} {S H : Int} {v : Value} {f : Int -> Int} (h : WaysIn w wr S H v f) : wr.cell? ⟨w.heap.size,1,none⟩ = some v := by
 rw [cell_of_row wr w.heap.size 1 _ _ (0,0) h.box]; rfl
theorem WaysIn.at {w wr : World} {S H : Int} {v : Value} {f : Int -> Int} (h : WaysIn w wr S H v f) (m : Nat) (hm : m < 9) : wr.cell? ⟨w.heap.size + 2,m,none⟩ = some (.int .i64 (f m)) := h.arr.cell hm
theorem WaysIn.put {w wr : World} {S H : Int} {v : Value} {f : Int -> Int} (h : WaysIn w wr S H v f) (m : Nat) (x : Int) (g : Int -> Int) (hg : ∀ i : Nat,i < 9 -> g i = if (i : Int) = m then x else f i) :
  WaysIn w (wr.setCell ⟨w.heap.size + 2,m,none⟩ (.int .i64 x)) S H v g := by
 refine ⟨h.bel.setCell (by show w.heap.size <= w.heap.size + 2; omega) _,?_,?_,?_⟩
 ·rw [heap_setCell_other _ _ _ _ (by show w.heap.size ≠ w.heap.size + 2; omega)]; exact h.box
 ·exact h.res.same (heap_setCell_other _ _ _ _ (by show w.heap.size + 1 ≠ w.heap.size + 2; omega))
 ·refine (h.arr.set m (.int .i64 x)).congr fun i hi => ?_
  rw [hg i hi]
  by_cases hc : i = m
  ·rw [if_pos hc,if_pos (by omega)]
  ·rw [if_neg hc,if_neg (by omega)]
theorem WaysIn.congr {w wr : World} {S H : Int} {v : Value} {f g : Int -> Int} (h : WaysIn w wr S H v f) (hg : ∀ i : Nat,i < 9 -> g i = f i) : WaysIn w wr S H v g :=
 ⟨h.bel,h.box,h.res,h.arr.congr fun i hi => by rw [hg i hi]⟩
theorem zeroI9 (w : World) : (zeroValue 241).run Tryz.prog w = .ok (.agg (blank 9 (.int .i64 0))) w := by kernel_rfl
abbrev farV (l : List (Int × Int)) (a : Int) : Value := .agg #[.int .i64 (far l a 0),.int .i64 (far l a 1),.int .i64 (far l a 2),.int .i64 (far l a 3),.int .i64 (far l a 4),.int .i64 (far l a 5),.int .i64 (far l a 6),.int .i64 (far l a 7),.int .i64 (far l a 8)]
theorem index9 (f : Int -> Int) (j : Nat) (hj : j < 9) (w : World) : (Instr.index 241 (.agg #[.int .i64 (f 0),.int .i64 (f 1),.int .i64 (f 2),.int .i64 (f 3),.int .i64 (f 4),.int .i64 (f 5),.int .i64 (f 6),.int .i64 (f 7),.int .i64 (f 8)]) (.int .i64 (j : Int))).run Tryz.prog w = .ok (.int .i64 (f j)) w := by
 have hc : j = 0 \/ j = 1 \/ j = 2 \/ j = 3 \/ j = 4 \/ j = 5 \/ j = 6 \/ j = 7 \/ j = 8 := by omega
 rcases hc with rfl | rfl | rfl | rfl | rfl | rfl | rfl | rfl | rfl <;> (show _ = _; kernel_rfl)
theorem info9 : (Tryz.prog.info? 241).map (·.size) = some 9 := by kernel_rfl
theorem results_row {fn : Func} {p : Tmp} (h : fn.results = #[.cell p 241]) (tmps : Array Value) (w : World) (g : Nat) (c : Array Value) (hc : c.size = 9) (hp : tmps.getD p undef = .pointer (some ⟨g,0,none⟩)) (hg : w.heap[g]? = some (.cells c 241 (0,0))) :
  (results fn tmps).run Tryz.prog w = .ok (.agg c) w := by
 have hl := run_loadVar_row (P := Tryz.prog) w g _ 241 c (0,0) _ hg Tryz.underlying241 rfl (by rw [hc]; exact info9)
 have e : (results fn tmps).run Tryz.prog w = ((asAddr (tmps.getD p undef)).run Tryz.prog w).andThen fun a w₁ => (loadVar 241 a).run Tryz.prog w₁ := by
  simp only [results,h]
  simp [Sem.run_bind,Result.andThen]
 rw [e,hp]
 simp [asAddr,hl,Result.andThen]
theorem ret_row {fn : Func} {R : Ending -> World -> Prop} {a : Act} {w : World} {p : Tmp} (h : fn.results = #[.cell p 241]) (g : Nat) (c : Array Value) (hc : c.size = 9) (hp : a.tmps.getD p undef = .pointer (some ⟨g,0,none⟩)) (hd : a.defers = [])
  (hg : w.heap[g]? = some (.cells c 241 (0,0))) (hR : R (.returned (.agg c)) w) : bodyPost Tryz.prog fn R .ret a w :=
 bodyPost_ret (results_row h a.tmps w g c hc hp hg) hd hR
theorem ways_any (S H a : Int) (v : Value) (l : List (Int × Int)) (w : World) (hr : RowOf ecells w v l) (hg : GoodT S l H) (ha : 1 <= a /\ a <= S) :
  Calls Tryz.prog 161 #[tv S v H,.int .i64 a] w fun e w' => e = .returned (farV l a) /\ Below w.heap.size w w' := by
 obtain ⟨ad,cap,rfl⟩ := hr.slice
 obtain ⟨_,hl,hA⟩ := hr.eds
 have l63 : l.length <= 9223372036854775807 := by unfold maxLen at hl; omega
 clear hr hl
 obtain ⟨⟨s1,s2,s3,s4⟩,hE,hN⟩ := hg
 have HE : Hid (∀ e ∈ l,EdgeOk S e) := hE
 clear hE hN
 have z9 := zeroI9
 have hG0 : Hid (WaysIn w (((w.alloc (.cells #[.int .i64 S,.slice ad l.length cap,.int .i64 H] 24)).alloc (.cells (blank 9 (.int .i64 0)) 241)).alloc (.cells (blank 9 (.int .i64 0)) 241)) S H (.slice ad l.length cap) (fun _ => 0)) := by
  refine ⟨(((Below.refl _ _).alloc (Nat.le_refl _) _).alloc (by simp) _).alloc (by simp; omega) _,?_,?_,?_⟩
  ·rw [Below.heap_alloc _ _ _ (by simp; omega),Below.heap_alloc _ _ _ (by simp)]; exact heap_alloc_new w _
  ·have := arr_blank (w.alloc (.cells #[.int .i64 S,.slice ad l.length cap,.int .i64 H] 24)) 9 (.int .i64 0) 241
   rw [World.size_alloc] at this
   exact this.same (Below.heap_alloc _ _ _ (by simp))
  ·have := arr_blank ((w.alloc (.cells #[.int .i64 S,.slice ad l.length cap,.int .i64 H] 24)).alloc (.cells (blank 9 (.int .i64 0)) 241)) 9 (.int .i64 0) 241
   rw [World.size_alloc,World.size_alloc] at this
   exact this
 obtain ⟨n,rfl⟩ : ∃ n : Nat,a = n := ⟨a.toNat,by omega⟩
 have hn9 : n < 9 := by omega
 have hn9' : (n : Int) < 9 := by omega
 go_enter Tryz.func161,Tryz.ntmps161
 go_wp2
 go_step3
 go_wp2
 clear z9
 go_loopg [6,12] 9 (fun g u6 u12 wr => ∃ k : Nat,u12 = .int .i64 k /\ k <= 9 /\ g = 9 - k /\ Hid (WaysIn w wr S H (.slice ad l.length cap) (fun i => if i < k then -1 else 0)))
 case atStart => exact ⟨0,rfl,Nat.zero_le _,rfl,hG0.out.congr fun i _ => by rw [if_neg (by omega)]⟩
 case round =>
  obtain ⟨k,rfl,hk,rfl,hG⟩ := hrel
  clear hG0
  by_cases hlt2 : k < 9
  ·have hlt : (k : Int) < 9 := by omega
   have c0 := hG.out.at k hlt2
   have f0 := hG.out.arr.free k
   go_wp2
   go_roundg (9 - (k + 1))
   case measure => omega
   case rel =>
    refine ⟨k + 1,by go_num,by omega,rfl,hG.out.put k (-1) _ fun i _ => ?_⟩
    by_cases h1 : (i : Int) = k
    ·rw [if_pos h1,if_pos (by omega)]
    ·rw [if_neg h1]
     by_cases h2 : (i : Int) < k
     ·rw [if_pos h2,if_pos (by omega)]
     ·rw [if_neg h2,if_neg (by omega)]
  ·obtain rfl : k = 9 := by omega
   have c0 := hG.out.at n hn9
   have f0 := hG.out.arr.free n
   rw [if_pos (by omega)] at c0
   have hG1 : Hid (WaysIn w (wr.setCell ⟨w.heap.size + 2,n,none⟩ (.int .i64 0)) S H (.slice ad l.length cap) (upto l n 0)) := hG.out.put n 0 _ fun i hi => by
    by_cases h1 : (i : Int) = n
    ·rw [if_pos h1,h1]
     exact upto_eq (by omega) (by omega) fun m hm => by
      obtain rfl : m = 0 := by omega
      simp [R]
    ·rw [if_neg h1,if_pos (by omega)]
     exact upto_eq (by omega) (by omega) fun m hm => by
      obtain rfl : m = 0 := by omega
      simp [R,h1]
   generalize hw1 : wr.setCell ⟨w.heap.size + 2,n,none⟩ (.int .i64 0) = w1 at hG1
   go_wp2
   go_step3
   go_wp2
   clear hw1 c0 f0 hG hlt2 hk
   go_loopg [7] 9 (fun g u7 wr => ∃ L : Nat,u7 = .int .i64 ((L : Int) + 1) /\ L <= 8 /\ g = 9 - L /\ Hid (WaysIn w wr S H (.slice ad l.length cap) (upto l n L)))
   case atStart => exact ⟨0,rfl,Nat.zero_le _,rfl,hG1⟩
   case round =>
    obtain ⟨L,rfl,hL,rfl,hG⟩ := hrel
    clear hG1
    have c1 := hG.out.c1
    go_wp2
    go_loopg [25] l.length (fun g u25 wr => ∃ k : Nat,u25 = .int .i64 k /\ k <= l.length /\ g = l.length - k /\ Hid (WaysIn w wr S H (.slice ad l.length cap) (mid l n L k)))
    case atStart => exact ⟨0,rfl,Nat.zero_le _,rfl,hG.out.congr fun i _ => mid_start _ _ _ _⟩
    case round =>
     obtain ⟨k,rfl,hk,rfl,hM⟩ := hrel
     clear hG c1
     by_cases hlt2 : k < l.length
     ·have hlt : (k : Int) < (l.length : Int) := by omega
      obtain ⟨b,off,rfl,hi⟩ := hA k hlt2
      obtain ⟨e0,e1⟩ := hi.below hM.out.bel (Nat.le_refl _)
      have hok := HE.out _ (List.getElem_mem hlt2)
      have hit : Hid (mid l n L k l[k].1 = L -> mid l n L k l[k].2 = -1 -> ∀ x,mid l n L (k + 1) x = if x = l[k].2 then (L : Int) + 1 else mid l n L k x) := mid_hit hlt2
      have miss : Hid (¬ (mid l n L k l[k].1 = L /\ mid l n L k l[k].2 = -1) -> ∀ x,mid l n L (k + 1) x = mid l n L k x) := mid_miss hlt2
      clear hA hi
      generalize l[k] = x at *
      obtain ⟨x1,x2⟩ := x
      obtain ⟨⟨o1,o2⟩,⟨o3,o4⟩,o5⟩ := hok
      obtain ⟨m1,rfl⟩ : ∃ m : Nat,x1 = m := ⟨x1.toNat,by omega⟩
      obtain ⟨m2,rfl⟩ : ∃ m : Nat,x2 = m := ⟨x2.toNat,by omega⟩
      clear o1 o3 o5
      have g1 : m1 < 9 := by omega
      have g2 : m2 < 9 := by omega
      have i1 : (m1 : Int) < 9 := by omega
      have i2 : (m2 : Int) < 9 := by omega
      generalize hwq : wr.alloc (.cells #[.int .i64 (m1 : Int),.int .i64 (m2 : Int)] 110) = wq
      have hM2 : Hid (WaysIn w wq S H (.slice (some ⟨b,off,none⟩) l.length cap) (mid l n L k)) := hM.out.next (by rw [<- hwq]; exact (Below.refl _ _).alloc (Nat.le_refl _) _)
      have p0 : wq.cell? ⟨wr.heap.size,0,none⟩ = some (.int .i64 m1) := by rw [<- hwq,World.cell?_alloc_at _ _ _ _ rfl]; rfl
      have p1 : wq.cell? ⟨wr.heap.size,1,none⟩ = some (.int .i64 m2) := by rw [<- hwq,World.cell?_alloc_at _ _ _ _ rfl]; rfl
      have d1 := hM2.out.at m1 g1
      have d2 := hM2.out.at m2 g2
      have f2 := hM2.out.arr.free m2
      have hsub : IntKind.i64.wrap ((L : Int) + 1 - 1) = (L : Int) := by rw [IntKind.wrap_i64]; omega
      by_cases h1 : mid l n L k m1 = L
      ·rw [h1] at d1
       by_cases h2 : mid l n L k m2 = -1
       ·rw [h2] at d2
        have hq : Hid (WaysIn w (wq.setCell ⟨w.heap.size + 2,m2,none⟩ (.int .i64 ((L : Int) + 1))) S H (.slice (some ⟨b,off,none⟩) l.length cap) (mid l n L (k + 1))) := hM2.out.put m2 _ _ fun i _ => hit.out h1 h2 i
        clear h1 h2
        go_wp2
        go_roundg (l.length - (k + 1))
        case measure => omega
        case rel => exact ⟨k + 1,by go_num,by omega,rfl,hq⟩
       ·generalize hd2 : mid l n L k m2 = y2 at d2
        have hq : Hid (WaysIn w wq S H (.slice (some ⟨b,off,none⟩) l.length cap) (mid l n L (k + 1))) := hM2.out.congr fun i _ => miss.out (fun h => h2 h.2) i
        rw [hd2] at h2
        clear h1 hd2
        go_wp2
        go_roundg (l.length - (k + 1))
        case measure => omega
        case rel => exact ⟨k + 1,by go_num,by omega,rfl,hq⟩
      ·generalize hd1 : mid l n L k m1 = y1 at d1
       have hq : Hid (WaysIn w wq S H (.slice (some ⟨b,off,none⟩) l.length cap) (mid l n L (k + 1))) := hM2.out.congr fun i _ => miss.out (fun h => h1 h.1) i
       rw [hd1] at h1
       clear hd1 d2
       go_wp2
       go_roundg (l.length - (k + 1))
       case measure => omega
       case rel => exact ⟨k + 1,by go_num,by omega,rfl,hq⟩
     ·obtain rfl : k = l.length := by omega
      have hU : Hid (WaysIn w wr S H (.slice ad l.length cap) (upto l n (L + 1))) := hM.out.congr fun i _ => (mid_end l n L i).symm
      have k0 : wr.cell? ⟨w.heap.size + 2,0,none⟩ = some (.int .i64 (upto l n (L + 1) 0)) := hU.out.at 0 (by omega)
      have k1 : wr.cell? ⟨w.heap.size + 2,1,none⟩ = some (.int .i64 (upto l n (L + 1) 1)) := hU.out.at 1 (by omega)
      have k2 : wr.cell? ⟨w.heap.size + 2,2,none⟩ = some (.int .i64 (upto l n (L + 1) 2)) := hU.out.at 2 (by omega)
      have k3 : wr.cell? ⟨w.heap.size + 2,3,none⟩ = some (.int .i64 (upto l n (L + 1) 3)) := hU.out.at 3 (by omega)
      have k4 : wr.cell? ⟨w.heap.size + 2,4,none⟩ = some (.int .i64 (upto l n (L + 1) 4)) := hU.out.at 4 (by omega)
      have k5 : wr.cell? ⟨w.heap.size + 2,5,none⟩ = some (.int .i64 (upto l n (L + 1) 5)) := hU.out.at 5 (by omega)
      have k6 : wr.cell? ⟨w.heap.size + 2,6,none⟩ = some (.int .i64 (upto l n (L + 1) 6)) := hU.out.at 6 (by omega)
      have k7 : wr.cell? ⟨w.heap.size + 2,7,none⟩ = some (.int .i64 (upto l n (L + 1) 7)) := hU.out.at 7 (by omega)
      have k8 : wr.cell? ⟨w.heap.size + 2,8,none⟩ = some (.int .i64 (upto l n (L + 1) 8)) := hU.out.at 8 (by omega)
      clear hM hk hlt2 hA
      go_wp2
      go_loopg [49] 9 (fun g u49 wr' => ∃ j : Nat,u49 = .int .i64 j /\ j <= 9 /\ g = 9 - j /\ wr' = wr /\ Hid (∀ i : Nat,i < j -> upto l n (L + 1) i ≠ (L : Int) + 1))
      case atStart => exact ⟨0,rfl,Nat.zero_le _,rfl,rfl,fun i hi => absurd hi (Nat.not_lt_zero _)⟩
      case round =>
       obtain ⟨j,rfl,hj9,rfl,rfl,hno⟩ := hrel
       by_cases hlt2 : j < 9
       ·have hlt : (j : Int) < 9 := by omega
        have hin : Hid (upto l n (L + 1) j = (L : Int) + 1 -> L + 1 <= 8) := fun h => by have := level_lt HE.out ha h; omega
        have hnx : Hid (upto l n (L + 1) j ≠ (L : Int) + 1 -> ∀ i : Nat,i < j + 1 -> upto l n (L + 1) i ≠ (L : Int) + 1) := fun h i hi => by
         rcases Nat.lt_or_ge i j with h' | h'
         ·exact hno.out i h'
         ·obtain rfl : i = j := by omega
          exact h
        have hix := index9 (upto l n (L + 1)) j hlt2
        clear hno hj9
        by_cases hj : upto l n (L + 1) j = (L : Int) + 1
        ·have h8 := hin.out hj
         go_wp2
         go_roundg (9 - (L + 1))
         case measure => omega
         case rel => exact ⟨L + 1,by go_num,h8,rfl,hU⟩
        ·have hN : Hid (∀ i : Nat,i < j + 1 -> upto l n (L + 1) i ≠ (L : Int) + 1) := hnx.out hj
         go_wp2
         go_roundg (9 - (j + 1))
         case measure => omega
         case rel => exact ⟨j + 1,by go_num,by omega,rfl,rfl,hN⟩
       ·obtain rfl : j = 9 := by omega
        have hf : ∀ x,upto l n (L + 1) x = far l n x := fun x => level_last s2 HE.out ha (fun x h1 h2 => by
         obtain ⟨i,rfl⟩ : ∃ i : Nat,x = i := ⟨x.toNat,by omega⟩
         exact hno.out i (by omega)) x
        rw [hf] at k0 k1 k2 k3 k4 k5 k6 k7 k8
        clear hf
        have r0 : wr.cell? ⟨w.heap.size + 1,0,none⟩ = some (.int .i64 0) := hU.out.res.cell (by omega)
        have t0 : wr.frozen? ⟨w.heap.size + 1,0,none⟩ = false := hU.out.res.free 0
        have r1 : wr.cell? ⟨w.heap.size + 1,1,none⟩ = some (.int .i64 0) := hU.out.res.cell (by omega)
        have t1 : wr.frozen? ⟨w.heap.size + 1,1,none⟩ = false := hU.out.res.free 1
        have r2 : wr.cell? ⟨w.heap.size + 1,2,none⟩ = some (.int .i64 0) := hU.out.res.cell (by omega)
        have t2 : wr.frozen? ⟨w.heap.size + 1,2,none⟩ = false := hU.out.res.free 2
        have r3 : wr.cell? ⟨w.heap.size + 1,3,none⟩ = some (.int .i64 0) := hU.out.res.cell (by omega)
        have t3 : wr.frozen? ⟨w.heap.size + 1,3,none⟩ = false := hU.out.res.free 3
        have r4 : wr.cell? ⟨w.heap.size + 1,4,none⟩ = some (.int .i64 0) := hU.out.res.cell (by omega)
        have t4 : wr.frozen? ⟨w.heap.size + 1,4,none⟩ = false := hU.out.res.free 4
        have r5 : wr.cell? ⟨w.heap.size + 1,5,none⟩ = some (.int .i64 0) := hU.out.res.cell (by omega)
        have t5 : wr.frozen? ⟨w.heap.size + 1,5,none⟩ = false := hU.out.res.free 5
        have r6 : wr.cell? ⟨w.heap.size + 1,6,none⟩ = some (.int .i64 0) := hU.out.res.cell (by omega)
        have t6 : wr.frozen? ⟨w.heap.size + 1,6,none⟩ = false := hU.out.res.free 6
        have r7 : wr.cell? ⟨w.heap.size + 1,7,none⟩ = some (.int .i64 0) := hU.out.res.cell (by omega)
        have t7 : wr.frozen? ⟨w.heap.size + 1,7,none⟩ = false := hU.out.res.free 7
        have r8 : wr.cell? ⟨w.heap.size + 1,8,none⟩ = some (.int .i64 0) := hU.out.res.cell (by omega)
        have t8 : wr.frozen? ⟨w.heap.size + 1,8,none⟩ = false := hU.out.res.free 8
        have hR : Hid (Arr (((((((((wr.setCell ⟨w.heap.size + 1,0,none⟩ (.int .i64 (far l n 0))).setCell ⟨w.heap.size + 1,1,none⟩ (.int .i64 (far l n 1))).setCell ⟨w.heap.size + 1,2,none⟩ (.int .i64 (far l n 2))).setCell ⟨w.heap.size + 1,3,none⟩ (.int .i64 (far l n 3))).setCell ⟨w.heap.size + 1,4,none⟩ (.int .i64 (far l n 4))).setCell ⟨w.heap.size + 1,5,none⟩ (.int .i64 (far l n 5))).setCell ⟨w.heap.size + 1,6,none⟩ (.int .i64 (far l n 6))).setCell ⟨w.heap.size + 1,7,none⟩ (.int .i64 (far l n 7))).setCell ⟨w.heap.size + 1,8,none⟩ (.int .i64 (far l n 8))) (w.heap.size + 1) 241 9 _) := (((((((((hU.out.res.set 0 (.int .i64 (far l n 0))).set 1 (.int .i64 (far l n 1))).set 2 (.int .i64 (far l n 2))).set 3 (.int .i64 (far l n 3))).set 4 (.int .i64 (far l n 4))).set 5 (.int .i64 (far l n 5))).set 6 (.int .i64 (far l n 6))).set 7 (.int .i64 (far l n 7))).set 8 (.int .i64 (far l n 8)))
        have hB : Hid (Below w.heap.size w (((((((((wr.setCell ⟨w.heap.size + 1,0,none⟩ (.int .i64 (far l n 0))).setCell ⟨w.heap.size + 1,1,none⟩ (.int .i64 (far l n 1))).setCell ⟨w.heap.size + 1,2,none⟩ (.int .i64 (far l n 2))).setCell ⟨w.heap.size + 1,3,none⟩ (.int .i64 (far l n 3))).setCell ⟨w.heap.size + 1,4,none⟩ (.int .i64 (far l n 4))).setCell ⟨w.heap.size + 1,5,none⟩ (.int .i64 (far l n 5))).setCell ⟨w.heap.size + 1,6,none⟩ (.int .i64 (far l n 6))).setCell ⟨w.heap.size + 1,7,none⟩ (.int .i64 (far l n 7))).setCell ⟨w.heap.size + 1,8,none⟩ (.int .i64 (far l n 8)))) := (((((((((hU.out.bel.setCell (p := ⟨w.heap.size + 1,0,none⟩) (Nat.le_succ _) _).setCell (p := ⟨w.heap.size + 1,1,none⟩) (Nat.le_succ _) _).setCell (p := ⟨w.heap.size + 1,2,none⟩) (Nat.le_succ _) _).setCell (p := ⟨w.heap.size + 1,3,none⟩) (Nat.le_succ _) _).setCell (p := ⟨w.heap.size + 1,4,none⟩) (Nat.le_succ _) _).setCell (p := ⟨w.heap.size + 1,5,none⟩) (Nat.le_succ _) _).setCell (p := ⟨w.heap.size + 1,6,none⟩) (Nat.le_succ _) _).setCell (p := ⟨w.heap.size + 1,7,none⟩) (Nat.le_succ _) _).setCell (p := ⟨w.heap.size + 1,8,none⟩) (Nat.le_succ _) _)
        generalize hwf : (((((((((wr.setCell ⟨w.heap.size + 1,0,none⟩ (.int .i64 (far l n 0))).setCell ⟨w.heap.size + 1,1,none⟩ (.int .i64 (far l n 1))).setCell ⟨w.heap.size + 1,2,none⟩ (.int .i64 (far l n 2))).setCell ⟨w.heap.size + 1,3,none⟩ (.int .i64 (far l n 3))).setCell ⟨w.heap.size + 1,4,none⟩ (.int .i64 (far l n 4))).setCell ⟨w.heap.size + 1,5,none⟩ (.int .i64 (far l n 5))).setCell ⟨w.heap.size + 1,6,none⟩ (.int .i64 (far l n 6))).setCell ⟨w.heap.size + 1,7,none⟩ (.int .i64 (far l n 7))).setCell ⟨w.heap.size + 1,8,none⟩ (.int .i64 (far l n 8))) = wf at hR hB
        go_wp2
        clear r0 t0 k0 r1 t1 k1 r2 t2 k2 r3 t3 k3 r4 t4 k4 r5 t5 k5 r6 t6 k6 r7 t7 k7 r8 t8 k8 hwf
        rw [Exit.noGoto_ret]
        exact ret_row rfl (w.heap.size + 1) _ rfl rfl rfl hR.out ⟨rfl,hB.out⟩
end Go.Proofs.YtjagaankkcbjmaaGreatDoor.O
namespace Go.Proofs
open Go.Shelf
def Tryz.sortI_ren : Go.Shelf.Ren := ⟨fun | 5 => 163 | 8 => 233 | 7 => 232 | 19 => 284 | 20 => 285 | 10 => 275 | 11 => 276 | 12 => 277 | 13 => 278 | 14 => 279 | 15 => 280 | 16 => 281 | 17 => 282 | 18 => 283 | 30 => 325 | 31 => 326 | 32 => 327 | 33 => 328 | 34 => 329 | 35 => 330 | 40 => 361 | n => n,fun | 23 => 87 | 25 => 3 | 3 => 3 | 32 => 72 | 22 => 87 | 0 => 0 | 44 => 334 | 46 => 32 | 4 => 4 | 36 => 326 | 35 => 325 | 41 => 331 | 5 => 5 | 9 => 9 | 53 => 361 | 57 => 364 | 63 => 384 | 64 => 341 | n => n,fun | n => n⟩
theorem Tryz.sortI : Go.Proofs.SlLaysM.n5 Tryz.prog Tryz.sortI_ren := {
 mixed := by kernel_rfl
 f5 := ⟨Tryz.f163.name,by decide,Tryz.func163.trans (congrArg some (by kernel_rfl))⟩
 f7 := ⟨Tryz.f232.name,by decide,Tryz.func232.trans (congrArg some (by kernel_rfl))⟩
 f8 := Tryz.func233.trans (congrArg some (by kernel_rfl))
 f10 := ⟨Tryz.f275.name,by decide,Tryz.func275.trans (congrArg some (by kernel_rfl))⟩
 f11 := ⟨Tryz.f276.name,by decide,Tryz.func276.trans (congrArg some (by kernel_rfl))⟩
 f12 := ⟨Tryz.f277.name,by decide,Tryz.func277.trans (congrArg some (by kernel_rfl))⟩
 f13 := ⟨Tryz.f278.name,by decide,Tryz.func278.trans (congrArg some (by kernel_rfl))⟩
 f14 := ⟨Tryz.f279.name,by decide,Tryz.func279.trans (congrArg some (by kernel_rfl))⟩
 f15 := ⟨Tryz.f280.name,by decide,Tryz.func280.trans (congrArg some (by kernel_rfl))⟩
 f16 := ⟨Tryz.f281.name,by decide,Tryz.func281.trans (congrArg some (by kernel_rfl))⟩
 f17 := ⟨Tryz.f282.name,by decide,Tryz.func282.trans (congrArg some (by kernel_rfl))⟩
 f18 := ⟨Tryz.f283.name,by decide,Tryz.func283.trans (congrArg some (by kernel_rfl))⟩
 f19 := Tryz.func284.trans (congrArg some (by kernel_rfl))
 f20 := Tryz.func285.trans (congrArg some (by kernel_rfl))
 f30 := ⟨Tryz.f325.name,by decide,Tryz.func325.trans (congrArg some (by kernel_rfl))⟩
 f31 := Tryz.func326.trans (congrArg some (by kernel_rfl))
 f32 := Tryz.func327.trans (congrArg some (by kernel_rfl))
 f33 := ⟨Tryz.f328.name,by decide,Tryz.func328.trans (congrArg some (by kernel_rfl))⟩
 f34 := ⟨Tryz.f329.name,by decide,Tryz.func329.trans (congrArg some (by kernel_rfl))⟩
 f35 := ⟨Tryz.f330.name,by decide,Tryz.func330.trans (congrArg some (by kernel_rfl))⟩
 f40 := ⟨Tryz.f361.name,by decide,Tryz.func361.trans (congrArg some (by kernel_rfl))⟩
 t0 := Tryz.underlying0
 a0 := Tryz.isAgg0
 z0 := Tryz.sizeOf0
 v0 := Tryz.zeroValue0
 t3 := Tryz.underlying3
 a3 := Tryz.isAgg3
 z3 := Tryz.sizeOf3
 v3 := Tryz.zeroValue3
 t4 := Tryz.underlying4
 a4 := Tryz.isAgg4
 z4 := Tryz.sizeOf4
 v4 := Tryz.zeroValue4
 t5 := Tryz.underlying5
 a5 := Tryz.isAgg5
 z5 := Tryz.sizeOf5
 v5 := Tryz.zeroValue5
 t9 := Tryz.underlying9
 a9 := Tryz.isAgg9
 z9 := Tryz.sizeOf9
 v9 := Tryz.zeroValue9
 t22 := Tryz.underlying87
 a22 := Tryz.isAgg87
 z22 := Tryz.sizeOf87
 v22 := Tryz.zeroValue87
 t23 := Tryz.underlying87
 a23 := Tryz.isAgg87
 z23 := Tryz.sizeOf87
 v23 := Tryz.zeroValue87
 t25 := Tryz.underlying3
 a25 := Tryz.isAgg3
 z25 := Tryz.sizeOf3
 v25 := Tryz.zeroValue3
 t32 := Tryz.underlying72
 a32 := Tryz.isAgg72
 z32 := Tryz.sizeOf72
 v32 := Tryz.zeroValue72
 t35 := Tryz.underlying325
 a35 := Tryz.isAgg325
 z35 := Tryz.sizeOf325
 v35 := Tryz.zeroValue325
 t36 := Tryz.underlying326
 a36 := Tryz.isAgg326
 z36 := Tryz.sizeOf326
 v36 := Tryz.zeroValue326
 t41 := Tryz.underlying331
 a41 := Tryz.isAgg331
 z41 := Tryz.sizeOf331
 v41 := Tryz.zeroValue331
 t44 := Tryz.underlying334
 a44 := Tryz.isAgg334
 z44 := Tryz.sizeOf334
 v44 := Tryz.zeroValue334
 t46 := Tryz.underlying32
 a46 := Tryz.isAgg32
 z46 := Tryz.sizeOf32
 v46 := Tryz.zeroValue32
 t53 := Tryz.underlying361
 a53 := Tryz.isAgg361
 z53 := Tryz.sizeOf361
 v53 := Tryz.zeroValue361
 t57 := Tryz.underlying364
 a57 := Tryz.isAgg364
 z57 := Tryz.sizeOf364
 v57 := Tryz.zeroValue364
 t63 := Tryz.underlying384
 a63 := Tryz.isAgg384
 z63 := Tryz.sizeOf384
 v63 := Tryz.zeroValue384
 t64 := Tryz.underlying341
 a64 := Tryz.isAgg341
 z64 := Tryz.sizeOf341
 v64 := Tryz.zeroValue341 }
def Tryz.delF_ren : Go.Shelf.Ren := ⟨fun | 10 => 77 | 6 => 162 | n => n,fun | 22 => 87 | 23 => 3 | 25 => 142 | 3 => 3 | 4 => 4 | 0 => 0 | n => n,fun | n => n⟩
theorem Tryz.delF : Go.Proofs.SlLaysH.n10 Tryz.prog Tryz.delF_ren := {
 mixed := by kernel_rfl
 f6 := ⟨Tryz.f162.name,by decide,Tryz.func162.trans (congrArg some (by kernel_rfl))⟩
 f10 := ⟨Tryz.f77.name,by decide,Tryz.func77.trans (congrArg some (by kernel_rfl))⟩
 t0 := Tryz.underlying0
 a0 := Tryz.isAgg0
 z0 := Tryz.sizeOf0
 v0 := Tryz.zeroValue0
 t3 := Tryz.underlying3
 a3 := Tryz.isAgg3
 z3 := Tryz.sizeOf3
 v3 := Tryz.zeroValue3
 t4 := Tryz.underlying4
 a4 := Tryz.isAgg4
 z4 := Tryz.sizeOf4
 v4 := Tryz.zeroValue4
 t22 := Tryz.underlying87
 a22 := Tryz.isAgg87
 z22 := Tryz.sizeOf87
 v22 := Tryz.zeroValue87
 a23 := Tryz.isAgg3
 z23 := Tryz.sizeOf3
 t25 := Tryz.underlying142
 a25 := Tryz.isAgg142
 z25 := Tryz.sizeOf142
 v25 := Tryz.zeroValue142 }
end Go.Proofs
namespace Go.Proofs.YtjagaankkcbjmaaGreatDoor.O
open Go.Proofs.YtjagaankkcbjmaaGreatDoor.K
open Go.RowKit Go.Sort Go.Shelf
def RowI (w : World) (base : Nat) (v : Value) (l : List Int) : Prop :=
 (v = .slice none 0 0 /\ l = []) \/ ∃ g cap,v = .slice (some ⟨g,0,none⟩) l.length cap /\ base <= g /\ g < w.heap.size /\ l.length <= cap /\ cap <= maxLen /\ Go.Sort.Holds (Value.int .i64) w g 0 l.toArray
theorem rowI_of_own {w : World} {base : Nat} {v : Value} {l : List Int} (h : Own1 w base 3 v (icells l)) : RowI w base v l := by
 have h' := h
 rcases h.2 with ⟨rfl,hn⟩ | ⟨g,cap,cur,rfl,hb,hg,hnc,hcm,_,_⟩
 ·exact .inl ⟨rfl,List.eq_nil_of_length_eq_zero (by simpa [icells] using hn)⟩
 ·refine .inr ⟨g,cap,by rw [icells_length],hb,(Array.getElem?_eq_some_iff.1 hg).1,by simpa [icells] using hnc,hcm,fun j hj => ?_⟩
  have hj' : j < l.length := by simpa using hj
  refine ⟨?_,by simp [World.frozen?,hg]⟩
  have := World.ownsRow.cells h' (g := g) rfl j (.int .i64 l[j]) (by simp [icells,hj'])
  rw [Go.WideShapes.add_plain] at this
  rw [this,getElem!_pos l.toArray j hj]
  simp
theorem RowI.row {w : World} {base : Nat} {v : Value} {l : List Int} (h : RowI w base v l) : Row w v (icells l) := by
 rcases h with ⟨rfl,rfl⟩ | ⟨g,cap,rfl,_,_,h1,h2,h3⟩
 ·exact .inl ⟨rfl,rfl⟩
 ·refine .inr ⟨⟨g,0,none⟩,cap,by rw [icells_length],by rw [icells_length]; exact h1,h2,fun j u hj => ?_⟩
  rw [Go.WideShapes.add_plain]
  simp only [icells,List.getElem?_map,Option.map_eq_some_iff] at hj
  obtain ⟨x,hx,rfl⟩ := hj
  have hj' : j < l.length := by
   rcases Nat.lt_or_ge j l.length with h | h
   ·exact h
   ·rw [List.getElem?_eq_none h] at hx; cases hx
  have := (h3 j (by simpa using hj')).1
  rw [this,getElem!_pos l.toArray j (by simpa using hj')]
  simp [List.getElem?_eq_getElem hj'] at hx
  simp [hx]
theorem RowI.below {w w' : World} {base B : Nat} {v : Value} {l : List Int} (h : RowI w base v l) (hb : Below B w w') (hB : w.heap.size <= B) : RowI w' base v l := by
 rcases h with h | ⟨g,cap,hv,h1,h2,h3,h4,h5⟩
 ·exact .inl h
 ·refine .inr ⟨g,cap,hv,h1,Nat.lt_of_lt_of_le h2 hb.size,h3,h4,fun j hj => ?_⟩
  rw [hb.cell (p := ⟨g,0 + j,none⟩) (Nat.lt_of_lt_of_le h2 hB),hb.frozen (p := ⟨g,0 + j,none⟩) (Nat.lt_of_lt_of_le h2 hB)]
  exact h5 j hj
theorem RowI.mono {w : World} {base c : Nat} {v : Value} {l : List Int} (h : RowI w base v l) (hc : c <= base) : RowI w c v l := by
 rcases h with h | ⟨g,cap,hv,h1,rest⟩
 ·exact .inl h
 ·exact .inr ⟨g,cap,hv,Nat.le_trans hc h1,rest⟩
theorem RowI.slice {w : World} {base : Nat} {v : Value} {l : List Int} (h : RowI w base v l) : ∃ a cap,v = .slice a l.length cap := by
 rcases h with ⟨rfl,rfl⟩ | ⟨g,cap,rfl,_⟩
 ·exact ⟨_,_,rfl⟩
 ·exact ⟨_,_,rfl⟩
theorem RowI.short {w : World} {base : Nat} {v : Value} {l : List Int} (h : RowI w base v l) : l.length <= maxLen := by
 rcases h with ⟨rfl,rfl⟩ | ⟨g,cap,rfl,_,_,h1,h2,_⟩
 ·exact Nat.zero_le _
 ·omega
theorem below_putRow (w : World) (n g off B : Nat) (d : Array Int) (os : Array Obj) (hB : B <= g) (hs : B <= w.heap.size) : Below B w (grow (putRow (Value.int .i64) (Sort.ahead w n) g off d) os) := by
 refine ⟨rfl,rfl,rfl,?_,fun k hk => ?_⟩
 ·show w.heap.size <= ((putRow (Value.int .i64) (Sort.ahead w n) g off d).heap ++ os).size
  rw [Array.size_append,size_putRow]; exact Nat.le_add_right _ _
 ·rw [heap_grow_old _ _ (by rw [size_putRow]; show k < w.heap.size; omega)]
  simp only [putRow,mapBlock,Array.getElem?_modify]
  rw [if_neg (by omega)]
  rfl
theorem holds_grow {w : World} {g off : Nat} {d : Array Int} (os : Array Obj) (hg : g < w.heap.size) (h : Go.Sort.Holds (Value.int .i64) w g off d) : Go.Sort.Holds (Value.int .i64) (grow w os) g off d := fun j hj => by
 rw [cell?_grow _ _ _ hg,frozen?_grow _ _ _ hg]; exact h j hj
theorem sort_any (w : World) (base : Nat) (v : Value) (l : List Int) (hr : RowI w base v l) (hl : l.length <= 100000) (hbs : base <= w.heap.size) :
  Calls Tryz.prog 163 #[v] w fun e w' => e = .returned (.tuple #[]) /\ RowI w' base v (l.mergeSort fun x y => decide (x <= y)) /\ Below base w w' := by
 rcases hr with ⟨rfl,rfl⟩ | ⟨g,cap,rfl,h1,h2,h3,h4,h5⟩
 ·refine (AnyM.slices_Sort_int_none Tryz.sortI none 0 w).mono ?_
  rintro e w' ⟨rfl,rfl⟩
  exact ⟨rfl,.inl ⟨rfl,by simp⟩,Below.refl _ _⟩
 ·refine (AnyM.slices_Sort_int Tryz.sortI g 0 cap l w h5 h2 (by omega)).mono ?_
  rintro e w' ⟨rfl,n,os,rfl⟩
  refine ⟨rfl,.inr ⟨g,cap,by rw [List.length_mergeSort],h1,?_,by rw [List.length_mergeSort]; exact h3,h4,?_⟩,below_putRow _ _ _ _ _ _ _ h1 hbs⟩
  ·show g < ((putRow (Value.int .i64) (Sort.ahead w n) g 0 _).heap ++ os).size
   rw [Array.size_append,size_putRow]; exact Nat.lt_of_lt_of_le h2 (Nat.le_add_right _ _)
  ·exact holds_grow os (by rw [size_putRow]; exact h2) (holds_putRow _ _ _ _ l.toArray _ (holds_ahead _ w n g 0 _ h5) (by simp))
theorem onward1 (o x : Int) (B : Nat) (W : World) (hc : W.cell? ⟨B,0,none⟩ = some (.int .i64 o)) :
  FnGives Tryz.prog 79 #[.pointer (some ⟨B,0,none⟩)] #[.int .i64 x] (.bool (x == o)) W := by
 show Calls Tryz.prog 79 #[.int .i64 x,.pointer (some ⟨B,0,none⟩)] W _
 go_enter Tryz.func79,Tryz.ntmps79
 go_wp2
 all_goals (go_ret; exact ⟨by simp_all,0,rfl⟩)
theorem del_any (w : World) (base : Nat) (v : Value) (l : List Int) (o : Int) (B : Nat) (hr : RowI w base v l) (hbs : base <= w.heap.size) (hB : B < base) (hc : w.cell? ⟨B,0,none⟩ = some (.int .i64 o)) :
  Calls Tryz.prog 77 #[v,.func (.func 79) #[] #[.pointer (some ⟨B,0,none⟩)]] w fun e w' => ∃ v',e = .returned v' /\ RowI w' base v' (l.filter fun x => !(x == o)) /\ Below base w w' := by
 have hs := hr.short
 have eg : ∀ args w,(callFunc 79 args).run Tryz.prog w = .ok (.enter 79 args) w := enters_of Tryz.func79 (by kernel_rfl) rfl
 rcases hr with ⟨rfl,rfl⟩ | ⟨g,cap,rfl,h1,h2,h3,h4,h5⟩
 ·have hI := AnyE.slices_IndexFunc_empty (P := Tryz.prog) { Tryz.delF with } none 0 (.func (.func 79) #[] #[.pointer (some ⟨B,0,none⟩)]) w
  change Calls Tryz.prog 162 _ _ _ at hI
  go_enter Tryz.func77,Tryz.ntmps77
  go_wp2_with (go_at_call 162; refine hI.mono ?_; rintro e w' ⟨rfl,rfl⟩)
  go_ret
  exact ⟨_,rfl,.inl ⟨rfl,rfl⟩,Below.refl _ _⟩
 ·have hcon := AnyE.slices_DeleteFunc Tryz.delF (Value.int .i64) (fun _ => rfl) (fun x => x == o) 79 #[.pointer (some ⟨B,0,none⟩)] eg 0 Tryz.zeroValue3 g 0 cap l.toArray w
   (fun W x hb => onward1 o x B W ((hb.cell (p := ⟨B,0,none⟩) (Nat.lt_of_lt_of_le hB hbs)).trans hc))
   (fun n os dk x _ => onward1 o x B _ (by
    unfold sortWorld
    rw [cell?_grow _ _ _ (by show B < (putRow _ _ _ _ _).heap.size; rw [size_putRow]; exact Nat.lt_of_lt_of_le hB hbs),cell?_putRow_other _ _ g 0 _ _ (Or.inl (by show B ≠ g; omega))]
    exact hc)) h5 (by unfold maxLen at hs; simp; omega) (by simpa using h3)
  refine hcon.mono ?_
  rintro e w' ⟨rfl,q,rfl⟩
  refine ⟨_,rfl,.inr ⟨g,cap,rfl,h1,by rw [size_putRow]; exact h2,Nat.le_trans (List.length_filter_le _ _) h3,h4,?_⟩,?_⟩
  ·have hh := holds_putRow (Value.int .i64) (Sort.ahead w q) g 0 l.toArray ((l.filter fun x => !(x == o)) ++ List.replicate (l.toArray.size - (l.filter fun x => !(x == o)).length) 0).toArray (holds_ahead _ w q g 0 _ h5) (by simp; have := List.length_filter_le (fun x => !(x == o)) l; omega)
   intro j hj
   have hj' : j < (l.filter fun x => !(x == o)).length := by simpa using hj
   have h := hh j (by rw [List.size_toArray,List.length_append]; omega)
   refine ⟨?_,h.2⟩
   rw [h.1,getElem!_pos _ j (by rw [List.size_toArray,List.length_append]; omega),getElem!_pos _ j (by simpa using hj)]
   simp [List.getElem_append_left hj']
  ·have := below_putRow w q g 0 base ((l.filter fun x => !(x == o)) ++ List.replicate (l.toArray.size - (l.filter fun x => !(x == o)).length) 0).toArray #[] h1 hbs
   rwa [grow_empty] at this
theorem isI : Elem Tryz.prog 87 3 (.int .i64 0) 8 := by
 have hinfo : (Tryz.prog.info? 3).map (fun i => (i.zero,i.size,i.bytes)) = some (some (.int .i64 0),1,8) := by kernel_rfl
 obtain ⟨i0,hi,hz0,hz1,hz2⟩ := info_parts hinfo
 exact ⟨Tryz.underlying87,⟨i0,hi,hz0,hz1,hz2⟩,rfl⟩
structure Boxed (w wr : World) (S : Int) (v : Value) (H : Int) : Prop where
 bel : Below w.heap.size w wr
 box : wr.heap[w.heap.size]? = some (.cells #[.int .i64 S,v,.int .i64 H] 24 (0,0))
theorem boxed_new (w : World) (S : Int) (v : Value) (H : Int) : Boxed w (w.alloc (.cells #[.int .i64 S,v,.int .i64 H] 24)) S v H :=
 ⟨(Below.refl _ _).alloc (Nat.le_refl _) _,heap_alloc_new w _⟩
theorem Boxed.lt {w wr : World} {S H : Int} {v : Value} (h : Boxed w wr S v H) : w.heap.size < wr.heap.size := (Array.getElem?_eq_some_iff.1 h.box).1
theorem Boxed.next {w wr wq : World} {S H : Int} {v : Value} {B : Nat} (h : Boxed w wr S v H) (hb : Below B wr wq) (hB : w.heap.size < B) : Boxed w wq S v H :=
 ⟨h.bel.trans (hb.mono (Nat.le_of_lt hB)),by rw [hb.block _ hB]; exact h.box⟩
theorem Boxed.c0 {w wr : World} {S H : Int} {v : Value} (h : Boxed w wr S v H) : wr.cell? ⟨w.heap.size,0,none⟩ = some (.int .i64 S) := by
 rw [cell_of_row wr w.heap.size 0 _ _ (0,0) h.box]; rfl
theorem Boxed.c1 {w wr : World} {S H : Int} {v : Value} (h : Boxed w wr S v H) : wr.cell? ⟨w.heap.size,1,none⟩ = some v := by
 rw [cell_of_row wr w.heap.size 1 _ _ (0,0) h.box]; rfl
theorem Boxed.c2 {w wr : World} {S H : Int} {v : Value} (h : Boxed w wr S v H) : wr.cell? ⟨w.heap.size,2,none⟩ = some (.int .i64 H) := by
 rw [cell_of_row wr w.heap.size 2 _ _ (0,0) h.box]; rfl
theorem Boxed.row {w wr : World} {S H : Int} {v : Value} {l : List (Int × Int)} (h : Boxed w wr S v H) (hr : RowOf ecells w v l) : RowOf ecells wr v l := hr.below h.bel (Nat.le_refl _)
theorem row_one' (w : World) (e : TypeId) (u : Value) (n : Nat) (hn : n = w.heap.size) : Row (w.alloc (.cells #[u] e)) (.slice (some ⟨n,0,none⟩) 1 1) [u] := by
 subst hn; exact row_one w e u
def tosOf (a : Int) (l : List (Int × Int)) : List Int := (l.filter fun e => e.1 == a).map (·.2)
theorem next_any (S H a : Int) (v : Value) (l : List (Int × Int)) (w : World) (hr : RowOf ecells w v l) :
  Calls Tryz.prog 78 #[tv S v H,.int .i64 a] w fun e w' => ∃ v',e = .returned v' /\ RowI w' w.heap.size v' (nextT S l H a) /\ Below w.heap.size w w' := by
 obtain ⟨ad,cap,rfl⟩ := hr.slice
 have hG0 := fun W hW => good_any S H (.slice ad l.length cap) l W hW
 have hB0 : Hid (Boxed w (w.alloc (.cells #[.int .i64 S,.slice ad l.length cap,.int .i64 H] 24)) S (.slice ad l.length cap) H) := boxed_new _ _ _ _
 by_cases hg : GoodT S l H
 ·rw [goodB_true hg] at hG0
  have hfew := hg.few
  have HG : Hid (GoodT S l H) := hg
  clear hg
  obtain ⟨_,_,hA⟩ := hr.eds
  have hA' : Hid (∀ i (hi : i < l.length),∃ b off,ad = some ⟨b,off,none⟩ /\ EdAt w b (off + i * 2) l[i]) := hA
  clear hA
  go_enter Tryz.func78,Tryz.ntmps78
  go_wp2_with (go_at_call 24; refine (hG0 _ (hB0.out.row hr)).mono ?_; rintro e w2 ⟨rfl,b2⟩; have hB1 : Hid (Boxed w w2 S (.slice ad l.length cap) H) := hB0.out.next b2 hB0.out.lt; have c1 := hB1.out.c1)
  clear hG0 b2 hr c1
  go_loopw [5,7,14] (fun u5 u7 u14 wr => ∃ k : Nat,u14 = .int .i64 k /\ k <= l.length /\ Hid (Own1 wr (w.heap.size + 1) 3 u5 (icells (tosOf a (l.take k)))) /\ (tosOf a (l.take k)).length <= k /\ Hid (Boxed w wr S (.slice ad l.length cap) H)) (fun u5 u7 u14 wr => l.length - (intOf u14).toNat)
  case atStart => exact ⟨0,rfl,Nat.zero_le _,own1_nil _ _ _,by simp [tosOf],hB1⟩
  case round =>
   obtain ⟨k,rfl,hk,hO,hlen,hB⟩ := hrel
   clear hB0 hB1
   by_cases hlt2 : k < l.length
   ·have hlt : (k : Int) < (l.length : Int) := by omega
    obtain ⟨b,off,rfl,hi⟩ := hA'.out k hlt2
    obtain ⟨e0,e1⟩ := hi.below hB.out.bel (Nat.le_refl _)
    have hx : Hid (tosOf a (l.take (k + 1)) = tosOf a (l.take k) ++ tosOf a [l[k]]) := by
     show tosOf a (l.take (k + 1)) = _
     rw [List.take_succ_eq_append_getElem hlt2]; unfold tosOf; rw [List.filter_append,List.map_append]
    clear hA' hi
    generalize l[k] = x at *
    obtain ⟨x1,x2⟩ := x
    generalize hout : tosOf a (l.take k) = out at *
    have hsz := hB.out.lt
    have HS : Hid (w.heap.size < wr.heap.size) := hsz
    obtain ⟨oa,oc,rfl⟩ : ∃ oa oc,u5 = .slice oa out.length oc := by
     obtain ⟨oa,oc,h⟩ := hO.out.row.sliceInts; exact ⟨oa,oc,h⟩
    by_cases hxa : x1 = a
    ·subst hxa
     rw [show tosOf x1 [(x1,x2)] = [x2] by simp [tosOf]] at hx
     go_wp2_with (at_builtin; refine wpList_append_row rfl _ _ 87 3 (.int .i64 0) 8 isI rfl (w.heap.size + 1) _ _ (icells out) [.int .i64 x2] rfl rfl (World.ownsRow.alloc (World.ownsRow.alloc hO.out _) _) (row_one' _ _ _ _ (by simp)) (by simp [Value.oneCell']) (by rw [icells_length]; simp; omega) (by rw [icells_length]; simp; omega) (by have := HS.out; simp; omega) ?_; intro v' w4 hown' hb4 hs4)
     go_roundw
     case rel =>
      refine ⟨k + 1,by go_num,by omega,?_,by rw [hx.out]; simp; omega,hB.out.next ((((Below.refl (w.heap.size + 1) wr).alloc HS.out _).alloc (by have := HS.out; simp; omega) _).trans hb4) (Nat.lt_succ_self _)⟩
      rw [hx.out,icells_append]
      exact hown'
     case measure => simp [intOf]; omega
    ·rw [show tosOf a [(x1,x2)] = [] by simp [tosOf,hxa],List.append_nil] at hx
     go_wp2
     refine ⟨⟨k + 1,by go_num,by omega,?_,by rw [hx.out]; omega,hB.out.next ((Below.refl _ _).alloc (Nat.le_refl _) _) HS.out⟩,by simp [intOf]; omega⟩
     rw [hx.out]
     exact World.ownsRow.alloc hO.out _
   ·obtain rfl : k = l.length := by omega
    have hR := rowI_of_own hO.out
    rw [List.take_length] at hR hlen
    go_wp2_with (go_at_call 163; refine (sort_any _ _ _ _ hR (by omega) (by have := hB.out.lt; omega)).mono ?_; rintro e w3 ⟨rfl,hR3,b3⟩)
    go_ret
    refine ⟨_,rfl,?_,(hB.out.bel.trans (b3.mono (Nat.le_succ _)))⟩
    have he : (tosOf a l).mergeSort (fun x y => decide (x <= y)) = nextT S l H a := by
     rw [nextT,if_pos HG.out]
     refine sorted_unique ((List.mergeSort_perm _ _).trans (next_perm HG.out a)) ?_ ((nextL_lt S l a).imp fun h => Int.le_of_lt h)
     have := List.pairwise_mergeSort (le := fun x y : Int => decide (x <= y)) (fun x y z h1 h2 => by simp at *; omega) (fun x y => by simp; omega) (tosOf a l)
     exact this.imp fun h => by simpa using h
    rw [he] at hR3
    exact hR3.mono (Nat.le_succ _)
 ·rw [goodB_false hg] at hG0
  go_enter Tryz.func78,Tryz.ntmps78
  go_wp2_with (go_at_call 24; refine (hG0 _ (hB0.out.row hr)).mono ?_; rintro e w2 ⟨rfl,b2⟩; have hB1 : Hid (Boxed w w2 S (.slice ad l.length cap) H) := hB0.out.next b2 hB0.out.lt)
  go_ret
  exact ⟨_,rfl,.inl ⟨rfl,by rw [nextT,if_neg hg]⟩,hB1.out.bel⟩
theorem known_yes (S H n : Int) (a : Option Addr) (l c : Nat) (h : 1 <= n /\ n <= S) (w : World) : Calls Tryz.prog 71 #[tv S (.slice a l c) H,.int .i64 n] w fun e w' => e = .returned (.bool true) /\ Grew w w' := by
 have := known_any S H n a l c w
 rw [decide_eq_true h] at this; exact this
theorem known_no (S H n : Int) (a : Option Addr) (l c : Nat) (h : ¬ (1 <= n /\ n <= S)) (w : World) : Calls Tryz.prog 71 #[tv S (.slice a l c) H,.int .i64 n] w fun e w' => e = .returned (.bool false) /\ Grew w w' := by
 have := known_any S H n a l c w
 rw [decide_eq_false h] at this; exact this
theorem far_any (S H a x : Int) (v : Value) (l : List (Int × Int)) (w : World) (hr : RowOf ecells w v l) :
  Calls Tryz.prog 76 #[tv S v H,.int .i64 a,.int .i64 x] w fun e w' => e = .returned (.int .i64 (farT S l H a x)) /\ Below w.heap.size w w' := by
 obtain ⟨ad,cap,rfl⟩ := hr.slice
 have hG0 := fun W hW => good_any S H (.slice ad l.length cap) l W hW
 have hB0 : Hid (Boxed w (w.alloc (.cells #[.int .i64 S,.slice ad l.length cap,.int .i64 H] 24)) S (.slice ad l.length cap) H) := boxed_new _ _ _ _
 have HR : Hid (RowOf ecells w (.slice ad l.length cap) l) := hr
 clear hr
 by_cases hg : GoodT S l H
 ·rw [goodB_true hg] at hG0
  have HG : Hid (GoodT S l H) := hg
  have hs8 : S <= 8 := hg.1.2.1
  clear hg
  by_cases ha : 1 <= a /\ a <= S
  ·by_cases hx : 1 <= x /\ x <= S
   ·have HW : Hid _ := fun W hW => ways_any S H a (.slice ad l.length cap) l W hW HG.out ha
    have hf : Hid (farT S l H a x = far l a x) := by show farT S l H a x = _; rw [farT,if_pos ⟨HG.out,ha,hx⟩]
    obtain ⟨n,rfl⟩ : ∃ n : Nat,x = n := ⟨x.toNat,by omega⟩
    have hix := index9 (far l a) n (by omega)
    go_enter Tryz.func76,Tryz.ntmps76
    go_wp2_with (first
     |(go_at_call 24; refine (hG0 _ (hB0.out.row HR.out)).mono ?_; rintro e w2 ⟨rfl,b2⟩; have hB1 : Hid (Boxed w w2 S (.slice ad l.length cap) H) := hB0.out.next b2 hB0.out.lt; have p0 := hB1.out.c0; have p1 := hB1.out.c1; have p2 := hB1.out.c2; clear b2)
     |(go_at_call 71; refine (known_yes _ _ _ _ _ _ (by assumption) _).mono ?_; rintro e w3 ⟨rfl,g3⟩; have hB2 : Hid (Boxed w w3 S (.slice ad l.length cap) H) := hB1.out.next (Grew.below g3 (Nat.le_refl _)) hB1.out.lt; clear p0 p1 p2 g3; have p0 := hB2.out.c0; have p1 := hB2.out.c1; have p2 := hB2.out.c2)
     |(go_at_call 71; refine (known_yes _ _ _ _ _ _ (by assumption) _).mono ?_; rintro e w4 ⟨rfl,g4⟩; have hB3 : Hid (Boxed w w4 S (.slice ad l.length cap) H) := hB2.out.next (Grew.below g4 (Nat.le_refl _)) hB2.out.lt; clear p0 p1 p2 g4; have p0 := hB3.out.c0; have p1 := hB3.out.c1; have p2 := hB3.out.c2)
     |(go_at_call 161; refine (HW.out _ (hB3.out.row HR.out)).mono ?_; rintro e w5 ⟨rfl,b5⟩))
    go_ret
    exact ⟨ret_int hf.out.symm,hB3.out.bel.trans (b5.mono (Nat.le_of_lt hB3.out.lt))⟩
   ·have hf : Hid (farT S l H a x = -1) := by show farT S l H a x = _; rw [farT,if_neg (fun h => hx h.2.2)]
    go_enter Tryz.func76,Tryz.ntmps76
    go_wp2_with (first
     |(go_at_call 24; refine (hG0 _ (hB0.out.row HR.out)).mono ?_; rintro e w2 ⟨rfl,b2⟩; have hB1 : Hid (Boxed w w2 S (.slice ad l.length cap) H) := hB0.out.next b2 hB0.out.lt; have p0 := hB1.out.c0; have p1 := hB1.out.c1; have p2 := hB1.out.c2; clear b2)
     |(go_at_call 71; refine (known_yes _ _ _ _ _ _ (by assumption) _).mono ?_; rintro e w3 ⟨rfl,g3⟩; have hB2 : Hid (Boxed w w3 S (.slice ad l.length cap) H) := hB1.out.next (Grew.below g3 (Nat.le_refl _)) hB1.out.lt; clear p0 p1 p2 g3; have p0 := hB2.out.c0; have p1 := hB2.out.c1; have p2 := hB2.out.c2)
     |(go_at_call 71; refine (known_no _ _ _ _ _ _ (by assumption) _).mono ?_; rintro e w4 ⟨rfl,g4⟩; have hB3 : Hid (Boxed w w4 S (.slice ad l.length cap) H) := hB2.out.next (Grew.below g4 (Nat.le_refl _)) hB2.out.lt; clear p0 p1 p2 g4))
    go_ret
    exact ⟨ret_int hf.out.symm,hB3.out.bel⟩
  ·have hf : Hid (farT S l H a x = -1) := by show farT S l H a x = _; rw [farT,if_neg (fun h => ha h.2.1)]
   go_enter Tryz.func76,Tryz.ntmps76
   go_wp2_with (first
    |(go_at_call 24; refine (hG0 _ (hB0.out.row HR.out)).mono ?_; rintro e w2 ⟨rfl,b2⟩; have hB1 : Hid (Boxed w w2 S (.slice ad l.length cap) H) := hB0.out.next b2 hB0.out.lt; have p0 := hB1.out.c0; have p1 := hB1.out.c1; have p2 := hB1.out.c2; clear b2)
    |(go_at_call 71; refine (known_no _ _ _ _ _ _ (by assumption) _).mono ?_; rintro e w3 ⟨rfl,g3⟩; have hB2 : Hid (Boxed w w3 S (.slice ad l.length cap) H) := hB1.out.next (Grew.below g3 (Nat.le_refl _)) hB1.out.lt; clear p0 p1 p2 g3))
   go_ret
   exact ⟨ret_int hf.out.symm,hB2.out.bel⟩
 ·rw [goodB_false hg] at hG0
  have hf : Hid (farT S l H a x = -1) := by show farT S l H a x = _; rw [farT,if_neg (fun h => hg h.1)]
  go_enter Tryz.func76,Tryz.ntmps76
  go_wp2_with (go_at_call 24; refine (hG0 _ (hB0.out.row HR.out)).mono ?_; rintro e w2 ⟨rfl,b2⟩; have hB1 : Hid (Boxed w w2 S (.slice ad l.length cap) H) := hB0.out.next b2 hB0.out.lt; clear b2)
  go_ret
  exact ⟨ret_int hf.out.symm,hB1.out.bel⟩
end Go.Proofs.YtjagaankkcbjmaaGreatDoor.O
