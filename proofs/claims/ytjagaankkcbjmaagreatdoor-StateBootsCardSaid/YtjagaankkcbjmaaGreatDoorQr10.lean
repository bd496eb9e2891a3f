import Derived.Test.YtjagaankkcbjmaaGreatDoorQrA
import Derived.Test.YtjagaankkcbjmaaGreatDoorQr9
import Derived.RangeFuncNested
import Derived.RangeFuncBound
import Derived.RangeFuncCalls
import Derived.RangeFuncLeaves
import Derived.RangeFuncBox
import Derived.Shelf.Abstract
import Derived.Shelf.RegionOpen
import Derived.OwnWalkIn
import Derived.TacticsInMore
import Derived.LoopNIn
import Derived.LoopIn
import Derived.Maps.AppendAt
import Derived.Test.YtjagaankkcbjmaaGreatDoorQr1
set_option maxHeartbeats 2000000
set_option maxRecDepth 100000
namespace Go.Proofs.YtjagaankkcbjmaaGreatDoor.S
open Go.RowKit Go.Shelf
set_option maxRecDepth 20000
attribute [local go_sem] Oper.semAt_some
def liveK (f : Nat -> List (Nat × Nat)) (k : Nat) : List Nat := (List.range k).filter fun i => decide (0 < topL (f i))
def liveL (f : Nat -> List (Nat × Nat)) : List Nat := liveK f 8
theorem liveK_len (f : Nat -> List (Nat × Nat)) (k : Nat) : (liveK f k).length <= k := by
 have := List.length_filter_le (fun i => decide (0 < topL (f i))) (List.range k)
 simpa [liveK] using this
theorem liveK_yes {f : Nat -> List (Nat × Nat)} {k : Nat} (h : 0 < topL (f k)) : liveK f (k + 1) = liveK f k ++ [k] := by simp [liveK,List.range_succ,List.filter_append,h]
theorem liveK_no {f : Nat -> List (Nat × Nat)} {k : Nat} (h : ¬ 0 < topL (f k)) : liveK f (k + 1) = liveK f k := by simp [liveK,List.range_succ,List.filter_append,h]
theorem liveK_pre {f : Nat -> List (Nat × Nat)} {k m : Nat} (h : k <= m) : liveK f k <+: liveK f m := by
 obtain ⟨d,rfl⟩ := Nat.exists_eq_add_of_le h
 induction d with
 |zero => exact List.prefix_refl _
 |succ d ih =>
  refine (ih (by omega)).trans ?_
  rw [<- Nat.add_assoc]
  by_cases ht : 0 < topL (f (k + d))
  ·rw [liveK_yes ht]; exact List.prefix_append _ _
  ·rw [liveK_no ht]; exact List.prefix_refl _
def Gives (w : World) (b : Value) (s : Nat -> Value) (f : Nat -> List (Nat × Nat)) : Prop := ∀ V,Below w.heap.size w V -> ∀ i : Nat,i < 8 -> Calls Tryz.prog 134 #[b,.int .i64 ((i : Int) + 1)] V (fun e w' => e = .returned (s i) /\ w' = V) /\ Lies V (s i) (f i)
theorem Told.gives {w : World} {b : Value} {f : Nat -> List (Nat × Nat)} (h : Told w b f) : ∃ s,Gives w b s f := by
 rcases h.way with ⟨rfl,rfl⟩ | ⟨p,s,rfl,hp,hs⟩
 ·exact ⟨fun _ => .pointer none,fun V _ i _ => ⟨of_none _ _ V (.inl rfl) (.inl rfl),.inl ⟨rfl,rfl⟩⟩⟩
 ·exact ⟨s,fun V hV i hi => ⟨of_ptr p i _ s V hi rfl (by rw [hV.block p (yyD hp).1]; exact hp),(hs i hi).below hV (yyH _)⟩⟩
def KeepB (n₀ Bn : Nat) (W W' : World) : Prop := Below n₀ W W' /\ W'.heap[Bn]? = W.heap[Bn]?
theorem keepB_t {n₀ Bn : Nat} {A B C : World} (h : KeepB n₀ Bn A B) (k : KeepB n₀ Bn B C) : KeepB n₀ Bn A C := ⟨h.1.trans k.1,k.2.trans h.2⟩
theorem keepB_b {n₀ Bn : Nat} {w : World} (hn : n₀ <= w.heap.size) (hB : Bn < w.heap.size) (W : World) (l : Nat) (o o' : Obj) (hl : w.heap.size <= l) (h : W.heap[l]? = some o) (h1 : o.isCells = false) (h2 : o.isWalk = false) : KeepB n₀ Bn W (W.putObj l o') :=
 ⟨belowK_b hn W l o o' hl h h1 h2,World.putObj_heap_other (by omega)⟩
theorem all_any (q : Option Addr) (w : World) :
  Calls Tryz.prog 133 #[.pointer q] w fun e w' => e = .returned (.func (.func 213) #[] #[.pointer (some ⟨w.heap.size,0,none⟩)]) /\ w' = w.alloc (.cells #[.pointer q] 93) := by
 go_enter Tryz.func133,Tryz.ntmps133
 go_wp2
 go_ret
 exact ⟨rfl,rfl⟩
theorem all1_in (n : Nat) (_hn : 1 <= n) (l Bn : Nat) (b : Value) (s : Nat -> Value) (f : Nat -> List (Nat × Nat)) (w : World) (hg : Gives w b s f) (J Jx : List Nat -> World -> Prop)
  (hY : ∀ (pre : List Nat) (x : Nat) (W : World),x < 8 -> J pre W -> pre.length < 8 -> YieldAt Fence.wide (n - 1) Tryz.prog l #[.int .i64 ((x : Int) + 1),s x] W fun e W' =>
   (e = .returned (.bool true) /\ J (pre ++ [x]) W' /\ KeepB w.heap.size Bn W W') \/ (e = .returned (.bool false) /\ Jx (pre ++ [x]) W'))
  (W : World) (hW : Below w.heap.size w W) (hBn : W.cell? ⟨Bn,0,none⟩ = some b) (h0 : J [] W) :
  CallsIn Fence.wide n Tryz.prog 213 #[.func (.yield l) #[] #[],.pointer (some ⟨Bn,0,none⟩)] W fun e W' => (∃ v,e = .returned v) /\
   ((∃ ys,ys = liveL f /\ J ys W') \/ (∃ pre,pre <+: liveL f /\ Jx pre W')) := by
 refine callsIn_of_wp Tryz.func213 rfl trivial ?_ rfl
 simp only [Tryz.ntmps213,List.size_toArray,List.length_cons,List.length_nil,Nat.reduceAdd,Nat.reduceSub,Array.replicate_succ,Array.replicate_zero,List.push_toArray,List.append_toArray,List.nil_append,List.cons_append]
 gi_wp2
 gi_loopw [3] (fun p wr => ∃ k : Nat,p = .int .i64 ((k : Int) + 1) /\ k <= 8 /\ Below w.heap.size w wr /\ wr.cell? ⟨Bn,0,none⟩ = some b /\ J (liveK f k) wr)
  (fun p _ => 9 - (intOf p).toNat)
 case atStart => exact ⟨0,rfl,by omega,hW,hBn,h0⟩
 case round =>
  obtain ⟨k,rfl,hk,hB,hc,hJ⟩ := hrel
  have hKn := known_any ((k : Int) + 1) wr
  by_cases hlt : k < 8
  ·rw [show knownB ((k : Int) + 1) = true from decide_eq_true (by omega)] at hKn
   obtain ⟨hO,hL⟩ := hg wr hB k hlt
   have hT := top_any (s k) (f k) wr hL
   obtain ⟨q,hq⟩ := hL.ptr
   have hst := @liveK_yes f k
   have hst2 := @liveK_no f k
   have HP : Hid (liveK f k ++ [k] = liveK f (k + 1) -> liveK f k ++ [k] <+: liveL f) := fun e => by rw [e]; exact liveK_pre (by omega)
   have hYk := hY (liveK f k) k wr hlt hJ (by have := liveK_len f k; omega)
   rw [hq] at hO hT hYk
   generalize hm : topL (f k) = m at hT hst hst2
   clear hm hL hY
   by_cases hp : 0 < m
   ·have hd : decide ((0 : Int) < (m : Int)) = true := decide_eq_true (by omega)
    have HS : Hid (liveK f (k + 1) = liveK f k ++ [k]) := hst hp
    clear hst hst2
    obtain ⟨fn,tmps,assign,body,hy,hR⟩ := hYk
    gi_wp2_with (first
     |(refine ⟨trivial,?_⟩; gi_at_call 214; refine (callsIn_wide.2 hKn).mono ?_; rintro e w' ⟨rfl,rfl⟩)
     |(refine ⟨trivial,?_⟩; gi_at_call 134; refine (callsIn_wide.2 hO).mono ?_; rintro e w' ⟨rfl,rfl⟩)
     |(refine ⟨trivial,?_⟩; gi_at_call 215; refine (callsIn_wide.2 hT).mono ?_; rintro e w' ⟨rfl,rfl⟩))
    refine hR.mono ?_
    rintro e W3 (⟨rfl,hJ3,hk3⟩ | ⟨rfl,hJx3⟩)
    ·gi_wp2
     go_roundw
     case rel => exact ⟨k + 1,by go_num,by omega,hB.trans hk3.1,(World.cell?_of_block (a := ⟨Bn,0,none⟩) hk3.2).trans hc,by rw [HS.out]; exact hJ3⟩
     case measure => simp [intOf]; omega
    ·gi_wp2
     refine bodyPost_ret (results_none rfl _ _ _) rfl ?_
     exact ⟨⟨_,rfl⟩,.inr ⟨_,HP.out HS.out.symm,hJx3⟩⟩
   ·have HS : Hid (liveK f (k + 1) = liveK f k) := hst2 hp
    clear hst hst2
    obtain rfl : m = 0 := by omega
    rw [show ((0 : Nat) : Int) = 0 from rfl] at hT
    gi_wp2_with (first
     |(refine ⟨trivial,?_⟩; gi_at_call 214; refine (callsIn_wide.2 hKn).mono ?_; rintro e w' ⟨rfl,rfl⟩)
     |(refine ⟨trivial,?_⟩; gi_at_call 134; refine (callsIn_wide.2 hO).mono ?_; rintro e w' ⟨rfl,rfl⟩)
     |(refine ⟨trivial,?_⟩; gi_at_call 215; refine (callsIn_wide.2 hT).mono ?_; rintro e w' ⟨rfl,rfl⟩))
    refine ⟨fun f h => (by cases h),?_⟩
    gi_wp2
    go_roundw
    case rel => exact ⟨k + 1,by go_num,by omega,hB,hc,by rw [HS.out]; exact hJ⟩
    case measure => simp [intOf]; omega
  ·obtain rfl : k = 8 := by omega
   rw [show knownB (((8 : Nat) : Int) + 1) = false from rfl] at hKn
   gi_wp2_with (refine ⟨trivial,?_⟩; gi_at_call 214; refine (callsIn_wide.2 hKn).mono ?_; rintro e w' ⟨rfl,rfl⟩)
   go_end0
   exact ⟨⟨_,rfl⟩,.inl ⟨_,rfl,hJ⟩⟩
end Go.Proofs.YtjagaankkcbjmaaGreatDoor.S
namespace Go.Proofs.YtjagaankkcbjmaaGreatDoor.S
open Go.RowKit Go.Shelf
set_option maxRecDepth 20000
attribute [local go_sem] Oper.semAt_some
theorem all_stops (n : Nat) (hn : 1 <= n) (Bn : Nat) (b : Value) (s : Nat -> Value) (f : Nat -> List (Nat × Nat)) (w w0 : World) (hg : Gives w b s f) (hb : Below w.heap.size w w0) (hBn : Bn < w0.heap.size) (hc : w0.cell? ⟨Bn,0,none⟩ = some b) :
  SeqStopsK Fence.wide n Tryz.prog 213 #[.pointer (some ⟨Bn,0,none⟩)] (fun x : Nat => #[Value.int .i64 ((x : Int) + 1),s x]) (KeepB w.heap.size Bn) (fun ys => ys = liveL f) (fun pre => pre <+: liveL f) 8 w0 := fun l J Jx W hW _ _ hY h0 =>
 all1_in n hn l Bn b s f w hg J Jx (fun pre x W _ => hY pre x W) W (hb.trans (hW.mono hb.size)) ((hW.cell (p := ⟨Bn,0,none⟩) hBn).trans hc) h0
theorem infoInt : (Tryz.prog.info? 3).map (fun i => (i.zero,i.size,i.bytes)) = some (some (.int .i64 0),1,8) := by kernel_rfl
theorem boxed_own {β : Type} (B : Nat) (t : TypeId) (v : Value) : Own (fun (_ : β) W => Boxed W B t v) := by
 intro s X Y row h hg hrow
 refine h.kept hg fun e => ?_
 obtain ⟨o,ho,hc⟩ := hrow B e.symm
 rw [show X.heap[B]? = _ from h] at ho
 cases ho
 cases hc
def places (l : List Nat) : List Int := l.map fun i : Nat => (i : Int) + 1
theorem places_len (l : List Nat) : (places l).length = l.length := by simp [places]
theorem places_snoc (l : List Nat) (x : Nat) : places (l ++ [x]) = places l ++ [(x : Int) + 1] := by simp [places]
theorem origins_in (q : Option Addr) (f : Nat -> List (Nat × Nat)) (w : World) (h : Told w (.pointer q) f) :
  CallsIn Fence.wide 3 Tryz.prog 60 #[.pointer q] w fun e W' => ∃ v,e = .returned v /\ Own1 W' w.heap.size 3 v (icells (places (liveL f))) /\ Below w.heap.size w W' := by
 obtain ⟨s,hg⟩ := h.gives
 obtain ⟨i0,hi,hz0,hz1,hz2⟩ := info_parts infoInt
 clear h
 refine callsIn_of_wp_marks Tryz.func60 rfl trivial ?_ rfl
 simp only [Tryz.ntmps60,List.size_toArray,List.length_cons,List.length_nil,Nat.reduceAdd,Nat.reduceSub,Array.replicate_succ,Array.replicate_zero,List.push_toArray,List.append_toArray,List.nil_append,List.cons_append]
 gi_wp2_with (refine ⟨trivial,?_⟩; gi_at_call 133; refine (callsIn_wide.2 (all_any q _)).mono ?_; rintro e w' ⟨rfl,rfl⟩)
 have bO := Boxed.new w 87 (.slice none 0 0)
 have bN := Boxed.new (w.alloc (.cells #[.slice none 0 0] 87)) 93 (.pointer q)
 simp only [World.size_alloc] at bN
 have hB0 : Below w.heap.size w ((w.alloc (.cells #[.slice none 0 0] 87)).alloc (.cells #[.pointer q] 93)) := ((Below.refl _ _).alloc (yyH _) _).alloc (by simp) _
 refine wpIn_rangeFunc_ownG rfl (by decide) (gf := 213) (lb := #[.pointer (some ⟨w.heap.size + 1,0,none⟩)]) rfl trivial (enters_of Tryz.func213 (by kernel_rfl) rfl)
  (all_stops _ (by decide) (w.heap.size + 1) (.pointer q) s f w _ hg hB0 bN.lt bN.cell) keepB_t (keepB_b (by simp; omega) bN.lt) (Below.refl _ _) (fun _ => rfl)
  (fun pre W => ((∃ v,Boxed W w.heap.size 87 v /\ W.ownsRow w.heap.size 3 1 v pre.length (icells (places pre)) /\ True) /\ Boxed W (w.heap.size + 1) 93 (.pointer q)) /\ Below w.heap.size w W)
  (fun _ _ _ => False)
  (OwnFrom.and (OwnFrom.and (Own.from (holdsRow_own w.heap.size w.heap.size 87 3 1 (fun pre : List Nat => pre.length) (fun pre => icells (places pre)) (fun _ _ => True)) _) (Own.from (boxed_own _ _ _) _)) (ownFrom_below (yyH _) (by simp; omega)))
  (fun _ _ _ _ _ hs _ _ => hs)
  ⟨⟨⟨_,bO.alloc _,World.ownsRow_nil _ _ _ _,trivial⟩,bN⟩,hB0⟩
  (fun x => { tmps := #[.pointer q,undef,.slice none 0 0,.pointer (some ⟨w.heap.size,0,none⟩),.int .i64 ((x : Int) + 1),.pointer q,.func (.func 213) #[] #[.pointer (some ⟨w.heap.size + 1,0,none⟩)],.int .i64 ((x : Int) + 1),s x,undef,undef,undef,undef,undef],defers := [] }) ?assign ?body ?done ?stop
 case assign =>
  intro l x W K hK
  gi_wp2
  exact hK
 case body =>
  rintro l pre x W ⟨⟨⟨v,hv,hrow,_⟩,hN⟩,hB⟩ hlt
  have hc := hv.cell
  have hsz : w.heap.size <= W.heap.size := hB.size
  obtain ⟨ga,gc,hgv⟩ : ∃ a cap,v = .slice a pre.length cap := by
   obtain ⟨a,cap,h⟩ := (row_of_owns (cs := icells (places pre)) (by rw [icells_length,places_len]; exact hrow)).slice
   rw [icells_length,places_len] at h
   exact ⟨a,cap,h⟩
  subst hgv
  gi_wp2_with (gi_at_builtin; refine wpListIn_append_own _ rfl _ _ 87 rfl w.heap.size 3 i0 (.int .i64 0) 1 8 Tryz.underlying87 hi hz0 hz1 hz2 rfl (by decide) _ _ _ rfl (hrow.alloc _) ⟨W.heap.size,0,none⟩ 1 1 [.int .i64 ((x : Int) + 1)] rfl rfl (cell_one_new _ _ _) (by simp [Value.oneCell']) (by unfold maxLen; omega) (by omega) (by simp; omega) ?_; intro v' w1 hown' hgrow _; obtain ⟨g',cap',rfl⟩ := ownsRow_succ hown'; obtain ⟨hv1,hv2,hr2,hk2,hb2⟩ := hv.appended (by decide) hrow hsz (yyH _) hown' hgrow; have hc1 := hv1.cell; have hf1 := hv1.frozen; have hN1 : Hid _ := (hN.alloc _).kept hgrow (hN.not_row (by decide) hrow))
  have hN2 : Boxed (w1.setCell ⟨w.heap.size,0,none⟩ (.slice (some ⟨g',0,none⟩) (pre.length + 1) cap')) (w.heap.size + 1) 93 (.pointer q) := (Below.heap_setCell _ _ _ _ (show w.heap.size + 1 ≠ w.heap.size by omega)).trans hN1.out
  refine ⟨hk2.from _,⟨hb2,?_⟩,⟨⟨_,hv2,?_,trivial⟩,hN2⟩,hB.trans hb2⟩
  ·rw [show (w1.setCell ⟨w.heap.size,0,none⟩ (.slice (some ⟨g',0,none⟩) (pre.length + 1) cap')).heap[w.heap.size + 1]? = _ from hN2,show W.heap[w.heap.size + 1]? = _ from hN]
  ·rw [places_snoc,icells_append,List.length_append]
   exact hr2
 case done =>
  rintro D ys W hD rfl ⟨⟨⟨v,hv,hrow,_⟩,hN⟩,hB⟩ hK
  have hc := hv.cell
  gi_wp2
  refine ⟨by simp,.inl ⟨_,_,rfl,run_takeDeferred hK,?_⟩⟩
  refine ⟨_,results_tmp rfl _ _ _,v,rfl,?_,hB.trans (belowK_b (w := w) (yyH _) W D _ _ (by simp at hD; omega) hK rfl rfl)⟩
  unfold Own1
  rw [icells_length,places_len]
  exact ownsRow_putObj hrow _ hK rfl
 case stop =>
  rintro D c pre W _ _ h _
  exact h.elim
theorem origins_any (b : Value) (f : Nat -> List (Nat × Nat)) (w : World) (h : Told w b f) :
  Calls Tryz.prog 60 #[b] w fun e W' => ∃ v,e = .returned v /\ Own1 W' w.heap.size 3 v (icells (places (liveL f))) /\ Below w.heap.size w W' := by
 obtain ⟨q,rfl⟩ := h.ptr
 exact callsIn_wide.1 (origins_in q f w h)
end Go.Proofs.YtjagaankkcbjmaaGreatDoor.S
namespace Go.Proofs.YtjagaankkcbjmaaGreatDoor.S
open Go.RowKit
theorem branges_any (b : Value) (f : Nat -> List (Nat × Nat)) (o : Int) (w : World) (h : Told w b f) (hlen : (ofF f o).length <= 1000000) :
  Calls Tryz.prog 61 #[b,.int .i64 o] w fun e w' => ∃ v',e = .returned v' /\ Own2 w' w.heap.size v' (ofF f o) /\ Below w.heap.size w w' := by
 have hO := of_any b f o w h
 generalize ofF f o = l at hO hlen ⊢
 obtain ⟨q,rfl⟩ := h.ptr
 go_enter Tryz.func61,Tryz.ntmps61
 go_wp2_with fail
 refine hO.mono ?_
 rintro e w ⟨s,rfl,hl,rfl⟩
 obtain ⟨q2,rfl⟩ := hl.ptr
 go_wp2_with fail
 refine (ranges_any _ l _ hl hlen).mono ?_
 rintro e w2 ⟨v',rfl,own,b⟩
 obtain ⟨va,vc,rfl⟩ := own.rng.slice
 go_wp2
 go_ret
 exact ⟨_,rfl,own,b⟩
end Go.Proofs.YtjagaankkcbjmaaGreatDoor.S
