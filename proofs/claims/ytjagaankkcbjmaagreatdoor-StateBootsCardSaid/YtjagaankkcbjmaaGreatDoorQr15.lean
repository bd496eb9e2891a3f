import Derived.Test.YtjagaankkcbjmaaGreatDoorQrA
import Derived.Test.YtjagaankkcbjmaaGreatDoorQr14
import Derived.BigQuiet
set_option maxHeartbeats 2000000
set_option maxRecDepth 20000
namespace Go.Proofs.YtjagaankkcbjmaaGreatDoor.K
end Go.Proofs.YtjagaankkcbjmaaGreatDoor.K
namespace Go.Proofs.YtjagaankkcbjmaaGreatDoor.F
open Go.Proofs.YtjagaankkcbjmaaGreatDoor.K
open Go.RowKit
theorem same_any (va vb : Value) (l : List It) (w : World) (ha : Rows w va l) (hb : Rows w vb l) : Calls Tryz.prog 52 #[va,vb] w fun e w' => e = .returned (.bool true) /\ Below w.heap.size w w' := by
 obtain ⟨a,cap,rfl⟩ := ha.slice
 obtain ⟨a2,cap2,rfl⟩ := hb.slice
 obtain ⟨_,hl,hA⟩ := ha.items
 obtain ⟨_,_,hB⟩ := hb.items
 have l63 : l.length <= 9223372036854775807 := by
  rcases ha with ⟨_,rfl⟩ | ⟨_,_,hv,h1,h2,_⟩
  ·simp
  ·unfold maxLen at h2; omega
 clear ha hb
 go_enter Tryz.func52,Tryz.ntmps52
 go_wp2
 go_loopw [5,13] (fun u5 u13 wr => ∃ k : Nat,u13 = .int .i64 k /\ k <= l.length /\ Below w.heap.size w wr) (fun u5 u13 wr => l.length - (intOf u13).toNat)
 case atStart => exact ⟨0,rfl,Nat.zero_le _,Below.refl _ _⟩
 case round =>
  obtain ⟨k,rfl,hk,hb⟩ := hrel
  by_cases hlt2 : k < l.length
  ·have hlt : (k : Int) < (l.length : Int) := by omega
   obtain ⟨b,off,rfl,hi⟩ := hA k hlt2
   obtain ⟨b2,off2,rfl,hi2⟩ := hB k hlt2
   obtain ⟨e0,e1,e2,e3,e4,e5,e6,e7⟩ := hi.below hb (yyH _)
   obtain ⟨g0,g1,g2,g3,g4,g5,g6,g7⟩ := hi2.below hb (yyH _)
   clear hA hB hi hi2
   generalize l[k] = x at *
   go_wp2
   go_quiet (fail)
   go_wp2
   go_roundw
   case rel => exact ⟨k + 1,by go_num,by omega,hb.trans ⟨rfl,rfl,rfl,yyH _,fun _ _ => rfl⟩⟩
   case measure => simp [intOf]; omega
  ·obtain rfl : k = l.length := by omega
   go_wp2
   go_ret
   exact ⟨rfl,hb⟩
end Go.Proofs.YtjagaankkcbjmaaGreatDoor.F
namespace Go.Proofs.YtjagaankkcbjmaaGreatDoor.F
open Go.Proofs.YtjagaankkcbjmaaGreatDoor.K
open Go.RowKit Go.Sort
theorem _root_.Go.Proofs.YtjagaankkcbjmaaGreatDoor.Moved.row {w1 wr : World} {F F' : Nat -> Prop} {v : Value} {l : List It} {B : Nat} (m : Moved w1 wr F F') (own : Own8 w1 B v l) (hF : ∀ k,F k -> k < B) : Rows wr v l :=
 own.rng.same fun g hg => m.block g (own.lt hg).2 (fun hf => by have := hF g hf; have := (own.lt hg).1; omega)
theorem reset_any (p : Nat) (F : Nat -> Prop) (s : St) (w : World) (h : Q w p F s) (ok : s.Ok) :
  Calls Tryz.prog 190 #[.pointer (some ⟨p,0,none⟩)] w fun e w' => e = .returned (.int .i64 s.reset.1) /\ ∃ F',Q w' p F' s.reset.2 /\ Moved w w' F F' := by
 have hO := out_any p F s w h ok
 have hlt := h.lts
 have hout : s.out.length <= 1000000 := by have := ok.room; have := ok.m; omega
 unfold St.reset
 go_enter Tryz.func190,Tryz.ntmps190
 go_wp2_with fail
 refine hO.mono ?_
 rintro e w1 ⟨v,rfl,own,b1⟩
 have q1 := h.kept b1
 have m1 : Moved w w1 F F := .of_below b1
 obtain ⟨va,vc,hv⟩ := own.rng.slice
 subst hv
 have HB : Hid (Moved w w1 F F /\ Own8 w1 w.heap.size (.slice va s.out.length vc) s.out /\ ∀ k,F k -> k < w.heap.size) := ⟨m1,own,hlt⟩
 clear h hO m1 own hlt b1
 go_wp2
 go_loopw [5,10] (fun u5 u10 wr => ∃ k : Nat,u10 = .int .i64 k /\ k <= s.out.length /\ ∃ F',Q wr p F' (backs k s) /\ Moved w1 wr F F') (fun u5 u10 wr => s.out.length - (intOf u10).toNat)
 case atStart => exact ⟨0,rfl,Nat.zero_le _,F,q1,Moved.refl _ _⟩
 case round =>
  obtain ⟨k,rfl,hk,F',qr,mr⟩ := hrel
  by_cases hlt2 : k < s.out.length
  ·have hlt3 : (k : Int) < (s.out.length : Int) := by omega
   have hrow : Rows wr (.slice va s.out.length vc) s.out := mr.row HB.out.2.1 HB.out.2.2
   obtain ⟨_,_,hA⟩ := hrow.items
   obtain ⟨b,off,rfl,hi⟩ := hA k hlt2
   obtain ⟨e0,e1,e2,e3,e4,e5,e6,e7⟩ := hi
   have hst : Hid _ := backs_step ok k (List.getElem?_eq_getElem hlt2)
   have hup : s.out[k].tag < 18446744073709551616 := by have := ok.uo _ (List.getElem_mem hlt2); have := ok.n; omega
   have okr := ok.backs (n := k)
   generalize s.out[k] = x at *
   have hBk := back_any p F' (backs k s) x.tag _ (qr.kept (below_alloc wr (.cells #[.int .u64 (x.tag : Int),.int .i64 x.m.o,.int .u64 x.m.s,.int .i64 x.m.hop,.string x.m.ex,.string x.m.key,.string x.m.body,.bool x.again] 102))) okr hup
   clear hA hrow
   go_wp2_with fail
   refine hBk.mono ?_
   rintro e w2 ⟨rfl,F2,q2,m2⟩
   go_wp2
   go_roundw
   case rel => exact ⟨k + 1,by go_num,by omega,F2,by rw [hst.out]; exact q2,(mr.trans (.of_below (below_alloc _ _))).trans m2⟩
   case measure => simp [intOf]; omega
  ·obtain rfl : k = s.out.length := by omega
   go_wp2
   go_ret
   exact ⟨rfl,F',qr,HB.out.1.trans mr⟩
end Go.Proofs.YtjagaankkcbjmaaGreatDoor.F
