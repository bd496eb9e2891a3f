import Derived.Test.YtjagaankkcbjmaaGreatDoorQrA
import Derived.Test.YtjagaankkcbjmaaGreatDoorQr28
import Derived.Test.YtjagaankkcbjmaaGreatDoorQr15
import Derived.Test.YtjagaankkcbjmaaGreatDoorQr30
import Derived.Test.YtjagaankkcbjmaaGreatDoorQr36
import Derived.Test.YtjagaankkcbjmaaGreatDoorQr40
import Derived.Test.YtjagaankkcbjmaaGreatDoorQr31
import Derived.Test.YtjagaankkcbjmaaGreatDoorQr27
set_option maxHeartbeats 2000000
set_option maxRecDepth 20000
namespace Go.Proofs.YtjagaankkcbjmaaGreatDoor
open Go.RowKit Go.Maps
def bootM (s : Sm) : Sm := { s with boots := s.boots + 1,qs := s.qs.map fun x => (x.1,x.2.reset.2) }
def resetsM (s : Sm) (left : Lit -> Bool) : Sm := { s with qs := s.qs.map fun x => cond (left (.string x.1.data.toList)) x (x.1,x.2.reset.2) }
theorem resetsM_step {s : Sm} (fit : (s.qs.map Prod.fst).Nodup) (hs : ∀ x ∈ s.qs,x.1.size <= maxLen) {left : Lit -> Bool} {n : ByteArray} {q : F.St} (hm : (n,q) ∈ s.qs) : resetsM s (fun x => left x && !x.sameKey (.string n.data.toList)) = { resetsM s left with qs := setQ (resetsM s left).qs n q.reset.2 } := by
 unfold resetsM setQ
 simp only [List.map_map]
 congr 1
 refine List.map_congr_left fun x hx => ?_
 have hk : KeysOf Tryz.prog 9 (.string n.data.toList) := ⟨_,keyOf_str (hs _ hm)⟩
 simp only [Function.comp]
 by_cases e : x.1 = n
 ·obtain ⟨n',q'⟩ := x
  have e : n' = n := e
  subst e
  obtain rfl := nodup_pair fit hm hx
  rw [(sameKey_iff sKeyed.one hk).2 rfl]
  simp only [Bool.not_true,Bool.and_false,cond_false]
  cases left (.string n'.data.toList) <;> simp
 ·have hne : (Lit.string x.1.data.toList).sameKey (.string n.data.toList) = false := by
   rw [Bool.eq_false_iff]
   intro h
   exact e (str_inj ((sameKey_iff sKeyed.one hk).1 h))
  rw [hne]
  simp only [Bool.not_false,Bool.and_true]
  cases left (.string x.1.data.toList) <;> simp [e]
theorem ranges_same {H : Type} {P : Program} {k : TypeId} {R : Value -> Option (DataW H × List MemPlace)} {w w' : World} {b r n : Nat} {D : DataW H} {left : Lit -> Bool} {cnt : Nat} (h : w.ranges P k R b r n D left cnt) (h1 : w'.heap[b]? = w.heap[b]?) (h2 : w'.heap[r]? = w.heap[r]?) : w'.ranges P k R b r n D left cnt := by
 obtain ⟨es,clock,since,seen,c0,hb,F,hs,hD,hr,rest⟩ := h
 exact ⟨es,clock,since,seen,c0,h1.trans hb,F,hs,hD,h2.trans hr,rest⟩
def BootIn (w wr : World) (p : Nat) (G : Nat -> Prop) (qm r0 : Nat) (ps : List Pe) (s : Sm) (left : Lit -> Bool) : Prop :=
 ∃ ft d,SAt wr p ft d (resetsM s left) /\ d.qm = qm /\ d.ps = ps /\ Moved w wr G (fun k => ∃ a,ft a k) /\ ¬ (∃ a,ft a r0)
theorem boot14_any (p : Nat) (G : Nat -> Prop) (s : Sm) (a : Ax) (w : World) (h : SS w p G s) (fit : s.Fit) (ok : ∀ x ∈ s.qs,x.2.Ok) (hb : s.boots < 18446744073709551615) :
  Calls Tryz.prog 105 #[.pointer (some ⟨p,0,none⟩),av a] w (DeedPost p G w 0 (bootM s)) := by
 obtain ⟨W,fold⟩ : ∃ W,w.alloc (.cells #[.int .i64 a.kind,.string a.name,.int .i64 a.n,.int .u64 a.tag,.int .i64 a.to,.string a.xn,.int .i64 a.xk,.bool a.xf,.string a.be,.string a.bq,.string a.bp,.int .i64 a.m.origin,.int .u64 a.m.seq,.int .i64 a.m.hop,.string a.m.ex,.string a.m.key,.string a.m.body] 42) = W := ⟨_,rfl⟩
 have bW : Below w.heap.size w W := by rw [<- fold]; exact box_below w _
 obtain ⟨ft,d,hs,hF⟩ := h.kept bW
 obtain ⟨c0,c1,c2,c3,c4,c5,c6,c7,c8,c9⟩ := cells10 hs.blk
 have f5 : W.frozen? ⟨p,5,none⟩ = false := frozen_of_row W p 5 _ _ hs.blk
 have hwr : IntKind.u64.wrap ((s.boots : Int) + 1) = ((s.boots + 1 : Nat) : Int) := by rw [IntKind.wrap_u64]; omega
 have hlt : (s.boots : Int) < 18446744073709551615 := by omega
 obtain ⟨V,fV⟩ : ∃ V,W.setCell ⟨p,5,none⟩ (.int .u64 ((s.boots + 1 : Nat) : Int)) = V := ⟨_,rfl⟩
 obtain ⟨s1,hs1⟩ : ∃ z,({ s with seq := s.seq,boots := s.boots + 1 } : Sm) = z := ⟨_,rfl⟩
 have hV : SAt V p ft d s1 := by
  rw [<- hs1]
  refine hs.turnMain (seq := s.seq) (boots := s.boots + 1) (fun k hk => by rw [<- fV]; exact heap_setCell_other _ _ _ _ hk) ?_
  rw [<- fV]
  exact heap_setCell_same _ _ _ _ _ _ hs.blk
 have mV : Moved W V (fun k => ∃ a,ft a k) (fun k => ∃ a,ft a k) := ⟨by rw [<- fV]; rfl,by rw [<- fV]; rfl,by rw [<- fV]; rfl,by rw [<- fV]; simp,fun k hk hn => by rw [<- fV]; exact heap_setCell_other _ _ _ _ (fun e => hn ⟨.main,(hs.fm k).2 e⟩),fun k hk => .inl hk⟩
 have v7 : V.cell? ⟨p,7,none⟩ = some (.map (some d.qm)) := (cells10 hV.blk).2.2.2.2.2.2.2.1
 have hown : V.ownsMap Tryz.prog 9 rdP d.qm d.ps.length (DofG pkl pd d.ps) := hV.qmap
 have eG : G = fun k => ∃ a,ft a k := funext fun k => propext (hF k)
 have fit1 : s1.Fit := by rw [<- hs1]; exact ⟨fit.names,fit.short,fit.tos,fit.small,fit.few⟩
 have HQ : Hid ((s1.qs.map Prod.fst).Nodup /\ (∀ x ∈ s1.qs,x.1.size <= maxLen) /\ (∀ x ∈ s1.qs,x.2.Ok) /\ DL d.ps /\ d.ps.map Prod.fst = s1.qs.map Prod.fst /\ bootM s = resetsM s1 (fun _ => false)) :=
  ⟨fit1.names,fun x hx => by have := fit1.short x hx; unfold maxLen; omega,by rw [<- hs1]; exact ok,hV.dl fit1,hV.names,by rw [<- hs1]; unfold bootM resetsM; simp⟩
 have hlts := hV.lts
 have HV : Hid (w.heap.size <= V.heap.size) := by have h1 := bW.size; have h2 := mV.size; show _ <= _; omega
 have H0 : Hid (SAt V p ft d s1 /\ Moved w V G (fun k => ∃ a,ft a k) /\ ∀ a k,ft a k -> k < V.heap.size) := ⟨hV,by rw [eG]; exact Moved.from_below bW mV,hlts⟩
 obtain ⟨ps,hps⟩ : ∃ z,d.ps = z := ⟨_,rfl⟩
 obtain ⟨qm,hqm⟩ : ∃ z,d.qm = z := ⟨_,rfl⟩
 rw [hps] at hown HQ
 rw [hqm] at hown v7
 have HP : Hid (d.ps = ps /\ d.qm = qm) := ⟨hps,hqm⟩
 clear hs hF hV mV eG fit1 hlts bW hps hqm c0 c1 c2 c3 c4 c6 c7 c8 c9 h fit ok hb hs1
 obtain ⟨bI,hbI⟩ : ∃ z,(s.boots : Int) = z := ⟨_,rfl⟩
 obtain ⟨bJ,hbJ⟩ : ∃ z,((s.boots + 1 : Nat) : Int) = z := ⟨_,rfl⟩
 rw [hbI,hbJ] at hwr
 rw [hbI] at c5 hlt
 rw [hbJ] at fV
 clear hbI hbJ
 go_enter Tryz.func105,Tryz.ntmps105
 go_wp2_with (first
  |(at_range; (try rw [fold]); (try rw [fV]); refine wpList_range_own _ rfl _ 92 rfl 9 153 sKeyed Tryz.underlying92 rdP qm ps.length (DofG pkl pd ps) rfl hown ?_; intro w0 hrg0 hg0 hs0)
  |go_in)
 go_frame
 have HS0 : Hid (BootIn w w0 p G qm V.heap.size ps s1 (Maps.has (DofG pkl pd ps))) := by
  have e : resetsM s1 (Maps.has (DofG pkl pd ps)) = s1 := by
   unfold resetsM
   have : (s1.qs.map fun x => cond (Maps.has (DofG pkl pd ps) (.string x.1.data.toList)) x (x.1,x.2.reset.2)) = s1.qs := by
    conv => rhs; rw [<- List.map_id s1.qs]
    refine List.map_congr_left fun x hx => ?_
    have hm : x.1 ∈ ps.map Prod.fst := by rw [HQ.out.2.2.2.2.1]; exact List.mem_map.2 ⟨x,hx,rfl⟩
    obtain ⟨y,hy,ey⟩ := List.mem_map.1 hm
    rw [show Maps.has (DofG pkl pd ps) (.string x.1.data.toList) = true by rw [<- ey]; exact (has_DofG sKeyed.one (HQ.out.2.2.2.1.keys y hy)).2 ⟨y,hy,rfl⟩]
    rfl
   rw [this]
  refine ⟨ft,d,?_,HP.out.2,HP.out.1,?_,?_⟩
  ·rw [e]
   exact H0.out.1.same fun a k hk => hg0.block k (H0.out.2.2 a k hk) (by simp)
  ·exact H0.out.2.1.trans (.of_below ⟨hg0.os,hg0.tape,hg0.output,hg0.size,fun k hk => hg0.block k hk (by simp)⟩)
  ·rintro ⟨a,ha⟩
   have := H0.out.2.2 a _ ha
   omega
 clear hg0 hs0 H0 v7 c5 f5 hwr hlt hown
 go_loopw [6] (fun _ wr => ∃ (left : Lit -> Bool) (cnt : Nat),wr.ranges Tryz.prog 9 rdP qm V.heap.size ps.length (DofG pkl pd ps) left cnt /\ Hid (BootIn w wr p G qm V.heap.size ps s1 left))
  (fun _ wr => wr.rangeLeft qm V.heap.size)
 case atStart => exact ⟨_,_,hrg0,HS0⟩
 case round =>
  obtain ⟨left,cnt,hrg,HB⟩ := hrel
  clear hrg0 HS0
  go_wp2_with (first
   |(at_next; refine wpList_next_ranges _ rfl _ rfl 9 sKeyed rdP (fun s : ByteArray => Value.string s) ptrO (fun key kl hk => by obtain ⟨s,hs,_⟩ := skey_inv hk; exact ⟨s,hs⟩) (fun v y hv => by obtain ⟨o,ho,_⟩ := rdP_inv hv; exact ⟨o,ho⟩) qm V.heap.size ps.length _ _ _ rfl hrg ?_ ?_)
   |go_in)
  ·intro _ hl0
   have HE : Hid (DeedPost p G w 0 (bootM s) (.returned (.int .i64 0)) wr) := by
    obtain ⟨ft',d',h1,_,_,h4,_⟩ := HB.out
    have e : left = fun _ => false := funext hl0
    rw [e] at h1
    rw [HQ.out.2.2.2.2.2]
    exact ⟨rfl,_,⟨ft',d',h1,fun _ => Iff.rfl⟩,h4⟩
   go_wp2
   go_ret
   exact HE.out
  ·intro kn ko kl yd yp w1 cnt1 hkey hlx hv hat hrg1 hlt1 hg1 hs1' hen
   obtain ⟨c,hc,hck,hvo⟩ := p_entry HQ.out.2.2.2.1 hv hat
   rw [hvo] at hv hen ⊢
   obtain ⟨ft',d',h1,h2,h3,h4,h5⟩ := HB.out
   have hcm : c.1 ∈ s1.qs.map Prod.fst := by rw [<- HQ.out.2.2.2.2.1]; exact List.mem_map.2 ⟨c,hc,rfl⟩
   obtain ⟨⟨n,q⟩,hq,hqn⟩ := List.mem_map.1 hcm
   have hqn : n = c.1 := hqn
   have hmem : (n,q) ∈ (resetsM s1 left).qs := by
    unfold resetsM
    refine List.mem_map.2 ⟨(n,q),hq,?_⟩
    rw [show left (.string (n,q).1.data.toList) = true by show left (.string n.data.toList) = true; rw [hqn]; show left (pkl c) = true; rw [hck]; exact hlx]
    rfl
   have h1w : SAt w1 p ft' d' (resetsM s1 left) := h1.same fun a k hk => hg1.block k (h1.lts a k hk) (by simp; intro e; exact h5 ⟨a,e ▸ hk⟩)
   obtain ⟨b,hb1,hb2⟩ := h1w.queue n q hmem
   obtain rfl : b = c.2 := by
    rw [h3] at hb1
    have : (n,c.2) ∈ ps := by rw [hqn]; exact hc
    have hnd : (ps.map Prod.fst).Nodup := by rw [HQ.out.2.2.2.2.1]; exact HQ.out.1
    exact nodup_pair hnd hb1 this
   have hR := F.reset_any c.2 _ q w1 hb2 (HQ.out.2.2.1 _ hq)
   have HB1 : Hid (SAt w1 p ft' d' (resetsM s1 left) /\ d'.qm = qm /\ d'.ps = ps /\ Moved w w1 G (fun k => ∃ a,ft' a k) /\ ¬ (∃ a,ft' a V.heap.size) /\ (n,c.2) ∈ d'.ps /\ resetsM s1 (fun x => left x && !x.sameKey kl) = { resetsM s1 left with qs := setQ (resetsM s1 left).qs n q.reset.2 }) := by
    refine ⟨h1w,h2,h3,?_,h5,by rw [h3,hqn]; exact hc,?_⟩
    ·exact ⟨hg1.os.trans h4.os,hg1.tape.trans h4.tape,hg1.output.trans h4.output,Nat.le_trans h4.size hg1.size,fun k hk hn => (hg1.block k (Nat.lt_of_lt_of_le hk h4.size) (by have := HV.out; simp; omega)).trans (h4.block k hk hn),h4.sub⟩
    ·rw [<- hck,show pkl c = .string n.data.toList by rw [hqn]; rfl]
     exact resetsM_step HQ.out.1 HQ.out.2.1 hq
   clear h1 h2 h3 h4 h5 h1w hb1 hb2 hmem hcm hq hqn hkey hlx hv hat hs1' hg1 HB
   go_wp2_with fail
   refine hR.mono ?_
   rintro e w2 ⟨rfl,F2,hQ2,m2⟩
   clear hR
   have hn6 : Hid (BootIn w w2 p G qm V.heap.size ps s1 (fun x => left x && !x.sameKey kl) /\ w2.heap[qm]? = w1.heap[qm]? /\ w2.heap[V.heap.size]? = w1.heap[V.heap.size]?) := by
    have h1 := HB1.out.1
    have hr0 := hrg1.lt
    refine ⟨⟨_,_,by rw [HB1.out.2.2.2.2.2.2]; exact h1.turnQueue HB1.out.2.2.2.2.2.1 m2 hQ2,HB1.out.2.1,HB1.out.2.2.1,HB1.out.2.2.2.1.trans (moved_upd m2),?_⟩,?_,?_⟩
    ·rintro ⟨a,ha⟩
     by_cases e : a = .queue n
     ·rw [e,upd_same] at ha
      rcases m2.sub _ ha with hk | hk
      ·exact HB1.out.2.2.2.2.1 ⟨_,hk⟩
      ·omega
     ·rw [upd_other ft' F2 e] at ha
      exact HB1.out.2.2.2.2.1 ⟨_,ha⟩
    ·refine m2.block qm hrg1.owns.lt fun hk => ?_
     have := h1.one (.queue n) .qmap qm hk ((h1.fq qm).2 HB1.out.2.1.symm)
     cases this
    ·exact m2.block _ hr0 fun hk => HB1.out.2.2.2.2.1 ⟨_,hk⟩
   have hrg2 := ranges_same hrg1 hn6.out.2.1 hn6.out.2.2
   go_wp2
   go_roundw
   case rel => exact ⟨_,cnt1,hrg2,hn6.out.1⟩
   case measure => rw [hrg2.left_eq,hrg.left_eq]; exact hlt1
end Go.Proofs.YtjagaankkcbjmaaGreatDoor
namespace Go.Proofs.YtjagaankkcbjmaaGreatDoor
open Go.RowKit
def noQueueM (s : Sm) (n : ByteArray) : Int × Sm := match findQ s.qs n with
 |some _ => (0,{ s with qs := s.qs.filter fun y => !decide (y.1 = n),tb := { s.tb with bs := B.keepB (fun b => b.que.toList == n.toList) s.tb.bs } })
 |none => (3,s)
theorem noQueueM_some {s : Sm} {n : ByteArray} {q : F.St} (h : findQ s.qs n = some q) : noQueueM s n = (0,{ s with qs := s.qs.filter fun y => !decide (y.1 = n),tb := { s.tb with bs := B.keepB (fun b => b.que.toList == n.toList) s.tb.bs } }) := by unfold noQueueM; rw [h]
theorem noQueueM_none {s : Sm} {n : ByteArray} (h : findQ s.qs n = none) : noQueueM s n = (3,s) := by unfold noQueueM; rw [h]
theorem dropQ_any (p : Nat) (G : Nat -> Prop) (s : Sm) (a : Ax) (w : World) (h : SS w p G s) (fit : s.Fit) (ok : s.tb.Ok) (hs : a.name.size <= maxLen) :
  Calls Tryz.prog 95 #[.pointer (some ⟨p,0,none⟩),av a] w (DeedPost p G w (noQueueM s a.name).1 (noQueueM s a.name).2) := by
 obtain ⟨W,fold⟩ : ∃ W,w.alloc (.cells #[.int .i64 a.kind,.string a.name,.int .i64 a.n,.int .u64 a.tag,.int .i64 a.to,.string a.xn,.int .i64 a.xk,.bool a.xf,.string a.be,.string a.bq,.string a.bp,.int .i64 a.m.origin,.int .u64 a.m.seq,.int .i64 a.m.hop,.string a.m.ex,.string a.m.key,.string a.m.body] 42) = W := ⟨_,rfl⟩
 have hB : Boxd w W a := by rw [<- fold]; exact boxd_new w a
 have hlt := h.lts
 have hW := (h.kept hB.bel).kept (drew_below W)
 have H0 : Hid (SS w p G s /\ Below w.heap.size w W) := ⟨h,hB.bel⟩
 obtain ⟨ft,d,hs',hF⟩ := hW
 have HS : Hid (SAt W.drew p ft d s /\ (∀ k,G k ↔ ∃ a,ft a k) /\ Boxd w W a) := ⟨hs',hF,hB⟩
 have hl : (Instr.lookup 92 (.map (some d.qm)) (.string a.name) false).run Tryz.prog W.drew = .ok (ptrO ((findP d.ps a.name).map Prod.snd)) W.drew := DAt.look (w := W.drew) (hs'.qmap) (hs'.dl fit) hs
 obtain ⟨c0,c1,c2,c3,c4,c5,c6,c7,c8,c9⟩ := cells10 hs'.blk
 obtain ⟨x0,x1,x2,x3,x4,x5,x6,x7,x8,x9,x10,x11,x12,x13,x14,x15,x16⟩ := cells17 hB.box
 have c7' : W.cell? ⟨p,7,none⟩ = some (.map (some d.qm)) := c7
 have c6' : W.cell? ⟨p,6,none⟩ = some (.pointer (some ⟨d.tp,0,none⟩)) := c6
 have hq := hs'.queueAt fit a.name
 have hdl := hs'.dl fit
 clear hs' hF hB c0 c1 c2 c3 c4 c5 c6 c7 c8 c9 x0 x2 x3 x4 x5 x6 x7 x8 x9 x10 x11 x12 x13 x14 x15 x16 h
 rcases hq with ⟨q1,q2⟩ | ⟨q,b,q1,q2,q3,q4⟩
 ·rw [q2] at hl
  replace hl : (Instr.lookup 92 (.map (some d.qm)) (.string a.name) false).run Tryz.prog W.drew = .ok (.pointer none) W.drew := hl
  rw [noQueueM_none q1]
  clear q1 q2 hdl hlt
  go_enter Tryz.func95,Tryz.ntmps95
  go_wp2
  try rw [fold]
  (go_region_held3 (fun w' => w'.cell? ⟨p,7,none⟩ = some (.map (some d.qm)) /\ w'.cell? ⟨w.heap.size,1,none⟩ = some (.string a.name) /\ (Instr.lookup 92 (.map (some d.qm)) (.string a.name) false).run Tryz.prog w' = .ok (.pointer none) w') (first | exact ⟨c7',x1,hl⟩ | go_keep) (first | fail))
  all_goals go_wp2
  all_goals go_ret
  all_goals exact deed_none H0.out.1 (keptW H0.out.2 (drew_below W)) 3
 ·rw [q2] at hl
  replace hl : (Instr.lookup 92 (.map (some d.qm)) (.string a.name) false).run Tryz.prog W.drew = .ok (.pointer (some ⟨b,0,none⟩)) W.drew := hl
  rw [noQueueM_some q1]
  have hsv : SAt W.drew.drew p ft d s := HS.out.1.same fun _ _ _ => rfl
  obtain ⟨f,hf⟩ := hsv.qmap.del hdl hs
  obtain ⟨w2,e2⟩ : ∃ w2,f 0 = w2 := ⟨_,rfl⟩
  have hf2 := hf 0
  rw [e2] at hf2
  obtain ⟨r2,d2,g2⟩ := hf2
  obtain ⟨s2,m2⟩ := hsv.cutQueue d2 g2
  have s2d : SAt w2.drew p _ _ _ := s2.same fun _ _ _ => rfl
  have hpw : p < W.heap.size := (yyD HS.out.1.blk).1
  have hbw : w.heap.size < W.heap.size := (yyD HS.out.2.2.box).1
  have hpq : p ≠ d.qm := fun e => by have := HS.out.1.one .main .qmap p ((HS.out.1.fm p).2 rfl) ((HS.out.1.fq p).2 e); cases this
  have hbq : w.heap.size ≠ d.qm := fun e => by have := hlt _ ((HS.out.2.1 d.qm).2 ⟨.qmap,(HS.out.1.fq _).2 rfl⟩); omega
  have k2 : ∀ g j u,g < W.heap.size -> g ≠ d.qm -> W.cell? ⟨g,j,none⟩ = some u -> w2.cell? ⟨g,j,none⟩ = some u := fun g j u hg hne hu => (World.cell?_of_block (w := W) (a := ⟨g,j,none⟩) (g2.block g hg (by simpa using hne))).trans hu
  have z7 := k2 _ _ _ hpw hpq c7'
  have z6 := k2 _ _ _ hpw hpq c6'
  have z1 := k2 _ _ _ hbw hbq x1
  have hFg := B.forget_any d.tp (upd ft (.queue a.name) (fun _ => False) .table) s.tb a.name w2.drew s2d.table ok
  have hbw2 : w.heap.size < w2.heap.size := Nat.lt_of_lt_of_le hbw g2.size
  have H2 : Hid (∀ w3 F3 tb',B.T w3 d.tp F3 tb' -> Moved w2.drew w3 (upd ft (.queue a.name) (fun _ => False) .table) F3 -> Hid (DeedPost p G w 0 { s with qs := s.qs.filter fun y => !decide (y.1 = a.name),tb := tb' } (.returned (.int .i64 0)) w3) /\ w3.cell? ⟨p,6,none⟩ = some (.pointer (some ⟨d.tp,0,none⟩)) /\ w3.cell? ⟨w.heap.size,1,none⟩ = some (.string a.name)) := by
   intro w3 F3 tb' t3 m3
   have e : G = fun k => ∃ a,ft a k := funext fun k => propext (HS.out.2.1 k)
   have mm := (Moved.from_below (keptW (keptW HS.out.2.2.bel (drew_below W)) (drew_below W.drew)) m2).trans ((Moved.of_below (drew_below w2)).trans (moved_upd m3))
   have kk := keepP (w := w) (F := fun k => ∃ c,upd ft (.queue a.name) (fun _ => False) c k) s2d (fun k => Iff.rfl) (fun k hk => by
    obtain ⟨c,hc⟩ := hk
    by_cases ec : c = .queue a.name
    ·rw [ec,upd_same] at hc; exact hc.elim
    ·rw [upd_other ft _ ec] at hc; exact hlt k ((HS.out.2.1 k).2 ⟨c,hc⟩)) hbw2 (by simp) m3
   exact ⟨⟨rfl,_,⟨_,_,s2d.turnTable m3 t3,fun k => Iff.rfl⟩,by rw [e]; exact mm⟩,kk.1 6 _ z6,kk.2 1 _ z1⟩
  clear q1 q2 q3 q4 hdl hlt hf s2 m2 s2d d2 g2 e2 k2 hsv hbw hbw2 hpw hpq hbq
  go_enter Tryz.func95,Tryz.ntmps95
  go_wp2
  try rw [fold]
  (go_region_held3 (fun w' => w'.cell? ⟨p,7,none⟩ = some (.map (some d.qm)) /\ w'.cell? ⟨w.heap.size,1,none⟩ = some (.string a.name) /\ (Instr.lookup 92 (.map (some d.qm)) (.string a.name) false).run Tryz.prog w' = .ok (.pointer (some ⟨b,0,none⟩)) w') (first | exact ⟨c7',x1,hl⟩ | go_keep) (first | fail))
  all_goals go_wp2
  (go_region_held3 (fun w' => w'.cell? ⟨p,7,none⟩ = some (.map (some d.qm)) /\ w'.cell? ⟨w.heap.size,1,none⟩ = some (.string a.name)) (first | exact ⟨c7',x1⟩ | go_keep) (first | fail))
  all_goals go_wp2
  (go_region_held3 (fun w' => w'.cell? ⟨p,6,none⟩ = some (.pointer (some ⟨d.tp,0,none⟩)) /\ w'.cell? ⟨w.heap.size,1,none⟩ = some (.string a.name)) (first | exact ⟨z6,z1⟩ | go_keep) (first
   |(go_at_call 176; refine hFg.mono ?_; rintro e w3 ⟨rfl,F3,t3,m3⟩; obtain ⟨p3,f1,f2⟩ := H2.out w3 F3 _ t3 m3; clear t3 m3 hFg H2)))
  all_goals go_wp2
  all_goals go_ret
  all_goals exact p3.out
def actM (s : Sm) (a : Ax) : Int × Sm :=
 if goodA a = false then (2,s)
 else if a.kind = 1 then queueM s a.name a.n
 else if a.kind = 2 then noQueueM s a.name
 else if a.kind = 3 then ((s.tb.declare ⟨a.xn,a.xk,a.xf⟩).1,{ s with tb := (s.tb.declare ⟨a.xn,a.xk,a.xf⟩).2 })
 else if a.kind = 4 then ((s.tb.drop a.name).1,{ s with tb := (s.tb.drop a.name).2 })
 else if a.kind = 5 then ((bindM s ⟨a.be,a.bq,a.bp⟩).1,{ s with tb := (bindM s ⟨a.be,a.bq,a.bp⟩).2 })
 else if a.kind = 6 then ((s.tb.unbind ⟨a.be,a.bq,a.bp⟩).1,{ s with tb := (s.tb.unbind ⟨a.be,a.bq,a.bp⟩).2 })
 else if a.kind = 7 then enterM s a.m
 else if a.kind = 8 then onQ s a.name giveM
 else if a.kind = 9 then onQ s a.name (fun q => q.done a.tag.toNat)
 else if a.kind = 10 then onQ s a.name (fun q => q.back a.tag.toNat)
 else if a.kind = 11 then sentM s a.to a.n.toNat
 else (0,bootM s)
def toldM (s : Sm) (a : Ax) : List ByteArray := if goodA a = true /\ a.kind = 7 /\ (actM s a).1 = 0 then intoM s a.m else []
theorem linkOf_cons (y : Int × List Ms) (r : List (Int × List Ms)) (t : Int) : linkOf (y :: r) t = if y.1 = t then y.2 else linkOf r t := by
 unfold linkOf
 by_cases h : y.1 = t
 ·simp [h]
 ·simp [h]
theorem linkOf_ins {l : List (Int × List Ms)} (up : Up l) (t : Int) (x : List Ms) (t' : Int) : linkOf (insL t x l) t' = if t' = t then x else linkOf l t' := by
 have sw : ∀ a b : List Ms,(if t = t' then a else b) = if t' = t then a else b := fun a b => by
  by_cases h : t = t'
  ·rw [if_pos h,if_pos h.symm]
  ·rw [if_neg h,if_neg fun e => h e.symm]
 induction l with
 |nil =>
  unfold insL
  rw [linkOf_cons,sw]
 |cons y r ih =>
  have ih := ih up.tail
  unfold insL
  by_cases h1 : t < y.1
  ·rw [if_pos h1,linkOf_cons,sw]
  ·rw [if_neg h1]
   by_cases h2 : y.1 = t
   ·rw [if_pos h2,linkOf_cons,sw,linkOf_cons,h2,sw]
    by_cases h : t' = t
    ·rw [if_pos h,if_pos h]
    ·rw [if_neg h,if_neg h,if_neg h]
   ·rw [if_neg h2,linkOf_cons,ih,linkOf_cons]
    by_cases h3 : y.1 = t'
    ·rw [if_pos h3,if_pos h3,if_neg fun e => h2 (by omega)]
    ·rw [if_neg h3,if_neg h3]
structure Inv (k : Nat) (s : Sm) : Prop where
 r : s.Ready
 upk : UpK s.qs
 nq : s.qs.length <= 16
 len : S.LenF k s.bk
 boots : s.boots <= k
 top : O.GoodT s.S s.E s.H
 site : 1 <= s.site /\ s.site <= s.S
 tos : ∀ x ∈ s.lk,1 <= x.1 /\ x.1 <= 8
 some : ∀ x ∈ s.lk,x.2 ≠ []
theorem addS_len {l : List (Nat × Nat)} {n : Nat} (h : S.Apart 1 l) : (S.addS l n).length <= l.length + 1 := by
 unfold S.addS
 split
 ·have h1 := S.from_le_to (n := n) h
  have h2 := S.to_le l n
  simp only [S.addL,List.length_append,List.length_take,List.length_cons,List.length_drop]
  omega
 ·omega
theorem lenF_add {f : Nat -> List (Nat × Nat)} {n : Nat} (h : S.LenF n f) (hf : S.FineF f) (o : Int) (s : Nat) : S.LenF (n + 1) (S.addF f o s) := by
 unfold S.addF
 split
 ·refine h.put (by omega) ?_
  have := addS_len (n := s) (hf (o - 1).toNat (by omega)).1
  have := h (o - 1).toNat (by omega)
  omega
 ·exact fun i hi => Nat.le_trans (h i hi) (by omega)
theorem nextL_in {S : Int} {E : List (Int × Int)} {a n : Int} (h : n ∈ O.nextL S E a) : 1 <= n /\ n <= S := O.mem_sites.1 (List.mem_filter.1 h).1
theorem onward_in {S : Int} {E : List (Int × Int)} {H : Int} (g : O.GoodT S E H) {a x n : Int} (h : n ∈ O.onwardT S E H a x) : 1 <= n /\ n <= 8 := by
 unfold O.onwardT at h
 split at h
 ·have h1 := (List.mem_filter.1 h).1
  unfold O.nextT at h1
  rw [if_pos g] at h1
  have := nextL_in h1
  have := g.1
  omega
 ·cases h
theorem onward_up (S : Int) (E : List (Int × Int)) (H a x : Int) : (O.onwardT S E H a x).Pairwise (· < ·) := by
 unfold O.onwardT O.nextT
 split
 ·split
  ·exact (O.nextL_lt _ _ _).filter _
  ·exact List.Pairwise.nil
 ·exact List.Pairwise.nil
theorem up_short {α : Type} {l : List (Int × α)} (up : Up l) (h : ∀ x ∈ l,1 <= x.1 /\ x.1 <= 8) : l.length <= 8 := by
 have h1 : (l.map Prod.fst).length <= (O.sites 8).length := O.nodup_le (up.imp fun h => Int.ne_of_lt h) fun x hx => by
  obtain ⟨y,hy,rfl⟩ := List.mem_map.1 hx
  exact O.mem_sites.2 (h y hy)
 simpa [O.sites] using h1
theorem admit_ways {s : Sm} (g : O.GoodT s.S s.E s.H) {m : Ms} {ways : List Int} (h : admitM s m = (ways,0)) : (∀ t ∈ ways,1 <= t /\ t <= 8) /\ ways.Pairwise (· < ·) := by
 have key : ∀ a x,ways = O.onwardT s.S s.E s.H a x \/ ways = [] -> (∀ t ∈ ways,1 <= t /\ t <= 8) /\ ways.Pairwise (· < ·) := fun a x h => by
  rcases h with rfl | rfl
  ·exact ⟨fun t ht => onward_in g ht,onward_up _ _ _ _ _⟩
  ·exact ⟨fun t ht => (by cases ht),List.Pairwise.nil⟩
 unfold admitM ownM at h
 split at h
 ·split at h
  ·simp at h
  ·split at h
   ·simp at h
   ·split at h
    ·simp at h
    ·split at h
     ·simp at h
     ·split at h
      ·exact key _ _ (.inl (Prod.mk.inj h).1.symm)
      ·exact key 0 0 (.inr (Prod.mk.inj h).1.symm)
 ·split at h
  ·simp at h
  ·split at h
   ·simp at h
   ·split at h
    ·simp at h
    ·exact key _ _ (.inl (Prod.mk.inj h).1.symm)
theorem ways_short {ways : List Int} (h1 : ∀ t ∈ ways,1 <= t /\ t <= 8) (h2 : ways.Pairwise (· < ·)) : ways.length <= 8 := by
 have h3 : ways.length <= (O.sites 8).length := O.nodup_le (h2.imp fun h => Int.ne_of_lt h) fun x hx => O.mem_sites.2 (h1 x hx)
 simpa [O.sites] using h3
structure LkOk (l : List (Int × List Ms)) : Prop where
 up : Up l
 tos : ∀ x ∈ l,1 <= x.1 /\ x.1 <= 8
 few : ∀ x ∈ l,x.2.length <= 200
 some : ∀ x ∈ l,x.2 ≠ []
theorem LkOk.put {l : List (Int × List Ms)} (h : LkOk l) {t : Int} (ht : 1 <= t /\ t <= 8) {x : List Ms} (hx : x.length <= 200) (hn : x ≠ []) : LkOk (insL t x l) where
 up := insL_up t x l h.up
 tos := fun y hy => (insL_mem h.up hy).elim (fun e => e ▸ ht) (h.tos y)
 few := fun y hy => (insL_mem h.up hy).elim (fun e => by rw [e]; exact hx) (h.few y)
 some := fun y hy => (insL_mem h.up hy).elim (fun e => by rw [e]; exact hn) (h.some y)
theorem Inv.lk {k : Nat} {s : Sm} (h : Inv k s) : LkOk s.lk := ⟨h.r.up,h.tos,h.r.few,h.some⟩
theorem Inv.of {k k' : Nat} {s s' : Sm} (h : Inv k s) (e1 : s'.S = s.S) (e2 : s'.E = s.E) (e3 : s'.H = s.H) (e4 : s'.site = s.site) (hl : LkOk s'.lk) (hn : UpK s'.qs) (hq : ∀ x ∈ s'.qs,x.1.size <= 20 /\ x.2.Ok) (hq2 : s'.qs.length <= 16) (ht : s'.tb.Ok) (hf : S.FineF s'.bk) (hlen : S.LenF k' s'.bk) (hk : k' <= 1000) (hs : s'.seq < 18446744073709551616) (hb : s'.boots <= k') : Inv k' s' where
 r := {
  fit := ⟨hn.imp (fun {a b} h e => by rw [e] at h; have h2 : B.cmpS b b = 0 := B.cmpS3.self b; omega),fun x hx => (hq x hx).1,hl.up.imp (fun h => Int.ne_of_lt h),fun x hx => by have := hl.tos x hx; unfold I64; omega,fun x hx => by have := hl.few x hx; omega⟩
  tb := ht
  bk := ⟨hf,fun i hi => Nat.le_trans (hlen i hi) (by omega)⟩
  seq := hs
  qok := fun x hx => (hq x hx).2
  up := hl.up
  few := hl.few
  nlk := up_short hl.up hl.tos }
 upk := hn
 nq := hq2
 len := hlen
 boots := hb
 top := by rw [e1,e2,e3]; exact h.top
 site := by rw [e1,e4]; exact h.site
 tos := hl.tos
 some := hl.some
theorem insK_up {α : Type} {n : ByteArray} {x : α} : ∀ {l : List (ByteArray × α)},UpK l -> n ∉ l.map Prod.fst -> UpK (insK n x l)
 |[],_,_ => List.pairwise_singleton _ _
 |y :: t,h,hn => by
  have h1 : UpK t := (List.pairwise_cons.1 h).2
  have h2 := (List.pairwise_cons.1 h).1
  have hne : n ≠ y.1 := fun e => hn (by rw [e]; exact List.mem_cons_self)
  have hnt : n ∉ t.map Prod.fst := fun hm => hn (List.mem_cons_of_mem _ hm)
  unfold insK
  split
  ·rename_i hlt
   refine List.pairwise_cons.2 ⟨fun z hz => ?_,h⟩
   rcases List.mem_cons.1 hz with rfl | hz
   ·exact hlt
   ·exact B.cmpS3.trans _ _ _ hlt (h2 z hz)
  ·rename_i hlt
   refine List.pairwise_cons.2 ⟨fun z hz => ?_,insK_up h1 hnt⟩
   have hz' : z ∈ n :: t.map Prod.fst := by
    have := ((insK_perm n x t).map Prod.fst).mem_iff.1 hz
    simpa using this
   rcases List.mem_cons.1 hz' with rfl | hz'
   ·have h3 := B.cmpS3.neg z y.1
    have h4 : B.cmpS z y.1 ≠ 0 := fun e => hne (B.cmpS_eq e)
    show B.cmpS y.1 z < 0
    omega
   ·exact h2 z hz'
theorem upK_of {α β : Type} {l : List (ByteArray × α)} {m : List (ByteArray × β)} (h : UpK l) (e : m.map Prod.fst = l.map Prod.fst) : UpK m := by unfold UpK at h ⊢; rw [e]; exact h
theorem upK_filter {α : Type} {l : List (ByteArray × α)} (h : UpK l) (p : ByteArray × α -> Bool) : UpK (l.filter p) := by
 unfold UpK at h ⊢
 rw [List.pairwise_map] at h ⊢
 exact h.filter p
theorem Inv.turnQ {k : Nat} {s : Sm} (h : Inv k s) (hk : k <= 1000) {n : ByteArray} {q' : F.St} (ok : q'.Ok) : Inv k { s with qs := setQ s.qs n q' } := by
 refine h.of rfl rfl rfl rfl h.lk (upK_of h.upk (setQ_names _ _ _)) (fun x hx => ?_) (by unfold setQ; rw [List.length_map]; exact h.nq) h.r.tb h.r.bk.fine h.len hk h.r.seq h.boots
 obtain ⟨m,r⟩ := x
 rcases mem_setQ hx with ⟨rfl,rfl⟩ | ⟨_,hm⟩
 ·have hx1 : m ∈ s.qs.map Prod.fst := by
   have h1 : m ∈ (setQ s.qs m r).map Prod.fst := List.mem_map.2 ⟨(m,r),hx,rfl⟩
   rw [setQ_names] at h1
   exact h1
  obtain ⟨y,hy,e⟩ := List.mem_map.1 hx1
  exact ⟨by rw [show (m,r).1 = y.1 from e.symm]; exact h.r.fit.short y hy,ok⟩
 ·exact ⟨h.r.fit.short _ hm,h.r.qok _ hm⟩
theorem Inv.table {k : Nat} {s : Sm} (h : Inv k s) (hk : k <= 1000) {tb' : B.Tb} (ok : tb'.Ok) : Inv k { s with tb := tb' } :=
 h.of rfl rfl rfl rfl h.lk h.upk (fun x hx => ⟨h.r.fit.short x hx,h.r.qok x hx⟩) h.nq ok h.r.bk.fine h.len hk h.r.seq h.boots
theorem Inv.mono {k k' : Nat} {s : Sm} (h : Inv k s) (hk : k <= k') (hk' : k' <= 1000) : Inv k' s :=
 h.of rfl rfl rfl rfl h.lk h.upk (fun x hx => ⟨h.r.fit.short x hx,h.r.qok x hx⟩) h.nq h.r.tb h.r.bk.fine (fun i hi => Nat.le_trans (h.len i hi) hk) hk' h.r.seq (Nat.le_trans h.boots hk)
theorem Inv.onQ {k : Nat} {s : Sm} (h : Inv k s) (hk : k <= 1000) {n : ByteArray} {f : F.St -> Int × F.St} (ok : ∀ q,q.Ok -> (f q).2.Ok) : Inv k (onQ s n f).2 := by
 cases hq : findQ s.qs n with
 |none => rw [onQ_none hq]; exact h
 |some q => rw [onQ_some hq]; exact h.turnQ hk (ok q (h.r.qok _ (findQ_some hq)))
theorem Inv.push {k : Nat} {s : Sm} (h : Inv k s) (hk : k <= 1000) (m : Ms) (n : ByteArray) : Inv k (pushQ m s n) := by
 cases hq : findQ s.qs n with
 |none => unfold pushQ; rw [hq]; exact h
 |some q => rw [pushQ_some hq]; exact h.turnQ hk ((h.r.qok _ (findQ_some hq)).push (toM m))
theorem pushes_lk (m : Ms) (l : List ByteArray) (s : Sm) : (l.foldl (pushQ m) s).lk = s.lk := by
 induction l generalizing s with
 |nil => rfl
 |cons n r ih => rw [List.foldl_cons,ih,pushQ_lk]
theorem Inv.pushes {k : Nat} {s : Sm} (h : Inv k s) (hk : k <= 1000) (m : Ms) (l : List ByteArray) : Inv k (l.foldl (pushQ m) s) := by
 induction l generalizing s with
 |nil => exact h
 |cons n r ih => exact ih (h.push hk m n)
theorem Inv.links {k : Nat} {s : Sm} (h : Inv k s) (hk : k <= 1000) (m : Ms) (ways : List Int) (h1 : ∀ t ∈ ways,1 <= t /\ t <= 8) (h2 : ways.Pairwise (· < ·)) (h3 : ∀ t ∈ ways,(linkOf s.lk t).length < 200) : Inv k (ways.foldl (linkAdd m) s) := by
 induction ways generalizing s with
 |nil => exact h
 |cons t r ih =>
  have ht := h1 t List.mem_cons_self
  have hl : LkOk (linkAdd m s t).lk := h.lk.put ht (by have := h3 t List.mem_cons_self; rw [List.length_append]; simp only [List.length_cons,List.length_nil]; omega) (by simp)
  refine ih (h.of rfl rfl rfl rfl hl h.upk (fun x hx => ⟨h.r.fit.short x hx,h.r.qok x hx⟩) h.nq h.r.tb h.r.bk.fine h.len hk h.r.seq h.boots) (fun x hx => h1 x (List.mem_cons_of_mem _ hx)) (List.pairwise_cons.1 h2).2 fun x hx => ?_
  have hne : ¬ x = t := by have := (List.pairwise_cons.1 h2).1 x hx; omega
  show (linkOf (insL t (linkOf s.lk t ++ [m]) s.lk) x).length < 200
  rw [linkOf_ins h.r.up,if_neg hne]
  exact h3 x (List.mem_cons_of_mem _ hx)
theorem Inv.enter {k : Nat} {s : Sm} (h : Inv k s) (hk : k + 1 <= 1000) {m : Ms} (hm : 0 <= m.seq /\ m.seq < 18446744073709551616) : Inv (k + 1) (enterM s m).2 := by
 unfold enterM
 cases ha : admitM s m with
 |mk ways er =>
  simp only
  by_cases h0 : er ≠ 0
  ·rw [if_pos h0]; exact h.mono (by omega) hk
  ·rw [if_neg h0]
   have h0 : er = 0 := by simpa using h0
   rw [h0] at ha
   obtain ⟨w1,w2⟩ := admit_ways h.top ha
   by_cases hq : (intoM s m).any (fullN s) = true
   ·rw [if_pos hq]; exact h.mono (by omega) hk
   ·rw [if_neg hq]
    by_cases hf : ways.any (fullT s) = true
    ·rw [if_pos hf]; exact h.mono (by omega) hk
    ·rw [if_neg hf]
     have hroom : ∀ t ∈ ways,(linkOf s.lk t).length < 200 := fun t ht => by
      have hf : ways.any (fullT s) = false := by simpa using hf
      have := List.any_eq_false.1 hf t ht
      unfold fullT at this
      simp at this
      exact this
     unfold takenM
     have hb : Inv (k + 1) { s with bk := S.addF s.bk m.origin m.seq.toNat,seq := if m.origin = s.site then m.seq.toNat else s.seq } :=
      h.of rfl rfl rfl rfl h.lk h.upk (fun x hx => ⟨h.r.fit.short x hx,h.r.qok x hx⟩) h.nq h.r.tb (h.r.bk.fine.add _ (by omega)) (lenF_add h.len h.r.bk.fine _ _) hk (by
       show (if m.origin = s.site then m.seq.toNat else s.seq) < _
       split
       ·omega
       ·exact h.r.seq) (by have := h.boots; show s.boots <= _; omega)
     refine (hb.pushes hk m (intoM s m)).links hk (hopM m) ways w1 w2 fun t ht => ?_
     rw [pushes_lk]
     exact hroom t ht
theorem nameB_size {s : ByteArray} (h : nameB (txt s) = true) : s.size <= 20 := B.name_short h
theorem good_name {a : Ax} {l : List UInt8} (hg : goodA a = true) (hl : lettersL a.kind = some l) : ∀ c ∈ l,fitsA a c = true := by
 unfold goodA at hg
 rw [hl] at hg
 simp only [Bool.and_eq_true,List.all_eq_true] at hg
 exact hg.1
theorem Inv.act {k : Nat} {s : Sm} (h : Inv k s) (hk : k + 1 <= 1000) {a : Ax} (ha : a.Fits) : Inv (k + 1) (actM s a).2 := by
 have hk0 : k <= 1000 := by omega
 have up : ∀ {s' : Sm},Inv k s' -> Inv (k + 1) s' := fun h => h.mono (by omega) hk
 unfold actM
 by_cases hg : goodA a = false
 ·rw [if_pos hg]; exact up h
 rw [if_neg hg]
 have hg : goodA a = true := by simpa using hg
 by_cases k1 : a.kind = 1
 ·rw [if_pos k1]
  have hf := good_name hg (l := [110,100]) (by rw [k1]; rfl)
  have hn : nameB (txt a.name) = true := hf 110 (by simp)
  have hn2 : inB a.n 1 1000 = true := hf 100 (by simp)
  unfold inB at hn2
  simp at hn2
  cases hq : findQ s.qs a.name with
  |some q => rw [queueM_some hq]; exact up h
  |none =>
   rw [queueM_none hq]
   split
   ·exact up h
   ·rename_i h16
    have hnm := findQ_none hq
    refine up (h.of rfl rfl rfl rfl h.lk (insK_up h.upk hnm) (fun x hx => ?_) (by rw [(insK_perm _ _ _).length_eq]; simp only [List.length_cons]; omega) h.r.tb h.r.bk.fine h.len hk0 h.r.seq h.boots)
    rcases List.mem_cons.1 ((insK_perm _ _ _).mem_iff.1 hx) with rfl | hx
    ·exact ⟨nameB_size hn,F.newS_ok (by omega) (by omega)⟩
    ·exact ⟨h.r.fit.short x hx,h.r.qok x hx⟩
 rw [if_neg k1]
 by_cases k2 : a.kind = 2
 ·rw [if_pos k2]
  cases hq : findQ s.qs a.name with
  |none => rw [noQueueM_none hq]; exact up h
  |some q =>
   rw [noQueueM_some hq]
   refine up (h.of rfl rfl rfl rfl h.lk (upK_filter h.upk _) (fun x hx => ?_) (Nat.le_trans (List.length_filter_le _ _) h.nq) (h.r.tb.keep _) h.r.bk.fine h.len hk0 h.r.seq h.boots)
   have := (List.mem_filter.1 hx).1
   exact ⟨h.r.fit.short x this,h.r.qok x this⟩
 rw [if_neg k2]
 by_cases k3 : a.kind = 3
 ·rw [if_pos k3]; exact up (h.table hk0 (h.r.tb.declare _))
 rw [if_neg k3]
 by_cases k4 : a.kind = 4
 ·rw [if_pos k4]; exact up (h.table hk0 (h.r.tb.drop _))
 rw [if_neg k4]
 by_cases k5 : a.kind = 5
 ·rw [if_pos k5]
  refine up (h.table hk0 ?_)
  unfold bindM
  split
  ·exact h.r.tb.bind ⟨ha.be,ha.bq,ha.bp⟩
  ·exact h.r.tb
 rw [if_neg k5]
 by_cases k6 : a.kind = 6
 ·rw [if_pos k6]; exact up (h.table hk0 (h.r.tb.unbind _))
 rw [if_neg k6]
 by_cases k7 : a.kind = 7
 ·rw [if_pos k7]; exact h.enter hk ha.m.s
 rw [if_neg k7]
 by_cases k8 : a.kind = 8
 ·rw [if_pos k8]; exact up (h.onQ hk0 fun q ok => ok.give)
 rw [if_neg k8]
 by_cases k9 : a.kind = 9
 ·rw [if_pos k9]; exact up (h.onQ hk0 fun q ok => ok.done _)
 rw [if_neg k9]
 by_cases k10 : a.kind = 10
 ·rw [if_pos k10]; exact up (h.onQ hk0 fun q ok => ok.back _)
 rw [if_neg k10]
 by_cases k11 : a.kind = 11
 ·rw [if_pos k11]
  have hf := good_name hg (l := [115,99]) (by rw [k11]; rfl)
  have ht : inB a.to 1 8 = true := hf 115 (by simp)
  unfold inB at ht
  simp at ht
  unfold sentM
  split
  ·exact up h
  ·split
   ·exact up h
   ·have hfew := linkOf_le h.r.few a.to
    split
    ·rename_i he
     refine up (h.of rfl rfl rfl rfl ?_ h.upk (fun x hx => ⟨h.r.fit.short x hx,h.r.qok x hx⟩) h.nq h.r.tb h.r.bk.fine h.len hk0 h.r.seq h.boots)
     refine ⟨?_,fun y hy => ?_,fun y hy => ?_,fun y hy => ?_⟩
     ·have := insL_up a.to ((linkOf s.lk a.to).drop a.n.toNat) s.lk h.r.up
      unfold Up at this ⊢
      rw [List.pairwise_map] at this ⊢
      exact this.filter _
     all_goals (obtain ⟨hy1,hy2⟩ := List.mem_filter.1 hy; rcases insL_mem h.r.up hy1 with rfl | hy1)
     ·simp at hy2
     ·exact h.tos y hy1
     ·simp at hy2
     ·exact h.r.few y hy1
     ·simp at hy2
     ·exact h.some y hy1
    ·rename_i h1 h2
     refine up (h.of rfl rfl rfl rfl (h.lk.put ht (by rw [List.length_drop]; omega) (fun e => ?_)) h.upk (fun x hx => ⟨h.r.fit.short x hx,h.r.qok x hx⟩) h.nq h.r.tb h.r.bk.fine h.len hk0 h.r.seq h.boots)
     have := congrArg List.length e
     rw [List.length_drop,List.length_nil] at this
     omega
 rw [if_neg k11]
 refine h.of rfl rfl rfl rfl h.lk (upK_of h.upk (by unfold bootM; rw [List.map_map]; rfl)) (fun x hx => ?_) (by unfold bootM; rw [List.length_map]; exact h.nq) h.r.tb h.r.bk.fine (fun i hi => Nat.le_trans (h.len i hi) (by omega)) hk h.r.seq (by have := h.boots; show s.boots + 1 <= _; omega)
 obtain ⟨y,hy,rfl⟩ := List.mem_map.1 hx
 exact ⟨h.r.fit.short y hy,(h.r.qok y hy).reset⟩
theorem goneQ_names {s s' : Sm} (h : s'.qs.map Prod.fst = s.qs.map Prod.fst) (n : ByteArray) : goneQ s' n = goneQ s n := by
 unfold goneQ
 cases h1 : findQ s.qs n with
 |none =>
  cases h2 : findQ s'.qs n with
  |none => rfl
  |some q =>
   have := findQ_none h1
   rw [<- h] at this
   exact absurd (List.mem_map.2 ⟨_,findQ_some h2,rfl⟩) this
 |some q =>
  have hm : n ∈ s'.qs.map Prod.fst := by rw [h]; exact List.mem_map.2 ⟨_,findQ_some h1,rfl⟩
  obtain ⟨q',hq'⟩ := findQ_mem hm
  rw [hq']
  rfl
theorem pushes_names (m : Ms) (l : List ByteArray) (s : Sm) : (l.foldl (pushQ m) s).qs.map Prod.fst = s.qs.map Prod.fst := by
 induction l generalizing s with
 |nil => rfl
 |cons n r ih => rw [List.foldl_cons,ih,pushQ_names]
theorem pushQ_tb (m : Ms) (s : Sm) (n : ByteArray) : (pushQ m s n).tb = s.tb := by
 unfold pushQ
 cases findQ s.qs n <;> rfl
theorem pushes_tb (m : Ms) (l : List ByteArray) (s : Sm) : (l.foldl (pushQ m) s).tb = s.tb := by
 induction l generalizing s with
 |nil => rfl
 |cons n r ih => rw [List.foldl_cons,ih,pushQ_tb]
theorem links_qs (m : Ms) (l : List Int) (s : Sm) : (l.foldl (linkAdd m) s).qs = s.qs /\ (l.foldl (linkAdd m) s).tb = s.tb := by
 induction l generalizing s with
 |nil => exact ⟨rfl,rfl⟩
 |cons n r ih => rw [List.foldl_cons]; exact ih _
theorem into_taken (s : Sm) (m : Ms) (ways : List Int) : intoM (takenM s m ways) m = intoM s m := by
 have h1 := links_qs (hopM m) ways ((intoM s m).foldl (pushQ m) { s with bk := S.addF s.bk m.origin m.seq.toNat,seq := if m.origin = s.site then m.seq.toNat else s.seq })
 have hq : (takenM s m ways).qs.map Prod.fst = s.qs.map Prod.fst := by
  unfold takenM
  rw [h1.1,pushes_names]
 have ht : (takenM s m ways).tb = s.tb := by
  unfold takenM
  rw [h1.2,pushes_tb]
 unfold intoM
 rw [ht]
 exact List.filter_congr fun n _ => by rw [goneQ_names hq]
theorem into_enter (s : Sm) (m : Ms) : intoM (enterM s m).2 m = intoM s m := by
 unfold enterM
 cases ha : admitM s m with
 |mk ways er =>
  simp only
  split
  ·rfl
  ·split
   ·rfl
   ·split
    ·rfl
    ·exact into_taken s m ways
theorem toldM_not {s : Sm} {a : Ax} (h : a.kind ≠ 7 \/ goodA a = false) : toldM s a = [] := by
 unfold toldM
 rw [if_neg]
 rintro ⟨h1,h2,_⟩
 rcases h with h | h
 ·exact h h2
 ·rw [h] at h1; cases h1
theorem kind_in {a : Ax} (hg : goodA a = true) : 1 <= a.kind /\ a.kind <= 12 := by
 unfold goodA at hg
 cases hl : lettersL a.kind with
 |none => rw [hl] at hg; cases hg
 |some l =>
  unfold lettersL at hl
  by_cases h : 1 <= a.kind /\ a.kind <= 12
  ·exact h
  ·exfalso
   rw [if_neg (by omega),if_neg (by omega),if_neg (by omega),if_neg (by omega),if_neg (by omega),if_neg (by omega),if_neg (by omega),if_neg (by omega),if_neg (by omega),if_neg (by omega),if_neg (by omega),if_neg (by omega)] at hl
   cases hl
theorem applyAny (p : Nat) (G : Nat -> Prop) (s : Sm) (a : Ax) (k : Nat) (w : World) (h : SS w p G s) (hK : Kinds w) (ha : a.Fits) (hi : Inv k s) (hk : k + 1 <= 1000) :
  Calls Tryz.prog 13 #[.pointer (some ⟨p,0,none⟩),av a] w (AppPost p G w (toldM s a) (actM s a).1 (actM s a).2) := by
 have r := hi.r
 by_cases hg : goodA a = false
 ·rw [toldM_not (.inr hg),show actM s a = (2,s) by unfold actM; rw [if_pos hg]]
  exact apply_bad p G s a w h hK ha hg
 have hg : goodA a = true := by simpa using hg
 have hin := kind_in hg
 have e0 : ¬ goodA a = false := by simp [hg]
 by_cases k7 : a.kind = 7
 ·have ea : actM s a = enterM s a.m := by unfold actM; rw [if_neg e0,if_neg (by omega),if_neg (by omega),if_neg (by omega),if_neg (by omega),if_neg (by omega),if_neg (by omega),if_pos k7]
  have hgm := good_name hg (l := [109]) (by rw [k7]; rfl) 109 (by simp)
  have hgm : goodM a.m = true := hgm
  unfold goodM at hgm
  simp only [Bool.and_eq_true,inB,decide_eq_true_eq] at hgm
  have hin : a.m.In := ⟨ha.m.e,ha.m.k,ha.m.s,by omega⟩
  have et : toldM s a = if (enterM s a.m).1 = 0 then intoM (enterM s a.m).2 a.m else [] := by
   unfold toldM
   rw [ea]
   by_cases h0 : (enterM s a.m).1 = 0
   ·rw [if_pos ⟨hg,k7,h0⟩,if_pos h0,into_enter]
   ·rw [if_neg (fun h => h0 h.2.2),if_neg h0]
  rw [et,ea]
  have hready : (enterM s a.m).2.Fit /\ (enterM s a.m).2.tb.Ok := by
   have := hi.enter hk (m := a.m) ha.m.s
   exact ⟨this.r.fit,this.r.tb⟩
  exact apply7_any p G s a w h hK ha hg k7 _ _ hready.1 hready.2 hin fun V b => enter_any p G s a V (h.kept b) r hin fun ways hw => by
   obtain ⟨h1,h2⟩ := admit_ways hi.top hw
   exact ⟨h1,by have := ways_short h1 h2; omega⟩
 rw [toldM_not (.inl k7)]
 by_cases k1 : a.kind = 1
 ·have ea : actM s a = queueM s a.name a.n := by unfold actM; rw [if_neg e0,if_pos k1]
  have hn2 : inB a.n 1 1000 = true := good_name hg (l := [110,100]) (by rw [k1]; rfl) 100 (by simp)
  unfold inB at hn2
  simp at hn2
  rw [ea]
  exact apply1_any p G s a w h hK ha hg k1 _ _ fun V b => makeQ_any p G s a V (h.kept b) r.fit ha.nm hn2
 by_cases k2 : a.kind = 2
 ·have ea : actM s a = noQueueM s a.name := by unfold actM; rw [if_neg e0,if_neg k1,if_pos k2]
  rw [ea]
  exact apply2_any p G s a w h hK ha hg k2 _ _ fun V b => dropQ_any p G s a V (h.kept b) r.fit r.tb ha.nm
 by_cases k3 : a.kind = 3
 ·have ea : actM s a = ((s.tb.declare ⟨a.xn,a.xk,a.xf⟩).1,{ s with tb := (s.tb.declare ⟨a.xn,a.xk,a.xf⟩).2 }) := by unfold actM; rw [if_neg e0,if_neg k1,if_neg k2,if_pos k3]
  rw [ea]
  exact apply3_any p G s a w h hK ha hg k3 _ _ fun V b => makeEx_any p G s a V (h.kept b) r.tb ha.xn
 by_cases k4 : a.kind = 4
 ·have ea : actM s a = ((s.tb.drop a.name).1,{ s with tb := (s.tb.drop a.name).2 }) := by unfold actM; rw [if_neg e0,if_neg k1,if_neg k2,if_neg k3,if_pos k4]
  rw [ea]
  exact apply4_any p G s a w h hK ha hg k4 _ _ fun V b => dropEx_any p G s a V (h.kept b) r.tb ha.nm
 by_cases k5 : a.kind = 5
 ·have ea : actM s a = ((bindM s ⟨a.be,a.bq,a.bp⟩).1,{ s with tb := (bindM s ⟨a.be,a.bq,a.bp⟩).2 }) := by unfold actM; rw [if_neg e0,if_neg k1,if_neg k2,if_neg k3,if_neg k4,if_pos k5]
  rw [ea]
  exact apply5_any p G s a w h hK ha hg k5 _ _ fun V b => makeBd_any p G s a V (h.kept b) r.fit r.tb ⟨ha.be,ha.bq,ha.bp⟩
 by_cases k6 : a.kind = 6
 ·have ea : actM s a = ((s.tb.unbind ⟨a.be,a.bq,a.bp⟩).1,{ s with tb := (s.tb.unbind ⟨a.be,a.bq,a.bp⟩).2 }) := by unfold actM; rw [if_neg e0,if_neg k1,if_neg k2,if_neg k3,if_neg k4,if_neg k5,if_pos k6]
  rw [ea]
  exact apply6_any p G s a w h hK ha hg k6 _ _ fun V b => dropBd_any p G s a V (h.kept b) r.tb ⟨ha.be,ha.bq,ha.bp⟩
 by_cases k8 : a.kind = 8
 ·have ea : actM s a = onQ s a.name giveM := by unfold actM; rw [if_neg e0,if_neg k1,if_neg k2,if_neg k3,if_neg k4,if_neg k5,if_neg k6,if_neg k7,if_pos k8]
  rw [ea]
  exact apply8_any p G s a w h hK ha hg k8 _ _ fun V b => give14_any p G s a V (h.kept b) r.fit r.qok ha.nm
 by_cases k9 : a.kind = 9
 ·have ea : actM s a = onQ s a.name (fun q => q.done a.tag.toNat) := by unfold actM; rw [if_neg e0,if_neg k1,if_neg k2,if_neg k3,if_neg k4,if_neg k5,if_neg k6,if_neg k7,if_neg k8,if_pos k9]
  rw [ea]
  exact apply9_any p G s a w h hK ha hg k9 _ _ fun V b => ack14_any p G s a V (h.kept b) r.fit r.qok ha.nm ha.t
 by_cases k10 : a.kind = 10
 ·have ea : actM s a = onQ s a.name (fun q => q.back a.tag.toNat) := by unfold actM; rw [if_neg e0,if_neg k1,if_neg k2,if_neg k3,if_neg k4,if_neg k5,if_neg k6,if_neg k7,if_neg k8,if_neg k9,if_pos k10]
  rw [ea]
  exact apply10_any p G s a w h hK ha hg k10 _ _ fun V b => back14_any p G s a V (h.kept b) r.fit r.qok ha.nm ha.t
 by_cases k11 : a.kind = 11
 ·have ea : actM s a = sentM s a.to a.n.toNat := by unfold actM; rw [if_neg e0,if_neg k1,if_neg k2,if_neg k3,if_neg k4,if_neg k5,if_neg k6,if_neg k7,if_neg k8,if_neg k9,if_neg k10,if_pos k11]
  have hf := good_name hg (l := [115,99]) (by rw [k11]; rfl)
  have ht : inB a.to 1 8 = true := hf 115 (by simp)
  have hn : inB a.n 1 200 = true := hf 99 (by simp)
  unfold inB at ht hn
  simp at ht hn
  rw [ea]
  exact apply11_any p G s a w h hK ha hg k11 _ _ fun V b => sent14_any p G s a a.n.toNat V (h.kept b) r.fit r.up (by have := r.nlk; omega) (by unfold I64; omega) (by omega) (by omega)
 have k12 : a.kind = 12 := by omega
 have ea : actM s a = (0,bootM s) := by unfold actM; rw [if_neg e0,if_neg k1,if_neg k2,if_neg k3,if_neg k4,if_neg k5,if_neg k6,if_neg k7,if_neg k8,if_neg k9,if_neg k10,if_neg k11]
 rw [ea]
 exact apply12_any p G s a w h hK ha hg k12 _ _ fun V b => boot14_any p G s a V (h.kept b) r.fit r.qok (by have := hi.boots; omega)
theorem reset_list {q : F.St} (ok : q.Ok) : q.reset.2.out = [] /\ q.reset.2.next = q.next /\ q.reset.2.most = q.most /\ ∀ x,x ∈ q.reset.2.rdy ↔ x ∈ q.rdy \/ x ∈ q.out.map F.mark := by
 have key : ∀ (n : Nat) (q : F.St),q.Ok -> q.out.length = n -> (F.backs n q).out = [] /\ (F.backs n q).next = q.next /\ (F.backs n q).most = q.most /\ ∀ x,x ∈ (F.backs n q).rdy ↔ x ∈ q.rdy \/ x ∈ q.out.map F.mark := by
  intro n
  induction n with
  |zero =>
   intro q _ hl
   have : q.out = [] := List.eq_nil_of_length_eq_zero hl
   refine ⟨this,rfl,rfl,fun x => ?_⟩
   rw [this]
   simp [F.backs]
  |succ n ih =>
   intro q ok hl
   cases ho : q.out with
   |nil => rw [ho] at hl; simp at hl
   |cons y t =>
    have hb := F.back_head ok ho
    have e : F.backs (n + 1) q = F.backs n (q.back y.tag).2 := by
     conv => lhs; unfold F.backs
     rw [ho]
    have ok2 := ok.back y.tag
    rw [e]
    rw [hb] at ok2 ⊢
    obtain ⟨h1,h2,h3,h4⟩ := ih _ ok2 (by rw [ho] at hl; simpa using hl)
    refine ⟨h1,h2,h3,fun x => (h4 x).trans ?_⟩
    show x ∈ F.ins (F.mark y) q.rdy \/ x ∈ t.map F.mark ↔ _
    rw [F.mem_ins,List.map_cons,List.mem_cons]
    constructor
    ·rintro ((h | h) | h)
     ·exact .inr (.inl h)
     ·exact .inl h
     ·exact .inr (.inr h)
    ·rintro (h | h | h)
     ·exact .inl (.inr h)
     ·exact .inl (.inl h)
     ·exact .inr h
 exact key _ q ok rfl
theorem rise_ext {l m : List F.It} (hl : F.Rise l) (hm : F.Rise m) (h : ∀ x,x ∈ l ↔ x ∈ m) : l = m := by
 have nd : ∀ {l : List F.It},F.Rise l -> l.Nodup := fun h => h.imp fun h e => by rw [e] at h; omega
 refine List.Perm.eq_of_pairwise (le := fun a b : F.It => a.tag < b.tag) (fun a b _ _ h1 h2 => by omega) hl hm ((List.perm_ext_iff_of_nodup (nd hl) (nd hm)).2 h)
theorem filter_at {α : Type} (p : α -> Bool) (R : List α) (m : Nat) (hm : m < R.length) (h : p R[m] = true) : (R.filter p)[((R.take m).filter p).length]? = some R[m] := by
 rw [show (R.filter p) = (R.take m).filter p ++ (R.drop m).filter p by rw [<- List.filter_append,List.take_append_drop]]
 rw [List.getElem?_append_right (yyH _),Nat.sub_self,List.drop_eq_getElem_cons hm,List.filter_cons_of_pos h]
 rfl
theorem filter_far {α : Type} (p : α -> Bool) (R : List α) (m : Nat) (hm : m < R.length) (h : p R[m] = false) {x : α} (hx : (R.filter p)[((R.take m).filter p).length]? = some x) : x ∈ R.drop (m + 1) := by
 rw [show (R.filter p) = (R.take m).filter p ++ (R.drop m).filter p by rw [<- List.filter_append,List.take_append_drop]] at hx
 rw [List.getElem?_append_right (yyH _),Nat.sub_self,List.drop_eq_getElem_cons hm,List.filter_cons_of_neg (by simp [h])] at hx
 exact (List.mem_filter.1 (List.mem_of_getElem? hx)).1
theorem filter_next {α : Type} (p : α -> Bool) (R : List α) (m : Nat) (hm : m < R.length) : ((R.take (m + 1)).filter p).length = ((R.take m).filter p).length + if p R[m] then 1 else 0 := by
 rw [List.take_succ_eq_append_getElem hm,List.filter_append,List.length_append]
 cases h : p R[m] <;> simp [h]
structure Mixed (A B R : List F.It) (p : F.It -> Bool) : Prop where
 rise : F.Rise R
 a : A = R.filter p
 b : B.map F.mark = R.filter fun x => !p x
theorem mixed_of {q : F.St} (ok : q.Ok) : ∃ p,Mixed q.rdy q.out q.reset.2.rdy p := by
 obtain ⟨_,_,_,h4⟩ := reset_list ok
 have ok2 := ok.reset
 refine ⟨fun x => F.hasT q.rdy x.tag,ok2.r,?_,?_⟩
 ·refine rise_ext ok.r (ok2.r.filter _) fun x => ?_
  rw [List.mem_filter,h4]
  constructor
  ·exact fun h => ⟨.inl h,F.hasT_of_mem h⟩
  ·rintro ⟨h | h,h2⟩
   ·exact h
   ·obtain ⟨y,hy,rfl⟩ := List.mem_map.1 h
    exfalso
    have : F.hasT q.rdy y.tag = false := F.hasT_false.2 fun z hz => ok.ap z hz y hy
    have h2 : F.hasT q.rdy y.tag = true := h2
    rw [this] at h2
    cases h2
 ·have hrm : F.Rise (q.out.map F.mark) := List.pairwise_map.2 (ok.o.imp fun h => h)
  refine rise_ext hrm (ok2.r.filter _) fun x => ?_
  rw [List.mem_filter,h4]
  constructor
  ·intro h
   obtain ⟨y,hy,rfl⟩ := List.mem_map.1 h
   refine ⟨.inr h,?_⟩
   have : F.hasT q.rdy y.tag = false := F.hasT_false.2 fun z hz => ok.ap z hz y hy
   show (!F.hasT q.rdy y.tag) = true
   rw [this]; rfl
  ·rintro ⟨h | h,h2⟩
   ·rw [F.hasT_of_mem h] at h2; cases h2
   ·exact h
theorem Mixed.len {A B R : List F.It} {p : F.It -> Bool} (h : Mixed A B R p) : R.length = A.length + B.length := by
 have h1 := congrArg List.length h.a
 have h2 := congrArg List.length h.b
 rw [List.length_map] at h2
 have h3 : ∀ l : List F.It,l.length = (l.filter p).length + (l.filter fun x => !p x).length := fun l => by
  induction l with
  |nil => rfl
  |cons x t ih => cases hp : p x <;> simp [hp] <;> omega
 have := h3 R
 omega
def posA (R : List F.It) (p : F.It -> Bool) (m : Nat) : Nat := ((R.take m).filter p).length
def posB (R : List F.It) (p : F.It -> Bool) (m : Nat) : Nat := ((R.take m).filter fun x => !p x).length
theorem Mixed.step {A B R : List F.It} {p : F.It -> Bool} (h : Mixed A B R p) {m : Nat} (hm : m < R.length) :
  (∃ ha : posA R p m < A.length,A[posA R p m] = R[m] /\ posA R p (m + 1) = posA R p m + 1 /\ posB R p (m + 1) = posB R p m) \/
  ((∀ ha : posA R p m < A.length,A[posA R p m] ≠ R[m]) /\ ∃ hb : posB R p m < B.length,F.mark B[posB R p m] = R[m] /\ posA R p (m + 1) = posA R p m /\ posB R p (m + 1) = posB R p m + 1) := by
 have n1 := filter_next p R m hm
 have n2 := filter_next (fun x => !p x) R m hm
 cases hp : p R[m] with
 |true =>
  have h1 := filter_at p R m hm hp
  rw [<- h.a] at h1
  obtain ⟨ha,he⟩ := List.getElem?_eq_some_iff.1 h1
  rw [hp] at n1 n2
  exact .inl ⟨ha,he,by unfold posA; rw [n1]; rfl,by unfold posB; rw [n2]; rfl⟩
 |false =>
  refine .inr ⟨fun ha he => ?_,?_⟩
  ·have h1 : (R.filter p)[((R.take m).filter p).length]? = some R[m] := by
    have := List.getElem?_eq_getElem ha
    rw [he] at this
    conv at this => lhs; rw [h.a]
    exact this
   have h2 := filter_far p R m hm hp h1
   obtain ⟨k,hk,hk2⟩ := List.getElem_of_mem h2
   rw [List.length_drop] at hk
   have h3 := List.pairwise_iff_getElem.1 h.rise m (m + 1 + k) hm (by omega) (by omega)
   rw [List.getElem_drop] at hk2
   rw [hk2] at h3
   omega
  ·have h1 := filter_at (fun x => !p x) R m hm (by simp [hp])
   rw [<- h.b] at h1
   obtain ⟨hb,he⟩ := List.getElem?_eq_some_iff.1 h1
   rw [hp] at n1 n2
   rw [List.length_map] at hb
   exact ⟨hb,by rw [<- he,List.getElem_map]; rfl,by unfold posA; rw [n1]; rfl,by unfold posB; rw [n2]; rfl⟩
theorem reset_none {q : F.St} (h : q.out = []) : q.reset.2 = q := by
 unfold F.St.reset
 rw [h]
 rfl
theorem boot_twice {s : Sm} (ok : ∀ x ∈ s.qs,x.2.Ok) : bootM (bootM s) = { bootM s with boots := s.boots + 2 } := by
 unfold bootM
 simp only [List.map_map]
 congr 1
 refine List.map_congr_left fun x hx => ?_
 simp only [Function.comp]
 rw [reset_none (reset_list (ok x hx)).1]
theorem fitB : (zA 12).Fits := by
 refine ⟨by decide,by unfold maxLen; decide,by decide,by decide,by decide,by unfold maxLen; decide,by decide,by unfold maxLen; decide,by unfold maxLen; decide,by unfold maxLen; decide,⟨by decide,by decide,by decide,by unfold maxLen; decide,by unfold maxLen; decide,by unfold maxLen; decide⟩⟩
structure NoneIn (w wr : World) (a : Ax) : Prop where
 un : Un14 wr (.pointer (some ⟨w.heap.size + 1,0,none⟩))
 box : wr.heap[w.heap.size]? = some (.cells (xcells a).toArray 42 (0,0))
 bel : Below w.heap.size w wr
end Go.Proofs.YtjagaankkcbjmaaGreatDoor
