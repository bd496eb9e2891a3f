import Derived.Test.YtjagaankkcbjmaaGreatDoorQrA
import Derived.Test.YtjagaankkcbjmaaGreatDoorQr38
import Derived.Test.YtjagaankkcbjmaaGreatDoorQr41
import Derived.Test.YtjagaankkcbjmaaGreatDoorQr26
set_option maxHeartbeats 16000000
set_option maxRecDepth 100000
namespace Go.Proofs.YtjagaankkcbjmaaGreatDoor
open Go.RowKit
def actsM (s : Sm) (l : List Ax) : Sm := l.foldl (fun s a => (actM s a).2) s
theorem actsM_inv {k : Nat} {s : Sm} (h : Inv k s) (l : List Ax) (hl : k + l.length <= 1000) (hf : ∀ a ∈ l,a.Fits) : Inv (k + l.length) (actsM s l) := by
 induction l generalizing s k with
 |nil => exact h
 |cons a t ih =>
  have h1 := h.act (by simp only [List.length_cons] at hl; omega) (hf a List.mem_cons_self)
  have h2 := ih h1 (by simp only [List.length_cons] at hl; omega) (fun x hx => hf x (List.mem_cons_of_mem _ hx))
  rw [show k + (a :: t).length = k + 1 + t.length by simp only [List.length_cons]; omega]
  exact h2
theorem newSm_inv {N0 H : Int} {E : List (Int × Int)} (h : O.goodB N0 E H = true) : Inv 0 (newSm 1 N0 E H) := by
 have hg : O.GoodT N0 E H := of_decide_eq_true h
 have h1 := hg.1
 exact ⟨⟨⟨List.nodup_nil,fun x hx => (by cases hx),List.nodup_nil,fun x hx => (by cases hx),fun x hx => (by cases hx)⟩,B.newT_ok,⟨S.fineF_nil,fun _ _ => Nat.zero_le _⟩,(by show 0 < _; decide),fun x hx => (by cases hx),List.Pairwise.nil,fun x hx => (by cases hx),(by show 0 <= _; decide)⟩,List.Pairwise.nil,(by show 0 <= _; decide),fun _ _ => yyH _,yyH _,hg,⟨Int.le_refl _,h1.1⟩,fun x hx => (by cases hx),fun x hx => (by cases hx)⟩
theorem actM_boot (s : Sm) : actM s (zA 12) = (0,bootM s) := by
 have hg : goodA (zA 12) = true := by kernel_rfl
 unfold actM
 rw [if_neg (by rw [hg]; simp)]
 rfl
structure Bin (w V : World) (p : Nat) (G : Nat -> Prop) (s : Sm) : Prop where
 st : SS V p G s
 own : ∀ k,G k -> w.heap.size + 1 <= k
 bel : Below w.heap.size w V
 lt : w.heap.size < V.heap.size
theorem Bin.go {w V V' : World} {p : Nat} {G : Nat -> Prop} {s : Sm} (h : Bin w V p G s) (b : Below V.heap.size V V') : Bin w V' p G s := ⟨h.st.kept b,h.own,keptW h.bel b,Nat.lt_of_lt_of_le h.lt b.size⟩
theorem Bin.turn {w V V' : World} {p : Nat} {G G' : Nat -> Prop} {s s' : Sm} (h : Bin w V p G s) (hs : SS V' p G' s') (m : Moved V V' G G') : Bin w V' p G' s' :=
 ⟨hs,fun k hk => (m.sub k hk).elim (h.own k) (fun hz => by have := h.lt; omega),m.below (fun k hk => by have := h.own k hk; omega) h.bel h.bel.size,Nat.lt_of_lt_of_le h.lt m.size⟩
theorem Moved.beside {V V' : World} {G G' : Nat -> Prop} (m : Moved V V' G G') {lo : Nat} (h : ∀ k,lo <= k -> k < V.heap.size -> ¬ G k) : ∀ k,lo <= k -> k < V.heap.size -> V'.heap[k]? = V.heap[k]? := fun k h1 h2 => m.block k h2 (h k h1 h2)
theorem AppPost.out {p : Nat} {G : Nat -> Prop} {w : World} {ns : List ByteArray} {er : Int} {s' : Sm} {e : Ending} {w' : World} (h : AppPost p G w ns er s' e w') : ∃ a n c,e = .returned (.tuple #[.slice a n c,.int .i64 er]) /\ ∃ G',SS w' p G' s' /\ Moved w w' G G' := by
 obtain ⟨v,h1,h2,h3⟩ := h
 obtain ⟨a,c,rfl⟩ := h2.slice
 exact ⟨a,_,c,h1,h3⟩
structure Bt (w V : World) (p : Nat) (G : Nat -> Prop) (gw gn lo1 lo2 : Nat) (P0 P1 : Pt) (s : Sm) : Prop where
 b : Bin w V p G (bootM s)
 i0 : PartsIs V lo1 P0 s
 i1 : PartsIs V lo2 P1 (bootM s)
 kw : V.heap[gw]? = some (.cells (ptcells P0).toArray 57 (0,0))
 kn : V.heap[gn]? = some (.cells (ptcells P1).toArray 57 (0,0))
theorem Bt.go {w V V' : World} {p : Nat} {G : Nat -> Prop} {gw gn lo1 lo2 : Nat} {P0 P1 : Pt} {s : Sm} (h : Bt w V p G gw gn lo1 lo2 P0 P1 s) (b : Below V.heap.size V V') : Bt w V' p G gw gn lo1 lo2 P0 P1 s :=
 ⟨h.b.go b,h.i0.kept b,h.i1.kept b,(b.block _ (yyD h.kw).1).trans h.kw,(b.block _ (yyD h.kn).1).trans h.kn⟩
theorem rise_tag {l : List F.It} (h : F.Rise l) {x y : F.It} (hx : x ∈ l) (hy : y ∈ l) (e : x.tag = y.tag) : x = y := by
 obtain ⟨i,hi,rfl⟩ := List.getElem_of_mem hx
 obtain ⟨j,hj,rfl⟩ := List.getElem_of_mem hy
 have hp := List.pairwise_iff_getElem.1 h
 rcases Nat.lt_trichotomy i j with h1 | h1 | h1
 ·have := hp i j hi hj h1; omega
 ·subst h1; rfl
 ·have := hp j i hj hi h1; omega
theorem Mixed.sub {A B R : List F.It} {p : F.It -> Bool} (h : Mixed A B R p) : ∀ y ∈ A,y ∈ R := fun y hy => by
 rw [h.a] at hy
 exact (List.mem_filter.1 hy).1
theorem eqf_no {P : Program} {w : World} {d : Nat} {xs ys : Array Value} {f : Field} {fs : List Field} {a b : Value} (hn : f.name ≠ "_") (ha : (part f.type xs f.offset).run P w = .ok a w) (hb : (part f.type ys f.offset).run P w = .ok b w) (hr : (Op.equalIn d f.type a b).run P w = .ok false w) : (Op.eqFields d xs ys (f :: fs)).run P w = .ok false w := by
 unfold Op.eqFields
 rw [if_pos hn]
 simp [Sem.run_bind,ha,hb,hr,Result.andThen_ok]
theorem eqIt_ne (y x : F.It) (w : World) (h : y.tag ≠ x.tag) : (binOp .eql 102 (.agg (F.icells y).toArray) (.agg (F.icells x).toArray)).run Tryz.prog w = .ok (.bool false) w := by
 have hb : ((y.tag : Int) == (x.tag : Int)) = false := beq_eq_false_iff_ne.2 fun e => h (Int.ofNat.inj e)
 have hS : Tryz.prog.underlying 102 = some (.struct (Tryz.prog.fieldsOf 102)) := by kernel_rfl
 have hp : Tryz.prog.stoodInHeld 102 = false := by kernel_rfl
 have hi := run_equalIn_int (P := Tryz.prog) w 9998 32 .u64 .u64 y.tag x.tag Tryz.underlying32
 rw [hb] at hi
 rw [run_eql_struct,show (10000 : Nat) = 9999 + 1 from rfl,run_equalIn_agg w 9999 102 _ _ hS hp]
 simp only [Program.fieldsOf,Tryz.underlying102]
 rw [show (9999 : Nat) = 9998 + 1 from rfl]
 rw [eqf_no (a := .int .u64 (y.tag : Int)) (b := .int .u64 (x.tag : Int)) (by decide) (part_one (agg_u64 w) rfl) (part_one (agg_u64 w) rfl) hi]
 rfl
theorem eqGuardIt : Tryz.prog.eqGuardType Tryz.prog.depth 102 = false := by kernel_rfl
theorem pos_le (R : List F.It) (p : F.It -> Bool) (m : Nat) : ((R.take m).filter p).length <= m := Nat.le_trans (List.length_filter_le _ _) (by rw [List.length_take]; exact Nat.min_le_left _ _)
theorem boots14_law (v va : Value) (S H : Int) (E : List (Int × Int)) (l : List Ax) (w : World) (hK : Kinds w) (hE : K.RowOf O.ecells w v E) (ha : K.RowOf xcells w va l) (hf : ∀ a ∈ l,a.Fits /\ a.Sum) :
  Calls Tryz.prog 7 #[O.tv S v H,va] w fun e w' => e = .returned (.bool true) /\ Below w.heap.size w w' := by
 obtain ⟨ea,ec,rfl⟩ := hE.slice
 obtain ⟨en,hen⟩ : ∃ z,E.length = z := ⟨_,rfl⟩
 rw [hen] at hE ⊢
 obtain ⟨aa,ac,rfl⟩ := ha.slice
 obtain ⟨n0,hn0⟩ : ∃ z,l.length = z := ⟨_,rfl⟩
 rw [hn0] at ha ⊢
 obtain ⟨W,fold⟩ : ∃ W,w.alloc (.cells #[.int .i64 S,.slice ea en ec,.int .i64 H] 24) = W := ⟨_,rfl⟩
 have bW : Below w.heap.size w W := by rw [<- fold]; exact box_below w _
 have kW : W.heap[w.heap.size]? = some (.cells #[.int .i64 S,.slice ea en ec,.int .i64 H] 24 (0,0)) := by rw [<- fold]; exact heap_alloc_new w _
 have HL : Hid (∀ V,Below w.heap.size w V -> Calls Tryz.prog 10 #[] V fun e w' => e = .returned (.bool true) /\ Below V.heap.size V w') := fun V b => lives14_any V (hK.below b)
 have hLi := light14_any (.slice aa n0 ac) l W (ha.below bW (yyH _)) (fun a h => (hf a h).2)
 have H0 : Hid (Kinds w /\ K.RowOf O.ecells w (.slice ea en ec) E /\ K.RowOf xcells w (.slice aa n0 ac) l /\ (∀ a ∈ l,a.Fits) /\ E.length = en /\ l.length = n0 /\ W.heap[w.heap.size]? = some (.cells #[.int .i64 S,.slice ea en ec,.int .i64 H] 24 (0,0)) /\ Below w.heap.size w W) := ⟨hK,hE,ha,fun a h => (hf a h).1,hen,hn0,kW,bW⟩
 clear hK hE ha hf hen hn0 bW kW
 go_enter Tryz.func7,Tryz.ntmps7
 go_wp2_with fail
 try rw [fold]
 clear fold
 refine hLi.mono ?_
 rintro e V0 ⟨lb,rfl,hlb,b0⟩
 clear hLi
 have HB0 : Hid (Below w.heap.size w V0 /\ V0.heap[w.heap.size]? = some (.cells #[.int .i64 S,.slice ea en ec,.int .i64 H] 24 (0,0))) := ⟨keptW H0.out.2.2.2.2.2.2.2 b0,(b0.block _ (yyD H0.out.2.2.2.2.2.2.1).1).trans H0.out.2.2.2.2.2.2.1⟩
 clear b0
 obtain ⟨t0,t1,t2⟩ := cells3 HB0.out.2
 have hLv := HL.out V0 HB0.out.1
 cases lb
 ·clear hlb
  go_wp2_with (go_at_call 10; refine hLv.mono ?_; rintro e w2 ⟨rfl,b2⟩)
  go_ret
  exact ⟨rfl,keptW HB0.out.1 b2⟩
 have hn200 : l.length <= 200 := hlb rfl
 have H200 : Hid (n0 <= 200) := by show _ <= _; rw [<- H0.out.2.2.2.2.2.1]; exact hn200
 clear hlb hn200
 by_cases h100 : (100 : Int) < (en : Int)
 ·go_wp2_with (go_at_call 10; refine hLv.mono ?_; rintro e w2 ⟨rfl,b2⟩)
  go_ret
  exact ⟨rfl,keptW HB0.out.1 b2⟩
 clear hLv
 cases hg : O.goodB S E H
 ·have hN := new14_none 1 S H (.slice ea en ec) E V0 (H0.out.2.1.below HB0.out.1 (yyH _)) (.inl hg)
  have HG : Hid (∀ V,Below w.heap.size w V -> Calls Tryz.prog 24 #[O.tv S (.slice ea en ec) H] V fun e w' => e = .returned (.bool false) /\ Below V.heap.size V w') := fun V b => by
   have := O.good_any S H (.slice ea en ec) E V (H0.out.2.1.below b (yyH _))
   rw [hg] at this
   exact this
  clear hg
  go_wp2_with fail
  refine hN.mono ?_
  rintro e V1 ⟨rfl,b1⟩
  have HB1 : Hid (Below w.heap.size w V1 /\ V1.heap[w.heap.size]? = some (.cells #[.int .i64 S,.slice ea en ec,.int .i64 H] 24 (0,0))) := ⟨keptW HB0.out.1 b1,(b1.block _ (yyD HB0.out.2).1).trans HB0.out.2⟩
  have hG := HG.out V1 HB1.out.1
  clear hN b1 t0 t1 t2 HG
  obtain ⟨t0,t1,t2⟩ := cells3 HB1.out.2
  go_wp2_with fail
  refine hG.mono ?_
  rintro e V2 ⟨rfl,b2⟩
  have HB2 : Hid (Below w.heap.size w V2) := keptW HB1.out.1 b2
  have hLv := HL.out V2 HB2.out
  clear hG b2 t0 t1 t2
  go_wp2_with (go_at_call 10; refine hLv.mono ?_; rintro e w2 ⟨rfl,b2⟩)
  go_ret
  exact ⟨rfl,keptW HB2.out b2⟩
 have hN := new14_any 1 S H (.slice ea en ec) E V0 (H0.out.2.1.below HB0.out.1 (yyH _)) (by rw [H0.out.2.2.2.2.1]; omega) hg (by omega) (by have : O.GoodT S E H := of_decide_eq_true hg; exact this.1.1)
 have HInv : Hid (Inv 0 (newSm 1 S E H)) := newSm_inv hg
 clear hg
 go_wp2_with fail
 refine hN.mono ?_
 rintro e V1 ⟨p,rfl,G,hS1,hG1,b1⟩
 have HS1 : Hid (Bin w V1 p G (newSm 1 S E H)) := ⟨hS1,fun k hk => by have := hG1 k hk; have := (yyD HB0.out.2).1; omega,keptW HB0.out.1 b1,Nat.lt_of_lt_of_le (yyD HB0.out.2).1 b1.size⟩
 clear hN hS1 hG1 b1 t0 t1 t2 HB0
 go_wp2
 go_loopg [7,42] n0 (fun g u7 u42 wr => ∃ i : Nat,u42 = .int .i64 (i : Int) /\ i <= n0 /\ g = n0 - i /\ Hid (∃ G',Bin w wr p G' (actsM (newSm 1 S E H) (l.take i))))
 case atStart => exact ⟨0,rfl,Nat.zero_le _,rfl,G,HS1.out⟩
 case round =>
  obtain ⟨i,rfl,hi,rfl,HI⟩ := hrel
  clear HS1
  by_cases hlt : i < n0
  ·have hlt' : (i : Int) < (n0 : Int) := by omega
   have hil : i < l.length := by rw [H0.out.2.2.2.2.2.1]; exact hlt
   obtain ⟨b,off,cap,hv,hc1,hc2,hcs⟩ := K.RowOf.at H0.out.2.2.1 (by omega)
   obtain ⟨a,hae⟩ : ∃ a,l[i] = a := ⟨_,rfl⟩
   have w1 := row_whole (enc := xcells) (kk := 17) hcs i hil
   rw [hae] at w1
   have hva : aa = some ⟨b,off,none⟩ := slice_addr hv
   clear hv
   subst hva
   obtain ⟨G1,hB⟩ := HI.out
   have hfa : a.Fits := H0.out.2.2.2.1 a (by rw [<- hae]; exact List.getElem_mem hil)
   have htk : actsM (newSm 1 S E H) (l.take (i + 1)) = (actM (actsM (newSm 1 S E H) (l.take i)) a).2 := by
    unfold actsM
    rw [List.take_succ_eq_append_getElem hil,List.foldl_append,hae]
    rfl
   have hinv : Inv (0 + (l.take i).length) (actsM (newSm 1 S E H) (l.take i)) := actsM_inv HInv.out _ (by have := H200.out; rw [List.length_take]; omega) (fun x hx => H0.out.2.2.2.1 x (List.mem_of_mem_take hx))
   obtain ⟨s,hs⟩ : ∃ z,actsM (newSm 1 S E H) (l.take i) = z := ⟨_,rfl⟩
   rw [hs] at hB htk hinv
   obtain ⟨X0,fX0⟩ : ∃ X,wr.alloc (.cells #[.int .i64 0,.string ⟨#[]⟩,.int .i64 0,.int .u64 0,.int .i64 0,.string ⟨#[]⟩,.int .i64 0,.bool false,.string ⟨#[]⟩,.string ⟨#[]⟩,.string ⟨#[]⟩,.int .i64 0,.int .u64 0,.int .i64 0,.string ⟨#[]⟩,.string ⟨#[]⟩,.string ⟨#[]⟩] 42) = X := ⟨_,rfl⟩
   have zX : X0.heap[wr.heap.size]? = some (.cells (xcells (zA 0)).toArray 42 (0,0)) := by rw [<- fX0]; exact heap_alloc_new wr _
   have bX0 : Below wr.heap.size wr X0 := by rw [<- fX0]; exact box_below wr _
   obtain ⟨X1,fX1⟩ : ∃ X,X0.setRow wr.heap.size (xcells a).toArray = X := ⟨_,rfl⟩
   have bX1 : Below wr.heap.size wr X1 := by rw [<- fX1]; exact below_setRow bX0 (yyH _) _
   have kX : X1.heap[wr.heap.size]? = some (.cells (xcells a).toArray 42 (0,0)) := by rw [<- fX1]; exact setRow_heap _ _ _ _ _ _ zX
   have hB1 := hB.go bX1
   have hA := applyAny p G1 s a (0 + (l.take i).length) X1 hB1.st (H0.out.1.below hB1.bel) hfa hinv (by have := H200.out; rw [List.length_take]; omega)
   have HX : Hid ((∀ j u,(xcells a)[j]? = some u -> wr.cell? ⟨b,off + i * 17 + j,none⟩ = some u) /\ X0.heap[wr.heap.size]? = some (.cells (xcells (zA 0)).toArray 42 (0,0)) /\ X1.heap[wr.heap.size]? = some (.cells (xcells a).toArray 42 (0,0)) /\ Bin w X1 p G1 s /\ actsM (newSm 1 S E H) (l.take (i + 1)) = (actM s a).2) := ⟨fun j u hj => cell_on hB.bel (w1 j u hj),zX,kX,hB1,htk⟩
   have HI63 : Hid (i < 9223372036854775807) := by have := H200.out; show i < _; omega
   clear HI hB hfa htk hinv hs zX bX0 bX1 kX hB1 w1 hcs hc1 hc2 hae hil
   go_wp2_with (first
    |refine wpList_load_off rfl 42 _ rfl b (off + i * 17) rfl (xcells a) _ HX.out.1 Tryz.underlying42 rfl info17 ?_
    |(refine wpList_store_row rfl 42 _ _ rfl wr.heap.size (xcells a).toArray rfl rfl 42 (xcells (zA 0)).toArray (by first | exact HX.out.2.1 | (rw [fX0]; exact HX.out.2.1)) info17 rfl (one17 _) ?_; (try rw [fX0]); (try rw [fX1]))
    |refine wpList_load_row rfl 42 _ rfl wr.heap.size rfl 42 (xcells a).toArray (0,0) _ HX.out.2.2.1 Tryz.underlying42 rfl info17 ?_)
   refine hA.mono ?_
   intro e V2 hP
   obtain ⟨ra,rn,rc,rfl,G2,hS2,m2⟩ := hP.out
   have HI2 : Hid (∃ G',Bin w V2 p G' (actsM (newSm 1 S E H) (l.take (i + 1)))) := by
    rw [HX.out.2.2.2.2]
    exact ⟨G2,HX.out.2.2.2.1.turn hS2 m2⟩
   clear hA hS2 m2 hP
   go_wp2
   go_roundg (n0 - (i + 1))
   case measure => omega
   case rel => exact ⟨i + 1,congrArg (Value.int IntKind.i64) (by have := HI63.out; first | omega | (unfold wrap64; omega)),by omega,rfl,HI2.out⟩
  ·have hlt' : ¬ (i : Int) < (n0 : Int) := by omega
   obtain rfl : i = n0 := by omega
   obtain ⟨G1,hB⟩ := HI.out
   rw [List.take_of_length_le (by rw [H0.out.2.2.2.2.2.1]; exact yyH _)] at hB
   have hinv : Inv (0 + l.length) (actsM (newSm 1 S E H) l) := actsM_inv HInv.out l (by have := H200.out; have := H0.out.2.2.2.2.2.1; omega) H0.out.2.2.2.1
   obtain ⟨s,hs⟩ : ∃ z,actsM (newSm 1 S E H) l = z := ⟨_,rfl⟩
   rw [hs] at hB hinv
   have hinv : Inv 200 s := hinv.mono (by have := H200.out; have := H0.out.2.2.2.2.2.1; omega) (by omega)
   have HS : Hid (Bin w wr p G1 s /\ Inv 200 s) := ⟨hB,hinv⟩
   have hP := parts14_any p G1 s wr hB.st hinv.r hinv.upk (by have := hinv.nq; omega)
   clear HI hlt hlt' hi hB hinv hs HInv
   go_wp2_with fail
   refine hP.mono ?_
   rintro e V2 ⟨P0,rfl,hI0,b2⟩
   clear hP
   obtain ⟨X0,fX0⟩ : ∃ X,V2.alloc (.cells #[.int .u64 0,.int .u64 0,.slice none 0 0,.slice none 0 0,.slice none 0 0,.slice none 0 0,.slice none 0 0] 57) = X := ⟨_,rfl⟩
   have zX : X0.heap[V2.heap.size]? = some (.cells (ptcells zPt).toArray 57 (0,0)) := by rw [<- fX0]; exact heap_alloc_new V2 _
   have bX0 : Below V2.heap.size V2 X0 := by rw [<- fX0]; exact box_below V2 _
   obtain ⟨X1,fX1⟩ : ∃ X,X0.setRow V2.heap.size (ptcells P0).toArray = X := ⟨_,rfl⟩
   have bX1 : Below V2.heap.size V2 X1 := by rw [<- fX1]; exact below_setRow bX0 (yyH _) _
   have kX : X1.heap[V2.heap.size]? = some (.cells (ptcells P0).toArray 57 (0,0)) := by rw [<- fX1]; exact setRow_heap _ _ _ _ _ _ zX
   have hB1 := HS.out.1.go (keptW b2 bX1)
   have hap : ∀ k,wr.heap.size <= k -> k < X1.heap.size -> ¬ G1 k := fun k h1 _ hk => by have := HS.out.1.st.lts k hk; omega
   have hA := applyAny p G1 s (zA 12) 200 X1 hB1.st (H0.out.1.below hB1.bel) fitB HS.out.2 (by omega)
   rw [actM_boot] at hA
   have HX : Hid (X0.heap[V2.heap.size]? = some (.cells (ptcells zPt).toArray 57 (0,0)) /\ X1.heap[V2.heap.size]? = some (.cells (ptcells P0).toArray 57 (0,0)) /\ Bin w X1 p G1 s /\ PartsIs X1 wr.heap.size P0 s /\ (∀ k,wr.heap.size <= k -> k < X1.heap.size -> ¬ G1 k) /\ wr.heap.size <= V2.heap.size) := ⟨zX,kX,hB1,hI0.kept bX1,hap,b2.size⟩
   clear hI0 b2 zX bX0 bX1 kX hB1 hap
   obtain ⟨sq,bt,⟨xa,xn,xc⟩,⟨ba,bn,bc⟩,⟨qa,qn,qc⟩,⟨sa,sn,sc⟩,⟨la,ln,lc⟩⟩ := P0
   go_wp2_with (refine wpList_store_row rfl 57 _ _ rfl V2.heap.size (ptcells ⟨sq,bt,(xa,xn,xc),(ba,bn,bc),(qa,qn,qc),(sa,sn,sc),(la,ln,lc)⟩).toArray rfl rfl 57 (ptcells zPt).toArray (by first | exact HX.out.1 | (rw [fX0]; exact HX.out.1)) infoPt rfl (onePt _) ?_; (try rw [fX0]); (try rw [fX1]))
   refine hA.mono ?_
   intro e V3 hPo
   obtain ⟨ra,rn,rc,rfl,G2,hS2,m2⟩ := hPo.out
   have hB3 := HX.out.2.2.1.turn hS2 m2
   have hsame := m2.beside HX.out.2.2.2.2.1
   have HS3 : Hid (Bin w V3 p G2 (bootM s) /\ PartsIs V3 wr.heap.size ⟨sq,bt,(xa,xn,xc),(ba,bn,bc),(qa,qn,qc),(sa,sn,sc),(la,ln,lc)⟩ s /\ V3.heap[V2.heap.size]? = some (.cells (ptcells ⟨sq,bt,(xa,xn,xc),(ba,bn,bc),(qa,qn,qc),(sa,sn,sc),(la,ln,lc)⟩).toArray 57 (0,0))) := ⟨hB3,HX.out.2.2.2.1.same fun g h1 h2 => hsame g h1 h2,(hsame _ HX.out.2.2.2.2.2 (yyD HX.out.2.1).1).trans HX.out.2.1⟩
   have hinv1 : Inv 201 (bootM s) := by
    have h1 := HS.out.2.act (by omega) fitB
    rw [actM_boot] at h1
    exact h1
   have HInv1 : Hid (Inv 201 (bootM s)) := hinv1
   have hP := parts14_any p G2 (bootM s) V3 hB3.st hinv1.r hinv1.upk (by have := hinv1.nq; omega)
   have HG2 : Hid (∀ k,G2 k -> k < V3.heap.size) := fun k hk => hB3.st.lts k hk
   clear hA hPo hS2 m2 hB3 hsame hinv1 fX0 fX1 HX
   go_wp2_with fail
   refine hP.mono ?_
   rintro e V4 ⟨P1,rfl,hI1,b4⟩
   clear hP
   obtain ⟨Y0,fY0⟩ : ∃ X,V4.alloc (.cells #[.int .u64 0,.int .u64 0,.slice none 0 0,.slice none 0 0,.slice none 0 0,.slice none 0 0,.slice none 0 0] 57) = X := ⟨_,rfl⟩
   have zY : Y0.heap[V4.heap.size]? = some (.cells (ptcells zPt).toArray 57 (0,0)) := by rw [<- fY0]; exact heap_alloc_new V4 _
   have bY0 : Below V4.heap.size V4 Y0 := by rw [<- fY0]; exact box_below V4 _
   obtain ⟨Y1,fY1⟩ : ∃ X,Y0.setRow V4.heap.size (ptcells P1).toArray = X := ⟨_,rfl⟩
   have bY1 : Below V4.heap.size V4 Y1 := by rw [<- fY1]; exact below_setRow bY0 (yyH _) _
   have kY : Y1.heap[V4.heap.size]? = some (.cells (ptcells P1).toArray 57 (0,0)) := by rw [<- fY1]; exact setRow_heap _ _ _ _ _ _ zY
   have b34 := keptW b4 bY1
   have HV34 : Hid (V3.heap.size <= V4.heap.size) := b4.size
   obtain ⟨sq1,bt1,⟨xa1,xn1,xc1⟩,⟨ba1,bn1,bc1⟩,⟨qa1,qn1,qc1⟩,⟨sa1,sn1,sc1⟩,⟨la1,ln1,lc1⟩⟩ := P1
   obtain rfl : sq1 = sq := by
    have h1 : sq1 = ((bootM s).seq : Int) := hI1.seq
    have h2 : sq = (s.seq : Int) := HS3.out.2.1.seq
    exact h1.trans h2.symm
   have hbt : IntKind.u64.wrap (bt + 1) = bt1 := by
    have h1 : bt1 = ((bootM s).boots : Int) := hI1.boots
    have h2 : bt = (s.boots : Int) := HS3.out.2.1.boots
    have h3 : (bootM s).boots = s.boots + 1 := rfl
    have h4 := HS.out.2.boots
    rw [IntKind.wrap_u64,h1,h2,h3]
    omega
   have HLen : Hid (qn = s.qs.length /\ qn1 = s.qs.length /\ qn <= 16) := by
    obtain ⟨Q0,o0,a0⟩ := HS3.out.2.1.q
    obtain ⟨Q1,o1,a1⟩ := hI1.q
    have e0 : qn = s.qs.length := (own_len o0).trans a0.len
    have e1 : qn1 = s.qs.length := by
     have h1 := (own_len o1).trans a1.len
     have h2 : (bootM s).qs.length = s.qs.length := by unfold bootM; rw [List.length_map]
     exact h1.trans h2
    have := HS.out.2.nq
    exact ⟨e0,e1,by omega⟩
   obtain rfl : qn1 = qn := HLen.out.2.1.trans HLen.out.1.symm
   have HB : Hid (Bt w Y1 p G2 V2.heap.size V4.heap.size wr.heap.size V3.heap.size ⟨sq1,bt,(xa,xn,xc),(ba,bn,bc),(qa,qn1,qc),(sa,sn,sc),(la,ln,lc)⟩ ⟨sq1,bt1,(xa1,xn1,xc1),(ba1,bn1,bc1),(qa1,qn1,qc1),(sa1,sn1,sc1),(la1,ln1,lc1)⟩ s) := ⟨HS3.out.1.go b34,HS3.out.2.1.kept b34,hI1.kept bY1,(b34.block _ (yyD HS3.out.2.2).1).trans HS3.out.2.2,kY⟩
   have HZ : Hid (Y0.heap[V4.heap.size]? = some (.cells (ptcells zPt).toArray 57 (0,0))) := zY
   obtain ⟨d0,d1,d2,d3,d4,d5,d6⟩ := cells7' HB.out.kw
   obtain ⟨h0,h1,h2,h3,h4,h5,h6⟩ := cells7' HB.out.kn
   clear hI1 b4 zY bY0 bY1 kY b34 HS3
   go_wp2_with (refine wpList_store_row rfl 57 _ _ rfl V4.heap.size (ptcells ⟨sq1,bt1,(xa1,xn1,xc1),(ba1,bn1,bc1),(qa1,qn1,qc1),(sa1,sn1,sc1),(la1,ln1,lc1)⟩).toArray rfl rfl 57 (ptcells zPt).toArray (by first | exact HZ.out | (rw [fY0]; exact HZ.out)) infoPt rfl (onePt _) ?_; (try rw [fY0]); (try rw [fY1]))
   clear d0 d1 d2 d3 d4 d5 d6 h0 h1 h2 h3 h4 h5 h6 hbt fY0 fY1 HZ
   obtain ⟨W0,hW0⟩ : ∃ z,z = wr := ⟨_,rfl⟩
   subst hW0
   go_loopg [12,13,14,15,16,18,87] qn1 (fun g u12 u13 u14 u15 u16 u18 u87 wq => ∃ i : Nat,u87 = .int .i64 (i : Int) /\ i <= qn1 /\ g = qn1 - i /\ Hid (Bt w wq p G2 V2.heap.size V4.heap.size W0.heap.size V3.heap.size ⟨sq1,bt,(xa,xn,xc),(ba,bn,bc),(qa,qn1,qc),(sa,sn,sc),(la,ln,lc)⟩ ⟨sq1,bt1,(xa1,xn1,xc1),(ba1,bn1,bc1),(qa1,qn1,qc1),(sa1,sn1,sc1),(la1,ln1,lc1)⟩ s))
   case atStart => exact ⟨0,rfl,Nat.zero_le _,rfl,HB⟩
   case round =>
    obtain ⟨i,rfl,hi,rfl,HI⟩ := hrel
    obtain ⟨wq,hwq⟩ : ∃ z,z = wr := ⟨_,rfl⟩
    subst hwq
    clear HB
    by_cases hlt : i < qn1
    ·have hlt' : (i : Int) < (qn1 : Int) := by omega
     obtain ⟨Q1,o1,a1⟩ := HI.out.i1.q
     obtain ⟨Q2,o2,a2⟩ := HI.out.i0.q
     have lq : i < s.qs.length := by rw [<- HLen.out.1]; exact hlt
     have lq1 : i < (bootM s).qs.length := by unfold bootM; rw [List.length_map]; exact lq
     have l1 : i < Q1.length := by rw [a1.len]; exact lq1
     have l2 : i < Q2.length := by rw [a2.len]; exact lq
     obtain ⟨x1,hx1⟩ : ∃ x,Q1[i] = x := ⟨_,rfl⟩
     obtain ⟨x2,hx2⟩ : ∃ x,Q2[i] = x := ⟨_,rfl⟩
     have i1 := a1.at i l1 lq1
     have i2 := a2.at i l2 lq
     rw [hx1] at i1
     rw [hx2] at i2
     have hqok := HS.out.2.r.qok s.qs[i] (List.getElem_mem lq)
     obtain ⟨⟨nm,q⟩,hoo⟩ : ∃ z,s.qs[i] = z := ⟨_,rfl⟩
     have hbo : (bootM s).qs[i] = (nm,q.reset.2) := by
      have h : (bootM s).qs[i] = (s.qs[i].1,s.qs[i].2.reset.2) := by unfold bootM; exact List.getElem_map ..
      rw [h,hoo]
     rw [hoo] at i2 hqok
     have hqok : q.Ok := hqok
     rw [hbo] at i1
     obtain ⟨g1,f1,c1,hv1,_,_,hc1⟩ := o1.rng.at (by omega)
     obtain ⟨g2,f2,c2,hv2,_,_,hc2⟩ := o2.rng.at (by omega)
     have hw1 : qa1 = some ⟨g1,f1,none⟩ := slice_addr hv1
     have hw2 : qa = some ⟨g2,f2,none⟩ := slice_addr hv2
     clear hv1 hv2
     subst hw1 hw2
     have w1 := row_whole (enc := qpcells) (kk := 5) hc1 i l1
     have w2 := row_whole (enc := qpcells) (kk := 5) hc2 i l2
     rw [hx1] at w1
     rw [hx2] at w2
     obtain ⟨X0,fX0⟩ : ∃ X,wq.alloc (.cells #[.string ⟨#[]⟩,.int .i64 0,.int .u64 0,.slice none 0 0,.slice none 0 0] 86) = X := ⟨_,rfl⟩
     have zX : X0.heap[wq.heap.size]? = some (.cells (qpcells zQp).toArray 86 (0,0)) := by rw [<- fX0]; exact heap_alloc_new wq _
     have bX0 : Below wq.heap.size wq X0 := by rw [<- fX0]; exact box_below wq _
     obtain ⟨X1,fX1⟩ : ∃ X,X0.setRow wq.heap.size (qpcells x1).toArray = X := ⟨_,rfl⟩
     have kX : X1.heap[wq.heap.size]? = some (.cells (qpcells x1).toArray 86 (0,0)) := by rw [<- fX1]; exact setRow_heap _ _ _ _ _ _ zX
     have bX1 : Below wq.heap.size wq X1 := by rw [<- fX1]; exact below_setRow bX0 (yyH _) _
     obtain ⟨Y0,fY0⟩ : ∃ X,X1.alloc (.cells #[.string ⟨#[]⟩,.int .i64 0,.int .u64 0,.slice none 0 0,.slice none 0 0] 86) = X := ⟨_,rfl⟩
     have zY : Y0.heap[X1.heap.size]? = some (.cells (qpcells zQp).toArray 86 (0,0)) := by rw [<- fY0]; exact heap_alloc_new X1 _
     have bY0 : Below X1.heap.size X1 Y0 := by rw [<- fY0]; exact box_below X1 _
     obtain ⟨Z,fZ⟩ : ∃ X,Y0.setRow X1.heap.size (qpcells x2).toArray = X := ⟨_,rfl⟩
     have kZ : Z.heap[X1.heap.size]? = some (.cells (qpcells x2).toArray 86 (0,0)) := by rw [<- fZ]; exact setRow_heap _ _ _ _ _ _ zY
     have bZ : Below X1.heap.size X1 Z := by rw [<- fZ]; exact below_setRow bY0 (yyH _) _
     have bWZ := keptW bX1 bZ
     have kXZ : Z.heap[wq.heap.size]? = some (.cells (qpcells x1).toArray 86 (0,0)) := (bZ.block _ (yyD kX).1).trans kX
     have HW : Hid ((∀ j u,(qpcells x1)[j]? = some u -> wq.cell? ⟨g1,f1 + i * 5 + j,none⟩ = some u) /\ (∀ j u,(qpcells x2)[j]? = some u -> X1.cell? ⟨g2,f2 + i * 5 + j,none⟩ = some u) /\ X0.heap[wq.heap.size]? = some (.cells (qpcells zQp).toArray 86 (0,0)) /\ Y0.heap[X1.heap.size]? = some (.cells (qpcells zQp).toArray 86 (0,0))) := ⟨w1,fun j u hj => cell_on bX1 (w2 j u hj),zX,zY⟩
     have v4 : X1.cell? ⟨V2.heap.size,4,none⟩ = some (.slice (some ⟨g2,f2,none⟩) qn1 qc) := (cells7' (HI.out.go bX1).kw).2.2.2.2.1
     obtain ⟨hr1,hr2,_,_⟩ := reset_list hqok
     obtain ⟨pp,hmix⟩ := mixed_of hqok
     obtain ⟨R,hR⟩ : ∃ z,q.reset.2.rdy = z := ⟨_,rfl⟩
     obtain ⟨n1,m1,t1,⟨ra1,rn1,rc1⟩,⟨oa1,on1,oc1⟩⟩ := x1
     obtain ⟨n2,m2,t2,⟨ra2,rn2,rc2⟩,⟨oa2,on2,oc2⟩⟩ := x2
     have e3 : t1 = t2 := by
      have h1 : t1 = _ := i1.next
      have h2 : t2 = _ := i2.next
      rw [h1,h2,hr2]
     have e4 : on1 = 0 := by
      have h := own_len i1.o
      rw [hr1] at h
      exact h
     subst e3 e4
     have hlen : rn1 = rn2 + on2 /\ rn1 = R.length /\ rn2 = q.rdy.length /\ on2 = q.out.length := by
      have h1 : rn1 = q.reset.2.rdy.length := own_len i1.r
      have h2 : rn2 = q.rdy.length := own_len i2.r
      have h3 : on2 = q.out.length := own_len i2.o
      have h4 := hmix.len
      rw [hR] at h1 h4
      exact ⟨by omega,h1,h2,h3⟩
     rw [hR] at hmix
     have ir := K.OwnOf.rng (owns_kept i1.r bWZ)
     rw [hR] at ir
     have h63 : rn1 <= 9223372036854775807 := by
      rw [hlen.2.1]
      rcases ir with ⟨_,h⟩ | ⟨_,_,_,h1,h2,_⟩
      ·rw [h]; simp
      ·unfold maxLen at h2; omega
     have hwr : IntKind.i64.wrap ((rn2 : Int) + (on2 : Int)) = (rn1 : Int) := by rw [IntKind.wrap_i64]; omega
     have HX : Hid (Z.heap[wq.heap.size]? = some (.cells (qpcells ⟨n1,m1,t1,(ra1,rn1,rc1),(oa1,0,oc1)⟩).toArray 86 (0,0)) /\ Z.heap[X1.heap.size]? = some (.cells (qpcells ⟨n2,m2,t1,(ra2,rn2,rc2),(oa2,on2,oc2)⟩).toArray 86 (0,0)) /\ Bt w Z p G2 V2.heap.size V4.heap.size W0.heap.size V3.heap.size ⟨sq1,bt,(xa,xn,xc),(ba,bn,bc),(some ⟨g2,f2,none⟩,qn1,qc),(sa,sn,sc),(la,ln,lc)⟩ ⟨sq1,bt1,(xa1,xn1,xc1),(ba1,bn1,bc1),(some ⟨g1,f1,none⟩,qn1,qc1),(sa1,sn1,sc1),(la1,ln1,lc1)⟩ s /\ Mixed q.rdy q.out R pp /\ K.RowOf F.icells Z (.slice ra1 rn1 rc1) R /\ K.RowOf F.icells Z (.slice ra2 rn2 rc2) q.rdy /\ K.RowOf F.icells Z (.slice oa2 on2 oc2) q.out /\ rn1 = R.length /\ rn2 = q.rdy.length /\ on2 = q.out.length /\ rn1 <= 9223372036854775807 /\ rn1 = rn2 + on2) := ⟨kXZ,kZ,HI.out.go bWZ,hmix,ir,K.OwnOf.rng (owns_kept i2.r bWZ),K.OwnOf.rng (owns_kept i2.o bWZ),hlen.2.1,hlen.2.2.1,hlen.2.2.2,h63,hlen.1⟩
     have HI63 : Hid (i < 9223372036854775807) := by have := HLen.out.2.2; show i < _; omega
     obtain ⟨d0,d1,d2,d3,d4⟩ := cells5 HX.out.1
     obtain ⟨h0,h1,h2,h3,h4⟩ := cells5 HX.out.2.1
     clear o1 a1 o2 a2 hoo hbo l1 l2 lq lq1 hx1 hx2 i1 i2 hc1 hc2 w1 w2 zX bX0 kX bX1 zY bY0 kZ bZ bWZ kXZ hqok hr1 hr2 hmix hR hlen h63 ir
     go_wp2_with (first
      |refine wpList_load_off rfl 86 _ rfl g1 (f1 + i * 5) rfl (qpcells ⟨n1,m1,t1,(ra1,rn1,rc1),(oa1,0,oc1)⟩) _ HW.out.1 Tryz.underlying86 rfl infoQp ?_
      |refine wpList_load_off rfl 86 _ rfl g2 (f2 + i * 5) rfl (qpcells ⟨n2,m2,t1,(ra2,rn2,rc2),(oa2,on2,oc2)⟩) _ HW.out.2.1 Tryz.underlying86 rfl infoQp ?_
      |refine wpList_store_row rfl 86 _ _ rfl wq.heap.size (qpcells ⟨n1,m1,t1,(ra1,rn1,rc1),(oa1,0,oc1)⟩).toArray rfl rfl 86 (qpcells zQp).toArray (by first | exact HW.out.2.2.1 | (rw [fX0]; exact HW.out.2.2.1)) infoQp rfl (oneQp _) ?_; (try rw [fX0]); (try rw [fX1])
      |refine wpList_store_row rfl 86 _ _ rfl X1.heap.size (qpcells ⟨n2,m2,t1,(ra2,rn2,rc2),(oa2,on2,oc2)⟩).toArray rfl rfl 86 (qpcells zQp).toArray (by first | exact HW.out.2.2.2 | (rw [fY0]; exact HW.out.2.2.2)) infoQp rfl (oneQp _) ?_; (try rw [fY0]); (try rw [fZ]))
     clear d0 d1 d2 d3 d4 h0 h1 h2 h3 h4 v4 hwr fX0 fX1 fY0 fZ HW HI hlt'
     have HBZ : Hid (Below Z.heap.size Z Z) := Below.refl _ _
     go_loopg [15,16,18,124] rn1 (fun g u15 u16 u18 u124 wz => ∃ m pa pb : Nat,u124 = .int .i64 (m : Int) /\ u15 = .int .i64 (pa : Int) /\ u16 = .int .i64 (pb : Int) /\ m <= rn1 /\ g = rn1 - m /\ Hid (pa = posA R pp m /\ pb = posB R pp m /\ Below Z.heap.size Z wz))
     case atStart => exact ⟨0,0,0,rfl,rfl,rfl,Nat.zero_le _,rfl,rfl,rfl,HBZ.out⟩
     case round =>
      obtain ⟨m,pa,pb,rfl,rfl,rfl,hm,rfl,HJ⟩ := hrel
      clear HBZ
      by_cases hmt : m < rn1
      ·have hmt' : (m : Int) < (rn1 : Int) := by omega
       have hmR : m < R.length := by rw [<- HX.out.2.2.2.2.2.2.2.1]; exact hmt
       obtain ⟨b3,f3,_,hv3,_,_,hc3⟩ := K.RowOf.at HX.out.2.2.2.2.1 (by omega)
       have hw3 : ra1 = some ⟨b3,f3,none⟩ := slice_addr hv3
       clear hv3
       subst hw3
       have w3 := row_whole (enc := F.icells) (kk := 8) hc3 m hmR
       obtain ⟨x,hx⟩ : ∃ z,R[m] = z := ⟨_,rfl⟩
       rw [hx] at w3
       obtain ⟨X3,fX3⟩ : ∃ X,wr.alloc (.cells #[.int .u64 0,.int .i64 0,.int .u64 0,.int .i64 0,.string ⟨#[]⟩,.string ⟨#[]⟩,.string ⟨#[]⟩,.bool false] 102) = X := ⟨_,rfl⟩
       have zX3 : X3.heap[wr.heap.size]? = some (.cells (F.icells F.zeroIt).toArray 102 (0,0)) := by rw [<- fX3]; exact heap_alloc_new wr _
       have bX3 : Below wr.heap.size wr X3 := by rw [<- fX3]; exact box_below wr _
       obtain ⟨Y3,fY3⟩ : ∃ X,X3.setRow wr.heap.size (F.icells x).toArray = X := ⟨_,rfl⟩
       have kY3 : Y3.heap[wr.heap.size]? = some (.cells (F.icells x).toArray 102 (0,0)) := by rw [<- fY3]; exact setRow_heap _ _ _ _ _ _ zX3
       have bY3 : Below wr.heap.size wr Y3 := by rw [<- fY3]; exact below_setRow bX3 (yyH _) _
       have bZY := keptW HJ.out.2.2 bY3
       have HC : Hid ((∀ j u,(F.icells x)[j]? = some u -> wr.cell? ⟨b3,f3 + m * 8 + j,none⟩ = some u) /\ X3.heap[wr.heap.size]? = some (.cells (F.icells F.zeroIt).toArray 102 (0,0)) /\ Below Z.heap.size Z Y3) := ⟨fun j u hj => cell_on HJ.out.2.2 (w3 j u hj),zX3,bZY⟩
       have y3 : Y3.cell? ⟨X1.heap.size,3,none⟩ = some (.slice ra2 rn2 rc2) := (cells5 ((bZY.block _ (yyD HX.out.2.1).1).trans HX.out.2.1)).2.2.2.1
       have y4 : Y3.cell? ⟨X1.heap.size,4,none⟩ = some (.slice oa2 on2 oc2) := (cells5 ((bZY.block _ (yyD HX.out.2.1).1).trans HX.out.2.1)).2.2.2.2
       have k0 : Y3.cell? ⟨wr.heap.size,0,none⟩ = some (.int .u64 (x.tag : Int)) := box_at kY3 rfl
       have k1 : Y3.cell? ⟨wr.heap.size,1,none⟩ = some (.int .i64 x.m.o) := box_at kY3 rfl
       have k2 : Y3.cell? ⟨wr.heap.size,2,none⟩ = some (.int .u64 x.m.s) := box_at kY3 rfl
       have k3 : Y3.cell? ⟨wr.heap.size,3,none⟩ = some (.int .i64 x.m.hop) := box_at kY3 rfl
       have k4 : Y3.cell? ⟨wr.heap.size,4,none⟩ = some (.string x.m.ex) := box_at kY3 rfl
       have k5 : Y3.cell? ⟨wr.heap.size,5,none⟩ = some (.string x.m.key) := box_at kY3 rfl
       have k6 : Y3.cell? ⟨wr.heap.size,6,none⟩ = some (.string x.m.body) := box_at kY3 rfl
       have k7 : Y3.cell? ⟨wr.heap.size,7,none⟩ = some (.bool x.again) := box_at kY3 rfl
       have HJ63 : Hid (m < 9223372036854775807 /\ pa < 9223372036854775807 /\ pb < 9223372036854775807) := by
        have h1 := HX.out.2.2.2.2.2.2.2.2.2.2.1
        have h2 : pa <= m := by rw [HJ.out.1]; exact pos_le R pp m
        have h3 : pb <= m := by rw [HJ.out.2.1]; exact pos_le R _ m
        exact ⟨by omega,by omega,by omega⟩
       have hst := HX.out.2.2.2.1.step hmR
       clear hc3 w3 zX3 bX3 kY3 bY3
       rcases hst with ⟨ha,e1,e2,e3⟩ | ⟨hne,hb,e1,e2,e3⟩
       ·have hpa : (pa : Int) < (rn2 : Int) := by have := HX.out.2.2.2.2.2.2.2.2.1; have := HJ.out.1; omega
        have hpan : pa < rn2 := by omega
        obtain ⟨b4,f4,_,hv4,_,_,hc4⟩ := K.RowOf.at HX.out.2.2.2.2.2.1 (by omega)
        have hw4 : ra2 = some ⟨b4,f4,none⟩ := slice_addr hv4
        clear hv4
        subst hw4
        have hit := (F.row_item hc4 _ ha).below bZY (yyH _)
        rw [e1,hx,<- HJ.out.1] at hit
        obtain ⟨z0,z1,z2,z3,z4,z5,z6,z7⟩ := hit
        have HN : Hid (pa + 1 = posA R pp (m + 1) /\ pb = posB R pp (m + 1)) := ⟨by rw [e2,HJ.out.1],by rw [e3,HJ.out.2.1]⟩
        clear hc4 e1 e2 e3 ha hx hmR bZY
        go_wp2_with (first
         |refine wpList_load_off rfl 102 _ rfl b3 (f3 + m * 8) rfl (F.icells x) _ HC.out.1 Tryz.underlying102 rfl info8 ?_
         |refine wpList_store_row rfl 102 _ _ rfl wr.heap.size (F.icells x).toArray rfl rfl 102 (F.icells F.zeroIt).toArray (by first | exact HC.out.2.1 | (rw [fX3]; exact HC.out.2.1)) info8 rfl (one8 _) ?_; (try rw [fX3]); (try rw [fY3]))
        clear fX3 fY3
        go_quiet (fail)
        go_wp2
        go_roundg (rn1 - (m + 1))
        case measure => omega
        case rel => exact ⟨m + 1,pa + 1,pb,congrArg (Value.int IntKind.i64) (by have := HJ63.out; unfold wrap64; omega),congrArg (Value.int IntKind.i64) (by have := HJ63.out; unfold wrap64; omega),rfl,by omega,rfl,HN.out.1,HN.out.2,HC.out.2.2.trans ⟨rfl,rfl,rfl,yyH _,fun _ _ => rfl⟩⟩
       ·have hpb : ¬ (on2 : Int) <= (pb : Int) := by have := HX.out.2.2.2.2.2.2.2.2.2.1; have := HJ.out.2.1; omega
        have hpb' : (pb : Int) < (on2 : Int) := by omega
        have hpbn : pb < on2 := by omega
        obtain ⟨b5,f5,_,hv5,_,_,hc5⟩ := K.RowOf.at HX.out.2.2.2.2.2.2.1 (by omega)
        have hw5 : oa2 = some ⟨b5,f5,none⟩ := slice_addr hv5
        clear hv5
        subst hw5
        have hit := (F.row_item hc5 _ hb).below bZY (yyH _)
        obtain ⟨z,hz⟩ : ∃ z,q.out[posB R pp m] = z := ⟨_,rfl⟩
        rw [hz,hx] at e1
        rw [hz,<- HJ.out.2.1] at hit
        have HN : Hid (pa = posA R pp (m + 1) /\ pb + 1 = posB R pp (m + 1)) := ⟨by rw [e2,HJ.out.1],by rw [e3,HJ.out.2.1]⟩
        have hap : ∀ ha : posA R pp m < q.rdy.length,q.rdy[posA R pp m].tag ≠ x.tag := fun ha he => hne ha ((rise_tag HX.out.2.2.2.1.rise (HX.out.2.2.2.1.sub _ (List.getElem_mem ha)) (List.getElem_mem hmR) (by rw [he,hx])))
        clear hx hmR hc5 e2 e3 hz hne hb
        subst e1
        replace k0 : Y3.cell? ⟨wr.heap.size,0,none⟩ = some (.int .u64 (z.tag : Int)) := k0
        replace k1 : Y3.cell? ⟨wr.heap.size,1,none⟩ = some (.int .i64 z.m.o) := k1
        replace k2 : Y3.cell? ⟨wr.heap.size,2,none⟩ = some (.int .u64 z.m.s) := k2
        replace k3 : Y3.cell? ⟨wr.heap.size,3,none⟩ = some (.int .i64 z.m.hop) := k3
        replace k4 : Y3.cell? ⟨wr.heap.size,4,none⟩ = some (.string z.m.ex) := k4
        replace k5 : Y3.cell? ⟨wr.heap.size,5,none⟩ = some (.string z.m.key) := k5
        replace k6 : Y3.cell? ⟨wr.heap.size,6,none⟩ = some (.string z.m.body) := k6
        replace k7 : Y3.cell? ⟨wr.heap.size,7,none⟩ = some (.bool true) := k7
        obtain ⟨z0,z1,z2,z3,z4,z5,z6,z7⟩ := hit
        by_cases hpan : pa < rn2
        ·have hpa : (pa : Int) < (rn2 : Int) := by omega
         have ha : posA R pp m < q.rdy.length := by have := HX.out.2.2.2.2.2.2.2.2.1; have := HJ.out.1; omega
         obtain ⟨b4,f4,_,hv4,_,_,hc4⟩ := K.RowOf.at HX.out.2.2.2.2.2.1 (by omega)
         have hw4 : ra2 = some ⟨b4,f4,none⟩ := slice_addr hv4
         clear hv4
         subst hw4
         have hit4 := (F.row_item hc4 _ ha).below bZY (yyH _)
         have hta := hap ha
         obtain ⟨y,hy⟩ : ∃ z,q.rdy[posA R pp m] = z := ⟨_,rfl⟩
         rw [hy] at hta
         rw [hy,<- HJ.out.1] at hit4
         have hq := fun X => eqIt_ne y (F.mark z) X hta
         have hq : ∀ X,(binOp .eql 102 (.agg #[.int .u64 (y.tag : Int),.int .i64 y.m.o,.int .u64 y.m.s,.int .i64 y.m.hop,.string y.m.ex,.string y.m.key,.string y.m.body,.bool y.again]) (.agg #[.int .u64 (z.tag : Int),.int .i64 z.m.o,.int .u64 z.m.s,.int .i64 z.m.hop,.string z.m.ex,.string z.m.key,.string z.m.body,.bool true])).run Tryz.prog X = .ok (.bool false) X := hq
         have hqg := eqGuardIt
         obtain ⟨j0,j1,j2,j3,j4,j5,j6,j7⟩ := hit4
         clear hc4 ha hap hy hta bZY
         go_wp2_with (first
          |refine wpList_load_off rfl 102 _ rfl b3 (f3 + m * 8) rfl (F.icells (F.mark z)) _ HC.out.1 Tryz.underlying102 rfl info8 ?_
          |refine wpList_store_row rfl 102 _ _ rfl wr.heap.size (F.icells (F.mark z)).toArray rfl rfl 102 (F.icells F.zeroIt).toArray (by first | exact HC.out.2.1 | (rw [fX3]; exact HC.out.2.1)) info8 rfl (one8 _) ?_; (try rw [fX3]); (try rw [fY3]))
         clear fX3 fY3
         go_quiet (fail)
         clear hq hqg j0 j1 j2 j3 j4 j5 j6 j7
         go_wp2
         go_quiet (fail)
         go_wp2
         go_roundg (rn1 - (m + 1))
         case measure => omega
         case rel => exact ⟨m + 1,pa,pb + 1,congrArg (Value.int IntKind.i64) (by have := HJ63.out; unfold wrap64; omega),rfl,congrArg (Value.int IntKind.i64) (by have := HJ63.out; unfold wrap64; omega),by omega,rfl,HN.out.1,HN.out.2,HC.out.2.2.trans ⟨rfl,rfl,rfl,yyH _,fun _ _ => rfl⟩⟩
        ·have hpa : ¬ (pa : Int) < (rn2 : Int) := by omega
         clear hap bZY
         go_wp2_with (first
          |refine wpList_load_off rfl 102 _ rfl b3 (f3 + m * 8) rfl (F.icells (F.mark z)) _ HC.out.1 Tryz.underlying102 rfl info8 ?_
          |refine wpList_store_row rfl 102 _ _ rfl wr.heap.size (F.icells (F.mark z)).toArray rfl rfl 102 (F.icells F.zeroIt).toArray (by first | exact HC.out.2.1 | (rw [fX3]; exact HC.out.2.1)) info8 rfl (one8 _) ?_; (try rw [fX3]); (try rw [fY3]))
         clear fX3 fY3
         go_quiet (fail)
         go_wp2
         go_quiet (fail)
         go_wp2
         go_roundg (rn1 - (m + 1))
         case measure => omega
         case rel => exact ⟨m + 1,pa,pb + 1,congrArg (Value.int IntKind.i64) (by have := HJ63.out; unfold wrap64; omega),rfl,congrArg (Value.int IntKind.i64) (by have := HJ63.out; unfold wrap64; omega),by omega,rfl,HN.out.1,HN.out.2,HC.out.2.2.trans ⟨rfl,rfl,rfl,yyH _,fun _ _ => rfl⟩⟩
      ·have hmt' : ¬ (m : Int) < (rn1 : Int) := by omega
       have HI3 : Hid (Bt w wr p G2 V2.heap.size V4.heap.size W0.heap.size V3.heap.size ⟨sq1,bt,(xa,xn,xc),(ba,bn,bc),(some ⟨g2,f2,none⟩,qn1,qc),(sa,sn,sc),(la,ln,lc)⟩ ⟨sq1,bt1,(xa1,xn1,xc1),(ba1,bn1,bc1),(some ⟨g1,f1,none⟩,qn1,qc1),(sa1,sn1,sc1),(la1,ln1,lc1)⟩ s) := HX.out.2.2.1.go HJ.out.2.2
       clear HX HJ hm hmt
       go_wp2
       go_roundg (qn1 - (i + 1))
       case measure => omega
       case rel => exact ⟨i + 1,congrArg (Value.int IntKind.i64) (by have := HI63.out; unfold wrap64; omega),by omega,rfl,HI3⟩
    ·have hlt' : ¬ (i : Int) < (qn1 : Int) := by omega
     obtain rfl : i = qn1 := by omega
     have hB := HI.out.b
     have hA := applyAny p G2 (bootM s) (zA 12) 201 wq hB.st (H0.out.1.below hB.bel) fitB HInv1.out (by omega)
     rw [actM_boot] at hA
     clear hlt hi hB
     go_wp2_with fail
     refine hA.mono ?_
     intro e V5 hPo
     obtain ⟨rb,rm,rd,rfl,G3,hS5,m5⟩ := hPo.out
     have hB5 := HI.out.b.turn hS5 m5
     have hsame := m5.beside (lo := V3.heap.size) fun k h1 _ hk => by have := HG2.out k hk; omega
     have HN5 : Hid (PartsIs V5 V3.heap.size ⟨sq1,bt1,(xa1,xn1,xc1),(ba1,bn1,bc1),(qa1,i,qc1),(sa1,sn1,sc1),(la1,ln1,lc1)⟩ (bootM s) /\ V5.heap[V4.heap.size]? = some (.cells (ptcells ⟨sq1,bt1,(xa1,xn1,xc1),(ba1,bn1,bc1),(qa1,i,qc1),(sa1,sn1,sc1),(la1,ln1,lc1)⟩).toArray 57 (0,0)) /\ Below w.heap.size w V5) := ⟨HI.out.i1.same fun g h1 h2 => hsame g h1 h2,(hsame _ HV34.out (yyD HI.out.kn).1).trans HI.out.kn,hB5.bel⟩
     have hinv2 : Inv 202 (bootM (bootM s)) := by
      have h1 := HInv1.out.act (by omega) fitB
      rw [actM_boot] at h1
      exact h1
     have hP := parts14_any p G3 (bootM (bootM s)) V5 hB5.st hinv2.r hinv2.upk (by have := hinv2.nq; omega)
     clear hA hPo hS5 m5 hB5 hsame hinv2 HI hlt'
     go_wp2_with fail
     refine hP.mono ?_
     rintro e V6 ⟨P2,rfl,hI2,b6⟩
     clear hP
     obtain ⟨sq2,bt2,⟨xa2,xn2,xc2⟩,⟨ba2,bn2,bc2⟩,⟨qa2,qn2,qc2⟩,⟨sa2,sn2,sc2⟩,⟨la2,ln2,lc2⟩⟩ := P2
     have hbs : bt1 = ((bootM s).boots : Int) := HN5.out.1.boots
     have hbt : IntKind.u64.wrap (bt2 - 1) = bt1 := by
      have h1 : bt2 = ((bootM (bootM s)).boots : Int) := hI2.boots
      have h3 : (bootM (bootM s)).boots = (bootM s).boots + 1 := rfl
      have h4 := HInv1.out.boots
      rw [IntKind.wrap_u64,h1,hbs,h3]
      omega
     obtain ⟨Z0,fZ0⟩ : ∃ X,V6.alloc (.cells #[.int .u64 0,.int .u64 0,.slice none 0 0,.slice none 0 0,.slice none 0 0,.slice none 0 0,.slice none 0 0] 57) = X := ⟨_,rfl⟩
     have zZ : Z0.heap[V6.heap.size]? = some (.cells (ptcells zPt).toArray 57 (0,0)) := by rw [<- fZ0]; exact heap_alloc_new V6 _
     have bZ0 : Below V6.heap.size V6 Z0 := by rw [<- fZ0]; exact box_below V6 _
     obtain ⟨Z1,fZ1⟩ : ∃ X,Z0.setRow V6.heap.size (ptcells ⟨sq2,bt2,(xa2,xn2,xc2),(ba2,bn2,bc2),(qa2,qn2,qc2),(sa2,sn2,sc2),(la2,ln2,lc2)⟩).toArray = X := ⟨_,rfl⟩
     have bZ1 : Below V6.heap.size V6 Z1 := by rw [<- fZ1]; exact below_setRow bZ0 (yyH _) _
     have kZ1 : Z1.heap[V6.heap.size]? = some (.cells (ptcells ⟨sq2,bt2,(xa2,xn2,xc2),(ba2,bn2,bc2),(qa2,qn2,qc2),(sa2,sn2,sc2),(la2,ln2,lc2)⟩).toArray 57 (0,0)) := by rw [<- fZ1]; exact setRow_heap _ _ _ _ _ _ zZ
     have z1 : Z1.cell? ⟨V6.heap.size,1,none⟩ = some (.int .u64 bt2) := box_at kZ1 rfl
     have fr := fun k => box_free kZ1 k
     obtain ⟨Z2,fZ2⟩ : ∃ X,Z1.setCell ⟨V6.heap.size,1,none⟩ (.int .u64 bt1) = X := ⟨_,rfl⟩
     have kZ2 : Z2.heap[V6.heap.size]? = some (.cells (ptcells ⟨sq2,bt1,(xa2,xn2,xc2),(ba2,bn2,bc2),(qa2,qn2,qc2),(sa2,sn2,sc2),(la2,ln2,lc2)⟩).toArray 57 (0,0)) := by rw [<- fZ2]; exact set_list kZ1 _
     have bZ2 : Below V6.heap.size V6 Z2 := by rw [<- fZ2]; exact bZ1.setCell (p := ⟨V6.heap.size,1,none⟩) (yyH _) _
     have b56 := keptW b6 bZ2
     have hI2' : PartsIs Z2 V5.heap.size ⟨sq2,bt1,(xa2,xn2,xc2),(ba2,bn2,bc2),(qa2,qn2,qc2),(sa2,sn2,sc2),(la2,ln2,lc2)⟩ (bootM s) := by
      have h := hI2.kept bZ2
      rw [boot_twice HS.out.2.r.qok] at h
      exact ⟨h.seq,hbs,h.x,h.b,h.q,h.s,h.l⟩
     have hL := like_any ⟨sq2,bt1,(xa2,xn2,xc2),(ba2,bn2,bc2),(qa2,qn2,qc2),(sa2,sn2,sc2),(la2,ln2,lc2)⟩ ⟨sq1,bt1,(xa1,xn1,xc1),(ba1,bn1,bc1),(qa1,i,qc1),(sa1,sn1,sc1),(la1,ln1,lc1)⟩ (bootM s) V5.heap.size V3.heap.size Z2 hI2' (HN5.out.1.kept b56) (by have := HInv1.out.nq; omega) (by have := HInv1.out.r.nlk; omega)
     have HF : Hid (Z0.heap[V6.heap.size]? = some (.cells (ptcells zPt).toArray 57 (0,0)) /\ Z2.heap[V6.heap.size]? = some (.cells (ptcells ⟨sq2,bt1,(xa2,xn2,xc2),(ba2,bn2,bc2),(qa2,qn2,qc2),(sa2,sn2,sc2),(la2,ln2,lc2)⟩).toArray 57 (0,0)) /\ Z2.heap[V4.heap.size]? = some (.cells (ptcells ⟨sq1,bt1,(xa1,xn1,xc1),(ba1,bn1,bc1),(qa1,i,qc1),(sa1,sn1,sc1),(la1,ln1,lc1)⟩).toArray 57 (0,0)) /\ Below w.heap.size w Z2) := ⟨zZ,kZ2,(b56.block _ (yyD HN5.out.2.1).1).trans HN5.out.2.1,keptW HN5.out.2.2 b56⟩
     clear hI2 b6 hbs zZ bZ0 bZ1 kZ1 kZ2 bZ2 b56 hI2' HN5
     go_wp2_with (first
      |(refine wpList_store_row rfl 57 _ _ rfl V6.heap.size (ptcells ⟨sq2,bt2,(xa2,xn2,xc2),(ba2,bn2,bc2),(qa2,qn2,qc2),(sa2,sn2,sc2),(la2,ln2,lc2)⟩).toArray rfl rfl 57 (ptcells zPt).toArray (by first | exact HF.out.1 | (rw [fZ0]; exact HF.out.1)) infoPt rfl (onePt _) ?_; (try rw [fZ0]); (try rw [fZ1]))
      |((try rw [fZ2]); refine wpList_load_row rfl 57 _ rfl V6.heap.size rfl 57 (ptcells ⟨sq2,bt1,(xa2,xn2,xc2),(ba2,bn2,bc2),(qa2,qn2,qc2),(sa2,sn2,sc2),(la2,ln2,lc2)⟩).toArray (0,0) _ HF.out.2.1 Tryz.underlying57 rfl infoPt ?_)
      |refine wpList_load_row rfl 57 _ rfl V4.heap.size rfl 57 (ptcells ⟨sq1,bt1,(xa1,xn1,xc1),(ba1,bn1,bc1),(qa1,i,qc1),(sa1,sn1,sc1),(la1,ln1,lc1)⟩).toArray (0,0) _ HF.out.2.2.1 Tryz.underlying57 rfl infoPt ?_)
     refine hL.mono ?_
     rintro e V7 ⟨rfl,b7⟩
     have HB7 : Hid (Below w.heap.size w V7) := keptW HF.out.2.2.2 b7
     have hLv := HL.out V7 HB7.out
     clear hL b7 HF z1 fr hbt fZ0 fZ1 fZ2
     go_wp2_with (go_at_call 10; refine hLv.mono ?_; rintro e w2 ⟨rfl,b2⟩)
     go_ret
     exact ⟨rfl,keptW HB7.out b2⟩
end Go.Proofs.YtjagaankkcbjmaaGreatDoor
