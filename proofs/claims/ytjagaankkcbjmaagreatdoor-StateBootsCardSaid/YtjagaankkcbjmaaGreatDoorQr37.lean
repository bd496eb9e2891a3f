import Derived.Test.YtjagaankkcbjmaaGreatDoorQrA
import Derived.Test.YtjagaankkcbjmaaGreatDoorQr36
import Derived.Test.YtjagaankkcbjmaaGreatDoorQr24
import Derived.Test.YtjagaankkcbjmaaGreatDoorQr5
import Derived.Test.YtjagaankkcbjmaaGreatDoorQr28
import Derived.BigQuiet
set_option maxHeartbeats 4000000
set_option maxRecDepth 20000
namespace Go.Proofs.YtjagaankkcbjmaaGreatDoor
open Go.RowKit
instance encA : K.Enc xcells 17 := ⟨fun _ => rfl,fun a u hu => by simp [xcells] at hu; rcases hu with rfl | rfl | rfl | rfl | rfl | rfl | rfl | rfl | rfl | rfl | rfl | rfl | rfl | rfl | rfl | rfl | rfl <;> rfl,by decide⟩
def Ax.Sum (a : Ax) : Prop := a.name.size + a.xn.size + a.be.size + a.bq.size + a.bp.size + a.m.ex.size + a.m.key.size + a.m.body.size <= 2000000000000000
theorem exec_load_off {P : Program} {o : Oper} {a : Act} {w : World} (ty : TypeId) (x : Operand) (ho : o.op = .load ty x)
  (g off : Nat) (hx : a.eval x = .pointer (some ⟨g,off,none⟩)) (cs : List Value) (d : TypeDesc) (hc : ∀ j u,cs[j]? = some u -> w.cell? ⟨g,off + j,none⟩ = some u)
  (hu : P.underlying ty = some d) (hd : (match d with | .struct _ | .array _ _ => true | _ => false) = true) (hi : (P.info? ty).map (·.size) = some cs.length) :
  (execOp a.eval o).run P w = .ok (.value (.agg cs.toArray)) w := by
 have hl : (loadCells ⟨g,off,none⟩ cs.length).run P w = .ok cs.toArray w :=
  run_loadCells_list (P := P) w ⟨g,off,none⟩ cs (fun j v hv => by
   have hadd : (⟨g,off,none⟩ : Addr).add j = ⟨g,off + j,none⟩ := by unfold Addr.add; split <;> simp_all
   rw [hadd]
   exact hc j v hv)
 have hlv : (loadVar ty ⟨g,off,none⟩).run P w = .ok (.agg cs.toArray) w := by
  cases hq : P.info? ty with
  |none => simp [hq] at hi
  |some i =>
   have hs : i.size = cs.length := by simpa [hq] using hi
   have hagg : (isAgg ty).run P w = .ok true w := by
    unfold isAgg
    rw [Sem.run_bind,run_underlying hu w]
    cases d <;> simp_all
   simp [loadVar,Sem.run_bind,hagg,sizeOf,typeInfo,hq,hs,hl]
 unfold execOp
 simp only [ho,hx,Instr.loadAt,Instr.sureAddr,Sem.run_bind,Sem.run_pure,Result.andThen_ok,hlv]
theorem wpList_load_off {P : Program} {ops : Array Oper} {rest : List Oper} {o : Oper} {a : Act} {w : World} {Q : Exit -> Act -> World -> Prop} (hgd : o.guard = none) (ty : TypeId) (x : Operand) (ho : o.op = .load ty x)
  (g off : Nat) (hx : a.eval x = .pointer (some ⟨g,off,none⟩)) (cs : List Value) (d : TypeDesc) (hc : ∀ j u,cs[j]? = some u -> w.cell? ⟨g,off + j,none⟩ = some u)
  (hu : P.underlying ty = some d) (hd : (match d with | .struct _ | .array _ _ => true | _ => false) = true) (hi : (P.info? ty).map (·.size) = some cs.length)
  (h : wpList P ops Q rest (a.put o.dst (.agg cs.toArray)) w) : wpList P ops Q (o :: rest) a w :=
 wpList_plain hgd fun _ hK => by
  unfold Oper.wp
  rw [exec_load_off ty x ho g off hx cs d hc hu hd hi]
  exact hK _ _ h
theorem weight_any (a : Ax) (w : World) (hs : a.Sum) : Calls Tryz.prog 31 #[av a] w fun e w' => ∃ n : Nat,e = .returned (.int .i64 (n : Int)) /\ (1 <= n /\ n <= 2000000000000001) /\ Below w.heap.size w w' := by
 obtain ⟨W,fold⟩ : ∃ W,w.alloc (.cells #[.int .i64 a.kind,.string a.name,.int .i64 a.n,.int .u64 a.tag,.int .i64 a.to,.string a.xn,.int .i64 a.xk,.bool a.xf,.string a.be,.string a.bq,.string a.bp,.int .i64 a.m.origin,.int .u64 a.m.seq,.int .i64 a.m.hop,.string a.m.ex,.string a.m.key,.string a.m.body] 42) = W := ⟨_,rfl⟩
 have b0 : Below w.heap.size w W := by rw [<- fold]; exact box_below w _
 have x0 : W.heap[w.heap.size]? = some (.cells (xcells a).toArray 42 (0,0)) := by rw [<- fold]; exact heap_alloc_new w _
 obtain ⟨V0,fold0⟩ : ∃ X,W.alloc (.cells #[.int .i64 0,.int .u64 0,.int .i64 0,.string ⟨#[]⟩,.string ⟨#[]⟩,.string ⟨#[]⟩] 40) = X := ⟨_,rfl⟩
 have z0 : V0.heap[W.heap.size]? = some (.cells (mcells zM).toArray 40 (0,0)) := by rw [<- fold0]; exact heap_alloc_new W _
 have bV0 : Below W.heap.size W V0 := by rw [<- fold0]; exact box_below W _
 obtain ⟨X,foldX⟩ : ∃ X,V0.setRow W.heap.size (mcells a.m).toArray = X := ⟨_,rfl⟩
 have bX : Below W.heap.size W X := by rw [<- foldX]; exact below_setRow bV0 (yyH _) _
 have xB : X.heap[W.heap.size]? = some (.cells (mcells a.m).toArray 40 (0,0)) := by rw [<- foldX]; exact setRow_heap _ _ _ _ _ _ z0
 obtain ⟨y0,y1,y2,y3,y4,y5,y6,y7,y8,y9,y10,y11,y12,y13,y14,y15,y16⟩ := cells17 x0
 obtain ⟨k0,k1,k2,k3,k4,k5,k6,k7,k8,k9,k10,k11,k12,k13,k14,k15,k16⟩ := cells17 ((bX.block _ (yyD x0).1).trans x0)
 obtain ⟨m0,m1,m2,m3,m4,m5⟩ := cellsM xB
 have HZ : Hid (V0.heap[W.heap.size]? = some (.cells (mcells zM).toArray 40 (0,0)) /\ Below w.heap.size w X) := ⟨z0,keptW b0 bX⟩
 unfold Ax.Sum at hs
 have w1 : IntKind.i64.wrap ((a.name.size : Int) + a.xn.size) = (a.name.size : Int) + a.xn.size := by rw [IntKind.wrap_i64]; omega
 have w2 : IntKind.i64.wrap ((a.name.size : Int) + a.xn.size + a.be.size) = (a.name.size : Int) + a.xn.size + a.be.size := by rw [IntKind.wrap_i64]; omega
 have w3 : IntKind.i64.wrap ((a.name.size : Int) + a.xn.size + a.be.size + a.bq.size) = (a.name.size : Int) + a.xn.size + a.be.size + a.bq.size := by rw [IntKind.wrap_i64]; omega
 have w4 : IntKind.i64.wrap ((a.name.size : Int) + a.xn.size + a.be.size + a.bq.size + a.bp.size) = (a.name.size : Int) + a.xn.size + a.be.size + a.bq.size + a.bp.size := by rw [IntKind.wrap_i64]; omega
 have w5 : IntKind.i64.wrap ((a.name.size : Int) + a.xn.size + a.be.size + a.bq.size + a.bp.size + a.m.ex.size) = (a.name.size : Int) + a.xn.size + a.be.size + a.bq.size + a.bp.size + a.m.ex.size := by rw [IntKind.wrap_i64]; omega
 have w6 : IntKind.i64.wrap ((a.name.size : Int) + a.xn.size + a.be.size + a.bq.size + a.bp.size + a.m.ex.size + a.m.key.size) = (a.name.size : Int) + a.xn.size + a.be.size + a.bq.size + a.bp.size + a.m.ex.size + a.m.key.size := by rw [IntKind.wrap_i64]; omega
 have w7 : IntKind.i64.wrap ((a.name.size : Int) + a.xn.size + a.be.size + a.bq.size + a.bp.size + a.m.ex.size + a.m.key.size + a.m.body.size) = (a.name.size : Int) + a.xn.size + a.be.size + a.bq.size + a.bp.size + a.m.ex.size + a.m.key.size + a.m.body.size := by rw [IntKind.wrap_i64]; omega
 obtain ⟨T,hT⟩ : ∃ T : Int,(a.name.size : Int) + a.xn.size + a.be.size + a.bq.size + a.bp.size + a.m.ex.size + a.m.key.size + a.m.body.size = T := ⟨_,rfl⟩
 have hT0 : 0 <= T /\ T <= 2000000000000000 := by omega
 have HT : Hid (0 <= T /\ T <= 2000000000000000) := hT0
 have w8 : IntKind.i64.wrap (T / 100) = T / 100 := by rw [IntKind.wrap_i64]; omega
 have w9 : IntKind.i64.wrap (1 + T / 100) = 1 + T / 100 := by rw [IntKind.wrap_i64]; omega
 have w10 : T.tdiv 100 = T / 100 := by rw [Int.tdiv_eq_ediv_of_nonneg hT0.1]
 rw [hT] at w7
 clear hs b0 x0 z0 bV0 bX xB hT0
 go_enter Tryz.func31,Tryz.ntmps31
 go_wp2_with (refine wpList_store_row rfl 40 _ _ rfl W.heap.size (mcells a.m).toArray rfl rfl 40 (mcells zM).toArray HZ.out.1 infoM rfl (by simp [mcells,Value.oneCell']) ?_)
 go_ret
 refine ⟨(1 + T / 100).toNat,?_,?_,HZ.out.2⟩
 ·refine ret_int ?_
  have := HT.out
  omega
 ·have := HT.out
  omega
theorem light14_any (v : Value) (l : List Ax) (w : World) (hr : K.RowOf xcells w v l) (hf : ∀ a ∈ l,a.Sum) :
  Calls Tryz.prog 9 #[v] w fun e w' => ∃ b,e = .returned (.bool b) /\ (b = true -> l.length <= 200) /\ Below w.heap.size w w' := by
 obtain ⟨va,vc,rfl⟩ := hr.slice
 obtain ⟨n0,hn0⟩ : ∃ z,l.length = z := ⟨_,rfl⟩
 rw [hn0]
 have HR : Hid (K.RowOf xcells w (.slice va n0 vc) l /\ l.length = n0 /\ ∀ a ∈ l,a.Sum) := ⟨by rw [<- hn0]; exact hr,hn0,hf⟩
 clear hr hf hn0
 go_enter Tryz.func9,Tryz.ntmps9
 go_wp2
 go_loopg [3,5,8] n0 (fun g u3 u5 u8 wr => ∃ i n : Nat,u3 = .int .i64 (n : Int) /\ u8 = .int .i64 (i : Int) /\ i <= n0 /\ g = n0 - i /\ i <= n /\ n <= 200 /\ Hid (Below w.heap.size w wr))
 case atStart => exact ⟨0,0,rfl,rfl,Nat.zero_le _,rfl,yyH _,by omega,Below.refl _ _⟩
 case round =>
  obtain ⟨i,n,rfl,rfl,hi,rfl,hin,hn,HB⟩ := hrel
  by_cases hlt : i < n0
  ·have hlt' : (i : Int) < (n0 : Int) := by omega
   have hil : i < l.length := by rw [HR.out.2.1]; exact hlt
   obtain ⟨b,off,cap,hv,hc1,hc2,hcs⟩ := K.RowOf.at HR.out.1 (by omega)
   rw [HR.out.2.1] at hv hc1
   injection hv with hv1 _ hv2
   subst hv1 hv2
   obtain ⟨a,ha⟩ : ∃ a,l[i] = a := ⟨_,rfl⟩
   have hsum : a.Sum := HR.out.2.2 a (by rw [<- ha]; exact List.getElem_mem hil)
   have hcell : ∀ j u,(xcells a)[j]? = some u -> wr.cell? ⟨b,off + i * 17 + j,none⟩ = some u := fun j u hj => by
    have hj17 : j < 17 := (List.getElem?_eq_some_iff.1 hj).1
    have := K.row_cell hcs i hil j hj17 u (by rw [ha]; exact hj)
    exact cell_on HB.out this
   have HC : Hid (∀ j u,(xcells a)[j]? = some u -> wr.cell? ⟨b,off + i * 17 + j,none⟩ = some u) := hcell
   obtain ⟨X0,foldX⟩ : ∃ X,wr.alloc (.cells #[.int .i64 0,.string ⟨#[]⟩,.int .i64 0,.int .u64 0,.int .i64 0,.string ⟨#[]⟩,.int .i64 0,.bool false,.string ⟨#[]⟩,.string ⟨#[]⟩,.string ⟨#[]⟩,.int .i64 0,.int .u64 0,.int .i64 0,.string ⟨#[]⟩,.string ⟨#[]⟩,.string ⟨#[]⟩] 42) = X := ⟨_,rfl⟩
   have zX : X0.heap[wr.heap.size]? = some (.cells (xcells (zA 0)).toArray 42 (0,0)) := by rw [<- foldX]; exact heap_alloc_new wr _
   have bX0 : Below wr.heap.size wr X0 := by rw [<- foldX]; exact box_below wr _
   obtain ⟨X1,foldX1⟩ : ∃ X,X0.setRow wr.heap.size (xcells a).toArray = X := ⟨_,rfl⟩
   have bX1 : Below wr.heap.size wr X1 := by rw [<- foldX1]; exact below_setRow bX0 (yyH _) _
   have xX1 : X1.heap[wr.heap.size]? = some (.cells (xcells a).toArray 42 (0,0)) := by rw [<- foldX1]; exact setRow_heap _ _ _ _ _ _ zX
   have HX : Hid (X0.heap[wr.heap.size]? = some (.cells (xcells (zA 0)).toArray 42 (0,0)) /\ X1.heap[wr.heap.size]? = some (.cells (xcells a).toArray 42 (0,0)) /\ X0.setRow wr.heap.size (xcells a).toArray = X1 /\ Below w.heap.size w X1) := ⟨zX,xX1,foldX1,keptW HB.out bX1⟩
   have hW := weight_any a X1 hsum
   have hi63 : i < 1000 := by omega
   clear hcell zX bX0 bX1 xX1 hsum hcs hc1 hc2 ha hil
   go_wp2_with (first
    |refine wpList_load_off rfl 42 _ rfl b (off + i * 17) rfl (xcells a) _ HC.out Tryz.underlying42 rfl info17 ?_
    |refine wpList_store_row rfl 42 _ _ rfl wr.heap.size (xcells a).toArray rfl rfl 42 (xcells (zA 0)).toArray (by first | exact HX.out.1 | (rw [foldX]; exact HX.out.1)) info17 rfl (one17 _) ?_; (try rw [foldX]); (try rw [foldX1])
    |refine wpList_load_row rfl 42 _ rfl wr.heap.size rfl 42 (xcells a).toArray (0,0) _ HX.out.2.1 Tryz.underlying42 rfl info17 ?_)
   refine hW.mono ?_
   rintro e V2 ⟨n2,rfl,hn2,b2⟩
   clear hW
   have HB2 : Hid (Below w.heap.size w V2) := keptW HX.out.2.2.2 b2
   have hw : IntKind.i64.wrap ((n : Int) + (n2 : Int)) = ((n + n2 : Nat) : Int) := by rw [IntKind.wrap_i64]; omega
   clear b2
   by_cases h200 : (200 : Int) < ((n + n2 : Nat) : Int)
   ·go_wp2
    go_ret
    first | exact .inl ⟨rfl,HB2.out⟩ | exact ⟨false,rfl,fun h => Bool.noConfusion h,HB2.out⟩
   ·go_wp2
    go_roundg (n0 - (i + 1))
    case measure => omega
    case rel => exact ⟨i + 1,n + n2,rfl,congrArg (Value.int IntKind.i64) (by omega),by omega,rfl,by omega,by omega,HB2⟩
  ·have hlt' : ¬ (i : Int) < (n0 : Int) := by omega
   go_wp2
   go_ret
   exact .inr ⟨rfl,by omega,HB.out⟩
end Go.Proofs.YtjagaankkcbjmaaGreatDoor
namespace Go.Proofs.YtjagaankkcbjmaaGreatDoor
open Go.ChangeShapes Go.WideShapes Go.ChangeAt Go.RowKit
theorem open_xacts {H : Type} {enc : TypeId × Value -> H} {W : World} {base : Nat} {v : Value} {d : DataW H} {p : List MemPlace} (hval : Value.okWide Tryz.prog W .any base 25 v)
  (h : DataW.Trod enc Tryz.prog W 0 (fun _ => true) true 25 v d p) (hw : ∀ n ∈ d.weights Tryz.prog 25,n <= reachBytes) : ∃ l,K.RowOf xcells W v l /\ (∀ a ∈ l,a.Fits /\ a.Small) := by
 exact K.open_structs (enc := xcells) (K := 17) Tryz.underlying25 cells_xact (fun a => a.Fits /\ a.Small) (fun n cs x hx hw => xact_fits hx hw) hval h hw
theorem Ax.Small.sum {a : Ax} (h : a.Small) : a.Sum := by
 obtain ⟨h1,h2,h3,h4,h5,h6,h7,h8⟩ := h
 unfold Ax.Sum
 omega
theorem open_topo {H : Type} {enc : TypeId × Value -> H} {W : World} {base : Nat} {v : Value} {d : DataW H} {p : List MemPlace} (hval : Value.okWide Tryz.prog W .any base 24 v)
  (h : DataW.Trod enc Tryz.prog W 0 (fun _ => true) true 24 v d p) : ∃ a : O.Tp,v = O.tpv a /\ ∃ l,K.RowOf O.ecells W a.v l := O.open_topo hval h
end Go.Proofs.YtjagaankkcbjmaaGreatDoor
namespace Go.Proofs.YtjagaankkcbjmaaGreatDoor
open Go.RowKit
theorem msgs_at {w : World} {a : Option Addr} {n cap : Nat} {l : List Ms} (h : K.RowOf mcells w (.slice a n cap) l) : n = l.length /\ l.length <= 9223372036854775807 /\ ∀ i (hi : i < l.length),∃ b off,a = some ⟨b,off,none⟩ /\ w.cell? ⟨b,off + i * 6,none⟩ = some (.int .i64 l[i].origin) /\ w.cell? ⟨b,off + i * 6 + 1,none⟩ = some (.int .u64 l[i].seq) /\ w.cell? ⟨b,off + i * 6 + 2,none⟩ = some (.int .i64 l[i].hop) /\ w.cell? ⟨b,off + i * 6 + 3,none⟩ = some (.string l[i].ex) /\ w.cell? ⟨b,off + i * 6 + 4,none⟩ = some (.string l[i].key) /\ w.cell? ⟨b,off + i * 6 + 5,none⟩ = some (.string l[i].body) := by
 have hs : n = l.length := by
  obtain ⟨_,_,hv⟩ := h.slice
  injection hv
 refine ⟨hs,?_,fun i hi => ?_⟩
 ·rcases h with ⟨_,rfl⟩ | ⟨_,_,_,h1,h2,_⟩
  ·simp
  ·unfold maxLen at h2; omega
 ·obtain ⟨b,off,c,hv,_,_,hc⟩ := h.at (by omega)
  injection hv with hv _ _
  exact ⟨b,off,hv,by simpa using K.row_cell hc i hi 0 (by decide) _ rfl,K.row_cell hc i hi 1 (by decide) _ rfl,K.row_cell hc i hi 2 (by decide) _ rfl,K.row_cell hc i hi 3 (by decide) _ rfl,K.row_cell hc i hi 4 (by decide) _ rfl,K.row_cell hc i hi 5 (by decide) _ rfl⟩
theorem sameM_any (va vb : Value) (l : List Ms) (w : World) (ha : K.RowOf mcells w va l) (hb : K.RowOf mcells w vb l) : Calls Tryz.prog 56 #[va,vb] w fun e w' => e = .returned (.bool true) /\ Below w.heap.size w w' := by
 obtain ⟨a,cap,rfl⟩ := ha.slice
 obtain ⟨a2,cap2,rfl⟩ := hb.slice
 obtain ⟨_,l63,hA⟩ := msgs_at ha
 obtain ⟨_,_,hB⟩ := msgs_at hb
 clear ha hb
 go_enter Tryz.func56,Tryz.ntmps56
 go_wp2
 go_loopw [5,13] (fun u5 u13 wr => ∃ k : Nat,u13 = .int .i64 k /\ k <= l.length /\ Below w.heap.size w wr) (fun u5 u13 wr => l.length - (intOf u13).toNat)
 case atStart => exact ⟨0,rfl,Nat.zero_le _,Below.refl _ _⟩
 case round =>
  obtain ⟨k,rfl,hk,hb⟩ := hrel
  by_cases hlt2 : k < l.length
  ·have hlt : (k : Int) < (l.length : Int) := by omega
   obtain ⟨b,off,rfl,i0,i1,i2,i3,i4,i5⟩ := hA k hlt2
   obtain ⟨b2,off2,rfl,j0,j1,j2,j3,j4,j5⟩ := hB k hlt2
   have e0 := cell_on hb i0
   have e1 := cell_on hb i1
   have e2 := cell_on hb i2
   have e3 := cell_on hb i3
   have e4 := cell_on hb i4
   have e5 := cell_on hb i5
   have g0 := cell_on hb j0
   have g1 := cell_on hb j1
   have g2 := cell_on hb j2
   have g3 := cell_on hb j3
   have g4 := cell_on hb j4
   have g5 := cell_on hb j5
   clear hA hB i0 i1 i2 i3 i4 i5 j0 j1 j2 j3 j4 j5
   generalize l[k] = x at *
   go_wp2
   go_quiet (fail)
   go_wp2
   go_roundw
   case rel => exact ⟨k + 1,by go_num,by omega,hb.trans ⟨rfl,rfl,rfl,yyH _,fun _ _ => rfl⟩⟩
   case measure => simp [intOf]; omega
  ·obtain rfl : k = l.length := by omega
   go_wp2
   go_ret
   exact ⟨rfl,hb⟩
end Go.Proofs.YtjagaankkcbjmaaGreatDoor
