import Derived.Test.YtjagaankkcbjmaaGreatDoorQrA
import Derived.Test.YtjagaankkcbjmaaGreatDoorQr25
import Derived.Lib.AppendStr
import Derived.Deep.RegionWith
import Derived.Deep.RegionLaw
import Derived.Laws.StructEq
set_option maxHeartbeats 4000000
set_option maxRecDepth 20000
namespace Go.Proofs.YtjagaankkcbjmaaGreatDoor
open Go.RowKit
theorem drewN_below (w : World) (n : Nat) : Below w.heap.size w (w.drewN n) := ⟨rfl,rfl,rfl,yyH _,fun _ _ => rfl⟩
theorem drew_below (w : World) : Below w.heap.size w w.drew := (Below.refl _ _).drew
theorem eqf_cons {P : Program} {w : World} {d : Nat} {xs ys : Array Value} {f : Field} {fs : List Field} {a b : Value} {r s : Bool} (hn : f.name ≠ "_") (ha : (part f.type xs f.offset).run P w = .ok a w) (hb : (part f.type ys f.offset).run P w = .ok b w) (hr : (Op.equalIn d f.type a b).run P w = .ok r w) (hs : (Op.eqFields d xs ys fs).run P w = .ok s w) : (Op.eqFields d xs ys (f :: fs)).run P w = .ok (r && s) w := by
 unfold Op.eqFields
 rw [if_pos hn]
 simp only [Sem.run_bind,ha,hb,hr,Result.andThen_ok]
 cases r with
 |true => simp [hs]
 |false => simp
theorem eqf_nil {P : Program} {w : World} {d : Nat} {xs ys : Array Value} : (Op.eqFields d xs ys []).run P w = .ok true w := by
 simp [Op.eqFields]
theorem part_one {P : Program} {w : World} {t : TypeId} {xs : Array Value} {i : Nat} {v : Value} (h : (isAgg t).run P w = .ok false w) (hv : xs[i]? = some v) : (part t xs i).run P w = .ok v w := by
 unfold part
 simp [h,hv]
theorem part_agg {P : Program} {w : World} {t : TypeId} {xs : Array Value} {i n : Nat} (h : (isAgg t).run P w = .ok true w) (hz : (sizeOf t).run P w = .ok n w) : (part t xs i).run P w = .ok (.agg (xs.extract i (i + n))) w := by
 unfold part
 simp [h,hz]
section
variable (w : World)
theorem agg_int : (isAgg 3).run Tryz.prog w = .ok false w := by have := Tryz.isAgg3; simp [this]
theorem agg_u64 : (isAgg 32).run Tryz.prog w = .ok false w := by have := Tryz.isAgg32; simp [this]
theorem agg_str : (isAgg 9).run Tryz.prog w = .ok false w := by have := Tryz.isAgg9; simp [this]
theorem agg_bool : (isAgg 4).run Tryz.prog w = .ok false w := by have := Tryz.isAgg4; simp [this]
theorem agg_Id : (isAgg 38).run Tryz.prog w = .ok true w := by have := Tryz.isAgg38; simp [this]
theorem size_Id : (sizeOf 38).run Tryz.prog w = .ok 2 w := by have := Tryz.sizeOf38; simp [this]
theorem agg_Ex : (isAgg 34).run Tryz.prog w = .ok true w := by have := Tryz.isAgg34; simp [this]
theorem size_Ex : (sizeOf 34).run Tryz.prog w = .ok 3 w := by have := Tryz.sizeOf34; simp [this]
theorem agg_Bd : (isAgg 36).run Tryz.prog w = .ok true w := by have := Tryz.isAgg36; simp [this]
theorem size_Bd : (sizeOf 36).run Tryz.prog w = .ok 3 w := by have := Tryz.sizeOf36; simp [this]
theorem agg_Ms : (isAgg 40).run Tryz.prog w = .ok true w := by have := Tryz.isAgg40; simp [this]
theorem size_Ms : (sizeOf 40).run Tryz.prog w = .ok 6 w := by have := Tryz.sizeOf40; simp [this]
end
theorem eqId (d : Nat) (x0 y0 x1 y1 : Int) (w : World) : (Op.equalIn (d + 1+1) 38 (.agg #[.int .i64 x0,.int .u64 x1]) (.agg #[.int .i64 y0,.int .u64 y1])).run Tryz.prog w = .ok ((x0 == y0) && ((x1 == y1) && true)) w := by
 have hS : Tryz.prog.underlying 38 = some (.struct (Tryz.prog.fieldsOf 38)) := by kernel_rfl
 have hp : Tryz.prog.stoodInHeld 38 = false := by kernel_rfl
 rw [run_equalIn_agg w (d + 1) 38 _ _ hS hp]
 simp only [Program.fieldsOf,Tryz.underlying38]
 refine eqf_cons (by decide) (part_one (agg_int w) rfl) (part_one (agg_int w) rfl) (run_equalIn_int w _ _ _ _ _ _ Tryz.underlying3) ?_
 refine eqf_cons (by decide) (part_one (agg_u64 w) rfl) (part_one (agg_u64 w) rfl) (run_equalIn_int w _ _ _ _ _ _ Tryz.underlying32) ?_
 exact eqf_nil
theorem eqEx (d : Nat) (x0 y0 : ByteArray) (x1 y1 : Int) (x2 y2 : Bool) (w : World) : (Op.equalIn (d + 1+1) 34 (.agg #[.string x0,.int .i64 x1,.bool x2]) (.agg #[.string y0,.int .i64 y1,.bool y2])).run Tryz.prog w = .ok ((x0.toList == y0.toList) && ((x1 == y1) && ((x2 == y2) && true))) w := by
 have hS : Tryz.prog.underlying 34 = some (.struct (Tryz.prog.fieldsOf 34)) := by kernel_rfl
 have hp : Tryz.prog.stoodInHeld 34 = false := by kernel_rfl
 rw [run_equalIn_agg w (d + 1) 34 _ _ hS hp]
 simp only [Program.fieldsOf,Tryz.underlying34]
 refine eqf_cons (by decide) (part_one (agg_str w) rfl) (part_one (agg_str w) rfl) (run_equalIn_string w _ _ _ _ Tryz.underlying9) ?_
 refine eqf_cons (by decide) (part_one (agg_int w) rfl) (part_one (agg_int w) rfl) (run_equalIn_int w _ _ _ _ _ _ Tryz.underlying3) ?_
 refine eqf_cons (by decide) (part_one (agg_bool w) rfl) (part_one (agg_bool w) rfl) (run_equalIn_bool' w _ _ _ _ Tryz.underlying4) ?_
 exact eqf_nil
theorem eqBd (d : Nat) (x0 y0 x1 y1 x2 y2 : ByteArray) (w : World) : (Op.equalIn (d + 1+1) 36 (.agg #[.string x0,.string x1,.string x2]) (.agg #[.string y0,.string y1,.string y2])).run Tryz.prog w = .ok ((x0.toList == y0.toList) && ((x1.toList == y1.toList) && ((x2.toList == y2.toList) && true))) w := by
 have hS : Tryz.prog.underlying 36 = some (.struct (Tryz.prog.fieldsOf 36)) := by kernel_rfl
 have hp : Tryz.prog.stoodInHeld 36 = false := by kernel_rfl
 rw [run_equalIn_agg w (d + 1) 36 _ _ hS hp]
 simp only [Program.fieldsOf,Tryz.underlying36]
 refine eqf_cons (by decide) (part_one (agg_str w) rfl) (part_one (agg_str w) rfl) (run_equalIn_string w _ _ _ _ Tryz.underlying9) ?_
 refine eqf_cons (by decide) (part_one (agg_str w) rfl) (part_one (agg_str w) rfl) (run_equalIn_string w _ _ _ _ Tryz.underlying9) ?_
 refine eqf_cons (by decide) (part_one (agg_str w) rfl) (part_one (agg_str w) rfl) (run_equalIn_string w _ _ _ _ Tryz.underlying9) ?_
 exact eqf_nil
theorem eqMs (d : Nat) (x0 y0 x1 y1 x2 y2 : Int) (x3 y3 x4 y4 x5 y5 : ByteArray) (w : World) : (Op.equalIn (d + 2+1) 40 (.agg #[.int .i64 x0,.int .u64 x1,.int .i64 x2,.string x3,.string x4,.string x5]) (.agg #[.int .i64 y0,.int .u64 y1,.int .i64 y2,.string y3,.string y4,.string y5])).run Tryz.prog w = .ok (((x0 == y0) && ((x1 == y1) && true)) && ((x2 == y2) && ((x3.toList == y3.toList) && ((x4.toList == y4.toList) && ((x5.toList == y5.toList) && true))))) w := by
 have hS : Tryz.prog.underlying 40 = some (.struct (Tryz.prog.fieldsOf 40)) := by kernel_rfl
 have hp : Tryz.prog.stoodInHeld 40 = false := by kernel_rfl
 rw [run_equalIn_agg w (d + 2) 40 _ _ hS hp]
 simp only [Program.fieldsOf,Tryz.underlying40]
 refine eqf_cons (by decide) (part_agg (agg_Id w) (size_Id w)) (part_agg (agg_Id w) (size_Id w)) (eqId (d + 0) x0 y0 x1 y1 w) ?_
 refine eqf_cons (by decide) (part_one (agg_int w) rfl) (part_one (agg_int w) rfl) (run_equalIn_int w _ _ _ _ _ _ Tryz.underlying3) ?_
 refine eqf_cons (by decide) (part_one (agg_str w) rfl) (part_one (agg_str w) rfl) (run_equalIn_string w _ _ _ _ Tryz.underlying9) ?_
 refine eqf_cons (by decide) (part_one (agg_str w) rfl) (part_one (agg_str w) rfl) (run_equalIn_string w _ _ _ _ Tryz.underlying9) ?_
 refine eqf_cons (by decide) (part_one (agg_str w) rfl) (part_one (agg_str w) rfl) (run_equalIn_string w _ _ _ _ Tryz.underlying9) ?_
 exact eqf_nil
theorem eqAx (d : Nat) (x0 y0 x2 y2 x3 y3 x4 y4 x6 y6 x11 y11 x12 y12 x13 y13 : Int) (x1 y1 x5 y5 x8 y8 x9 y9 x10 y10 x14 y14 x15 y15 x16 y16 : ByteArray) (x7 y7 : Bool) (w : World) : (Op.equalIn (d + 3+1) 42 (.agg #[.int .i64 x0,.string x1,.int .i64 x2,.int .u64 x3,.int .i64 x4,.string x5,.int .i64 x6,.bool x7,.string x8,.string x9,.string x10,.int .i64 x11,.int .u64 x12,.int .i64 x13,.string x14,.string x15,.string x16]) (.agg #[.int .i64 y0,.string y1,.int .i64 y2,.int .u64 y3,.int .i64 y4,.string y5,.int .i64 y6,.bool y7,.string y8,.string y9,.string y10,.int .i64 y11,.int .u64 y12,.int .i64 y13,.string y14,.string y15,.string y16])).run Tryz.prog w = .ok ((x0 == y0) && ((x1.toList == y1.toList) && ((x2 == y2) && ((x3 == y3) && ((x4 == y4) && (((x5.toList == y5.toList) && ((x6 == y6) && ((x7 == y7) && true))) && (((x8.toList == y8.toList) && ((x9.toList == y9.toList) && ((x10.toList == y10.toList) && true))) && ((((x11 == y11) && ((x12 == y12) && true)) && ((x13 == y13) && ((x14.toList == y14.toList) && ((x15.toList == y15.toList) && ((x16.toList == y16.toList) && true))))) && true)))))))) w := by
 have hS : Tryz.prog.underlying 42 = some (.struct (Tryz.prog.fieldsOf 42)) := by kernel_rfl
 have hp : Tryz.prog.stoodInHeld 42 = false := by kernel_rfl
 rw [run_equalIn_agg w (d + 3) 42 _ _ hS hp]
 simp only [Program.fieldsOf,Tryz.underlying42]
 refine eqf_cons (by decide) (part_one (agg_int w) rfl) (part_one (agg_int w) rfl) (run_equalIn_int w _ _ _ _ _ _ Tryz.underlying3) ?_
 refine eqf_cons (by decide) (part_one (agg_str w) rfl) (part_one (agg_str w) rfl) (run_equalIn_string w _ _ _ _ Tryz.underlying9) ?_
 refine eqf_cons (by decide) (part_one (agg_int w) rfl) (part_one (agg_int w) rfl) (run_equalIn_int w _ _ _ _ _ _ Tryz.underlying3) ?_
 refine eqf_cons (by decide) (part_one (agg_u64 w) rfl) (part_one (agg_u64 w) rfl) (run_equalIn_int w _ _ _ _ _ _ Tryz.underlying32) ?_
 refine eqf_cons (by decide) (part_one (agg_int w) rfl) (part_one (agg_int w) rfl) (run_equalIn_int w _ _ _ _ _ _ Tryz.underlying3) ?_
 refine eqf_cons (by decide) (part_agg (agg_Ex w) (size_Ex w)) (part_agg (agg_Ex w) (size_Ex w)) (eqEx (d + 1) x5 y5 x6 y6 x7 y7 w) ?_
 refine eqf_cons (by decide) (part_agg (agg_Bd w) (size_Bd w)) (part_agg (agg_Bd w) (size_Bd w)) (eqBd (d + 1) x8 y8 x9 y9 x10 y10 w) ?_
 refine eqf_cons (by decide) (part_agg (agg_Ms w) (size_Ms w)) (part_agg (agg_Ms w) (size_Ms w)) (eqMs (d + 0) x11 y11 x12 y12 x13 y13 x14 y14 x15 y15 x16 y16 w) ?_
 exact eqf_nil
theorem toList_beq (a b : ByteArray) : (a.toList == b.toList) = decide (a = b) := by
 by_cases h : a = b
 ·subst h
  simp
 ·rw [decide_eq_false h,beq_eq_false_iff_ne]
  intro e
  rw [ByteArray.toList_eq,ByteArray.toList_eq] at e
  obtain ⟨⟨x⟩⟩ := a
  obtain ⟨⟨y⟩⟩ := b
  exact h (by rw [show x = y from e])
theorem int_beq (a b : Int) : (a == b) = decide (a = b) := by
 by_cases h : a = b <;> simp [h]
theorem bool_beq (a b : Bool) : (a == b) = decide (a = b) := by
 cases a <;> cases b <;> rfl
theorem run_eqA (a b : Ax) (w : World) : (binOp .eql 42 (av a) (av b)).run Tryz.prog w = .ok (.bool (decide (a = b))) w := by
 rw [run_eql_struct,eqAx 9996]
 simp only [Result.andThen_ok,toList_beq,int_beq,bool_beq]
 congr 2
 rw [Bool.eq_iff_iff]
 simp only [Bool.and_eq_true,decide_eq_true_eq]
 constructor
 ·rintro ⟨h0,h1,h2,h3,h4,⟨h5,h6,h7,_⟩,⟨h8,h9,h10,_⟩,⟨⟨⟨h11,h12,_⟩,h13,h14,h15,h16,_⟩,_⟩⟩
  obtain ⟨k,nm,n,tg,to,xn,xk,xf,be,bq,bp,m⟩ := a
  obtain ⟨k',nm',n',tg',to',xn',xk',xf',be',bq',bp',m'⟩ := b
  obtain ⟨o,s,hp,e,ky,bo⟩ := m
  obtain ⟨o',s',hp',e',ky',bo'⟩ := m'
  dsimp only at *
  subst_vars
  rfl
 ·rintro rfl
  exact ⟨rfl,rfl,rfl,rfl,rfl,⟨rfl,rfl,rfl,trivial⟩,⟨rfl,rfl,rfl,trivial⟩,⟨⟨⟨rfl,rfl,trivial⟩,rfl,rfl,rfl,rfl,trivial⟩,trivial⟩⟩
theorem eqGuardA : Tryz.prog.eqGuardType Tryz.prog.depth 42 = false := by kernel_rfl
theorem lettersL_ascii {k : Int} {l : List UInt8} (h : lettersL k = some l) : ∀ c ∈ l,c.toNat < 128 := by
 unfold lettersL at h
 have st : ∀ (i : Int) (x : List UInt8) (o : Option (List UInt8)),(∀ c ∈ x,c.toNat < 128) -> (if k = i then some x else o) = some l -> (∀ c ∈ l,c.toNat < 128) \/ o = some l := by
  intro i x o hx he
  by_cases hk : k = i
  ·rw [if_pos hk] at he
   obtain rfl := Option.some.inj he
   exact .inl hx
  ·rw [if_neg hk] at he
   exact .inr he
 rcases st _ _ _ (by decide) h with h | h
 ·exact h
 rcases st _ _ _ (by decide) h with h | h
 ·exact h
 rcases st _ _ _ (by decide) h with h | h
 ·exact h
 rcases st _ _ _ (by decide) h with h | h
 ·exact h
 rcases st _ _ _ (by decide) h with h | h
 ·exact h
 rcases st _ _ _ (by decide) h with h | h
 ·exact h
 rcases st _ _ _ (by decide) h with h | h
 ·exact h
 rcases st _ _ _ (by decide) h with h | h
 ·exact h
 rcases st _ _ _ (by decide) h with h | h
 ·exact h
 rcases st _ _ _ (by decide) h with h | h
 ·exact h
 rcases st _ _ _ (by decide) h with h | h
 ·exact h
 rcases st _ _ _ (by decide) h with h | h
 ·exact h
 exact absurd h (by simp)
theorem lettersS_txt {k : Int} {l : List UInt8} (h : lettersL k = some l) : txt (lettersS k) = l := by
 unfold lettersS
 rw [h]
 simp [txt]
theorem cells17 {w : World} {p : Nat} {t : TypeId} {a : Ax} (h : w.heap[p]? = some (.cells (xcells a).toArray t (0,0))) : w.cell? ⟨p,0,none⟩ = some (.int .i64 a.kind) /\ w.cell? ⟨p,1,none⟩ = some (.string a.name) /\ w.cell? ⟨p,2,none⟩ = some (.int .i64 a.n) /\ w.cell? ⟨p,3,none⟩ = some (.int .u64 a.tag) /\ w.cell? ⟨p,4,none⟩ = some (.int .i64 a.to) /\ w.cell? ⟨p,5,none⟩ = some (.string a.xn) /\ w.cell? ⟨p,6,none⟩ = some (.int .i64 a.xk) /\ w.cell? ⟨p,7,none⟩ = some (.bool a.xf) /\ w.cell? ⟨p,8,none⟩ = some (.string a.be) /\ w.cell? ⟨p,9,none⟩ = some (.string a.bq) /\ w.cell? ⟨p,10,none⟩ = some (.string a.bp) /\ w.cell? ⟨p,11,none⟩ = some (.int .i64 a.m.origin) /\ w.cell? ⟨p,12,none⟩ = some (.int .u64 a.m.seq) /\ w.cell? ⟨p,13,none⟩ = some (.int .i64 a.m.hop) /\ w.cell? ⟨p,14,none⟩ = some (.string a.m.ex) /\ w.cell? ⟨p,15,none⟩ = some (.string a.m.key) /\ w.cell? ⟨p,16,none⟩ = some (.string a.m.body) :=
 ⟨box_at h rfl,box_at h rfl,box_at h rfl,box_at h rfl,box_at h rfl,box_at h rfl,box_at h rfl,box_at h rfl,box_at h rfl,box_at h rfl,box_at h rfl,box_at h rfl,box_at h rfl,box_at h rfl,box_at h rfl,box_at h rfl,box_at h rfl⟩
structure BoxIn (w wr : World) (p : Nat) (a : Ax) (s : ByteArray) (q pos : Nat) : Prop where
 x : wr.heap[p]? = some (.cells (xcells a).toArray 42 (0,0))
 it : wr.heap[q]? = some (.stringIter s pos)
 bel : Below w.heap.size w wr
theorem box_iter {w V : World} {p : Nat} {a : Ax} (s : ByteArray) (hx : V.heap[p]? = some (.cells (xcells a).toArray 42 (0,0))) (hb : Below w.heap.size w V) : BoxIn w (V.iter s 0) p a s V.heap.size 0 := by
 have hl := (yyD hx).1
 have b1 := box_below V (.stringIter s 0)
 exact ⟨(b1.block p hl).trans hx,heap_alloc_new V _,keptW hb b1⟩
theorem iterAt_other {w : World} {q : Nat} {s : ByteArray} {pos k : Nat} (hk : k ≠ q) : (w.iterAt q s pos).heap[k]? = w.heap[k]? := by
 unfold World.iterAt
 simp only
 rw [Array.getElem?_setIfInBounds_ne (fun e => hk e.symm)]
theorem iterAt_below {w0 w : World} {n q : Nat} {s : ByteArray} {pos : Nat} (hb : Below n w0 w) (hq : n <= q) : Below n w0 (w.iterAt q s pos) :=
 ⟨hb.os,hb.tape,hb.output,by simp [World.iterAt]; exact hb.size,fun k hk => (iterAt_other (by omega)).trans (hb.block k hk)⟩
theorem BoxIn.next {w wr : World} {p : Nat} {a : Ax} {s : ByteArray} {q pos : Nat} (h : BoxIn w wr p a s q pos) (hq : w.heap.size <= q) : BoxIn w (wr.iterAt q s (pos + 1)) p a s q (pos + 1) := by
 have hne : p ≠ q := by
  intro e
  have h1 := h.x
  rw [e,h.it] at h1
  cases h1
 exact ⟨(iterAt_other hne).trans h.x,Lib.iterAt_heap _ _ _ _ _ h.it,iterAt_below h.bel hq⟩
theorem BoxIn.kept {w wr V : World} {p : Nat} {a : Ax} {s : ByteArray} {q pos : Nat} (h : BoxIn w wr p a s q pos) (hb : Below wr.heap.size wr V) : BoxIn w V p a s q pos :=
 ⟨(hb.block p (yyD h.x).1).trans h.x,(hb.block q (yyD h.it).1).trans h.it,keptW h.bel hb⟩
theorem goodA_any (a : Ax) (w : World) (hK : Kinds w) (ha : a.Fits) : Calls Tryz.prog 37 #[av a] w fun e w' => e = .returned (.bool (goodA a)) /\ Below w.heap.size w w' := by
 obtain ⟨W,fold⟩ : ∃ W,w.alloc (.cells #[.int .i64 a.kind,.string a.name,.int .i64 a.n,.int .u64 a.tag,.int .i64 a.to,.string a.xn,.int .i64 a.xk,.bool a.xf,.string a.be,.string a.bq,.string a.bp,.int .i64 a.m.origin,.int .u64 a.m.seq,.int .i64 a.m.hop,.string a.m.ex,.string a.m.key,.string a.m.body] 42) = W := ⟨_,rfl⟩
 have b0 : Below w.heap.size w W := by rw [<- fold]; exact box_below w _
 have x0 : W.heap[w.heap.size]? = some (.cells (xcells a).toArray 42 (0,0)) := by rw [<- fold]; exact heap_alloc_new w _
 have y0 : W.cell? ⟨w.heap.size,0,none⟩ = some (.int .i64 a.kind) := box_at x0 rfl
 have hL := lettersOf_any a.kind W (hK.below b0)
 have HA : Hid a.Fits := ha
 clear ha hK
 go_enter Tryz.func37,Tryz.ntmps37
 go_wp2_with fail
 try rw [fold]
 refine hL.mono ?_
 rintro e V ⟨rfl,b1⟩
 clear hL
 have x1 := (b1.block _ (yyD x0).1).trans x0
 have bV : Below w.heap.size w V := keptW b0 b1
 clear y0 x0 b1 b0
 cases hl : lettersL a.kind with
 |none =>
  go_wp2
  go_ret
  exact ⟨by unfold goodA; rw [hl]; rfl,bV⟩
 |some l =>
  obtain ⟨s,hs⟩ : ∃ z,lettersS a.kind = z := ⟨_,rfl⟩
  have hst : txt s = l := by rw [<- hs]; exact lettersS_txt hl
  have HL : Hid (goodA a = (l.all (fitsA a) && decide (a = onlyL a l)) /\ txt s = l /\ ∀ c ∈ l,c.toNat < 128) := ⟨by unfold goodA; rw [hl],hst,lettersL_ascii hl⟩
  have HI : Hid (BoxIn w (V.iter s 0) w.heap.size a s V.heap.size 0 /\ w.heap.size <= V.heap.size) := ⟨box_iter s x1 bV,bV.size⟩
  rw [hs]
  clear hl hst x1 bV
  obtain ⟨q,hq⟩ : ∃ z,V.heap.size = z := ⟨_,rfl⟩
  rw [hq] at HI
  go_wp2
  try rw [hq]
  go_loopg [6] s.size (fun g u6 wr => ∃ pos : Nat,pos <= s.size /\ g = s.size - pos /\ Hid (BoxIn w wr w.heap.size a s q pos /\ ((txt s).take pos).all (fitsA a) = true))
  case atStart => exact ⟨0,Nat.zero_le _,rfl,HI.out.1,rfl⟩
  case round =>
   obtain ⟨pos,hpos,rfl,HR⟩ := hrel
   have HQ : Hid (w.heap.size <= q) := HI.out.2
   clear HI
   by_cases hlt : pos < s.size
   ·have hlt2 : pos < (txt s).length := by rw [txt_length]; exact hlt
    obtain ⟨c,hc⟩ : ∃ z,s[pos]'hlt = z := ⟨_,rfl⟩
    have hget : (txt s)[pos]'hlt2 = c := by rw [<- hc]; exact Array.getElem_toList (xs := s.data) hlt
    have hc8 : (s[pos]'hlt).toNat < 128 := by rw [hc,<- hget]; exact HL.out.2.2 _ (by rw [<- HL.out.2.1]; exact List.getElem_mem hlt2)
    have hnx := fun ty => Lib.run_next_ascii_at (P := Tryz.prog) wr q s pos ty HR.out.1.it hlt hc8
    obtain ⟨W1,hW1⟩ : ∃ z,wr.iterAt q s (pos + 1) = z := ⟨_,rfl⟩
    have H1 := HR.out.1.next HQ.out
    rw [hW1] at H1 hnx
    rw [hc] at hnx
    have HT : Hid (((txt s).take (pos + 1)).all (fitsA a) = fitsA a c) := by
     show _ = _
     rw [List.take_succ_eq_append_getElem hlt2,List.all_append,hget,HR.out.2]
     simp
    have HM : Hid (c ∈ txt s) := by rw [<- hget]; exact List.getElem_mem hlt2
    have hF := fitsA_any a c W1 HA.out
    have HN : Hid (BoxIn w W1 w.heap.size a s q (pos + 1)) := H1
    clear H1 HR hW1 hc hget hc8 hlt2
    go_wp2_with (refine wpList_load_row rfl 42 _ rfl w.heap.size rfl 42 (xcells a).toArray (0,0) _ HN.out.x Tryz.underlying42 rfl info17 ?_)
    refine hF.mono ?_
    rintro e V2 ⟨rfl,b2⟩
    have HB : Hid (BoxIn w V2 w.heap.size a s q (pos + 1)) := HN.out.kept b2
    clear hF b2
    cases hf : fitsA a c
    ·have HF : Hid (goodA a = false) := by
      show goodA a = false
      rw [HL.out.1,<- HL.out.2.1]
      rw [Bool.and_eq_false_iff]
      exact .inl (by rw [List.all_eq_false]; exact ⟨c,HM.out,by rw [hf]; simp⟩)
     clear hf
     go_wp2
     go_ret
     exact ⟨by rw [HF.out]; rfl,HB.out.bel⟩
    ·have HF : Hid (fitsA a c = true) := hf
     clear hf
     go_wp2
     go_roundg (s.size - (pos + 1))
     case measure => omega
     case rel => exact ⟨pos + 1,by omega,rfl,HB.out,by rw [HT.out]; exact HF.out⟩
   ·have hnx := fun ty => Lib.run_next_end_at (P := Tryz.prog) wr q s pos ty HR.out.1.it hlt
    have HF : Hid (goodA a = decide (a = onlyL a l)) := by
     show _ = _
     have h1 := HR.out.2
     rw [List.take_of_length_le (by rw [txt_length]; omega),HL.out.2.1] at h1
     rw [HL.out.1,h1,Bool.true_and]
    have hO := fun X => only_any a s X (by rw [HL.out.2.1]; exact HL.out.2.2)
    rw [HL.out.2.1] at hO
    have HN : Hid (BoxIn w wr w.heap.size a s q pos) := HR.out.1
    clear HR
    have heqA := fun X => run_eqA a (onlyL a l) X
    have hgA := eqGuardA
    go_wp2
    obtain ⟨y0,y1,y2,y3,y4,y5,y6,y7,y8,y9,y10,y11,y12,y13,y14,y15,y16⟩ := cells17 HN.out.x
    first
    |(go_region_law (rw [if_pos (by simp [Region.wanted])]; go_simp; refine Calls.mono (hO _) ?_; rintro e u ⟨rfl,bu⟩; have HV : Hid (BoxIn w u w.heap.size a s q pos) := HN.out.kept (Below.trans (by first | exact Below.refl _ _ | exact drew_below _ | exact drewN_below _ _) bu); obtain ⟨z0,z1,z2,z3,z4,z5,z6,z7,z8,z9,z10,z11,z12,z13,z14,z15,z16⟩ := cells17 HV.out.x; dsimp only))
    |fail
    all_goals go_wp2
    all_goals go_ret
    all_goals exact ⟨by rw [HF.out]; rfl,HV.out.bel⟩
end Go.Proofs.YtjagaankkcbjmaaGreatDoor
