/-
  Does a packet leave? The closure of Sever, by its contract.
-/
import Derived.Test.YtdbgojmjjkidbaaGreatDoorJLook22
import Derived.Test.YtdbgojmjjkidbaaGreatDoorJRows19
import Derived.Deep.RegionHeld3
import Derived.Test.YtdbgojmjjkidbaaGreatDoorJMend22
import Derived.Test.YtdbgojmjjkidbaaGreatDoorJDelF22
namespace Go.Proofs.YtdbgojmjjkidbaaGreatDoor
open Go.RowKit Go.Maps Go.Sort K
set_option maxRecDepth 20000

theorem exec_load_rowW {P : Program} {o : Oper} {a : Act} {w : World} (ty : TypeId) (x : Operand) (ho : o.op = .load ty x)
    (g : Nat) (hx : a.eval x = .pointer (some ⟨g, 0, none⟩)) (t : TypeId) (cs : Array Value) (fr : Nat × Nat) (d : TypeDesc) (hg : w.heap[g]? = some (.cells cs t fr))
    (hu : P.underlying ty = some d) (hd : (match d with | .struct _ | .array _ _ => true | _ => false) = true) (hi : (P.info? ty).map (·.size) = some cs.size) :
    (execOp a.eval o).run P w = .ok (.value (.agg cs)) w := by
  unfold execOp
  simp only [ho, hx, Instr.loadAt, Instr.sureAddr, Sem.run_bind, Sem.run_pure, Result.andThen_ok, run_loadVar_row w g t ty cs fr d hg hu hd hi]
theorem eqEd (d : Nat) (x0 y0 x1 y1 : Int) (w : World) : (Op.equalIn (d + 1+1) 37 (.agg #[.int .i64 x0, .int .i64 x1]) (.agg #[.int .i64 y0, .int .i64 y1])).run Tryz.prog w = .ok ((x0 == y0) && ((x1 == y1) && true)) w := by
  have hS : Tryz.prog.underlying 37 = some (.struct (Tryz.prog.fieldsOf 37)) := by kernel_rfl
  have hp : Tryz.prog.stoodInHeld 37 = false := by kernel_rfl
  rw [run_equalIn_agg w (d + 1) 37 _ _ hS hp]
  simp only [Program.fieldsOf, Tryz.underlying37]
  refine eqf_cons (by decide) (part_one (agg_int w) rfl) (part_one (agg_int w) rfl) (run_equalIn_int w _ _ _ _ _ _ Tryz.underlying3) ?_
  refine eqf_cons (by decide) (part_one (agg_int w) rfl) (part_one (agg_int w) rfl) (run_equalIn_int w _ _ _ _ _ _ Tryz.underlying3) ?_
  exact eqf_nil
theorem run_eqE (a b : Ed) (w : World) : (binOp .eql 37 (ev a) (ev b)).run Tryz.prog w = .ok (.bool (decide (a = b))) w := by
  rw [run_eql_struct, eqEd 9998]
  simp only [Result.andThen_ok]
  congr 2
  rw [Bool.eq_iff_iff]
  simp only [Bool.and_eq_true, beq_iff_eq, decide_eq_true_eq]
  constructor
  · rintro ⟨h0, h1, _⟩
    cases a; cases b
    dsimp only at *
    subst_vars
    rfl
  · rintro rfl
    exact ⟨rfl, rfl, trivial⟩
theorem ed_iff (a b : Ed) : a = b ↔ a.fr = b.fr ∧ a.dest = b.dest := by
  constructor
  · rintro rfl
    exact ⟨rfl, rfl⟩
  · rintro ⟨h1, h2⟩
    cases a; cases b
    dsimp only at *
    rw [h1, h2]
theorem eqGuardE : Tryz.prog.eqGuardType Tryz.prog.depth 37 = false := by kernel_rfl
/-- A packet in a box, a way in another one. -/
structure Sv (w U : World) (g : Nat) (P : Pk) (B : Nat) (e : Ed) : Prop where
  box : U.heap[g]? = some (.cells (pcells P).toArray 35 (0, 0))
  eb : U.heap[B]? = some (.cells (ecells e).toArray 37 (0, 0))
  bel : Below w.heap.size w U
theorem Sv.go {w U V : World} {g B : Nat} {P : Pk} {e : Ed} (h : Sv w U g P B e) (b : Below U.heap.size U V) : Sv w V g P B e :=
  ⟨(b.block _ (Array.getElem?_eq_some_iff.1 h.box).1).trans h.box, (b.block _ (Array.getElem?_eq_some_iff.1 h.eb).1).trans h.eb, keptW h.bel b⟩
theorem goesB_some {e : Ed} {x : Px} {P : Pk} (h : readP x.b = some P) : goesB e x.pc = decide (pway P = e) := by unfold goesB Px.pc; simp only [h]
theorem goesB_none {e : Ed} {x : Px} (h : readP x.b = none) : goesB e x.pc = false := by unfold goesB Px.pc; simp only [h]
set_option maxHeartbeats 4000000 in
theorem sever1 (ed : Ed) (x : Px) (B : Nat) (w : World) (ht : Tab w) (hK : PKinds w) (hb : OwnB w x.v x.b) (hl : x.b.length ≤ 1000) (hB : w.heap[B]? = some (.cells (ecells ed).toArray 37 (0, 0))) :
    Calls Tryz.prog 48 #[pxv x, .pointer (some ⟨B, 0, none⟩)] w fun e w' => e = .returned (.bool (goesB ed x.pc)) ∧ Below w.heap.size w w' := by
  obtain ⟨W, fold⟩ : ∃ W, w.alloc (.cells #[.slice x.a x.n x.c, .bool x.t] 81) = W := ⟨_, rfl⟩
  have bW : Below w.heap.size w W := by rw [← fold]; exact box_belowW w _
  have x0 : W.cell? ⟨w.heap.size, 0, none⟩ = some (.slice x.a x.n x.c) := by rw [← fold]; simp [World.cell?_alloc_at]
  have x1 : W.cell? ⟨w.heap.size, 1, none⟩ = some (.bool x.t) := by rw [← fold]; simp [World.cell?_alloc_at]
  have hR := readP_any (.slice x.a x.n x.c) x.b W (ht.below bW ht.pos) (hK.below bW) (hb.holds.below bW (Nat.le_refl _)) (by omega)
  have hBl := (Array.getElem?_eq_some_iff.1 hB).1
  have H0 : Hid (W.heap[B]? = some (.cells (ecells ed).toArray 37 (0, 0)) ∧ Below w.heap.size w W) := ⟨(bW.block _ hBl).trans hB, bW⟩
  obtain ⟨G, hG⟩ : ∃ G, goesB ed x.pc = G := ⟨_, rfl⟩
  rw [hG]
  cases hr : readP x.b with
  | none =>
    unfold RdPost at hR
    rw [hr] at hR
    have HG : Hid (G = false) := by
      show _ = _
      rw [← hG, goesB_none hr]
    clear ht hK hb hl hB hr hBl bW hG
    go_enter Tryz.func48, Tryz.ntmps48
    go_wp2_with fail
    try rw [fold]
    refine hR.mono ?_
    rintro e w2 ⟨rfl, b2⟩
    have H2 : Hid (Below w.heap.size w w2) := keptW H0.out.2 b2
    clear b2
    obtain ⟨V, fV⟩ : ∃ X, w2.alloc (.cells #[.int .i64 0, .int .i64 0, .int .i64 0, .int .u64 0, .int .u16 0, .int .u64 0, .int .i64 0, .int .u64 0, .int .i64 0, .string ⟨#[]⟩, .string ⟨#[]⟩, .string ⟨#[]⟩] 35) = X := ⟨_, rfl⟩
    have xV : V.heap[w2.heap.size]? = some (.cells (pcells nilP).toArray 35 (0, 0)) := by rw [← fV]; exact heap_alloc_new w2 _
    have bV : Below w2.heap.size w2 V := by rw [← fV]; exact box_belowW w2 _
    obtain ⟨w4, f4⟩ : ∃ X, V.setRow w2.heap.size (pcells nilP).toArray = X := ⟨_, rfl⟩
    have b4 : Below w2.heap.size w2 w4 := by rw [← f4]; exact below_setRow bV (Nat.le_refl _) _
    have HV : Hid (V.heap[w2.heap.size]? = some (.cells (pcells nilP).toArray 35 (0, 0))) := xV
    have H4 : Hid (∀ n, Below w.heap.size w (w4.drewN n)) := fun n => (keptW H2.out b4).trans ⟨rfl, rfl, rfl, Nat.le_refl _, fun _ _ => rfl⟩
    clear xV bV b4
    go_wp2_with (refine wpList_store_row rfl 35 _ _ rfl w2.heap.size (pcells nilP).toArray rfl rfl 35 (pcells nilP).toArray HV.out info12 rfl (one12 nilP) ?_)
    try rw [f4]
    go_quiet (fail)
    go_wp2
    go_ret
    exact ⟨by rw [HG.out]; rfl, H4.out _⟩
  | some P =>
    unfold RdPost at hR
    rw [hr] at hR
    have HG : Hid (G = decide (pway P = ed)) := by
      show _ = _
      rw [← hG, goesB_some hr]
    clear ht hK hb hl hB hr hBl bW hG
    have mixed : Tryz.prog.follows .mixedOrders = true := by kernel_rfl
    change Calls _ _ _ _ (fun e w' => e = .returned (.tuple #[pv P, .int .i64 0]) ∧ Below W.heap.size W w') at hR
    go_enter Tryz.func48, Tryz.ntmps48
    go_wp2_with fail
    try rw [fold]
    refine hR.mono ?_
    rintro e w2 ⟨rfl, b2⟩
    have H2 : Hid (w2.heap[B]? = some (.cells (ecells ed).toArray 37 (0, 0)) ∧ Below w.heap.size w w2) := ⟨(b2.block _ (Array.getElem?_eq_some_iff.1 H0.out.1).1).trans H0.out.1, keptW H0.out.2 b2⟩
    clear b2
    obtain ⟨V, fV⟩ : ∃ X, w2.alloc (.cells #[.int .i64 0, .int .i64 0, .int .i64 0, .int .u64 0, .int .u16 0, .int .u64 0, .int .i64 0, .int .u64 0, .int .i64 0, .string ⟨#[]⟩, .string ⟨#[]⟩, .string ⟨#[]⟩] 35) = X := ⟨_, rfl⟩
    have xV : V.heap[w2.heap.size]? = some (.cells (pcells nilP).toArray 35 (0, 0)) := by rw [← fV]; exact heap_alloc_new w2 _
    have bV : Below w2.heap.size w2 V := by rw [← fV]; exact box_belowW w2 _
    obtain ⟨w4, f4⟩ : ∃ X, V.setRow w2.heap.size (pcells P).toArray = X := ⟨_, rfl⟩
    have b4 : Below w2.heap.size w2 w4 := by rw [← f4]; exact below_setRow bV (Nat.le_refl _) _
    have x4 : w4.heap[w2.heap.size]? = some (.cells (pcells P).toArray 35 (0, 0)) := by rw [← f4]; exact setRow_heap _ _ _ _ _ _ xV
    have HV : Hid (V.heap[w2.heap.size]? = some (.cells (pcells nilP).toArray 35 (0, 0))) := xV
    obtain ⟨g, hg⟩ : ∃ g, w2.heap.size = g := ⟨_, rfl⟩
    rw [hg] at x4 HV f4
    have HL : Hid (Sv w w4 g P B ed) := ⟨x4, (b4.block _ (Array.getElem?_eq_some_iff.1 H2.out.1).1).trans H2.out.1, keptW H2.out.2 b4⟩
    clear xV bV b4 x4
    go_wp2_with (refine wpList_store_row rfl 35 _ _ rfl g (pcells P).toArray rfl rfl 35 (pcells nilP).toArray HV.out info12 rfl (one12 P) ?_)
    try rw [f4]
    refine wp_region_noPanic ?_
    refine wp_region_held_drew (S := (fun U => Sv w U g P B ed)) (by kernel_rfl) (HL.out.go (drew_below w4)) (fun hHeld => ?_)
    refine wpAnyH_take (i := 0) (v := ?_) (by simp only [List.getElem?_toArray, List.getElem?_cons_zero]; rfl) (by kernel_rfl) (by kernel_rfl) (by kernel_rfl) (fun _ _ _ h => h) (Or.inl ⟨by rfl, ?_⟩) (by assumption) ?_
    rotate_left
    · (intro wq hSq; clear hSq; go_simp; try with_reducible rfl)
    try simp only [Act.put, List.setIfInBounds_toArray, List.set_cons_zero, List.set_cons_succ]
    refine wpAnyH_take (i := 1) (v := ?_) (by simp only [List.getElem?_toArray, List.getElem?_cons_succ, List.getElem?_cons_zero]; rfl) (by kernel_rfl) (by kernel_rfl) (by kernel_rfl) (fun _ _ _ h => h) (Or.inl ⟨by rfl, ?_⟩) (by assumption) ?_
    rotate_left
    · (intro wq hSq; clear hSq; go_simp; try with_reducible rfl)
    try simp only [Act.put, List.setIfInBounds_toArray, List.set_cons_zero, List.set_cons_succ]
    refine wpAnyH_take (i := 2) (v := ?_) (by simp only [List.getElem?_toArray, List.getElem?_cons_succ, List.getElem?_cons_zero]; rfl) (by kernel_rfl) (by kernel_rfl) (by kernel_rfl) (fun _ _ _ h => h) (Or.inl ⟨by rfl, ?_⟩) (by assumption) ?_
    rotate_left
    · (intro wq hSq; clear hSq; go_simp; try with_reducible rfl)
    try simp only [Act.put, List.setIfInBounds_toArray, List.set_cons_zero, List.set_cons_succ]
    refine wpAnyH_take (i := 3) (v := pv P) (by simp only [List.getElem?_toArray, List.getElem?_cons_succ, List.getElem?_cons_zero]; rfl) (by kernel_rfl) (by kernel_rfl) (by kernel_rfl) (fun _ _ _ h => h) (Or.inl ⟨by rfl, fun wz h => exec_load_rowW 35 _ rfl g rfl 35 #[.int .i64 P.kind, .int .i64 P.fr, .int .i64 P.dest, .int .u64 P.ep, .int .u16 P.num, .int .u64 P.mask, .int .i64 P.m.origin, .int .u64 P.m.seq, .int .i64 P.m.hop, .string P.m.ex, .string P.m.key, .string P.m.body] (0, 0) _ h.box Tryz.underlying35 rfl info12⟩) (by assumption) ?_
    try simp only [Act.put, List.setIfInBounds_toArray, List.set_cons_zero, List.set_cons_succ]
    refine wpAnyH_take (i := 5) (v := ev ed) (by simp only [List.getElem?_toArray, List.getElem?_cons_succ, List.getElem?_cons_zero]; rfl) (by kernel_rfl) (by kernel_rfl) (by kernel_rfl) (fun _ _ _ h => h) (Or.inl ⟨by rfl, fun wz h => exec_load_rowW 37 _ rfl B rfl 37 #[.int .i64 ed.1, .int .i64 ed.2] (0, 0) _ h.eb Tryz.underlying37 rfl eInfo2⟩) (by assumption) ?_
    try simp only [Act.put, List.setIfInBounds_toArray, List.set_cons_zero, List.set_cons_succ]
    refine wpAnyH_ready (rs := [4]) (by kernel_rfl) (by simp) ?_
    refine AllReadyH.cons rfl (fun K hK => ?_) AllReadyH.nil
    have HS4 : Hid _ := hHeld
    clear hHeld
    go_simp
    refine (way_any P _).mono ?_
    rintro e u1 ⟨rfl, b1⟩
    have N1 : Sv w u1 g P B ed := HS4.out.go b1
    clear b1
    try dsimp only
    refine hK.out _ _ (N1) (fun hHeld => ?_)
    clear hK K
    try simp only [Act.put, List.setIfInBounds_toArray, List.set_cons_zero, List.set_cons_succ]
    refine wpAnyH_take (i := 6) (v := .bool (decide (pway P = ed))) (by simp only [List.getElem?_toArray, List.getElem?_cons_succ, List.getElem?_cons_zero]; rfl) (by kernel_rfl) (by kernel_rfl) (by kernel_rfl) (fun _ _ _ h => h) (Or.inl ⟨by rfl, (by intro wq hSq; have he := run_eqE (pway P) ed wq; have hgA := eqGuardE; clear hSq hHeld; go_simp; rw [show decide (pway P = ed) = decide ((pway P).fr = ed.fr ∧ (pway P).dest = ed.dest) from decide_eq_decide.2 (ed_iff _ _)]; by_cases ha : (pway P).fr = ed.fr <;> by_cases hb : (pway P).dest = ed.dest <;> simp [ha, hb])⟩) (by assumption) ?_
    try simp only [Act.put, List.setIfInBounds_toArray, List.set_cons_zero, List.set_cons_succ]
    refine wpAnyH_take (i := 7) (v := ?_) (by simp only [List.getElem?_toArray, List.getElem?_cons_succ, List.getElem?_cons_zero]; rfl) (by kernel_rfl) (by kernel_rfl) (by kernel_rfl) (fun _ _ _ h => h) (Or.inl ⟨by rfl, ?_⟩) (by assumption) ?_
    rotate_left
    · (intro wq hSq; clear hSq; go_simp; try with_reducible rfl)
    try simp only [Act.put, List.setIfInBounds_toArray, List.set_cons_zero, List.set_cons_succ]
    refine wpAnyH_take (i := 8) (v := ?_) (by simp only [List.getElem?_toArray, List.getElem?_cons_succ, List.getElem?_cons_zero]; rfl) (by kernel_rfl) (by kernel_rfl) (by kernel_rfl) (fun _ _ _ h => h) (Or.inl ⟨by rfl, ?_⟩) (by assumption) ?_
    rotate_left
    · (intro wq hSq; clear hSq; go_simp; try with_reducible rfl)
    try simp only [Act.put, List.setIfInBounds_toArray, List.set_cons_zero, List.set_cons_succ]
    refine wpAnyH_done (by kernel_rfl) ?_ _
    refine NoPanic.normal ?_
    have HE : Hid _ := hHeld
    clear hHeld
    go_wp2
    go_ret
    exact ⟨by rw [HG.out]; try rfl, HE.out.bel⟩
end Go.Proofs.YtdbgojmjjkidbaaGreatDoor

/-
  Sever, by its contract.
-/
namespace Go.Proofs.YtdbgojmjjkidbaaGreatDoor
open Go.RowKit Go.Maps Go.Sort K
set_option maxRecDepth 20000

theorem delG_none (f : Fn) (lb : Array Value) (bs : Array Value) (w : World) : Calls Tryz.prog 47 #[.slice none 0 0, .func f bs lb] w fun e w' => e = .returned (.slice none 0 0) ∧ w' = w := by
  have hI : Calls Tryz.prog 71 #[.slice none 0 0, .func f bs lb] w fun e w' => e = .returned (.int .i64 (-1)) ∧ w' = w := by
    go_enter Tryz.func71, Tryz.ntmps71
    go_wp2
    go_rounds 1
    go_ret
    exact ⟨rfl, rfl⟩
  go_enter Tryz.func47, Tryz.ntmps47
  go_wp2_with fail
  refine hI.mono ?_
  rintro e w2 ⟨rfl, rfl⟩
  go_wp2
  go_ret
  exact ⟨rfl, rfl⟩
section
variable {w U w4 : World} {p b : Nat} {v v' : Value} {L L' : List Px} {s : Wr} {l : List Pc} {F F' : Nat → Prop}
/-- The tables stay, whatever becomes of these blocks. -/
def Safe (w : World) (F : Nat → Prop) : Prop := ∀ W F', Moved w W F F' → Tab W ∧ PKinds W
theorem severW_bad {e : Ed} (h : wayB e = false) : severW s e = (2, s) := by unfold severW; rw [if_neg (by rw [h]; simp)]
theorem severW_old {e : Ed} (h : wayB e = true) (h2 : e ∈ s.ways) : severW s e = (4, s) := by unfold severW; rw [if_pos h, if_pos h2]
theorem severW_new {e : Ed} (h : wayB e = true) (h2 : e ∉ s.ways) : severW s e = (0, { s with ways := insC cmpE e s.ways, l := s.l.filter fun x => !goesB e x }) := by unfold severW; rw [if_pos h, if_neg h2]
/-- DeleteFunc of the packets that go a way, behind what became of the map. -/
theorem del_at {x : Ed} {B : Nat} {s3 : Wr} {w3 : World} (hS : Safe w F) (hF : ∀ k, F k ↔ foot p v b L k) (q3 : WAt w3 p v b L s3) (m3 : Moved w w3 (foot p v b L) (foot p v b L)) (ok : ∀ y ∈ s3.l, y.1.length ≤ 1000) (hB : w3.heap[B]? = some (.cells (ecells x).toArray 37 (0, 0))) :
    Calls Tryz.prog 47 #[v, .func (.func 48) #[] #[.pointer (some ⟨B, 0, none⟩)]] w3 fun e w' => ∃ v', e = .returned v' ∧ OwnP w' 0 v' (L.filter fun y => !goesB x y.pc) ∧ w3.grownBy w' v.ownBlock ∧ v'.ownBlock = v.ownBlock := by
  rcases OwnOf.split q3.rows with ⟨rfl, rfl⟩ | ⟨g, c, T, rfl, _⟩
  · refine (delG_none _ _ _ w3).mono ?_
    rintro e w' ⟨rfl, rfl⟩
    exact ⟨_, rfl, ownOf_nil _ _, grown_refl _ _, rfl⟩
  · have eg : ∀ args w, (callFunc 48 args).run Tryz.prog w = .ok (.enter 48 args) w := enters_of Tryz.func48 (by kernel_rfl) rfl
    have hA : AsksP 48 #[.pointer (some ⟨B, 0, none⟩)] (fun y => goesB x y.pc) L g w3 := fun y hy W gr => by
      have mW : Moved w W F F := by
        refine (m3.trans ⟨gr.os, gr.tape, gr.output, gr.size, fun k hk hn => gr.block k hk (fun e => hn (.inr (.inl e.symm))), fun k hk => .inl hk⟩).toF hF |> fun h => ⟨h.os, h.tape, h.output, h.size, h.block, fun k hk => .inl hk⟩
      obtain ⟨hT, hK⟩ := hS W F mW
      have hne : B ≠ g := fun e => by
        obtain ⟨cur, hc⟩ := rows_blk q3.rows (g := g) rfl
        rw [e, hc] at hB
        simp at hB
      have hlt := (Array.getElem?_eq_some_iff.1 hB).1
      refine sever1 x y B W hT hK (all_grown q3 (Below.refl _ _) gr y hy) (ok y.pc (by rw [← q3.eq]; exact List.mem_map.2 ⟨y, hy, rfl⟩)) ?_
      rw [gr.block B hlt (fun e => hne (by injection e))]
      exact hB
    refine (delG_any 48 #[.pointer (some ⟨B, 0, none⟩)] (fun y => goesB x y.pc) L 0 g L.length c w3 eg q3.rows hA).mono ?_
    rintro e w' ⟨m, rfl, own, gr⟩
    exact ⟨_, rfl, own, gr, rfl⟩
theorem wayB_split {x : Ed} (h : wayB x = false) : inB x.1 1 8 = false ∨ (inB x.1 1 8 = true ∧ inB x.2 1 8 = false) ∨ (inB x.1 1 8 = true ∧ inB x.2 1 8 = true ∧ x.1 = x.2) := by
  unfold wayB at h
  generalize inB x.1 1 8 = a at *
  generalize inB x.2 1 8 = c at *
  cases a <;> cases c <;> simp at h ⊢
  exact h
theorem wayB_both {x : Ed} (h : wayB x = true) : inB x.1 1 8 = true ∧ inB x.2 1 8 = true := by
  unfold wayB at h
  generalize inB x.1 1 8 = a at *
  generalize inB x.2 1 8 = c at *
  cases a <;> cases c <;> simp at h ⊢
theorem safe_self (h : Safe w F) : Tab w ∧ PKinds w := h w F (Moved.refl w F)
/-- What Sever does behind the test of the way. -/
theorem sever_end {x : Ed} {V : World} (hS : Safe w F) (hq : WAt w p v b L s) (hF : ∀ k, F k ↔ foot p v b L k) (ok : s.Ok) (hw : wayB x = true) (hn : x ∉ s.ways) (bV : Below w.heap.size w V) (hB : V.heap[w.heap.size]? = some (.cells (ecells x).toArray 37 (0, 0))) :
    ∃ V', (Instr.mapUpdate 68 (.map (some b)) (ev x) (.agg #[])).run Tryz.prog V.drew = .ok () V' ∧ V'.cell? ⟨p, 1, none⟩ = some v ∧
      Calls Tryz.prog 47 #[v, .func (.func 48) #[] #[.pointer (some ⟨w.heap.size, 0, none⟩)]] V' fun e w' => ∃ a n c, e = .returned (.slice a n c) ∧ w'.cell? ⟨p, 1, none⟩ = some v ∧ w'.frozen? ⟨p, 1, none⟩ = false ∧ EndP w p F (severW s x) (.returned (.int .i64 0)) (w'.setCell ⟨p, 1, none⟩ (.slice a n c)) := by
  have hV := hq.same fun k hk => bV.block k (hq.lts k hk)
  have hnw := ok.nways
  obtain ⟨V', r, hm, gr⟩ := (hV.ways.same (w' := V.drew) rfl).put ok.ord ok.efit (wayB_fit hw) hn (by omega)
  obtain ⟨q3, m3⟩ := map_set hq bV.drew gr hm
  have hBb : w.heap.size ≠ b := fun e => by have := hq.ways.lt; omega
  have hB3 : V'.heap[w.heap.size]? = some (.cells (ecells x).toArray 37 (0, 0)) := by
    rw [gr.block _ (show w.heap.size < V.drew.heap.size from (Array.getElem?_eq_some_iff.1 hB).1) (fun e => hBb (by injection e))]
    exact hB
  refine ⟨V', r, q3.cells.2.1, (del_at hS hF q3 m3 ok.short hB3).mono ?_⟩
  rintro e w' ⟨v', rfl, own, g4, hb⟩
  obtain ⟨a, c, hv⟩ := own.rng.slice
  obtain ⟨d1, d2⟩ := pcell1 q3 (Below.refl _ _) g4
  obtain ⟨q5, m5⟩ := row_chg (l := s.l.filter fun y => !goesB x y) q3 (Below.refl _ _) own g4 hb (fun y hy => (List.mem_filter.1 hy).1) (by
    rw [← hq.eq, List.filter_map]
    rfl)
  refine ⟨a, _, c, by rw [hv], d1, d2, ?_⟩
  rw [severW_new hw hn, ← hv]
  exact ⟨rfl, _, ⟨_, _, _, q5, fun _ => Iff.rfl⟩, (m3.trans m5).toF hF⟩
set_option maxHeartbeats 4000000 in
theorem sever_any {x : Ed} (h : Wt w p F s) (ok : s.Ok) (hS : Safe w F) (hx : EFit x) : Calls Tryz.prog 24 #[.pointer (some ⟨p, 0, none⟩), ev x] w (EndP w p F (severW s x)) := by
  obtain ⟨v, b, L, hq, hF⟩ := h
  obtain ⟨W, fold⟩ : ∃ W, w.alloc (.cells #[.int .i64 x.1, .int .i64 x.2] 37) = W := ⟨_, rfl⟩
  have bW : Below w.heap.size w W := by rw [← fold]; exact box_belowW _ _
  have xW : W.heap[w.heap.size]? = some (.cells (ecells x).toArray 37 (0, 0)) := by rw [← fold]; exact heap_alloc_new w _
  have x0 : W.cell? ⟨w.heap.size, 0, none⟩ = some (.int .i64 x.1) := cell_of_list (C := ecells x) xW 0
  have x1 : W.cell? ⟨w.heap.size, 1, none⟩ = some (.int .i64 x.2) := cell_of_list (C := ecells x) xW 1
  have hqW := hq.same fun k hk => bW.block k (hq.lts k hk)
  have hM := wmade_at hqW ok
  have h1 := fun V => wsite_any x.1 V
  have h2 := fun V => wsite_any x.2 V
  have hC := cut_at hqW ok hx
  obtain ⟨R, hR⟩ : ∃ R, severW s x = R := ⟨_, rfl⟩
  have HQ : Hid (Wt w p F s ∧ Below w.heap.size w W) := ⟨⟨_, _, _, hq, hF⟩, bW⟩
  have hE : wayB x = (inB x.1 1 8 && inB x.2 1 8 && !decide (x.1 = x.2)) := rfl
  cases hw : wayB x
  · have HE : Hid (R = (2, s)) := by
      show _ = _
      rw [← hR, severW_bad hw]
    rw [hR]
    have hcs := wayB_split hw
    clear hq hF hqW hC hw hE hR bW xW ok hS
    rcases hcs with k1 | ⟨k1, k2⟩ | ⟨k1, k2, k3⟩
    · simp only [k1] at h1
      go_enter Tryz.func24, Tryz.ntmps24
      go_wp2_with (first
        | (go_at_call 32; refine hM.mono ?_; rintro e V ⟨rfl, rfl⟩)
        | (go_at_call 46; refine (h1 _).mono ?_; rintro e V ⟨rfl, rfl⟩))
      go_ret
      rw [HE.out]
      exact EndP.same HQ.out.1 HQ.out.2
    · simp only [k1] at h1
      simp only [k2] at h2
      go_enter Tryz.func24, Tryz.ntmps24
      go_wp2_with (first
        | (go_at_call 32; refine hM.mono ?_; rintro e V ⟨rfl, rfl⟩)
        | (go_at_call_of 46 (Value.int .i64 x.1); refine (h1 _).mono ?_; rintro e V ⟨rfl, rfl⟩)
        | (go_at_call_of 46 (Value.int .i64 x.2); refine (h2 _).mono ?_; rintro e V ⟨rfl, rfl⟩))
      go_ret
      rw [HE.out]
      exact EndP.same HQ.out.1 HQ.out.2
    · obtain ⟨xf, xd⟩ := x
      dsimp only at k1 k2 k3 h1 h2 x0 x1 fold
      subst k3
      simp only [k1] at h1
      clear h2
      go_enter Tryz.func24, Tryz.ntmps24
      go_wp2_with (first
        | (go_at_call 32; refine hM.mono ?_; rintro e V ⟨rfl, rfl⟩)
        | (go_at_call 46; refine (h1 _).mono ?_; rintro e V ⟨rfl, rfl⟩))
      go_ret
      rw [HE.out]
      exact EndP.same HQ.out.1 HQ.out.2
  · rw [hw] at hE
    obtain ⟨k1, k2⟩ := wayB_both hw
    have k3 : ¬ x.1 = x.2 := (wayB_tells hw).2.2
    have k4 : (x.1 == x.2) = false := by rw [beq_eq_false_iff_ne]; exact k3
    simp only [k1] at h1
    simp only [k2] at h2
    by_cases hin : x ∈ s.ways
    · have HE : Hid (R = (4, s)) := by
        show _ = _
        rw [← hR, severW_old hw hin]
      rw [decide_eq_true hin] at hC
      rw [hR]
      clear hq hF hqW hw hE hR bW xW ok hS hin
      go_enter Tryz.func24, Tryz.ntmps24
      go_wp2_with (first
        | (go_at_call 32; refine hM.mono ?_; rintro e V ⟨rfl, rfl⟩)
        | (go_at_call_of 46 (Value.int .i64 x.1); refine (h1 _).mono ?_; rintro e V ⟨rfl, rfl⟩)
        | (go_at_call_of 46 (Value.int .i64 x.2); refine (h2 _).mono ?_; rintro e V ⟨rfl, rfl⟩)
        | (go_at_call 34; refine hC.mono ?_; rintro e V2 ⟨rfl, b2⟩))
      go_ret
      rw [HE.out]
      exact EndP.same HQ.out.1 (keptW HQ.out.2 b2)
    · rw [decide_eq_false hin] at hC
      have HP : Hid (∀ V, Below W.heap.size W V → V.cell? ⟨p, 2, none⟩ = some (.map (some b)) ∧ V.cell? ⟨w.heap.size, 0, none⟩ = some (.int .i64 x.1) ∧ V.cell? ⟨w.heap.size, 1, none⟩ = some (.int .i64 x.2) ∧ ∃ V', (Instr.mapUpdate 68 (.map (some b)) (ev x) (.agg #[])).run Tryz.prog V.drew = .ok () V' ∧ V'.cell? ⟨p, 1, none⟩ = some v ∧
          Calls Tryz.prog 47 #[v, .func (.func 48) #[] #[.pointer (some ⟨w.heap.size, 0, none⟩)]] V' fun e w' => ∃ a n c, e = .returned (.slice a n c) ∧ w'.cell? ⟨p, 1, none⟩ = some v ∧ w'.frozen? ⟨p, 1, none⟩ = false ∧ EndP w p F (severW s x) (.returned (.int .i64 0)) (w'.setCell ⟨p, 1, none⟩ (.slice a n c))) := fun V b1 => by
        have bV : Below w.heap.size w V := keptW bW b1
        have hl := (Array.getElem?_eq_some_iff.1 xW).1
        have hBV := (b1.block _ hl).trans xW
        have hqV := hq.same fun k hk => bV.block k (hq.lts k hk)
        exact ⟨hqV.cells.2.2, cell_of_list (C := ecells x) hBV 0, cell_of_list (C := ecells x) hBV 1, sever_end hS hq hF ok hw hin bV hBV⟩
      obtain ⟨va, vc, hv⟩ := hq.rows.rng.slice
      subst hv
      rw [hR] at HP ⊢
      clear hq hF hqW hw hE hR bW xW ok hS hin
      go_enter Tryz.func24, Tryz.ntmps24
      go_wp2_with (first
        | (go_at_call 32; refine hM.mono ?_; rintro e V ⟨rfl, rfl⟩)
        | (go_at_call_of 46 (Value.int .i64 x.1); refine (h1 _).mono ?_; rintro e V ⟨rfl, rfl⟩)
        | (go_at_call_of 46 (Value.int .i64 x.2); refine (h2 _).mono ?_; rintro e V ⟨rfl, rfl⟩)
        | (go_at_call 34; refine hC.mono ?_; rintro e V2 ⟨rfl, b2⟩; obtain ⟨d2, d3, d4, V3, r3, d5, hD⟩ := HP.out V2 b2))
      go_region
      go_wp2_with fail
      refine hD.mono ?_
      rintro e V4 ⟨a4, n4, c4, rfl, d6, d7, h4⟩
      have H4 : Hid (EndP w p F R _ _) := h4
      clear h4
      go_wp2
      go_ret
      exact H4.out
end
end Go.Proofs.YtdbgojmjjkidbaaGreatDoor
