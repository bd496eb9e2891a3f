/-
  THE LAW BindUndoes.
-/
import Derived.Test.YtiaagiijjledkaaGreatDoorUndo
import Derived.Deep.RegionLaw
import Derived.Deep.CutRange
namespace Go.Proofs.YtiaagiijjledkaaGreatDoor
open Go.RowKit Go.Sort Go.Shelf

/-- 'append', where it stands behind '||'. -/
theorem step_append_rowsG {α : Type} {enc : α → List Value} {K : Nat} [E : Enc enc K] {T : TypeId} {P : Program} {w : World} {ops : Array Oper} {o : Oper} {a : Act} {J : Act → World → Prop} {Q : Exit → Act → World → Prop} {F : Prop} (hw : Region.wanted o (yielded ops a.tmps) = true) (s x : Operand) (S : TypeId)
    (ho : o.op = .call { callee := .builtin .append, args := #[s, x], argTypes := #[S, S] }) (hS : P.underlying S = some (.slice T)) (i : TypeInfo) (z : Value) (bytes : Nat) (hi : P.info? T = some i) (hz : i.zero = some z) (hsz : i.size = K) (hby : i.bytes = bytes) (hzs : z.cells.size = K)
    (base : Nat) (v src : Value) (xs ys : List α) (hs : a.eval s = v) (hx : a.eval x = src)
    (hown : OwnOf enc K T w base v xs) (hy : RowOf enc w src ys) (hl : xs.length + ys.length ≤ maxLen) (hlen : (xs.length + ys.length) * bytes ≤ 140737488355328) (hbase : base ≤ w.heap.size)
    (h : ∀ v' w', OwnOf enc K T w' base v' (xs ++ ys) → w.grownBy w' v.ownBlock → NewOr w v v' → J (a.put o.dst v') w') : if Region.wanted o (yielded ops a.tmps) = true then Oper.wp P o a w J Q else F := by
  rw [if_pos hw]
  obtain ⟨v', w', hr, h2, h3, h4⟩ := run_append_rows (P := P) (w := w) S o.type hS i z bytes hi hz hsz hby hzs base v src xs ys hown hy hl hlen hbase
  unfold Oper.wp execOp
  simp only [ho, resolve, invoke, builtin, Sem.run_bind, Sem.run_pure, Result.andThen_ok, List.map_toArray, List.map_cons, List.map_nil, hs, hx, hr]
  exact h v' w' h2 h3 h4
set_option maxRecDepth 20000 in
theorem aInfo : ∃ i, Tryz.prog.info? 37 = some i ∧ i.zero = some (acv ⟨0, zeroEx, ⟨⟨#[]⟩, ⟨#[]⟩, ⟨#[]⟩⟩⟩) ∧ i.size = 7 ∧ i.bytes = 88 := by
  refine ⟨_, rfl, ?_, ?_, ?_⟩ <;> rfl
theorem cellU {w w' : World} {b j : Nat} {v : Value} (hb : Below w.heap.size w w') (h : w.cell? ⟨b, j, none⟩ = some v) : w'.cell? ⟨b, j, none⟩ = some v :=
  (hb.cell (p := ⟨b, j, none⟩) (World.block_lt_of_cell? _ _ h)).trans h

set_option maxRecDepth 20000 in
set_option maxHeartbeats 8000000 in
theorem undoes_law (v : Value) (l : List Ac) (b : Bd) (w : World) (hr : RowOf acells w v l) (hf : ∀ a ∈ l, a.Fits) (hlen : l.length * 88 ≤ 140737488351232) (hbf : b.ex.size ≤ 140737488355328 ∧ b.que.size ≤ 140737488355328 ∧ b.pat.size ≤ 140737488355328) :
    Calls Tryz.prog 5 #[v, bv b] w fun e w' => e = .returned (.bool true) ∧ Below w.heap.size w w' := by
  obtain ⟨va, vc, rfl⟩ := hr.slice
  have l63 : l.length ≤ 9223372036854775807 := by omega
  have hbF : b.Fit := by unfold Bd.Fit maxLen; omega
  obtain ⟨W, fold⟩ : ∃ W, w.alloc (.cells #[.string b.ex, .string b.que, .string b.pat] 35) = W := ⟨_, rfl⟩
  have bW : Below w.heap.size w W := by rw [← fold]; exact (Below.refl _ _).alloc (Nat.le_refl _) _
  have a0 : W.cell? ⟨w.heap.size, 0, none⟩ = some (.string b.ex) := by rw [← fold]; exact cell_of_list (C := bcells b) (heap_alloc_new w _) 0
  have a1 : W.cell? ⟨w.heap.size, 1, none⟩ = some (.string b.que) := by rw [← fold]; exact cell_of_list (C := bcells b) (heap_alloc_new w _) 1
  have a2 : W.cell? ⟨w.heap.size, 2, none⟩ = some (.string b.pat) := by rw [← fold]; exact cell_of_list (C := bcells b) (heap_alloc_new w _) 2
  have HBd : Hid (∀ V, Below W.heap.size W V → V.cell? ⟨w.heap.size, 0, none⟩ = some (.string b.ex) ∧ V.cell? ⟨w.heap.size, 1, none⟩ = some (.string b.que) ∧ V.cell? ⟨w.heap.size, 2, none⟩ = some (.string b.pat)) := fun V hV => ⟨cellU hV a0, cellU hV a1, cellU hV a2⟩
  have HR : Hid (RowOf acells W (.slice va l.length vc) l) := hr.below bW (Nat.le_refl _)
  have HFt : Hid (∀ a ∈ l, a.Fits) := hf
  have HL : Hid (∀ V, Calls Tryz.prog 8 #[] V fun e w' => e = .returned (.bool true) ∧ Below V.heap.size V w') := lives_any
  have HW : Hid (Below w.heap.size w W) := bW
  obtain ⟨tb, htb⟩ : ∃ tb : Ac, tb = ⟨0, ⟨⟨#[]⟩, 0, false⟩, b⟩ := ⟨_, rfl⟩
  have hFT : ∀ a ∈ l ++ [tb], a.Fits := by
    intro a ha
    rcases List.mem_append.1 ha with ha | ha
    · exact hf a ha
    · rw [List.mem_singleton.1 ha, htb]
      exact ⟨by show (0 : Nat) ≤ _; omega, hbf⟩
  have hLi := fun v W (h : RowOf acells W v (l ++ [tb])) => light_any v (l ++ [tb]) W h hFT
  have kN := new_any W
  obtain ⟨i0, hi0, hz0, hzs, hzb⟩ := aInfo
  clear hr hf bW a0 a1 a2 hFT
  go_enter Tryz.func5, Tryz.ntmps5
  go_wp2_with fail
  refine kN.mono ?_
  rintro e w1 ⟨pt, rfl, F1, q1, hF, b1⟩
  obtain ⟨V, fold2⟩ : ∃ V, w1.alloc (.cells #[.slice none 0 0, .slice none 0 0] 29) = V := ⟨_, rfl⟩
  have H0 := two_new q1 hF b1 fold2
  clear q1 hF b1 kN fold
  obtain ⟨v0, v1, v2⟩ := HBd.out V H0.bel
  have hrV := HR.out.below H0.bel (Nat.le_refl _)
  have hwV : w.heap.size < V.heap.size := World.block_lt_of_cell? _ _ v0
  obtain ⟨X, hX⟩ : ∃ X : Obj, X = .cells #[.int .i64 0, .string ⟨#[]⟩, .int .i64 0, .bool false, .string b.ex, .string b.que, .string b.pat] 37 := ⟨_, rfl⟩
  have belD : Below V.heap.size V V.drew := (Below.refl _ _).drew
  have belA : Below V.heap.size V (V.drew.alloc (.cells #[] 37)) := belD.alloc (Nat.le_refl _) _
  have belC : Below V.heap.size V ((V.drew.alloc (.cells #[] 37)).alloc X) := belA.alloc (by simp) _
  have belF : Below V.heap.size V ((V.drew.alloc X).alloc (.cells #[] 37)) := (belD.alloc (Nat.le_refl _) _).alloc (by simp) _
  have eA : OwnOf acells 7 37 (V.drew.alloc (.cells #[] 37)) V.heap.size (.slice (some ⟨V.heap.size, 0, none⟩) 0 0) [] := ownOf_empty V.drew V.heap.size (Nat.le_refl _)
  have eC : OwnOf acells 7 37 ((V.drew.alloc (.cells #[] 37)).alloc X) V.heap.size (.slice (some ⟨V.heap.size, 0, none⟩) 0 0) [] := eA.alloc X
  have eF : OwnOf acells 7 37 ((V.drew.alloc X).alloc (.cells #[] 37)) V.heap.size (.slice (some ⟨V.heap.size + 1, 0, none⟩) 0 0) [] := by
    have := ownOf_empty (enc := acells) (K := 7) (T := 37) (V.drew.alloc X) V.heap.size (by simp)
    rwa [World.size_alloc] at this
  have rA := hrV.below belA (Nat.le_refl _)
  have rC := hrV.below belC (Nat.le_refl _)
  have rF := hrV.below belF (Nat.le_refl _)
  have FA : Hid (∀ w1, (V.drew.alloc (.cells #[] 37)).grownBy w1 (some V.heap.size) → BeAt w1 w.heap.size 0 b ∧ Below V.heap.size V w1) := fun w1 gr => by
    have hbb : Below V.heap.size V w1 := belA.grown gr (by simp) (fun k hk => by injection hk with hk; omega)
    exact ⟨(show BeAt V w.heap.size 0 b from ⟨v0, v1, v2⟩).below hbb (Nat.le_refl _), hbb⟩
  have FC : Hid (∀ w1, ((V.drew.alloc (.cells #[] 37)).alloc X).grownBy w1 (some V.heap.size) → RowOf acells w1 (.slice (some ⟨V.heap.size + 1, 0, none⟩) 1 1) [tb] ∧ Below V.heap.size V w1) := fun w1 gr => by
    have h1 : RowOf acells ((V.drew.alloc (.cells #[] 37)).alloc X) (.slice (some ⟨V.heap.size + 1, 0, none⟩) 1 1) [tb] := by rw [hX, htb]; exact rowK_one _ (⟨0, ⟨⟨#[]⟩, 0, false⟩, b⟩ : Ac) _ (by simp)
    refine ⟨h1.same fun g hg => ?_, belC.grown gr (by simp; omega) (fun k hk => by injection hk with hk; omega)⟩
    have hg' : g = V.heap.size + 1 := (Option.some.inj hg).symm
    subst hg'
    exact gr.block _ (by simp) (fun h => by injection h with h; omega)
  have FF : Hid (∀ w1, ((V.drew.alloc X).alloc (.cells #[] 37)).grownBy w1 (some (V.heap.size + 1)) → RowOf acells w1 (.slice (some ⟨V.heap.size, 0, none⟩) 1 1) [tb] ∧ Below V.heap.size V w1) := fun w1 gr => by
    have h0 : RowOf acells (V.drew.alloc X) (.slice (some ⟨V.heap.size, 0, none⟩) 1 1) [tb] := by rw [hX, htb]; exact rowK_one V.drew (⟨0, ⟨⟨#[]⟩, 0, false⟩, b⟩ : Ac) _ rfl
    have h1 : RowOf acells ((V.drew.alloc X).alloc (.cells #[] 37)) (.slice (some ⟨V.heap.size, 0, none⟩) 1 1) [tb] := h0.below ((Below.refl _ _).alloc (Nat.le_refl _) _) (Nat.le_refl _)
    refine ⟨h1.same fun g hg => ?_, belF.grown gr (by simp; omega) (fun k hk => by injection hk with hk; omega)⟩
    have hg' : g = V.heap.size := (Option.some.inj hg).symm
    subst hg'
    exact gr.block _ (by simp; omega) (fun h => by injection h with h; omega)
  have RX : ∀ (W : World) n, n = W.heap.size → RowOf acells (W.alloc (.cells #[.int .i64 0, .string ⟨#[]⟩, .int .i64 0, .bool false, .string b.ex, .string b.que, .string b.pat] 37)) (.slice (some ⟨n, 0, none⟩) 1 1) [tb] := fun W n hn => by rw [htb]; exact rowK_one W (⟨0, ⟨⟨#[]⟩, 0, false⟩, b⟩ : Ac) n hn
  have p0 := fun o => cell_allocK (w := V.drew) o v0
  have p1 := fun o => cell_allocK (w := V.drew) o v1
  have p2 := fun o => cell_allocK (w := V.drew) o v2
  have q0 := fun o => cell_allocK (w := V) o v0
  have q1 := fun o => cell_allocK (w := V) o v1
  have q2 := fun o => cell_allocK (w := V) o v2
  have sb1 : ([] : List Ac).length + l.length ≤ maxLen := by unfold maxLen; simp; omega
  have sb2 : (([] : List Ac).length + l.length) * 88 ≤ 140737488355328 := by simp; omega
  subst hX
  have HTB : Hid _ := htb
  clear htb
  go_wp2
  clear fold2
  go_cut [31] from 19 to 31 (fun u31 wx => ∃ g, u31 = .bool g ∧ Below V.heap.size V wx)
  case first =>
    first
    | (go_region_law (first
          | (rw [if_pos (by first | rfl | (simp [Region.wanted]; done))]; go_simp; refine Calls.mono (hLi _ w2 own2.rng) ?_; rintro e w3 ⟨rr, rfl, _, b3⟩; dsimp only)
            | (refine step_append_rowsG (enc := acells) (by first | rfl | (simp [Region.wanted]; done)) (.tmp 22) (.tmp 23) 22 rfl Tryz.underlying22 i0 _ 88 hi0 hz0 hzs hzb rfl V.heap.size (.slice (some ⟨V.heap.size, 0, none⟩) 0 0) (.slice va l.length vc) [] l (by first | (simp [Act.eval]; done) | simp [Act.eval, Act.put]) (by first | (simp [Act.eval]; done) | simp [Act.eval, Act.put]) eA rA sb1 sb2 (by simp) ?_; intro v1 w1 own1 gr1 nw1; obtain ⟨i1, b1⟩ := FA.out w1 gr1; obtain ⟨va1, vc1, hv1⟩ := own1.rng.slice; rw [List.nil_append] at hv1 own1; subst hv1; obtain ⟨g0, g1, g2⟩ := i1; simp only [Nat.zero_add] at g0 g1 g2; clear gr1 nw1)
            | (refine step_append_rowsG (enc := acells) (by first | rfl | (simp [Region.wanted]; done)) (.tmp 22) (.tmp 23) 22 rfl Tryz.underlying22 i0 _ 88 hi0 hz0 hzs hzb rfl V.heap.size (.slice (some ⟨V.heap.size, 0, none⟩) 0 0) (.slice va l.length vc) [] l (by first | (simp [Act.eval]; done) | simp [Act.eval, Act.put]) (by first | (simp [Act.eval]; done) | simp [Act.eval, Act.put]) eC rC sb1 sb2 (by simp; omega) ?_; intro v1 w1 own1 gr1 nw1; obtain ⟨rx, b1⟩ := FC.out w1 gr1; obtain ⟨va1, vc1, hv1⟩ := own1.rng.slice; rw [List.nil_append] at hv1 own1; subst hv1; clear gr1 nw1)
            | (refine step_append_rowsG (enc := acells) (by first | rfl | (simp [Region.wanted]; done)) (.tmp 22) (.tmp 23) 22 rfl Tryz.underlying22 i0 _ 88 hi0 hz0 hzs hzb rfl V.heap.size (.slice (some ⟨V.heap.size + 1, 0, none⟩) 0 0) (.slice va l.length vc) [] l (by first | (simp [Act.eval]; done) | simp [Act.eval, Act.put]) (by first | (simp [Act.eval]; done) | simp [Act.eval, Act.put]) eF rF sb1 sb2 (by simp; omega) ?_; intro v1 w1 own1 gr1 nw1; obtain ⟨rx, b1⟩ := FF.out w1 gr1; obtain ⟨va1, vc1, hv1⟩ := own1.rng.slice; rw [List.nil_append] at hv1 own1; subst hv1; clear gr1 nw1)
            | (refine step_append_rowsG (enc := acells) (by first | rfl | (simp [Region.wanted]; done)) (.tmp 24) (.tmp 27) 22 rfl Tryz.underlying22 i0 _ 88 hi0 hz0 hzs hzb rfl V.heap.size (.slice va1 l.length vc1) _ l [tb] (by first | (simp [Act.eval]; done) | simp [Act.eval, Act.put]) rfl own1 rx (by unfold maxLen; simp; omega) (by simp; omega) b1.size ?_; intro v2 w2 own2 gr2 nw2; have HB : Hid (Below V.heap.size V w2) := own1.below gr2 b1 b1.size (Nat.le_refl _); obtain ⟨va2, vc2, hv2⟩ := own2.rng.slice; rw [List.length_append, List.length_singleton] at hv2; subst hv2; clear gr2 nw2)
            | (refine step_append_rowsG (enc := acells) (by first | rfl | (simp [Region.wanted]; done)) (.tmp 24) (.tmp 27) 22 rfl Tryz.underlying22 i0 _ 88 hi0 hz0 hzs hzb rfl V.heap.size (.slice va1 l.length vc1) _ l [tb] (by first | (simp [Act.eval]; done) | simp [Act.eval, Act.put]) rfl (own1.alloc _) (RX _ _ rfl) (by unfold maxLen; simp; omega) (by simp; omega) (by have := b1.size; simp; omega) ?_; intro v2 w2 own2 gr2 nw2; have HB : Hid (Below V.heap.size V w2) := (own1.alloc _).below gr2 (b1.alloc b1.size _) (by have := b1.size; simp; omega) (Nat.le_refl _); obtain ⟨va2, vc2, hv2⟩ := own2.rng.slice; rw [List.length_append, List.length_singleton] at hv2; subst hv2; clear gr2 nw2)))
    | fail
    all_goals go_wp2
    all_goals go_meet
    all_goals exact ⟨_, rfl, Below.trans HB.out (b3.mono (Below.size HB.out))⟩
  case rest =>
    obtain ⟨g, rfl, bc⟩ := hcut
    have H1 := H0.below bc
    clear H0 bc hLi eA eC eF rA rC rF FA FC FF RX p0 p1 p2 q0 q1 q2 sb1 sb2 v0 v1 v2 hrV belD belA belC belF hwV HTB i0 hi0 hz0 hzs hzb
    cases g
    rotate_left
    · have hbw := H1.bel
      clear H1
      go_wp2_with (go_at_call 8; refine (HL.out _).mono ?_; rintro e w4 ⟨rfl, b4⟩)
      go_ret
      exact ⟨rfl, HW.out.trans ((hbw.trans (b4.mono hbw.size)).mono HW.out.size)⟩
    go_wp2
    go_loopw [39] (fun u39 wr => ∃ (k : Nat) (Ft Fr : Nat → Prop) (s : Tb), u39 = .int .i64 k ∧ k ≤ l.length ∧ Two W wr pt Ft s w1.heap.size Fr s) (fun u39 _ => l.length - (intOf u39).toNat)
    case atStart => exact ⟨0, _, _, _, rfl, Nat.zero_le _, H1⟩
    case round =>
      obtain ⟨k, Ft, Fr, s, rfl, hk, H⟩ := hrel
      clear H1
      by_cases hlt2 : k < l.length
      · have hlt : (k : Int) < (l.length : Int) := by omega
        obtain ⟨_, _, hAt⟩ := (HR.out.below H.bel (Nat.le_refl _)).acs
        obtain ⟨bb, off, rfl, i0, i1, i2, i3, i4, i5, i6⟩ := hAt k hlt2
        have hfa := HFt.out _ (List.getElem_mem hlt2)
        generalize l[k] = a at *
        clear hAt
        obtain ⟨X, foldX⟩ : ∃ X, wr.alloc (.cells (acells a).toArray 37) = X := ⟨_, rfl⟩
        have HX := H.box a foldX
        obtain ⟨e0, e1, e2, e3, e4, e5, e6⟩ := HX.box
        have kA := act_any a W X pt w1.heap.size Ft Fr s HX.two hfa
        generalize actT s a = s' at kA
        unfold acells at foldX
        unfold acv at kA
        clear H HX hfa
        go_wp2_with (go_at_call 9; refine kA.mono ?_; clear kA; rintro e w4 ⟨rfl, Ft4, Fr4, H4⟩)
        exact ⟨⟨k + 1, _, _, _, by go_num, by omega, H4⟩, by simp [intOf]; omega⟩
      · obtain rfl : k = l.length := by omega
        go_wp2_with fail
        refine (exchanges_any pt Ft s wr H.t H.ok1).mono ?_
        rintro e w5 ⟨v5, rfl, o5, b5⟩
        have H5 := H.below b5
        have hsz5 := b5.size
        obtain ⟨xa, xc, rfl⟩ := o5.rng.slice
        go_wp2_with fail
        refine (bindings_any pt Ft s w5 H5.t H5.ok1).mono ?_
        rintro e w6 ⟨v6, rfl, o6, b6⟩
        have H6 := H5.below b6
        obtain ⟨ya, yc, rfl⟩ := o6.rng.slice
        have ox : OwnX w6 0 (.slice xa s.xs.length xc) s.xs := (o5.kept b6 (Nat.le_refl _)).mono (Nat.zero_le _)
        have ob : OwnB w6 0 (.slice ya s.bs.length yc) s.bs := o6.mono (Nat.zero_le _)
        obtain ⟨Fw, hw, hFw⟩ := was_new ox ob
        obtain ⟨Z, foldZ⟩ : ∃ Z, w6.alloc (.cells #[.slice xa s.xs.length xc, .slice ya s.bs.length yc] 29) = Z := ⟨_, rfl⟩
        rw [foldZ] at hw
        have bZ : Below w6.heap.size w6 Z := by rw [← foldZ]; exact (Below.refl _ _).alloc (Nat.le_refl _) _
        have H7 := H6.below bZ
        have RX : Hid (RowOf xcells Z (.slice xa s.xs.length xc) s.xs) := ox.rng.below bZ (Nat.le_refl _)
        have hbZ : Hid (Below W.heap.size W Z) := H7.bel
        have lx : s.xs.length ≤ 9223372036854775807 := by have := H7.ok1.nx; omega
        have kC := copy_any pt Ft s Z H7.t
        clear H H5 H6 o5 o6 b5 b6 ox ob bZ hsz5
        go_wp2_with fail
        refine kC.mono ?_
        rintro e w8 ⟨pc, rfl, Fc, c8, fc8, b8⟩
        have U8 : Un7 W w8 pt Ft s w6.heap.size Fw pc Fc s := ⟨H7.t.kept b8, H7.ok1, hw.kept b8, c8, H7.ok1, fun k hc ht => by have := fc8 k hc; have := H7.t.lts k ht; omega, fun k hc hw' => by have := fc8 k hc; have := hw.lts k hw'; omega, fun k hc => Nat.le_trans hbZ.out.size (fc8 k hc), hbZ.out.trans (b8.mono hbZ.out.size)⟩
        have RX8 : Hid (RowOf xcells w8 (.slice xa s.xs.length xc) s.xs) := RX.out.below b8 (Nat.le_refl _)
        have HOWN : Hid _ := hFw
        clear kC c8 fc8 b8 H7 hw hFw RX hbZ foldZ
        go_wp2_with fail
        refine (exchanges_any pc _ s _ U8.c U8.okc).mono ?_
        rintro e wa1 ⟨va1, rfl, oa1, ba1⟩
        have UA1 := U8.below ba1
        obtain ⟨aa1, ac1, rfl⟩ := oa1.rng.slice
        go_wp2_with fail
        refine (bindings_any pc _ s _ UA1.c UA1.okc).mono ?_
        rintro e wb1 ⟨vb1, rfl, ob1, bb1⟩
        have UB1 := UA1.below bb1
        obtain ⟨ab1, acb1, rfl⟩ := ob1.rng.slice
        have ra1 := oa1.rng.below bb1 (Nat.le_refl _)
        go_wp2_with fail
        refine (same_any _ _ _ _ s _ ra1 ob1.rng UB1.was).mono ?_
        rintro e wc1 ⟨rfl, bc1⟩
        have UC1 := UB1.below bc1
        have R101 : Hid (RowOf xcells wc1 (.slice xa s.xs.length xc) s.xs) := ((RX8.out.below ba1 (Nat.le_refl _)).below bb1 (Nat.le_refl _)).below bc1 (Nat.le_refl _)
        clear UA1 UB1 oa1 ob1 ra1 ba1 bb1 bc1 U8
        obtain ⟨g0, g1, g2⟩ := HBd.out _ UC1.bel
        have lb : s.bs.length ≤ 1000000 := by have := UC1.okt.nb; omega
        go_wp2_with fail
        refine (rhas_any w6.heap.size Fw s b _ UC1.was lb).mono ?_
        rintro e w9 ⟨rfl, b9⟩
        have U9 := UC1.below b9
        have R9 : Hid (RowOf xcells w9 (.slice xa s.xs.length xc) s.xs) := R101.out.below b9 (Nat.le_refl _)
        obtain ⟨f0, f1, f2⟩ := HBd.out _ U9.bel
        clear UC1 b9 g0 g1 g2
        have kB := bind_any pc Fc s b w9 U9.c U9.okc hbF
        have hzz := @bind_unbind s b
        have hxs := bind_xs s b
        have hxs2 := unbind_xs (s.bind b).2 b
        have okB := U9.okc.bind hbF
        have okU := okB.unbind b
        generalize hsb : s.bind b = sb at *
        obtain ⟨z, sb2⟩ := sb
        simp only at kB hzz hxs hxs2 okB okU
        clear hsb
        generalize hth : decide (b ∈ s.bs) = th
        have HTH : Hid (th = false → b ∉ s.bs) := fun h => of_decide_eq_false (hth.trans h)
        clear hth
        go_wp2_with fail
        refine kB.mono ?_
        clear kB
        rintro e w10 ⟨rfl, Fx, cx, mx⟩
        have U10 := U9.goC cx mx okB
        have R10 : Hid (RowOf xcells w10 (.slice xa s.xs.length xc) s.xs) := U9.row mx HOWN.out R9.out
        obtain ⟨h0, h1, h2⟩ := HBd.out _ U10.bel
        clear U9 cx mx f0 f1 f2
        by_cases hz : z = 0
        · subst hz
          obtain ⟨hu0, hun⟩ := hzz rfl
          go_wp2_with fail
          refine (exchanges_any pt _ s _ U10.t U10.okt).mono ?_
          rintro e wa2 ⟨va2, rfl, oa2, ba2⟩
          have UA2 := U10.below ba2
          obtain ⟨aa2, ac2, rfl⟩ := oa2.rng.slice
          go_wp2_with fail
          refine (bindings_any pt _ s _ UA2.t UA2.okt).mono ?_
          rintro e wb2 ⟨vb2, rfl, ob2, bb2⟩
          have UB2 := UA2.below bb2
          obtain ⟨ab2, acb2, rfl⟩ := ob2.rng.slice
          have ra2 := oa2.rng.below bb2 (Nat.le_refl _)
          go_wp2_with fail
          refine (same_any _ _ _ _ s _ ra2 ob2.rng UB2.was).mono ?_
          rintro e wc2 ⟨rfl, bc2⟩
          have UC2 := UB2.below bc2
          have R102 : Hid (RowOf xcells wc2 (.slice xa s.xs.length xc) s.xs) := ((R10.out.below ba2 (Nat.le_refl _)).below bb2 (Nat.le_refl _)).below bc2 (Nat.le_refl _)
          clear UA2 UB2 oa2 ob2 ra2 ba2 bb2 bc2 U10
          obtain ⟨i0, i1, i2⟩ := HBd.out _ UC2.bel
          have kU := unbind_any pc Fx sb2 b _ UC2.c UC2.okc hbF
          rw [hu0] at kU
          clear h0 h1 h2
          go_wp2_with fail
          refine kU.mono ?_
          clear kU
          rintro e w11 ⟨rfl, Fy, cy, my⟩
          have U11 := UC2.goC cy my okU
          have R11 : Hid (RowOf xcells w11 (.slice xa s.xs.length xc) s.xs) := UC2.row my HOWN.out R102.out
          clear UC2 cy my i0 i1 i2
          generalize (sb2.unbind b).2 = sb3 at *
          have HX3 : Hid (sb3.xs = s.xs) := hxs2.trans hxs
          clear hxs hxs2
          cases th
          · have U12 : Un7 W w11 pt Ft s w6.heap.size Fw pc Fy s := by
              have := U11
              rwa [hun (HTH.out rfl)] at this
            clear hzz hun U11 HX3 okU okB
            go_wp2_with fail
            refine (exchanges_any pc _ s _ U12.c U12.okc).mono ?_
            rintro e wa3 ⟨va3, rfl, oa3, ba3⟩
            have UA3 := U12.below ba3
            obtain ⟨aa3, ac3, rfl⟩ := oa3.rng.slice
            go_wp2_with fail
            refine (bindings_any pc _ s _ UA3.c UA3.okc).mono ?_
            rintro e wb3 ⟨vb3, rfl, ob3, bb3⟩
            have UB3 := UA3.below bb3
            obtain ⟨ab3, acb3, rfl⟩ := ob3.rng.slice
            have ra3 := oa3.rng.below bb3 (Nat.le_refl _)
            go_wp2_with fail
            refine (same_any _ _ _ _ s _ ra3 ob3.rng UB3.was).mono ?_
            rintro e wc3 ⟨rfl, bc3⟩
            have UC3 := UB3.below bc3
            have R103 : Hid (RowOf xcells wc3 (.slice xa s.xs.length xc) s.xs) := ((R11.out.below ba3 (Nat.le_refl _)).below bb3 (Nat.le_refl _)).below bc3 (Nat.le_refl _)
            clear UA3 UB3 oa3 ob3 ra3 ba3 bb3 bc3 U12
            have hin : ∀ x ∈ s.xs, x ∈ s.xs.drop 0 := fun x hx => by rw [List.drop_zero]; exact hx
            go_wp2
            go_loopw [102] (fun u102 wr => ∃ (j : Nat) (Fc : Nat → Prop) (sc : Tb), u102 = .int .i64 j ∧ j ≤ s.xs.length ∧ Un7 W wr pt Ft s w6.heap.size Fw pc Fc sc ∧ (∀ x ∈ sc.xs, x ∈ s.xs.drop j) ∧ RowOf xcells wr (.slice xa s.xs.length xc) s.xs) (fun u102 _ => s.xs.length - (intOf u102).toNat)
            case atStart => exact ⟨0, _, _, rfl, Nat.zero_le _, UC3, hin, R103.out⟩
            case round =>
              clear UC3 hin
              obtain ⟨j, Fd, sc, rfl, hj, UD, hsub, rD⟩ := hrel
              by_cases hjl : j < s.xs.length
              · have hjl' : (j : Int) < (s.xs.length : Int) := by omega
                obtain ⟨b2, o2, hxa, ci⟩ := rD.exs j hjl
                have HRD : Hid (RowOf xcells wr (.slice xa s.xs.length xc) s.xs) := rD
                have hshort := good_short (UD.okt.good _ (List.getElem_mem hjl))
                have HST : Hid (∀ x ∈ (sc.drop s.xs[j].name).2.xs, x ∈ s.xs.drop (j + 1)) := drop_step hjl hsub
                have hok' := UD.okc.drop s.xs[j].name
                generalize s.xs[j] = x at *
                subst hxa
                obtain ⟨e0, e1, e2⟩ := ci
                obtain ⟨Y, foldY⟩ : ∃ Y, wr.alloc (.cells #[.string x.name, .int .i64 x.kind, .bool x.fed] 33) = Y := ⟨_, rfl⟩
                have bY : Below wr.heap.size wr Y := by rw [← foldY]; exact (Below.refl _ _).alloc (Nat.le_refl _) _
                have hY : Y.heap[wr.heap.size]? = some (.cells #[.string x.name, .int .i64 x.kind, .bool x.fed] 33 (0, 0)) := by rw [← foldY]; exact heap_alloc_new wr _
                have c0 : Y.cell? ⟨wr.heap.size, 0, none⟩ = some (.string x.name) := by simp [World.cell?, hY]
                have UY := UD.below bY
                have RY : Hid _ := HRD.out.below bY (Nat.le_refl _)
                have kD := drop_any pc Fd sc x.name Y UY.c UY.okc (by unfold maxLen; omega)
                have OK' : Hid _ := hok'
                clear UD hY bY rD hsub hshort hok'
                go_wp2_with (go_at_call 19; refine kD.mono ?_; clear kD; rintro e wd ⟨rfl, Fe, ce, me⟩)
                exact ⟨⟨j + 1, _, _, by go_num, by omega, UY.goC ce me OK'.out, HST.out, UY.row me HOWN.out RY.out⟩, by simp [intOf]; omega⟩
              · obtain rfl : j = s.xs.length := by omega
                rw [List.drop_length] at hsub
                obtain ⟨nx0, nb0⟩ := none_left UD.okc hsub
                clear rD hsub
                go_wp2_with fail
                refine (exchanges_any pc Fd sc wr UD.c UD.okc).mono ?_
                rintro e wf ⟨vf, rfl, of, bf⟩
                have UF := UD.below bf
                obtain ⟨af, cf, rfl⟩ := of.rng.slice
                rw [nx0]
                go_wp2_with fail
                refine (bindings_any pc Fd sc wf UF.c UF.okc).mono ?_
                rintro e wg ⟨vg, rfl, og, bg⟩
                have UG := UF.below bg
                obtain ⟨ag, cg, rfl⟩ := og.rng.slice
                rw [nb0]
                clear UD UF of og bf bg
                go_wp2_with fail
                refine (exchanges_any pt _ s _ UG.t UG.okt).mono ?_
                rintro e wa4 ⟨va4, rfl, oa4, ba4⟩
                have UA4 := UG.below ba4
                obtain ⟨aa4, ac4, rfl⟩ := oa4.rng.slice
                go_wp2_with fail
                refine (bindings_any pt _ s _ UA4.t UA4.okt).mono ?_
                rintro e wb4 ⟨vb4, rfl, ob4, bb4⟩
                have UB4 := UA4.below bb4
                obtain ⟨ab4, acb4, rfl⟩ := ob4.rng.slice
                have ra4 := oa4.rng.below bb4 (Nat.le_refl _)
                go_wp2_with fail
                refine (same_any _ _ _ _ s _ ra4 ob4.rng UB4.was).mono ?_
                rintro e wc4 ⟨rfl, bc4⟩
                have UC4 := UB4.below bc4
                clear UA4 UB4 oa4 ob4 ra4 ba4 bb4 bc4 UG
                go_wp2_with (go_at_call 8; refine (HL.out _).mono ?_; rintro e wh ⟨rfl, bh⟩)
                go_ret
                exact ⟨ret_bool (by simp), HW.out.trans ((UC4.bel.trans (bh.mono UC4.bel.size)).mono HW.out.size)⟩
          · clear hzz hun okU okB
            have hin : ∀ x ∈ sb3.xs, x ∈ s.xs.drop 0 := fun x hx => by rw [List.drop_zero, ← HX3.out]; exact hx
            go_wp2
            go_loopw [102] (fun u102 wr => ∃ (j : Nat) (Fc : Nat → Prop) (sc : Tb), u102 = .int .i64 j ∧ j ≤ s.xs.length ∧ Un7 W wr pt Ft s w6.heap.size Fw pc Fc sc ∧ (∀ x ∈ sc.xs, x ∈ s.xs.drop j) ∧ RowOf xcells wr (.slice xa s.xs.length xc) s.xs) (fun u102 _ => s.xs.length - (intOf u102).toNat)
            case atStart => exact ⟨0, _, _, rfl, Nat.zero_le _, U11, hin, R11.out⟩
            case round =>
              clear U11 hin
              obtain ⟨j, Fd, sc, rfl, hj, UD, hsub, rD⟩ := hrel
              by_cases hjl : j < s.xs.length
              · have hjl' : (j : Int) < (s.xs.length : Int) := by omega
                obtain ⟨b2, o2, hxa, ci⟩ := rD.exs j hjl
                have HRD : Hid (RowOf xcells wr (.slice xa s.xs.length xc) s.xs) := rD
                have hshort := good_short (UD.okt.good _ (List.getElem_mem hjl))
                have HST : Hid (∀ x ∈ (sc.drop s.xs[j].name).2.xs, x ∈ s.xs.drop (j + 1)) := drop_step hjl hsub
                have hok' := UD.okc.drop s.xs[j].name
                generalize s.xs[j] = x at *
                subst hxa
                obtain ⟨e0, e1, e2⟩ := ci
                obtain ⟨Y, foldY⟩ : ∃ Y, wr.alloc (.cells #[.string x.name, .int .i64 x.kind, .bool x.fed] 33) = Y := ⟨_, rfl⟩
                have bY : Below wr.heap.size wr Y := by rw [← foldY]; exact (Below.refl _ _).alloc (Nat.le_refl _) _
                have hY : Y.heap[wr.heap.size]? = some (.cells #[.string x.name, .int .i64 x.kind, .bool x.fed] 33 (0, 0)) := by rw [← foldY]; exact heap_alloc_new wr _
                have c0 : Y.cell? ⟨wr.heap.size, 0, none⟩ = some (.string x.name) := by simp [World.cell?, hY]
                have UY := UD.below bY
                have RY : Hid _ := HRD.out.below bY (Nat.le_refl _)
                have kD := drop_any pc Fd sc x.name Y UY.c UY.okc (by unfold maxLen; omega)
                have OK' : Hid _ := hok'
                clear UD hY bY rD hsub hshort hok'
                go_wp2_with (go_at_call 19; refine kD.mono ?_; clear kD; rintro e wd ⟨rfl, Fe, ce, me⟩)
                exact ⟨⟨j + 1, _, _, by go_num, by omega, UY.goC ce me OK'.out, HST.out, UY.row me HOWN.out RY.out⟩, by simp [intOf]; omega⟩
              · obtain rfl : j = s.xs.length := by omega
                rw [List.drop_length] at hsub
                obtain ⟨nx0, nb0⟩ := none_left UD.okc hsub
                clear rD hsub
                go_wp2_with fail
                refine (exchanges_any pc Fd sc wr UD.c UD.okc).mono ?_
                rintro e wf ⟨vf, rfl, of, bf⟩
                have UF := UD.below bf
                obtain ⟨af, cf, rfl⟩ := of.rng.slice
                rw [nx0]
                go_wp2_with fail
                refine (bindings_any pc Fd sc wf UF.c UF.okc).mono ?_
                rintro e wg ⟨vg, rfl, og, bg⟩
                have UG := UF.below bg
                obtain ⟨ag, cg, rfl⟩ := og.rng.slice
                rw [nb0]
                clear UD UF of og bf bg
                go_wp2_with fail
                refine (exchanges_any pt _ s _ UG.t UG.okt).mono ?_
                rintro e wa5 ⟨va5, rfl, oa5, ba5⟩
                have UA5 := UG.below ba5
                obtain ⟨aa5, ac5, rfl⟩ := oa5.rng.slice
                go_wp2_with fail
                refine (bindings_any pt _ s _ UA5.t UA5.okt).mono ?_
                rintro e wb5 ⟨vb5, rfl, ob5, bb5⟩
                have UB5 := UA5.below bb5
                obtain ⟨ab5, acb5, rfl⟩ := ob5.rng.slice
                have ra5 := oa5.rng.below bb5 (Nat.le_refl _)
                go_wp2_with fail
                refine (same_any _ _ _ _ s _ ra5 ob5.rng UB5.was).mono ?_
                rintro e wc5 ⟨rfl, bc5⟩
                have UC5 := UB5.below bc5
                clear UA5 UB5 oa5 ob5 ra5 ba5 bb5 bc5 UG
                go_wp2_with (go_at_call 8; refine (HL.out _).mono ?_; rintro e wh ⟨rfl, bh⟩)
                go_ret
                exact ⟨ret_bool (by simp), HW.out.trans ((UC5.bel.trans (bh.mono UC5.bel.size)).mono HW.out.size)⟩
        · have hz' : (z == 0) = false := beq_eq_false_iff_ne.2 hz
          have hin : ∀ x ∈ sb2.xs, x ∈ s.xs.drop 0 := fun x hx => by rw [List.drop_zero, ← hxs]; exact hx
          clear hzz hxs hxs2 okU okB
          go_wp2
          go_loopw [102] (fun u102 wr => ∃ (j : Nat) (Fc : Nat → Prop) (sc : Tb), u102 = .int .i64 j ∧ j ≤ s.xs.length ∧ Un7 W wr pt Ft s w6.heap.size Fw pc Fc sc ∧ (∀ x ∈ sc.xs, x ∈ s.xs.drop j) ∧ RowOf xcells wr (.slice xa s.xs.length xc) s.xs) (fun u102 _ => s.xs.length - (intOf u102).toNat)
          case atStart => exact ⟨0, _, _, rfl, Nat.zero_le _, U10, hin, R10.out⟩
          case round =>
            clear U10 hin
            obtain ⟨j, Fd, sc, rfl, hj, UD, hsub, rD⟩ := hrel
            by_cases hjl : j < s.xs.length
            · have hjl' : (j : Int) < (s.xs.length : Int) := by omega
              obtain ⟨b2, o2, hxa, ci⟩ := rD.exs j hjl
              have HRD : Hid (RowOf xcells wr (.slice xa s.xs.length xc) s.xs) := rD
              have hshort := good_short (UD.okt.good _ (List.getElem_mem hjl))
              have HST : Hid (∀ x ∈ (sc.drop s.xs[j].name).2.xs, x ∈ s.xs.drop (j + 1)) := drop_step hjl hsub
              have hok' := UD.okc.drop s.xs[j].name
              generalize s.xs[j] = x at *
              subst hxa
              obtain ⟨e0, e1, e2⟩ := ci
              obtain ⟨Y, foldY⟩ : ∃ Y, wr.alloc (.cells #[.string x.name, .int .i64 x.kind, .bool x.fed] 33) = Y := ⟨_, rfl⟩
              have bY : Below wr.heap.size wr Y := by rw [← foldY]; exact (Below.refl _ _).alloc (Nat.le_refl _) _
              have hY : Y.heap[wr.heap.size]? = some (.cells #[.string x.name, .int .i64 x.kind, .bool x.fed] 33 (0, 0)) := by rw [← foldY]; exact heap_alloc_new wr _
              have c0 : Y.cell? ⟨wr.heap.size, 0, none⟩ = some (.string x.name) := by simp [World.cell?, hY]
              have UY := UD.below bY
              have RY : Hid _ := HRD.out.below bY (Nat.le_refl _)
              have kD := drop_any pc Fd sc x.name Y UY.c UY.okc (by unfold maxLen; omega)
              have OK' : Hid _ := hok'
              clear UD hY bY rD hsub hshort hok'
              go_wp2_with (go_at_call 19; refine kD.mono ?_; clear kD; rintro e wd ⟨rfl, Fe, ce, me⟩)
              exact ⟨⟨j + 1, _, _, by go_num, by omega, UY.goC ce me OK'.out, HST.out, UY.row me HOWN.out RY.out⟩, by simp [intOf]; omega⟩
            · obtain rfl : j = s.xs.length := by omega
              rw [List.drop_length] at hsub
              obtain ⟨nx0, nb0⟩ := none_left UD.okc hsub
              clear rD hsub
              go_wp2_with fail
              refine (exchanges_any pc Fd sc wr UD.c UD.okc).mono ?_
              rintro e wf ⟨vf, rfl, of, bf⟩
              have UF := UD.below bf
              obtain ⟨af, cf, rfl⟩ := of.rng.slice
              rw [nx0]
              go_wp2_with fail
              refine (bindings_any pc Fd sc wf UF.c UF.okc).mono ?_
              rintro e wg ⟨vg, rfl, og, bg⟩
              have UG := UF.below bg
              obtain ⟨ag, cg, rfl⟩ := og.rng.slice
              rw [nb0]
              clear UD UF of og bf bg
              go_wp2_with fail
              refine (exchanges_any pt _ s _ UG.t UG.okt).mono ?_
              rintro e wa6 ⟨va6, rfl, oa6, ba6⟩
              have UA6 := UG.below ba6
              obtain ⟨aa6, ac6, rfl⟩ := oa6.rng.slice
              go_wp2_with fail
              refine (bindings_any pt _ s _ UA6.t UA6.okt).mono ?_
              rintro e wb6 ⟨vb6, rfl, ob6, bb6⟩
              have UB6 := UA6.below bb6
              obtain ⟨ab6, acb6, rfl⟩ := ob6.rng.slice
              have ra6 := oa6.rng.below bb6 (Nat.le_refl _)
              go_wp2_with fail
              refine (same_any _ _ _ _ s _ ra6 ob6.rng UB6.was).mono ?_
              rintro e wc6 ⟨rfl, bc6⟩
              have UC6 := UB6.below bc6
              clear UA6 UB6 oa6 ob6 ra6 ba6 bb6 bc6 UG
              go_wp2_with (go_at_call 8; refine (HL.out _).mono ?_; rintro e wh ⟨rfl, bh⟩)
              go_ret
              exact ⟨ret_bool (by simp), HW.out.trans ((UC6.bel.trans (bh.mono UC6.bel.size)).mono HW.out.size)⟩
end Go.Proofs.YtiaagiijjledkaaGreatDoor
