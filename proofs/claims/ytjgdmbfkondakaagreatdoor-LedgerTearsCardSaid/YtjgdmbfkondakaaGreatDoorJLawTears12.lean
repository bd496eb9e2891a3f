/-
  THE LAW LedgerTears.
-/
import Derived.Test.YtjgdmbfkondakaaGreatDoorJTearsM
import Derived.Test.YtjgdmbfkondakaaGreatDoorJKeeps12
namespace Go.Proofs.YtjgdmbfkondakaaGreatDoor
open Go.RowKit

def ivc (x : Int) : List Value := [.int .i64 x]
instance : K.Enc ivc 1 where
  len _ := rfl
  one r u hu := by
    simp only [ivc, List.mem_cons, List.not_mem_nil, or_false] at hu
    rcases hu with rfl
    rfl
  pos := by decide
theorem intInfo : ∃ i, Tryz.prog.info? 3 = some i ∧ i.zero = some (.int .i64 0) ∧ i.size = 1 ∧ i.bytes = 8 := by
  have hinfo : (Tryz.prog.info? 3).map (fun i => (i.zero, i.size, i.bytes)) = some (some (.int .i64 0), 1, 8) := by kernel_rfl
  exact info_parts hinfo
/-- Where each ends. -/
def endsI (l : List (List UInt8)) (k : Nat) : List Int := (List.range (k + 1)).map fun j => ((catL (l.take j)).length : Int)
theorem endsI_length (l : List (List UInt8)) (k : Nat) : (endsI l k).length = k + 1 := by simp [endsI]
theorem endsI_succ (l : List (List UInt8)) (k : Nat) : endsI l (k + 1) = endsI l k ++ [((catL (l.take (k + 1))).length : Int)] := by
  unfold endsI
  rw [List.range_succ, List.map_append]
  rfl
theorem endsI_get (l : List (List UInt8)) (k j : Nat) (h : j ≤ k) : (endsI l k)[j]? = some ((catL (l.take j)).length : Int) := by
  unfold endsI
  rw [List.getElem?_map, List.getElem?_range (by omega)]
  rfl
theorem cells_ivc (l : List Int) : K.cellsOf ivc l = l.map fun x => .int .i64 x := by
  induction l with
  | nil => rfl
  | cons x l ih => rw [K.cellsOf_cons, ih]; rfl
/-- A number of a row of numbers. -/
theorem ends_cell {w : World} {base : Nat} {a : Option Addr} {n c : Nat} {E : List Int} (h : K.OwnOf ivc 1 3 w base (.slice a n c) E) (hp : 0 < E.length) : ∃ g, a = some ⟨g, 0, none⟩ ∧ n = E.length ∧ E.length ≤ c ∧ c ≤ maxLen ∧ ∀ (j : Nat) (x : Int), E[j]? = some x → w.cell? ⟨g, j, none⟩ = some (.int .i64 x) := by
  rcases h.split with ⟨e, h2⟩ | ⟨g, c', R, e, _, hg, h4, h5, _⟩
  · rw [h2] at hp
    exact absurd hp (by simp)
  · injection e with e1 e2 e3
    subst e1 e2 e3
    refine ⟨g, rfl, rfl, h4, h5, fun j x hj => ?_⟩
    simp only [World.cell?]
    rw [hg]
    have hlt := (List.getElem?_eq_some_iff.1 hj).1
    rw [cells_ivc]
    have h6 : (E.map (fun x => Value.int .i64 x) ++ R)[j]? = some (.int .i64 x) := by
      rw [List.getElem?_append_left (by simpa using hlt), List.getElem?_map, hj]
      rfl
    simpa using h6
/-- A row of numbers beside the ledger has grown. -/
theorem Lv.grewI {w wr wr' : World} {q p : Nat} {G : Nat → Prop} {l : Lg} {m : M} (h : Lv w wr q p G l m) {tv : Value} {B : List Int} (own : K.OwnOf ivc 1 3 wr w.heap.size tv B) (gr : wr.grownBy wr' tv.ownBlock) (nt : ∀ g, tv.ownBlock = some g → ¬ G g) : Lv w wr' q p G l m :=
  ⟨h.ld.same fun k hk => gr.block k (h.ld.lts k hk) (fun e => nt k e.symm hk), h.frm, own.below gr h.bel h.bel.size (Nat.le_refl _)⟩
theorem wrap_i64 (n : Int) (h : 0 ≤ n ∧ n < 9223372036854775808) : IntKind.i64.wrap n = n := by
  unfold IntKind.wrap
  simp only [IntKind.signed, IntKind.bits]
  simp
  omega
/-- What the law's first loop keeps. -/
def LpE (w wr : World) (q p : Nat) (ev : Value) (l : List (List UInt8)) (k : Nat) : Prop :=
  (0 < k → l.length ≤ 50) ∧ (∀ x ∈ l.take k, x.length ≤ 500) ∧ ∃ G lg m, Lv w wr q p G lg m ∧ Tk false 1048576 [] [] (l.take k) 1048576 (16 + 508 * k) 2 lg m 1 [] [] ∧ K.OwnOf ivc 1 3 wr w.heap.size ev (endsI l k) ∧ ∀ g, ev.ownBlock = some g → ¬ G g
theorem cat_bound : ∀ (l : List (List UInt8)), (∀ x ∈ l, x.length ≤ 500) → (catL l).length ≤ 508 * l.length
  | [], _ => by simp [catL]
  | x :: l, h => by
    have h1 := cat_bound l (fun y hy => h y (by simp [hy]))
    have h2 := h x (by simp)
    have h3 := sealL_length x (by omega)
    show (sealL x ++ catL l).length ≤ _
    rw [List.length_append, h3]
    simp
    omega
/-- A flush that stays in its part. -/
theorem Lv.flushS {w wr : World} {q p : Nat} {G : Nat → Prop} {lg : Lg} {m : M} {ws : List (List UInt8)} {R : Int} {N C : Nat} {part : Int} (h : Lv w wr q p G lg m) (t : Tk false part [] [] ws R N C lg m 1 [] []) (he : Env w) (hN : (N : Int) + 16 ≤ R) (hC : C ≤ 60000) (hp : ((catL ws).length : Int) ≤ part) :
    Calls Tryz.prog 14 #[.pointer (some ⟨q, 0, none⟩)] wr fun e w' => e = .returned (.int .i64 0) ∧ ∃ G' l' m', Lv w w' q p G' l' m' ∧ Moved wr w' G G' ∧ Log m' true [] 1 [] ws [] ∧ To m m' ((catL ws).length + 16) 4 := by
  obtain ⟨V, F, h1, rfl⟩ := h.ld
  have hc := t.cnt
  refine (flush_at h1 t.lg.p.ok (by omega) (h.env he) (h.six he) (t.lastr (by omega))).mono ?_
  rintro e w' ⟨rfl, V', F', h2, mv⟩
  obtain ⟨m', e0, g1, g2⟩ := flush_stay t hN (by omega) hp
  rw [e0] at h2 ⊢
  exact ⟨rfl, _, _, m', h.to h2.to mv, mv, g1, g2⟩
/-- A store whose log is of one part, whose bytes are those records and no whole one more. -/
def Torn (bk : List (List UInt8)) (C : Nat) (m : M) : Prop := ∃ Y tear, Pre m true [] 1 [] Y ∧ Y.now = catL bk ++ tear ∧ Small bk ∧ (wholeC (catL bk ++ tear) = bk ∧ wholeS (catL bk ++ tear) = (catL bk).length) ∧ m.left = 0 ∧ m.dark = false ∧ m.count ≤ C ∧ M.Cap m 100000
theorem Sv.openT {w wr : World} {p : Nat} {F : Nat → Prop} {m : M} {bk : List (List UInt8)} {C : Nat} (h : Sv w wr p F m) (t : Torn bk C m) (he : Env w) (hC : C ≤ 60000) (part : Int) (hp : 1 ≤ part ∧ part ≤ 1048576) :
    Calls Tryz.prog 11 #[.pointer (some ⟨p, 0, none⟩), .int .i64 part] wr fun e w' => ∃ q cv rv base, e = .returned (.tuple #[.pointer (some ⟨q, 0, none⟩), cv, rv, .int .i64 0]) ∧ Recs w' base rv bk ∧ ∃ F' m', Sv w w' p F' m' ∧ Moved wr w' F F' ∧ Torn bk (C + 2) m' ∧ m'.Ok ∧ m'.read (nameB 1) = (catL bk, 0) := by
  obtain ⟨Y, tear, g1, g2, g3, g4, g5, g6, g7, g8⟩ := t
  refine (open_at h.st g1.ok g1.short (fun i => by have := (g8 i).1; omega) (by omega) (h.env he) (h.six he) part).mono ?_
  rintro e w' ho
  obtain ⟨l', m', e0, k1, k2⟩ := open_pre g1 g2 g3 g4 g5 g6 (by omega) part hp
  rw [e0] at ho
  rcases ho with ⟨hz, _⟩ | ⟨_, q', V', F', cv, rv, base, rfl, j1, j2, _, _, j5, _⟩
  · exact absurd rfl hz
  · have hc := k2.count
    have hd := k2.lit.trans g6
    have hpb := k1.p.v.pb
    simp only [List.append_nil] at hpb
    have e1 : (1 : Int) + (([] : List (List (List UInt8))).length : Int) = 1 := by simp
    rw [e1] at hpb
    refine ⟨q', cv, rv, base, rfl, j5, F', m', h.to j1.st (moved_in j2), moved_in j2, ⟨_, [], k1.p, rfl, g3, k1.tr, k2.left g5, hd, by omega, k2.cap _ g8⟩, k1.p.ok, M.read_go hd (nameB_good (by omega)) hpb⟩
set_option maxRecDepth 20000 in
set_option maxHeartbeats 8000000 in
theorem tearsL_law (va : Option Addr) (vc : Nat) (l : List (List UInt8)) (cut : Int) (hcut : 0 ≤ cut ∧ cut < 18446744073709551616) (w : World) (he : Env w) (hr : Rw w (.slice va l.length vc) l) (hl63 : l.length ≤ 140737488351232) :
    Calls Tryz.prog 5 #[.slice va l.length vc, .int .u64 cut] w fun e w' => e = .returned (.bool true) ∧ Below w.heap.size w w' := by
  have HL : Hid (∀ V, Below w.heap.size w V → Calls Tryz.prog 9 #[] V fun e w' => e = .returned (.bool true) ∧ Below V.heap.size V w') := fun V b => livesL_any V (he.below b)
  have HF : Hid (Env w ∧ Rw w (.slice va l.length vc) l) := ⟨he, hr⟩
  clear he hr
  have hN := new_any 1048576 w (by decide) (by decide)
  go_enter Tryz.func5, Tryz.ntmps5
  go_wp2_with fail
  refine hN.mono ?_
  rintro e w2 ⟨p, rfl, F0, s0, f0, b0⟩
  have H0 : Sv w w2 p F0 (M.new 1048576) := ⟨s0, f0, b0⟩
  have hO := H0.new HF.out.1 (by decide) (by decide) 1048576 (by decide)
  clear hN s0 f0 b0 H0
  go_wp2_with fail
  refine hO.mono ?_
  rintro e w3 ⟨q, cv, rv, rfl, G1, l1, m1, H1, -, T1⟩
  have HS : Hid (LpE w (w3.alloc (.cells #[.int .i64 0] 3)) q p (.slice (some ⟨w3.heap.size, 0, none⟩) 1 1) l 0) := by
    have bA : Below w3.heap.size w3 (w3.alloc (.cells #[.int .i64 0] 3)) := (Below.refl _ _).alloc (Nat.le_refl _) _
    refine ⟨fun h => by omega, fun x hx => by simp at hx, G1, l1, m1, H1.go bA, T1, K.ownOf_one (enc := ivc) (T := 3) w3 w.heap.size 0 H1.bel.size, fun g hg hG => ?_⟩
    injection hg with hg
    have := H1.lts g hG
    simp at hg
    omega
  clear hO H1 T1
  go_wp2
  go_loopg [10, 35] l.length (fun g u10 u35 wr => ∃ (k : Nat), u35 = .int .i64 k ∧ k ≤ l.length ∧ g = l.length - k ∧ Hid (LpE w wr q p u10 l k))
  case atStart => exact ⟨0, rfl, Nat.zero_le _, rfl, HS⟩
  case round =>
    obtain ⟨k, rfl, hk, rfl, HK⟩ := hrel
    clear HS
    by_cases hlt : k < l.length
    · have hlt' : (k : Int) < (l.length : Int) := by omega
      obtain ⟨hk50, hk5, G, lg, m, H, T, own, nev⟩ := HK.out
      obtain ⟨ea, ec, hev⟩ := own.rng.slice
      obtain ⟨kn, hkn⟩ : ∃ z, k + 1 = z := ⟨_, rfl⟩
      rw [endsI_length, hkn] at hev
      subst hev
      obtain ⟨b, off, cap, hv, _, _, hat⟩ := HF.out.2.at (by omega)
      injection hv with hv1 _ hv3
      subst hv1 hv3
      obtain ⟨xa, xc, hx0', hxh⟩ := hat k hlt
      have hx0 := cell_on H.bel hx0'
      have hxs : l.take (k + 1) = l.take k ++ [l[k]] := List.take_succ_eq_append_getElem hlt
      obtain ⟨x, hx⟩ : ∃ x, l[k] = x := ⟨_, rfl⟩
      rw [hx] at hx0 hxh hxs
      obtain ⟨xl, hxl⟩ : ∃ z, x.length = z := ⟨_, rfl⟩
      rw [hxl] at hx0 hxh
      have HX : Hid (Holds w (.slice xa xl xc) x ∧ x.length = xl ∧ l.take (k + 1) = l.take k ++ [x] ∧ (∀ y ∈ l.take k, y.length ≤ 500)) := ⟨hxh, hxl, hxs, hk5⟩
      have HV : Hid (Lv w wr q p G lg m) := H
      have HT : Hid (Tk false 1048576 [] [] (l.take k) 1048576 (16 + 508 * k) 2 lg m 1 [] []) := T
      have HE : Hid (K.OwnOf ivc 1 3 wr w.heap.size (.slice ea kn ec) (endsI l k) ∧ ∀ g, (Value.slice ea kn ec).ownBlock = some g → ¬ G g) := ⟨own, nev⟩
      have c := HL.out wr H.bel
      have HB : Hid (Below w.heap.size w wr) := H.bel
      clear H T own nev hx0' hxh hxs hk5 hat hx hxl HK hk50
      by_cases h500 : 500 < xl
      · have h500' : (500 : Int) < (xl : Int) := by omega
        go_wp2_with (go_at_call 9; refine c.mono ?_; rintro e w2 ⟨rfl, b2⟩)
        go_ret
        exact ⟨rfl, keptW HB.out b2⟩
      have h500' : ¬ (500 : Int) < (xl : Int) := by omega
      by_cases h50 : 50 < l.length
      · have h50' : (50 : Int) < (l.length : Int) := by omega
        go_wp2_with (go_at_call 9; refine c.mono ?_; rintro e w2 ⟨rfl, b2⟩)
        go_ret
        exact ⟨rfl, keptW HB.out b2⟩
      have h50' : ¬ (50 : Int) < (l.length : Int) := by omega
      clear c
      have hA := HV.out.add0 HT.out HF.out.1 (.slice xa xl xc) x (HV.out.hold HX.out.1) (by omega) (by have := HX.out.2.1; omega) (by rw [List.length_take]; omega)
      go_wp2_with fail
      refine hA.mono ?_
      rintro e Y ⟨rfl, G1, l1, H1, mv1, T1⟩
      have HV1 : Hid (Lv w Y q p G1 l1 m) := H1
      have HT1 : Hid (Tk false 1048576 [] [] (l.take k ++ [x]) 1048576 (16 + 508 * k + x.length + 8) 2 l1 m 1 [] []) := T1
      have hown1 := HE.out.1.same (w' := Y) fun g hg => mv1.block g (HE.out.1.lt hg).2 (HE.out.2 g hg)
      have hne1 : ∀ g, (Value.slice ea kn ec).ownBlock = some g → ¬ G1 g := fun g hg hG => (mv1.sub g hG).elim (HE.out.2 g hg) (fun hh => by have := (HE.out.1.lt hg).2; omega)
      obtain ⟨ge, rfl, hnn, hec, hecm, hcl⟩ := ends_cell hown1 (by rw [endsI_length]; omega)
      clear hnn
      rw [endsI_length] at hec
      have hlast := hcl k _ (endsI_get l k k (Nat.le_refl _))
      have HE1 : Hid (K.OwnOf ivc 1 3 Y w.heap.size (.slice (some ⟨ge, 0, none⟩) kn ec) (endsI l k) ∧ ∀ g, (Value.slice (some ⟨ge, 0, none⟩) kn ec).ownBlock = some g → ¬ G1 g) := ⟨hown1, hne1⟩
      obtain ⟨la, hla⟩ : ∃ z, (catL (l.take k)).length = z := ⟨_, rfl⟩
      rw [hla] at hlast
      have hlab : la ≤ 508 * k := by
        have := cat_bound (l.take k) HX.out.2.2.2
        rw [hla, List.length_take] at this
        omega
      have HLa : Hid ((catL (l.take k)).length = la) := hla
      clear hA H1 T1 mv1 hcl hown1 hne1 HV HT HE hla
      have hsx : (sealL x).length = xl + 8 := by rw [sealL_length x (by have := HX.out.2.1; omega), HX.out.2.1]
      have HSe : Hid (∀ V, Below Y.heap.size Y V → Calls Tryz.prog 24 #[.slice xa xl xc] V fun e w' => ∃ a c, e = .returned (.slice a (xl + 8) c) ∧ Below V.heap.size V w') := fun V b => by
        have hh : Holds V (.slice xa xl xc) x := HX.out.1.below (keptW HV1.out.bel b) (Nat.le_refl _)
        refine (rseal_any _ x V hh).mono ?_
        rintro e w' ⟨v, rfl, o1, b1⟩
        obtain ⟨a, c, rfl⟩ := o1.holds.slice
        exact ⟨a, c, by rw [hsx], b1⟩
      have HLc : Hid (∀ V, Below Y.heap.size Y V → V.cell? ⟨ge, k, none⟩ = some (.int .i64 la)) := fun V b => cell_on b hlast
      have HOw : Hid (∀ V, Below Y.heap.size Y V → K.OwnOf ivc 1 3 V w.heap.size (.slice (some ⟨ge, 0, none⟩) kn ec) (endsI l k)) := fun V b => HE1.out.1.kept b (Nat.le_refl _)
      obtain ⟨ii, hii, hiz, his, hib⟩ := intInfo
      have hi0 : (0 : Int) ≤ (kn : Int) - 1 := by omega
      have hi1 : (kn : Int) - 1 < (kn : Int) := by omega
      have hi2 : ((kn : Int) - 1).toNat = k := by omega
      have hi3 : ((kn : Int) - 1) = (k : Int) := by omega
      have hknl : (kn : Int) ≤ 100 := by omega
      have hk1n : (1 : Int) ≤ (kn : Int) := by omega
      have hwk := wrap_i64 (k : Int) (by omega)
      have hkl : (k : Int) < (kn : Int) := by omega
      have hwx := wrap_i64 ((la : Int) + ((xl : Int) + 8)) (by omega)
      clear hsx
      go_wp2
      have HNx : Hid (∀ w3 w4 v4, Below Y.heap.size Y w3 → K.OwnOf ivc 1 3 w4 w.heap.size v4 (endsI l k ++ [(la : Int) + ((xl : Int) + 8)]) → (w3.alloc (.cells #[.int .i64 ((la : Int) + ((xl : Int) + 8))] 3)).grownBy w4 (Value.slice (some ⟨ge, 0, none⟩) kn ec).ownBlock → K.NewOr (w3.alloc (.cells #[.int .i64 ((la : Int) + ((xl : Int) + 8))] 3)) (.slice (some ⟨ge, 0, none⟩) kn ec) v4 → LpE w w4 q p v4 l (k + 1)) := fun w3 w4 v4 hb3 own4 gr4 nw4 => by
        have hLx := (HV1.out.go hb3).go ((Below.refl _ _).alloc (Nat.le_refl _) (.cells #[.int .i64 ((la : Int) + ((xl : Int) + 8))] 3))
        have hcat : (catL (l.take (k + 1))).length = la + (xl + 8) := by
          rw [HX.out.2.2.1, catL_append, List.length_append, HLa.out]
          show la + (sealL x ++ []).length = _
          rw [List.append_nil, sealL_length x (by have := HX.out.2.1; omega), HX.out.2.1]
        refine ⟨fun _ => by omega, fun y hy => ?_, G1, l1, m, hLx.grewI ((HOw.out w3 hb3).alloc _) gr4 HE1.out.2, ?_, ?_, fun g hg hG => ?_⟩
        · rw [HX.out.2.2.1] at hy
          rcases List.mem_append.1 hy with hy | hy
          · exact HX.out.2.2.2 y hy
          · rw [List.mem_singleton.1 hy, HX.out.2.1]; omega
        · rw [HX.out.2.2.1]
          exact HT1.out.mono (by have := HX.out.2.1; omega) (Nat.le_refl _)
        · rw [endsI_succ, hcat]
          exact own4
        · rcases nw4 with e | ⟨g', e, h1⟩
          · exact HE1.out.2 g (e ▸ hg) hG
          · rw [e] at hg
            injection hg with hg
            have := hLx.lts g hG
            omega
      first
      | (go_region_law (first
          | (rw [if_pos (by simp [Region.wanted])]; go_simp; refine Calls.mono (HSe.out _ (by first | exact Below.refl _ _ | exact (Below.refl _ _).drew | exact drewN_below _ _)) ?_; rintro e w3 ⟨a3, c3, rfl, b3⟩; have hb3 : Below Y.heap.size Y w3 := Below.trans (by first | exact Below.refl _ _ | exact (Below.refl _ _).drew | exact drewN_below _ _) b3; have hlast3 := HLc.out w3 hb3; dsimp only)
          | (refine K.step_append_rows (enc := ivc) rfl (.tmp 52) (.tmp 63) 47 rfl Tryz.underlying47 ii _ 8 hii hiz his hib rfl w.heap.size (.slice (some ⟨ge, 0, none⟩) kn ec) (.slice (some ⟨w3.heap.size, 0, none⟩) 1 1) (endsI l k) [(la : Int) + ((xl : Int) + 8)] (by first | (simp [Act.eval]; done) | simp [Act.eval, Act.put]) (by first | (simp [Act.eval]; done) | simp [Act.eval, Act.put]) ((HOw.out w3 hb3).alloc _) (K.row_one (enc := ivc) w3 _ _ rfl) (by rw [endsI_length]; unfold maxLen; simp; omega) (by rw [endsI_length]; simp; omega) (by have := hb3.size; have := HV1.out.bel.size; simp; omega) ?_; intro v4 w4 own4 gr4 nw4)))
      | fail
      all_goals go_wp2
      all_goals go_roundg (l.length - (k + 1))
      all_goals first
        | omega
        | exact ⟨k + 1, by go_num, by omega, rfl, HNx.out _ _ _ hb3 own4 gr4 nw4⟩
    · have hlt' : ¬ (k : Int) < (l.length : Int) := by omega
      obtain rfl : k = l.length := by omega
      obtain ⟨hk50, hk5, G, lg, m, H, T, own, nev⟩ := HK.out
      rw [List.take_length] at T hk5
      have hl50 : l.length ≤ 50 := by
        by_cases h0 : 0 < l.length
        · exact hk50 h0
        · omega
      obtain ⟨ea, ec, hev⟩ := own.rng.slice
      obtain ⟨kn, hkn⟩ : ∃ z, l.length + 1 = z := ⟨_, rfl⟩
      rw [endsI_length, hkn] at hev
      subst hev
      have hzb := cat_bound l hk5
      have hF := H.flushS T HF.out.1 (by omega) (by omega) (by omega)
      have HE : Hid (K.OwnOf ivc 1 3 wr w.heap.size (.slice ea kn ec) (endsI l l.length) ∧ ∀ g, (Value.slice ea kn ec).ownBlock = some g → ¬ G g) := ⟨own, nev⟩
      have HTm : Hid (m.count ≤ 2 ∧ m.left = 0 ∧ m.dark = false ∧ M.Cap m (16 + 508 * l.length) ∧ Small l) := ⟨by have := T.cnt; omega, T.nl rfl, T.lit, by obtain ⟨K, h1, h2⟩ := T.cap; exact h1.mono (by omega), T.small⟩
      clear H T own nev HK hk50
      go_wp2_with fail
      refine hF.mono ?_
      rintro e Y ⟨rfl, G1, l1, m1, H1, mv1, L1, To1⟩
      have hown1 := HE.out.1.same (w' := Y) fun g hg => mv1.block g (HE.out.1.lt hg).2 (HE.out.2 g hg)
      have hne1 : ∀ g, (Value.slice ea kn ec).ownBlock = some g → ¬ G1 g := fun g hg hG => (mv1.sub g hG).elim (HE.out.2 g hg) (fun hh => by have := (HE.out.1.lt hg).2; omega)
      obtain ⟨ge, rfl, hnn, hec, hecm, hcl⟩ := ends_cell hown1 (by rw [endsI_length]; omega)
      rw [endsI_length] at hec
      clear hnn
      obtain ⟨F1, S1, hsub, _⟩ := H1.store
      obtain ⟨Z, hZ⟩ : ∃ z, (catL l).length = z := ⟨_, rfl⟩
      have hlast := hcl l.length _ (endsI_get l l.length l.length (Nat.le_refl _))
      rw [List.take_length, hZ] at hlast
      rw [hZ] at hzb
      -- the cut
      obtain ⟨K, hK⟩ : ∃ K : Nat, cut % ((Z : Int) + 1) = (K : Int) := ⟨(cut % ((Z : Int) + 1)).toNat, by have := Int.emod_nonneg cut (show (Z : Int) + 1 ≠ 0 by omega); omega⟩
      have hKZ : K ≤ Z := by have := Int.emod_lt_of_pos cut (show (0 : Int) < (Z : Int) + 1 by omega); omega
      have HS1 : Hid (Sv w Y p F1 m1 ∧ Log m1 true [] 1 [] l [] ∧ To m m1 ((catL l).length + 16) 4) := ⟨S1, L1, To1⟩
      have HC : Hid (∀ V : World, (∀ g, g = ge → V.heap[g]? = Y.heap[g]?) → ∀ j, j ≤ l.length → V.cell? ⟨ge, j, none⟩ = some (.int .i64 ((catL (l.take j)).length : Int))) := fun V hV j hj => by
        have := hcl j _ (endsI_get l l.length j hj)
        simp only [World.cell?] at this ⊢
        rw [hV ge rfl]
        exact this
      have HG : Hid (¬ F1 ge ∧ ge < Y.heap.size) := ⟨fun h => hne1 ge rfl (hsub ge h), (hown1.lt (g := ge) rfl).2⟩
      have hcutc := cut_any p F1 m1 (nameB 1) K Y S1.st L1.p.ok (by have := To1.count; have := HTm.out.1; omega) (by have := nameB_size 1; unfold maxLen; omega)
      have hpc := L1.p.cut (To1.lit.trans HTm.out.2.2.1) (by have := To1.count; have := HTm.out.1; omega) K (by simp [dup]; omega)
      have e1 : (1 : Int) + (([] : List (List (List UInt8))).length : Int) = 1 := by simp
      rw [e1] at hpc
      obtain ⟨pk, hp1, hp2, hp3, hp4, hp5⟩ := whole_cut l K HTm.out.2.2.2.2 (by omega)
      have hnm : nameB 1 = ⟨#[108, 111, 103, 46, 49]⟩ := by kernel_rfl
      obtain ⟨m2, e2, P2, To2⟩ : ∃ m2, m1.cut (nameB 1) K = (0, m2) ∧ Pre m2 true [] 1 [] ⟨(dup (catL l ++ [])).now.take K, (dup (catL l ++ [])).sure⟩ ∧ To m1 m2 0 1 := by
        rcases hpc with h | ⟨_, _, _, h⟩
        · exact h
        · exact absurd (To1.left HTm.out.2.1) h.left
      rw [e2, hnm] at hcutc
      have HTo : Hid (Torn (l.take pk) 10 m2) := by
        have hA : catL l = catL (l.take pk) ++ catL (l.drop pk) := by rw [← catL_append, List.take_append_drop]
        have hn : (dup (catL l ++ [])).now.take K = catL (l.take pk) ++ (catL (l.drop pk)).take (K - (catL (l.take pk)).length) := by
          show (catL l ++ []).take K = _
          rw [List.append_nil]
          conv => lhs; rw [hA]
          rw [List.take_append, List.take_of_length_le hp4]
        have hn2 : (catL l).take K = catL (l.take pk) ++ (catL (l.drop pk)).take (K - (catL (l.take pk)).length) := by
          rw [← hn]
          show _ = (catL l ++ []).take K
          rw [List.append_nil]
        refine ⟨_, _, P2, hn, fun y hy => HTm.out.2.2.2.2 y (List.mem_of_mem_take hy), ⟨by rw [← hn2]; exact hp2, by rw [← hn2]; exact hp3⟩, To2.left (To1.left HTm.out.2.1), To2.lit.trans (To1.lit.trans HTm.out.2.2.1), by have := To1.count; have := To2.count; have := HTm.out.1; omega, (To2.cap _ (To1.cap _ HTm.out.2.2.2.1)).mono (by omega)⟩
      have HP : Hid (pk ≤ l.length ∧ (catL (l.take pk)).length ≤ K ∧ (pk < l.length → K < (catL (l.take (pk + 1))).length)) := ⟨hp1, hp4, hp5⟩
      have hwZ := wrap_i64 ((Z : Int) + 1) (by omega)
      have hknl : ((kn : Int)) = (l.length : Int) + 1 := by omega
      clear hF H1 mv1 L1 To1 hown1 hne1 hcl S1 hsub hpc e2 P2 To2 hp1 hp2 hp3 hp4 hp5 hnm e1 HE hknl
      have hlk : (l.length : Int) < (kn : Int) := by omega
      have hvc : l.length ≤ vc ∧ vc ≤ maxLen := by
        obtain ⟨cs, h1, h2, _⟩ := HF.out.2
        rcases h1 with ⟨e, h3⟩ | ⟨ad, cap, e, h3, h4, _⟩
        · injection e with e1 e2 e3
          unfold maxLen
          omega
        · injection e with e1 e2 e3
          omega
      unfold maxLen at hvc
      go_wp2_with fail
      refine hcutc.mono ?_
      rintro e V2 ⟨rfl, F2, s2, mv2⟩
      have HS2 : Hid (Sv w V2 p F2 m2) := HS1.out.1.to s2 mv2
      have HG2 : Hid (¬ F2 ge ∧ ge < V2.heap.size ∧ V2.heap[ge]? = Y.heap[ge]?) := ⟨fun h => (mv2.sub ge h).elim HG.out.1 (fun hh => by have := HG.out.2; omega), by have := mv2.size; have := HG.out.2; omega, mv2.block ge HG.out.2 HG.out.1⟩
      have HC2 : Hid (∀ j, j ≤ l.length → V2.cell? ⟨ge, j, none⟩ = some (.int .i64 ((catL (l.take j)).length : Int))) := fun j hj => HC.out V2 (fun g hg => by subst hg; exact HG2.out.2.2) j hj
      clear hcutc s2 mv2 HS1 HG hlast hwZ hK
      go_wp2
      go_loopg [14] l.length (fun g u14 wr => ∃ (j : Nat), u14 = .int .i64 j ∧ j ≤ pk ∧ g = l.length - j ∧ wr = V2)
      case atStart => exact ⟨0, rfl, Nat.zero_le _, rfl, rfl⟩
      case round =>
        obtain ⟨j, rfl, hj, rfl, rfl⟩ := hrel
        have hpkl := HP.out.1
        by_cases hjl : j < l.length
        · have hjl' : (j : Int) < (l.length : Int) := by omega
          have hc1 := HC2.out (j + 1) (by omega)
          obtain ⟨ej, hej⟩ : ∃ z, (catL (l.take (j + 1))).length = z := ⟨_, rfl⟩
          rw [hej] at hc1
          obtain ⟨jn, hjn⟩ : ∃ z, j + 1 = z := ⟨_, rfl⟩
          have hjn' : (j : Int) + 1 = (jn : Int) := by omega
          have hjk : (jn : Int) < (kn : Int) := by omega
          by_cases hjp : j < pk
          · have hle : (ej : Int) ≤ (K : Int) := by
              have h1 := HP.out.2.1
              have h2 := catL_len_take (l.take pk) (j + 1)
              rw [List.take_take, Nat.min_eq_left (by omega), hej] at h2
              omega
            rw [hjn] at hc1
            clear hjn hej
            go_wp2
            go_roundg (l.length - (j + 1))
            case measure => omega
            case rel => exact ⟨j + 1, by go_num, by omega, rfl, rfl⟩
          · have hle : ¬ (ej : Int) ≤ (K : Int) := by
              obtain rfl : j = pk := by omega
              have := HP.out.2.2 hjl
              omega
            rw [hjn] at hc1
            obtain rfl : j = pk := by omega
            clear hjn hej
            obtain ⟨BK, hBK⟩ : ∃ z, l.take j = z := ⟨_, rfl⟩
            obtain ⟨ep, hep⟩ : ∃ z, (catL BK).length = z := ⟨_, rfl⟩
            have HTb : Hid (Torn BK 10 m2) := by rw [← hBK]; exact HTo.out
            have HEp : Hid ((catL BK).length = ep ∧ j ≤ l.length ∧ l.take j = BK) := ⟨hep, HP.out.1, hBK⟩
            clear hep hBK
            go_wp2
            go_loopg [15] 2 (fun g u15 wr => ∃ (i : Nat), u15 = .int .i64 i ∧ i ≤ 2 ∧ g = 2 - i ∧ Hid (∃ F m, Sv w wr p F m ∧ Torn BK (10 + 2 * i) m ∧ ¬ F ge ∧ ge < wr.heap.size ∧ wr.heap[ge]? = Y.heap[ge]?))
            case atStart => exact ⟨0, rfl, by omega, rfl, F2, m2, HS2.out, HTb.out, HG2.out.1, HG2.out.2.1, HG2.out.2.2⟩
            case round =>
              obtain ⟨i, rfl, hi, rfl, HR⟩ := hrel
              by_cases hi2 : i < 2
              · have hi2' : (i : Int) < 2 := by omega
                obtain ⟨F, m, S, T, nF, hlt3, heq3⟩ := HR.out
                have hO := S.openT T HF.out.1 (by omega) 1048576 (by decide)
                have HGe : Hid (¬ F ge ∧ ge < wr.heap.size ∧ wr.heap[ge]? = Y.heap[ge]?) := ⟨nF, hlt3, heq3⟩
                clear S T nF hlt3 heq3 HR
                go_wp2_with fail
                refine hO.mono ?_
                rintro e A ⟨q2, cv2, rv2, base2, rfl, hr2, F3, m3, S3, mv3, T3, o3, rd3⟩
                have hRd := read_any p F3 m3 (nameB 1) A S3.st o3 (by have := nameB_size 1; unfold maxLen; omega)
                rw [rd3, show nameB 1 = ⟨#[108, 111, 103, 46, 49]⟩ by kernel_rfl] at hRd
                have HA : Hid (Sv w A p F3 m3 ∧ Torn BK (10 + 2 * i + 2) m3 ∧ ¬ F3 ge ∧ ge < A.heap.size ∧ A.heap[ge]? = Y.heap[ge]? ∧ Recs A base2 rv2 BK) := ⟨S3, T3, fun h => (mv3.sub ge h).elim HGe.out.1 (fun hh => by have := HGe.out.2.1; omega), by have := mv3.size; have := HGe.out.2.1; omega, (mv3.block ge HGe.out.2.1 HGe.out.1).trans HGe.out.2.2, hr2⟩
                obtain ⟨ra, rc, rfl⟩ := hr2.slice
                clear hO S3 mv3 T3 o3 rd3 hr2 HGe
                go_wp2_with fail
                refine hRd.mono ?_
                rintro e B ⟨bv, rfl, hbv, bB⟩
                obtain ⟨ba, bc, hbs⟩ := hbv.slice
                rw [HEp.out.1] at hbs
                subst hbs
                have HB : Hid (Below A.heap.size A B) := bB
                have HCD : Hid (∀ D, Below B.heap.size B D → D.cell? ⟨ge, j, none⟩ = some (.int .i64 (ep : Int))) := fun D bD => by
                  have := HC.out D (fun g hg => by subst hg; exact (bD.block _ (by have := HB.out.size; have := HA.out.2.2.2.1; omega)).trans ((HB.out.block _ HA.out.2.2.2.1).trans HA.out.2.2.2.2.1)) j HEp.out.2.1
                  rw [HEp.out.2.2, HEp.out.1] at this
                  exact this
                have hSl := sameL_any (.slice ra BK.length rc) (.slice va j vc) BK BK B (HA.out.2.2.2.2.2.rw.kept HB.out) (by have := (HF.out.2.kept (keptW HA.out.1.bel HB.out)).take j HEp.out.2.1; rw [HEp.out.2.2] at this; exact this)
                have hrr : (BK == BK) = true := by simp
                rw [hrr] at hSl
                have hpv : (j : Int) ≤ (vc : Int) := by have := HEp.out.2.1; omega
                have hpv2 : j ≤ vc := by omega
                have hpv3 : vc ≤ 9223372036854775807 := hvc.2
                have hjn : (j : Int) < (kn : Int) := by have := HEp.out.2.1; omega
                clear hRd hbv bB hrr
                go_wp2_with fail
                refine hSl.mono ?_
                rintro e D ⟨rfl, bD⟩
                have hcD := HCD.out D bD
                have HD : Hid (Below A.heap.size A D) := keptW HB.out bD
                clear hSl bD
                go_wp2
                go_roundg (2 - (i + 1))
                case measure => omega
                case rel => exact ⟨i + 1, by go_num, by omega, rfl, F3, m3, HA.out.1.go HD.out, HA.out.2.1, HA.out.2.2.1, by have := HD.out.size; have := HA.out.2.2.2.1; omega, (HD.out.block _ HA.out.2.2.2.1).trans HA.out.2.2.2.2.1⟩
              · have hi2' : ¬ (i : Int) < 2 := by omega
                obtain ⟨F, m, S, T, _⟩ := HR.out
                have c := HL.out wr S.bel
                have HB : Hid (Below w.heap.size w wr) := S.bel
                clear S T HR
                go_wp2_with (go_at_call 9; refine c.mono ?_; rintro e w2 ⟨rfl, b2⟩)
                go_ret
                exact ⟨rfl, keptW HB.out b2⟩
        · have hjl' : ¬ (j : Int) < (l.length : Int) := by omega
          obtain rfl : j = pk := by omega
          obtain ⟨BK, hBK⟩ : ∃ z, l.take j = z := ⟨_, rfl⟩
          obtain ⟨ep, hep⟩ : ∃ z, (catL BK).length = z := ⟨_, rfl⟩
          have HTb : Hid (Torn BK 10 m2) := by rw [← hBK]; exact HTo.out
          have HEp : Hid ((catL BK).length = ep ∧ j ≤ l.length ∧ l.take j = BK) := ⟨hep, HP.out.1, hBK⟩
          clear hep hBK
          go_wp2
          go_loopg [15] 2 (fun g u15 wr => ∃ (i : Nat), u15 = .int .i64 i ∧ i ≤ 2 ∧ g = 2 - i ∧ Hid (∃ F m, Sv w wr p F m ∧ Torn BK (10 + 2 * i) m ∧ ¬ F ge ∧ ge < wr.heap.size ∧ wr.heap[ge]? = Y.heap[ge]?))
          case atStart => exact ⟨0, rfl, by omega, rfl, F2, m2, HS2.out, HTb.out, HG2.out.1, HG2.out.2.1, HG2.out.2.2⟩
          case round =>
            obtain ⟨i, rfl, hi, rfl, HR⟩ := hrel
            by_cases hi2 : i < 2
            · have hi2' : (i : Int) < 2 := by omega
              obtain ⟨F, m, S, T, nF, hlt3, heq3⟩ := HR.out
              have hO := S.openT T HF.out.1 (by omega) 1048576 (by decide)
              have HGe : Hid (¬ F ge ∧ ge < wr.heap.size ∧ wr.heap[ge]? = Y.heap[ge]?) := ⟨nF, hlt3, heq3⟩
              clear S T nF hlt3 heq3 HR
              go_wp2_with fail
              refine hO.mono ?_
              rintro e A ⟨q2, cv2, rv2, base2, rfl, hr2, F3, m3, S3, mv3, T3, o3, rd3⟩
              have hRd := read_any p F3 m3 (nameB 1) A S3.st o3 (by have := nameB_size 1; unfold maxLen; omega)
              rw [rd3, show nameB 1 = ⟨#[108, 111, 103, 46, 49]⟩ by kernel_rfl] at hRd
              have HA : Hid (Sv w A p F3 m3 ∧ Torn BK (10 + 2 * i + 2) m3 ∧ ¬ F3 ge ∧ ge < A.heap.size ∧ A.heap[ge]? = Y.heap[ge]? ∧ Recs A base2 rv2 BK) := ⟨S3, T3, fun h => (mv3.sub ge h).elim HGe.out.1 (fun hh => by have := HGe.out.2.1; omega), by have := mv3.size; have := HGe.out.2.1; omega, (mv3.block ge HGe.out.2.1 HGe.out.1).trans HGe.out.2.2, hr2⟩
              obtain ⟨ra, rc, rfl⟩ := hr2.slice
              clear hO S3 mv3 T3 o3 rd3 hr2 HGe
              go_wp2_with fail
              refine hRd.mono ?_
              rintro e B ⟨bv, rfl, hbv, bB⟩
              obtain ⟨ba, bc, hbs⟩ := hbv.slice
              rw [HEp.out.1] at hbs
              subst hbs
              have HB : Hid (Below A.heap.size A B) := bB
              have HCD : Hid (∀ D, Below B.heap.size B D → D.cell? ⟨ge, j, none⟩ = some (.int .i64 (ep : Int))) := fun D bD => by
                have := HC.out D (fun g hg => by subst hg; exact (bD.block _ (by have := HB.out.size; have := HA.out.2.2.2.1; omega)).trans ((HB.out.block _ HA.out.2.2.2.1).trans HA.out.2.2.2.2.1)) j HEp.out.2.1
                rw [HEp.out.2.2, HEp.out.1] at this
                exact this
              have hSl := sameL_any (.slice ra BK.length rc) (.slice va j vc) BK BK B (HA.out.2.2.2.2.2.rw.kept HB.out) (by have := (HF.out.2.kept (keptW HA.out.1.bel HB.out)).take j HEp.out.2.1; rw [HEp.out.2.2] at this; exact this)
              have hrr : (BK == BK) = true := by simp
              rw [hrr] at hSl
              have hpv : (j : Int) ≤ (vc : Int) := by have := HEp.out.2.1; omega
              have hpv2 : j ≤ vc := by omega
              have hpv3 : vc ≤ 9223372036854775807 := hvc.2
              have hjn : (j : Int) < (kn : Int) := by have := HEp.out.2.1; omega
              clear hRd hbv bB hrr
              go_wp2_with fail
              refine hSl.mono ?_
              rintro e D ⟨rfl, bD⟩
              have hcD := HCD.out D bD
              have HD : Hid (Below A.heap.size A D) := keptW HB.out bD
              clear hSl bD
              go_wp2
              go_roundg (2 - (i + 1))
              case measure => omega
              case rel => exact ⟨i + 1, by go_num, by omega, rfl, F3, m3, HA.out.1.go HD.out, HA.out.2.1, HA.out.2.2.1, by have := HD.out.size; have := HA.out.2.2.2.1; omega, (HD.out.block _ HA.out.2.2.2.1).trans HA.out.2.2.2.2.1⟩
            · have hi2' : ¬ (i : Int) < 2 := by omega
              obtain ⟨F, m, S, T, _⟩ := HR.out
              have c := HL.out wr S.bel
              have HB : Hid (Below w.heap.size w wr) := S.bel
              clear S T HR
              go_wp2_with (go_at_call 9; refine c.mono ?_; rintro e w2 ⟨rfl, b2⟩)
              go_ret
              exact ⟨rfl, keptW HB.out b2⟩
end Go.Proofs.YtjgdmbfkondakaaGreatDoor
