/-
  RECORDS in memory: a row of rows of bytes of the call's own.
-/
import Derived.Test.YtjgdmbfkondakaaGreatDoorJFlush
import Derived.Test.YtjgdmbfkondakaaGreatDoorJSlabs
namespace Go.Proofs.YtjgdmbfkondakaaGreatDoor
open Go.RowKit

structure Bv where
  a : Option Addr
  n : Nat
  c : Nat
def Bv.v (x : Bv) : Value := .slice x.a x.n x.c
def bvc (x : Bv) : List Value := [.slice x.a x.n x.c]
instance : K.Enc bvc 1 where
  len _ := rfl
  one r u hu := by
    simp only [bvc, List.mem_cons, List.not_mem_nil, or_false] at hu
    rcases hu with rfl
    rfl
  pos := by decide
theorem bvc_cells (B : List Bv) : K.cellsOf bvc B = B.map Bv.v := by
  induction B with
  | nil => rfl
  | cons x r ih => rw [K.cellsOf_cons, ih]; rfl
theorem bytesInfo : ∃ i, Tryz.prog.info? 31 = some i ∧ i.zero = some (.slice none 0 0) ∧ i.size = 1 ∧ i.bytes = 24 := by
  have hinfo : (Tryz.prog.info? 31).map (fun i => (i.zero, i.size, i.bytes)) = some (some (.slice none 0 0), 1, 24) := by kernel_rfl
  exact info_parts hinfo
/-- The slice v is of the call's own, from block number base on, and holds these records. -/
def Recs (w : World) (base : Nat) (v : Value) (rs : List (List UInt8)) : Prop := ∃ B : List Bv, K.OwnOf bvc 1 31 w base v B ∧ OwnsAll w base (B.map Bv.v) rs
theorem recs_nil (w : World) (base : Nat) : Recs w base (.slice none 0 0) [] := ⟨[], K.ownOf_nil _ _, ownsAll_nil _ _⟩
theorem own1_of {w : World} {base : Nat} {v : Value} {B : List Bv} (h : K.OwnOf bvc 1 31 w base v B) : Own1 w base 31 v (B.map Bv.v) := by
  unfold K.OwnOf at h
  rw [bvc_cells] at h
  have hl : (B.map Bv.v).length = B.length := by simp
  unfold Own1
  rw [hl]
  exact h
theorem Recs.kept {w w' : World} {base B : Nat} {v : Value} {rs : List (List UInt8)} (h : Recs w base v rs) (hb : Below B w w') (hB : w.heap.size ≤ B) : Recs w' base v rs := by
  obtain ⟨L, h1, h2⟩ := h
  exact ⟨L, h1.kept hb hB, h2.kept hb hB⟩
theorem Recs.slice {w : World} {base : Nat} {v : Value} {rs : List (List UInt8)} (h : Recs w base v rs) : ∃ a c, v = .slice a rs.length c := by
  obtain ⟨L, h1, h2⟩ := h
  obtain ⟨a, c, e⟩ := h1.rng.slice
  have : L.length = rs.length := by have := h2.1; simpa using this
  exact ⟨a, c, by rw [e, this]⟩
/-- Rows that Whole told. -/
theorem rows_of_all {w : World} {base : Nat} {v : Value} {cs : List Value} {ls : List (List UInt8)} (h : Row w v cs) (ha : OwnsAll w base cs ls) : ∃ B : List Bv, cs = B.map Bv.v ∧ K.RowOf bvc w v B := by
  have hB : ∃ B : List Bv, cs = B.map Bv.v := by
    obtain ⟨h1, h2⟩ := ha
    have : ∀ (cs : List Value) (ls : List (List UInt8)), cs.length = ls.length → (∀ (j : Nat) (v : Value) (l : List UInt8), cs[j]? = some v → ls[j]? = some l → Owns w base 5 v l) → ∃ B : List Bv, cs = B.map Bv.v := by
      intro cs
      induction cs with
      | nil => intro _ _ _; exact ⟨[], rfl⟩
      | cons x r ih =>
        intro ls hl ho
        cases ls with
        | nil => simp at hl
        | cons y t =>
          obtain ⟨B, hB⟩ := ih t (by simpa using hl) (fun j v l hv hl => ho (j + 1) v l (by simpa using hv) (by simpa using hl))
          have hx := ho 0 x y rfl rfl
          obtain ⟨a, c, e⟩ := hx.holds.slice
          exact ⟨⟨a, y.length, c⟩ :: B, by rw [hB, e]; rfl⟩
    exact this cs ls h1 h2
  obtain ⟨B, rfl⟩ := hB
  refine ⟨B, rfl, ?_⟩
  rcases h with ⟨hv, he⟩ | ⟨ad, cap, hv, h1, h2, h3⟩
  · have : B = [] := by simpa using he
    subst this
    exact .inl ⟨hv, rfl⟩
  · have hl : (B.map Bv.v).length = B.length := by simp
    rw [hl] at hv h1
    refine .inr ⟨ad, cap, hv, h1, h2, fun j u hj => ?_⟩
    rw [bvc_cells] at hj
    exact h3 j u hj
/-- Records behind records. -/
theorem Recs.more {w w' : World} {base : Nat} {v v' : Value} {rs ls : List (List UInt8)} {L B : List Bv} (h1 : K.OwnOf bvc 1 31 w base v L) (h2 : OwnsAll w base (L.map Bv.v) rs) (h3 : OwnsAll w base (B.map Bv.v) ls) (gr : w.grownBy w' v.ownBlock) (own : K.OwnOf bvc 1 31 w' base v' (L ++ B)) : Recs w' base v' (rs ++ ls) := by
  refine ⟨L ++ B, own, ?_⟩
  have e1 := h2.keptRow (own1_of h1) gr
  have e2 := h3.keptRow (own1_of h1) gr
  rw [List.map_append]
  refine ⟨by rw [List.length_append, List.length_append, e1.1, e2.1], fun j u x hu hx => ?_⟩
  by_cases hj : j < (L.map Bv.v).length
  · rw [List.getElem?_append_left hj] at hu
    rw [List.getElem?_append_left (by rw [← e1.1]; exact hj)] at hx
    exact e1.2 j u x hu hx
  · rw [List.getElem?_append_right (by omega)] at hu
    rw [List.getElem?_append_right (by rw [← e1.1]; omega), ← e1.1] at hx
    exact e2.2 _ u x hu hx
end Go.Proofs.YtjgdmbfkondakaaGreatDoor

/-
  load, by its contract.
-/
namespace Go.Proofs.YtjgdmbfkondakaaGreatDoor
open Go.RowKit

/-- The parts from the first on. -/
def partsL (first : Int) (m : M) : List Int := (numsM m).filter fun n => !(decide (n < first))
/-- What the parts tell: how many bytes of the last one are whole records, how many more it has, the records; or an error. -/
def readAll (m : M) : List Int → Int → Int → List (List UInt8) → Int ⊕ (Int × Int × List (List UInt8))
  | [], size, more, rs => .inr (size, more, rs)
  | n :: r, _, more, rs => if 0 < more then .inl 7 else if (m.read (nameB n)).2 ≠ 0 then .inl (m.read (nameB n)).2
    else readAll m r (wholeS (m.read (nameB n)).1) (((m.read (nameB n)).1.length : Int) - wholeS (m.read (nameB n)).1) (rs ++ wholeC (m.read (nameB n)).1)
def loadL (l : Lg) (m : M) (first : Int) : Int × Lg × M × List (List UInt8) :=
  if partsL first m = [] then ((beginL l m first).1, (beginL l m first).2.1, (beginL l m first).2.2, [])
  else if ((partsL first m).length : Int) ≠ (partsL first m).getLastD 0 - first + 1 then (7, { l with last := (partsL first m).getLastD 0 }, m, [])
  else match readAll m (partsL first m) 0 0 [] with
    | .inl e => (e, { l with last := (partsL first m).getLastD 0 }, m, [])
    | .inr (size, more, rs) => ((trimL size more { l with last := (partsL first m).getLastD 0 } m).1, (trimL size more { l with last := (partsL first m).getLastD 0 } m).2.1, (trimL size more { l with last := (partsL first m).getLastD 0 } m).2.2, rs)
theorem parts_range {first : Int} {m : M} {n : Int} (h : n ∈ partsL first m) : 1 ≤ n ∧ n ≤ 999999999 := nums_range (List.mem_filter.1 h).1
theorem wholeS_le : ∀ bs : List UInt8, wholeS bs ≤ bs.length := by
  intro bs
  induction hn : bs.length using Nat.strongRecOn generalizing bs with
  | _ n ih =>
    by_cases h : errO bs = 0
    · rw [wholeS_ok bs h]
      have h1 := errO_zero bs h
      have h2 := (openO_good bs h).2
      have := ih (bs.drop (sizeO bs)).length (by rw [List.length_drop]; omega) (bs.drop (sizeO bs)) rfl
      rw [List.length_drop] at this
      omega
    · rw [wholeS_end bs h]; omega
theorem wholeC_le : ∀ bs : List UInt8, (wholeC bs).length ≤ bs.length := by
  intro bs
  induction hn : bs.length using Nat.strongRecOn generalizing bs with
  | _ n ih =>
    by_cases h : errO bs = 0
    · rw [wholeC_ok bs h]
      have h1 := errO_zero bs h
      have h2 := (openO_good bs h).2
      have := ih (bs.drop (sizeO bs)).length (by rw [List.length_drop]; omega) (bs.drop (sizeO bs)) rfl
      rw [List.length_drop] at this
      simp only [List.length_cons]
      omega
    · rw [wholeC_end bs h]; simp
/-- Files are not too long. -/
def Light (m : M) : Prop := ∀ i, (m.fl i).now.length ≤ 1000000
theorem Light.read {m : M} (h : Light m) (n : ByteArray) : (m.read n).1.length ≤ 1000000 := by
  unfold M.read
  split
  · simp
  · exact h _
/-- How load ends. -/
def Loaded (q p : Nat) (w : World) (G : Nat → Prop) (r : Int × Lg × M × List (List UInt8)) (e : Ending) (w' : World) : Prop := ∃ v, e = .returned (.tuple #[v, .int .i64 r.1]) ∧ (∃ V' F', LdAt w' q V' r.2.1 p F' r.2.2.1 ∧ Moved w w' G (lfoot q V' F')) ∧ (r.1 = 0 → ∃ base, w.heap.size ≤ base ∧ Recs w' base v r.2.2.2)
end Go.Proofs.YtjgdmbfkondakaaGreatDoor

/-
  load, by its contract.
-/
namespace Go.Proofs.YtjgdmbfkondakaaGreatDoor
open Go.RowKit

theorem rowI_beh {w : World} {base : Nat} {v : Value} {l : List Int} (h : RowI w base v l) : ∀ ad n c, v = .slice (some ad) n c → base ≤ ad.block := by
  intro ad n c e
  rcases h with ⟨h1, _⟩ | ⟨g, cap, h1, h2, _⟩
  · rw [h1] at e; cases e
  · rw [h1] at e
    injection e with e _ _
    injection e with e
    rw [← e]
    exact h2
theorem Recs.moved {w w' : World} {base : Nat} {v : Value} {rs : List (List UInt8)} {G G' : Nat → Prop} (h : Recs w base v rs) (mv : Moved w w' G G') (hn : ∀ k, base ≤ k → ¬ G k) : Recs w' base v rs := by
  obtain ⟨L, h1, h2⟩ := h
  refine ⟨L, h1.same fun g hg => ?_, h2.1, fun j u x hu hx => ?_⟩
  · obtain ⟨k1, k2⟩ := h1.lt hg
    exact mv.block g k2 (hn g k1)
  · have ho := h2.2 j u x hu hx
    refine ⟨ho.1, ?_⟩
    rcases ho.2 with hz | ⟨g, cap, cur, hv, hbg, hg, rest⟩
    · exact .inl hz
    · exact .inr ⟨g, cap, cur, hv, hbg, by rw [mv.block g (Array.getElem?_eq_some_iff.1 hg).1 (hn g hbg)]; exact hg, rest⟩
section
variable {w : World} {q p : Nat} {V : Value} {l : Lg} {F : Nat → Prop} {m : M}
set_option maxRecDepth 20000 in
set_option maxHeartbeats 4000000 in
theorem load_at (h : LdAt w q V l p F m) (ok : m.Ok) (hsh : Short m) (hlt : Light m) (hc : m.count ≤ 80000) (he : Env w) (h6 : ∀ k, lfoot q V F k → 6 ≤ k) (first : Int) (hf : 1 ≤ first ∧ first ≤ 999999999) :
    Calls Tryz.prog 29 #[.pointer (some ⟨q, 0, none⟩), .int .i64 first] w (Loaded q p w (lfoot q V F) (loadL l m first)) := by
  obtain ⟨W0, fold0⟩ : ∃ W0, w.alloc (.cells #[.int .i64 first] 3) = W0 := ⟨_, rfl⟩
  have b0 : Below w.heap.size w W0 := by rw [← fold0]; exact (Below.refl _ _).alloc (Nat.le_refl _) _
  have x0 : Boxed W0 w.heap.size 3 (.int .i64 first) := by rw [← fold0]; exact heap_alloc_new w _
  have hs0 : w.heap.size < W0.heap.size := x0.lt
  have h0 := h.kept b0
  have c0 := h0.cells.1
  have hN := numbers_any p F m W0 h0.st ok (by omega) (he.below b0) hsh.names
  have HDel : Hid (∀ W v, Below W0.heap.size W0 W → RowI W W0.heap.size v (numsM m) → Calls Tryz.prog 70 #[v, .func (.func 71) #[] #[.pointer (some ⟨w.heap.size, 0, none⟩)]] W fun e w' => ∃ v', e = .returned v' ∧ RowI w' W0.heap.size v' (partsL first m) ∧ Below W0.heap.size W w') := fun W v b r => del_any W W0.heap.size v (numsM m) first w.heap.size r b.size hs0 (boxed_below x0 b).cell
  have H0 : Hid (LdAt W0 q V l p F m ∧ m.Ok ∧ Env W0 ∧ (∀ k, lfoot q V F k → 6 ≤ k) ∧ Boxed W0 w.heap.size 3 (.int .i64 first) ∧ Below w.heap.size w W0 ∧ Light m) := ⟨h0, ok, he.below b0, h6, x0, b0, hlt⟩
  have HRg : Hid (∀ n ∈ partsL first m, 1 ≤ n ∧ n ≤ 999999999) := fun n hn => parts_range hn
  have hpl : (partsL first m).length ≤ 80000 := by
    have h1 := nums_len ok
    have h2 : (partsL first m).length ≤ (numsM m).length := List.length_filter_le _ _
    omega
  have HLt : Hid (∀ k, lfoot q V F k → k < w.heap.size) := h.lts
  unfold loadL
  obtain ⟨P, hP⟩ : ∃ P, partsL first m = P := ⟨_, rfl⟩
  rw [hP] at HDel HRg hpl ⊢
  clear h ok hsh hlt he h6 b0 x0 h0 hs0 hP
  by_cases hPn : P = []
  · rw [if_pos hPn]
    subst hPn
    have HBg : Hid (∀ W, Below W0.heap.size W0 W → Calls Tryz.prog 72 #[.pointer (some ⟨q, 0, none⟩), .int .i64 first] W fun e w' => e = .returned (.int .i64 (beginL l m first).1) ∧ ∃ V' F', LdAt w' q V' (beginL l m first).2.1 p F' (beginL l m first).2.2 ∧ Moved W w' (lfoot q V F) (lfoot q V' F')) := fun W b => begin_at (H0.out.1.kept b) H0.out.2.1 (by omega) (H0.out.2.2.1.below b) H0.out.2.2.2.1 first (by omega)
    go_enter Tryz.func29, Tryz.ntmps29
    go_wp2_with fail
    refine hN.mono ?_
    rintro e u1 ⟨v1, rfl, r1, b1⟩
    have hD := HDel.out u1 v1 b1 r1
    obtain ⟨va1, vc1, rfl⟩ := r1.slice
    clear hN HDel r1
    go_wp2_with fail
    refine hD.mono ?_
    rintro e u2 ⟨v2, rfl, r2, b2⟩
    obtain ⟨va2, vc2, rfl⟩ := r2.slice
    have bb : Below W0.heap.size W0 u2 := b1.trans b2
    have z0 := (boxed_below H0.out.2.2.2.2.1 bb).cell
    have hB := HBg.out u2 bb
    have HM : Hid (Moved w u2 (lfoot q V F) (lfoot q V F)) := .of_below (keptW H0.out.2.2.2.2.2.1 bb)
    clear hD HBg b1 b2 r2 bb
    go_wp2_with (go_at_call 72; refine hB.mono ?_; rintro e w4 ⟨rfl, V', F', h4, mv4⟩)
    go_ret2
    exact ⟨_, rfl, ⟨V', F', h4, HM.out.trans mv4⟩, fun _ => ⟨w4.heap.size + w.heap.size, by omega, recs_nil _ _⟩⟩
  · rw [if_neg hPn]
    have hP0 : 0 < P.length := List.length_pos_iff.2 hPn
    obtain ⟨la, hla⟩ : ∃ la, P.getLastD 0 = la := ⟨_, rfl⟩
    have hlast : P[P.length - 1] = la := by
      have h1 := List.getLast_eq_getElem hPn
      rw [← hla, ← h1]
      cases P with
      | nil => exact absurd rfl hPn
      | cons x r => rw [List.getLastD_cons, List.getLast_eq_getLastD]
    have hlr := HRg.out la (by rw [← hlast]; exact List.getElem_mem _)
    rw [hla]
    obtain ⟨RA, hRA⟩ : ∃ RA, readAll m P 0 0 [] = RA := ⟨_, rfl⟩
    rw [hRA]
    obtain ⟨j1, hj1⟩ : ∃ j1 : Nat, j1 = P.length - 1 := ⟨_, rfl⟩
    have hw1 : IntKind.i64.wrap ((P.length : Int) - 1) = (j1 : Int) := by rw [IntKind.wrap_i64]; omega
    have hj1' : (j1 : Int) < (P.length : Int) := by omega
    obtain ⟨df, hdf⟩ : ∃ df : Int, df = la - first := ⟨_, rfl⟩
    have hw2 : IntKind.i64.wrap (la - first) = df := by rw [IntKind.wrap_i64]; omega
    obtain ⟨dg, hdg⟩ : ∃ dg : Int, la - first + 1 = dg := ⟨_, rfl⟩
    have hw3 : IntKind.i64.wrap (df + 1) = dg := by rw [IntKind.wrap_i64]; omega
    rw [hdg]
    have hpz : ((P.length : Int) == 0) = false := by
      rw [beq_eq_false_iff_ne]
      omega
    have hpz2 : ¬ (P.length : Int) = 0 := by omega
    have HLast : Hid (∀ (hh : j1 < P.length), P[j1] = la) := fun hh => by subst hj1; exact hlast
    clear hdf hdg hj1 hlast hla
    go_enter Tryz.func29, Tryz.ntmps29
    go_wp2_with fail
    refine hN.mono ?_
    rintro e u1 ⟨v1, rfl, r1, b1⟩
    have hD := HDel.out u1 v1 b1 r1
    obtain ⟨va1, vc1, rfl⟩ := r1.slice
    clear hN HDel r1
    go_wp2_with fail
    refine hD.mono ?_
    rintro e u2 ⟨v2, rfl, r2, b2⟩
    obtain ⟨va2, vc2, rfl⟩ := r2.slice
    have bb : Below W0.heap.size W0 u2 := b1.trans b2
    have hbeh := rowI_beh r2
    have hrow := r2.row
    obtain ⟨gb, goff, gcap, hgv, _, _, hgc⟩ := hrow.atInts (by omega)
    injection hgv with hgv1 _ hgv3
    subst hgv1 hgv3
    have n0 := hgc j1 (by omega)
    rw [HLast.out] at n0
    have z0 := (boxed_below H0.out.2.2.2.2.1 bb).cell
    have h2 := H0.out.1.kept bb
    have c2 := h2.cells.2.2.1
    have f2 := h2.frozen 2
    obtain ⟨X, hX⟩ : ∃ X, u2.setCell ⟨q, 2, none⟩ (.int .i64 la) = X := ⟨_, rfl⟩
    obtain ⟨hXl, mvX⟩ := h2.set (i := 2) (u := .int .i64 la) (l' := { l with last := la }) rfl rfl X (by rw [← hX]) (by rw [← hX]; rfl) (by rw [← hX]; rfl) (by rw [← hX]; rfl)
    have hnf : ∀ k, W0.heap.size ≤ k → ¬ lfoot q V F k := fun k hk hf => by have := H0.out.1.lts k hf; omega
    have hrowX := row_kept hrow mvX (fun ad n c e => hnf _ (hbeh ad n c e))
    have hnb : ¬ lfoot q V F w.heap.size := fun hf => by have := HLt.out _ hf; omega
    have xf : X.cell? ⟨w.heap.size, 0, none⟩ = some (.int .i64 first) := (boxed_moved (boxed_below H0.out.2.2.2.2.1 bb) mvX hnb).cell
    have xc0 := hXl.cells.1
    have xc2 := hXl.cells.2.2.1
    have HX : Hid (LdAt X q V { l with last := la } p F m ∧ Moved w X (lfoot q V F) (lfoot q V F) ∧ Env X) := ⟨hXl, (Moved.of_below (keptW H0.out.2.2.2.2.2.1 bb)).trans mvX, (H0.out.2.2.1.below bb).moved mvX H0.out.2.2.2.1⟩
    have HOK : Hid (m.Ok ∧ Light m ∧ (∀ k, lfoot q V F k → 6 ≤ k)) := ⟨H0.out.2.1, H0.out.2.2.2.2.2.2, H0.out.2.2.2.1⟩
    have HRow : Hid (∀ W, Below X.heap.size X W → Row W (.slice (some ⟨gb, goff, none⟩) P.length vc2) (icells P)) := fun W b => row_kept (G := fun _ => False) (G' := fun _ => False) hrowX (.of_below b) (fun _ _ _ _ h => h)
    clear hD b1 b2 r2 bb hbeh hrow hgc h2 hXl mvX hnf hrowX hnb H0 HLast HLt
    go_wp2
    clear hX z0 c2 f2 n0 fold0 c0
    have bX : ∀ n, Below X.heap.size X (X.drewN n) := fun n => ⟨rfl, rfl, rfl, Nat.le_refl _, fun _ _ => rfl⟩
    have HRA : Hid (readAll m P 0 0 [] = RA) := hRA
    clear hRA
    by_cases hpd : (P.length : Int) = dg
    · have hpd2 : ((P.length : Int) != dg) = false := by simpa using hpd
      have HPD : Hid ((P.length : Int) = dg) := hpd
      clear hpd
      go_quiet (fail)
      clear xf xc2 hpd2
      go_wp2
      go_loopg [7, 8, 9, 49] P.length (fun g u7 u8 u9 u49 wr => ∃ (k : Nat) (size more : Int) (rs : List (List UInt8)), u49 = .int .i64 k ∧ u8 = .int .i64 size ∧ u9 = .int .i64 more ∧ k ≤ P.length ∧ g = P.length - k ∧ Hid (Recs wr X.heap.size u7 rs ∧ Below X.heap.size X wr) ∧ Hid (readAll m (P.drop k) size more rs = RA) ∧ rs.length ≤ k * 1000000)
      case atStart => exact ⟨0, 0, 0, [], rfl, rfl, rfl, Nat.zero_le _, rfl, ⟨recs_nil _ _, bX _⟩, by rw [List.drop_zero]; exact HRA.out, by simp⟩
      case round =>
        obtain ⟨k, size, more, rs, rfl, rfl, rfl, hk, rfl, HI, HR, hrs⟩ := hrel
        by_cases hlt : k < P.length
        · have hlt' : (k : Int) < (P.length : Int) := by omega
          obtain ⟨gb2, goff2, gcap2, hgv, _, _, hgc⟩ := (HRow.out wr HI.out.2).atInts (by omega)
          injection hgv with hgv1 _ hgv3
          injection hgv1 with hgv1
          injection hgv1 with hgv4 hgv5
          subst hgv4 hgv5 hgv3
          have n0 := hgc k hlt
          have hrg := HRg.out _ (List.getElem_mem hlt)
          have hdr := List.drop_eq_getElem_cons hlt
          obtain ⟨n, hn⟩ : ∃ n, P[k] = n := ⟨_, rfl⟩
          rw [hn] at n0 hrg hdr
          rw [hdr] at HR
          clear hgc hn hdr
          obtain ⟨T, hT⟩ : ∃ T, P.drop (k + 1) = T := ⟨_, rfl⟩
          rw [hT] at HR
          have HT : Hid (P.drop (k + 1) = T) := hT
          clear hT
          have c0 := cell_on HI.out.2 xc0
          by_cases hm : 0 < more
          · have e : RA = .inl 7 := by rw [← HR.out, readAll, if_pos hm]
            subst e
            go_wp2
            go_ret2
            exact ⟨_, rfl, ⟨V, F, HX.out.1.kept HI.out.2, HX.out.2.1.trans (.of_below HI.out.2)⟩, fun h => absurd h (show ¬ (7 : Int) = 0 by decide)⟩
          · have bD : Below wr.heap.size wr wr.drew := (Below.refl _ wr).drew
            have hNm := name_any n (by omega) (by omega) wr.drew ((HX.out.2.2.below HI.out.2).below bD)
            have HRd : Hid (∀ W, Below wr.drew.heap.size wr.drew W → Calls Tryz.prog 26 #[.pointer (some ⟨p, 0, none⟩), .string (nameB n)] W fun e w' => ∃ v, e = .returned (.tuple #[v, .int .i64 (m.read (nameB n)).2]) ∧ Holds w' v (m.read (nameB n)).1 ∧ Below W.heap.size W w') := fun W b => read_any p F m (nameB n) W ((HX.out.1.kept HI.out.2).kept (keptW bD b)).st HOK.out.1 (nameB_max _)
            have hll := HOK.out.2.1.read (nameB n)
            have hR := HR.out
            rw [readAll, if_neg hm] at hR
            clear HR
            have HR : Hid _ := hR
            clear hR
            generalize nameB n = nm at *
            generalize m.read nm = rd at *
            obtain ⟨bs, z⟩ := rd
            simp only at HRd HR hll
            go_wp2
            go_region_held3 (fun w' => w'.cell? ⟨q, 0, none⟩ = some (.pointer (some ⟨p, 0, none⟩))) (go_keep) (first
              | (go_at_call 21; refine hNm.mono ?_; rintro e w2 ⟨rfl, b2⟩; have k0 := cell_on b2 c0)
              | (go_at_call 26; refine (HRd.out _ b2).mono ?_; rintro e w3 ⟨rv, rfl, hh, b3⟩; obtain ⟨ra, rc, rfl⟩ := hh.slice; have r0 := cell_on b3 k0))
            have B3 : Below wr.heap.size wr w3 := keptW (keptW bD b2) b3
            have HI3 : Hid (Recs w3 X.heap.size u7 rs ∧ Below X.heap.size X w3) := ⟨HI.out.1.kept B3 (Nat.le_refl _), keptW HI.out.2 B3⟩
            have HH : Hid (Holds w3 (.slice ra bs.length rc) bs) := hh
            clear hNm HRd bD b2 b3 B3 HI hh c0 k0 n0
            by_cases hz : z = 0
            · subst hz
              have hR := HR.out
              rw [if_neg (fun h => h rfl)] at hR
              clear HR
              have HR : Hid _ := hR
              clear hR
              have hW := whole_any _ bs w3 (HX.out.2.2.below HI3.out.2).tab HH.out hll
              have hws := wholeS_le bs
              have hwc := wholeC_le bs
              have HWd : Hid (∀ e W, Wholed w3 bs e W → Wholed w3 bs e W) := fun _ _ h => h
              unfold Wholed at hW
              obtain ⟨S, hS⟩ : ∃ S : Nat, wholeS bs = S := ⟨_, rfl⟩
              rw [hS] at hW HR hws
              obtain ⟨mo, hmo⟩ : ∃ mo : Int, (bs.length : Int) - (S : Int) = mo := ⟨_, rfl⟩
              have hw4 : IntKind.i64.wrap ((bs.length : Int) - (S : Int)) = mo := by rw [IntKind.wrap_i64]; omega
              rw [hmo] at HR
              clear hS hmo HWd HH
              go_wp2_with fail
              refine hW.mono ?_
              rintro e w4 ⟨wv, cs, rfl, wrow, wall, b4⟩
              obtain ⟨B, rfl, brow⟩ := rows_of_all wrow wall
              obtain ⟨wa, wc, rfl⟩ := brow.slice
              obtain ⟨L, lo, la2⟩ := HI3.out.1.kept b4 (Nat.le_refl _)
              have hBX : Below X.heap.size X w4 := keptW HI3.out.2 b4
              have hBl : B.length = (wholeC bs).length := by have := wall.1; simpa using this
              have hLl : L.length = rs.length := by have := la2.1; simpa using this
              have hal := wall.mono (show X.heap.size ≤ w3.heap.size from HI3.out.2.size)
              obtain ⟨ua, uc, rfl⟩ := lo.rng.slice
              have HG : Hid (K.OwnOf bvc 1 31 w4 X.heap.size (.slice ua L.length uc) L ∧ OwnsAll w4 X.heap.size (L.map Bv.v) rs ∧ OwnsAll w4 X.heap.size (B.map Bv.v) (wholeC bs) ∧ K.RowOf bvc w4 (.slice wa B.length wc) B ∧ Below X.heap.size X w4) := ⟨lo, la2, hal, brow, hBX⟩
              have hnum : L.length + B.length ≤ (k + 1) * 1000000 := by omega
              have HLl : Hid (L.length = rs.length ∧ B.length = (wholeC bs).length) := ⟨hLl, hBl⟩
              clear hW wrow wall brow lo la2 hBX hal HI3 b4 hLl hBl
              obtain ⟨ii, hii, hiz, his, hib⟩ := bytesInfo
              go_wp2_with (at_builtin; refine K.wpList_append_rows (enc := bvc) rfl (.tmp 73) (.tmp 74) 32 rfl Tryz.underlying32 ii _ 24 hii hiz his hib rfl X.heap.size (.slice ua L.length uc) (.slice wa B.length wc) L B rfl rfl HG.out.1 HG.out.2.2.2.1 (by unfold maxLen; omega) (by omega) HG.out.2.2.2.2.size ?_; intro v' w5 own5 gr5 nw5)
              go_roundg (P.length - (k + 1))
              case measure => omega
              case rel =>
                refine ⟨k + 1, (S : Int), mo, rs ++ wholeC bs, by go_num, rfl, rfl, by omega, rfl, ⟨Recs.more HG.out.1 HG.out.2.1 HG.out.2.2.1 gr5 own5, HG.out.1.below gr5 HG.out.2.2.2.2 HG.out.2.2.2.2.size (Nat.le_refl _)⟩, ?_, ?_⟩
                · rw [HT.out]; exact HR
                · rw [List.length_append]; have := HLl.out; omega
            · have hz' : (z != 0) = true := by simpa using hz
              have e : RA = .inl z := by have := HR.out; rw [if_pos hz] at this; exact this.symm
              subst e
              go_wp2
              go_ret2
              try rw [if_neg (fun h => h HPD.out)]
              exact ⟨_, rfl, ⟨V, F, HX.out.1.kept HI3.out.2, HX.out.2.1.trans (.of_below HI3.out.2)⟩, fun h => absurd h hz⟩
        · have e : k = P.length := by omega
          have hlt' : ¬ (k : Int) < (P.length : Int) := by omega
          have e : RA = .inr (size, more, rs) := by rw [← HR.out, e, List.drop_length, readAll]
          subst e
          have hLd := HX.out.1.kept HI.out.2
          have c0 := cell_on HI.out.2 xc0
          have hTr := trim_at hLd HOK.out.1 (by omega) (HX.out.2.2.below HI.out.2) HOK.out.2.2 (show 0 ≤ la ∧ la ≤ 999999999 by omega) size more
          have HM : Hid (Moved w wr (lfoot q V F) (lfoot q V F)) := HX.out.2.1.trans (.of_below HI.out.2)
          clear hLd
          go_wp2_with (go_at_call 74; refine hTr.mono ?_; rintro e w4 ⟨rfl, V', F', h4, mv4⟩)
          go_ret2
          try rw [if_neg (fun h => h HPD.out)]
          exact ⟨_, rfl, ⟨V', F', h4, HM.out.trans mv4⟩, fun _ => ⟨X.heap.size, HX.out.2.1.size, HI.out.1.moved mv4 (fun k hk hf => by have := HX.out.1.lts k hf; omega)⟩⟩
    · have hpd2 : ((P.length : Int) != dg) = true := by simpa using hpd
      go_quiet (fail)
      go_wp2
      go_ret2
      exact ⟨_, rfl, ⟨V, F, HX.out.1.kept (bX _), HX.out.2.1.trans (.of_below (bX _))⟩, fun h => absurd h (show ¬ (7 : Int) = 0 by decide)⟩
end
end Go.Proofs.YtjgdmbfkondakaaGreatDoor

/-
  Open and Parts, by their contracts.
-/
namespace Go.Proofs.YtjgdmbfkondakaaGreatDoor
open Go.RowKit

theorem results_four {fn : Func} {a b c d : Tmp} (h : fn.results = #[.tmp a, .tmp b, .tmp c, .tmp d]) (tmps : Array Value) (P : Program) (w : World) :
    Sem.run P (results fn tmps) w = .ok (.tuple #[tmps.getD a undef, tmps.getD b undef, tmps.getD c undef, tmps.getD d undef]) w := by
  simp [results, h]
def checkB : ByteArray := ⟨#[99, 104, 101, 99, 107]⟩
def openL (m : M) (part : Int) : Int × Lg × M × List UInt8 × List (List UInt8) :=
  if (m.read checkB).2 ≠ 0 ∧ (m.read checkB).2 ≠ 3 then ((m.read checkB).2, ⟨part, 0, [], 0, false⟩, m, [], [])
  else if part < 1 ∨ 1048576 < part then (2, ⟨part, 0, [], 0, false⟩, m, [], [])
  else match (if (m.read checkB).2 = 0 then unsealL (m.read checkB).1 else some (1, [])) with
    | none => (7, ⟨part, 0, [], 0, false⟩, m, [], [])
    | some (first, cs) => ((loadL ⟨part, 0, [], 0, false⟩ m first).1, (loadL ⟨part, 0, [], 0, false⟩ m first).2.1, (loadL ⟨part, 0, [], 0, false⟩ m first).2.2.1, cs, (loadL ⟨part, 0, [], 0, false⟩ m first).2.2.2)
/-- How Open ends. -/
def OpenedL (p : Nat) (w : World) (F : Nat → Prop) (r : Int × Lg × M × List UInt8 × List (List UInt8)) (e : Ending) (w' : World) : Prop :=
  (r.1 ≠ 0 ∧ e = .returned (.tuple #[.pointer none, .slice none 0 0, .slice none 0 0, .int .i64 r.1]) ∧ ∃ F', St w' p F' r.2.2.1 ∧ Moved w w' F F') ∨
  (r.1 = 0 ∧ ∃ q V' F' cv rv base, e = .returned (.tuple #[.pointer (some ⟨q, 0, none⟩), cv, rv, .int .i64 0]) ∧ LdAt w' q V' r.2.1 p F' r.2.2.1 ∧ Moved w w' F (lfoot q V' F') ∧ Holds w' cv r.2.2.2.1 ∧ Behind w.heap.size cv ∧ Recs w' base rv r.2.2.2.2 ∧ w.heap.size ≤ base ∧ w.heap.size ≤ q)
theorem unsealL_range {bs cs : List UInt8} {n : Int} (h : unsealL bs = some (n, cs)) : 1 ≤ n ∧ n ≤ 999999999 := by
  unfold unsealL at h
  split at h
  · cases h
  · rename_i hn
    injection h with h
    injection h with h1 h2
    constructor
    · have : ¬ getN ((contO bs).take 8) < 1 := fun h => hn (.inr (.inr (.inr (.inl h))))
      omega
    · have : ¬ 999999999 < getN ((contO bs).take 8) := fun h => hn (.inr (.inr (.inr (.inr h))))
      omega
theorem holds_kept {w W : World} {v : Value} {bs : List UInt8} {G G' : Nat → Prop} (h : Holds w v bs) (mv : Moved w W G G') (hn : ∀ ad n c, v = .slice (some ad) n c → ¬ G ad.block) : Holds W v bs := by
  rcases h with h | ⟨a, cap, rfl, h1, h2, h3⟩
  · exact .inl h
  · refine .inr ⟨a, cap, rfl, h1, h2, fun j u hj => ?_⟩
    have h4 := h3 j u hj
    have h5 : (a.add j).block = a.block := Addr.block_add a j
    have h6 := World.block_lt_of_cell? _ _ h4
    rw [h5] at h6
    have h8 := mv.block a.block h6 (hn a _ _ rfl)
    rw [← h4]
    simp only [World.cell?, h5]
    rw [h8]
/-- A new ledger. -/
theorem ldAt_new {w : World} {p : Nat} {F : Nat → Prop} {m : M} (h : St w p F m) (part : Int) : LdAt (w.alloc (.cells #[.pointer (some ⟨p, 0, none⟩), .int .i64 part, .int .i64 0, .slice none 0 0, .int .i64 0, .bool false] 56)) w.heap.size (.slice none 0 0) ⟨part, 0, [], 0, false⟩ p F m :=
  ⟨heap_alloc_new w _, buf_nil _, h.kept ((Below.refl _ _).alloc (Nat.le_refl _) _), fun hf => by have := h.lts _ hf; omega, fun g hg => by cases hg⟩
/-- What load does to a new ledger's memory, told from ahead of it. -/
theorem moved_new {w W w' : World} {q : Nat} {V' : Value} {F F' : Nat → Prop} (b : Below w.heap.size w W) (hq : w.heap.size ≤ q) (mv : Moved W w' (lfoot q (.slice none 0 0) F) (lfoot q V' F')) : Moved w w' F (lfoot q V' F') := by
  have m0 : Moved w W (lfoot q (.slice none 0 0) F) (lfoot q (.slice none 0 0) F) := .of_below b
  have m1 := m0.trans mv
  refine ⟨m1.os, m1.tape, m1.output, m1.size, fun k hk hf => m1.block k hk ?_, fun k hk => ?_⟩
  · rintro (rfl | h | h)
    · omega
    · cases h
    · exact hf h
  · rcases m1.sub k hk with (rfl | h | h) | h
    · exact .inr hq
    · cases h
    · exact .inl h
    · exact .inr h
theorem moved_in {w w' : World} {q : Nat} {V' : Value} {F F' : Nat → Prop} (mv : Moved w w' F (lfoot q V' F')) : Moved w w' F F' := ⟨mv.os, mv.tape, mv.output, mv.size, mv.block, fun k hk => mv.sub k (.inr (.inr hk))⟩
section
variable {w : World} {p : Nat} {F : Nat → Prop} {m : M}
set_option maxRecDepth 20000 in
set_option maxHeartbeats 4000000 in
theorem open_at (h : St w p F m) (ok : m.Ok) (hsh : Short m) (hlt : Light m) (hc : m.count ≤ 80000) (he : Env w) (h6 : ∀ k, F k → 6 ≤ k) (part : Int) :
    Calls Tryz.prog 11 #[.pointer (some ⟨p, 0, none⟩), .int .i64 part] w (OpenedL p w F (openL m part)) := by
  have hRd := read_new p F m checkB w h ok (by unfold maxLen; decide)
  have HLd : Hid (∀ W q first, Below w.heap.size w W → w.heap.size ≤ q → LdAt W q (.slice none 0 0) ⟨part, 0, [], 0, false⟩ p F m → 1 ≤ first ∧ first ≤ 999999999 → Calls Tryz.prog 29 #[.pointer (some ⟨q, 0, none⟩), .int .i64 first] W (Loaded q p W (lfoot q (.slice none 0 0) F) (loadL ⟨part, 0, [], 0, false⟩ m first))) := fun W q first b hq hl hf => load_at hl ok hsh hlt hc (he.below b) (by
    rintro k (rfl | hk | hk)
    · have := he.pos; omega
    · cases hk
    · exact h6 k hk) first hf
  have H0 : Hid (St w p F m ∧ Env w) := ⟨h, he⟩
  unfold openL
  unfold checkB at hRd ⊢
  obtain ⟨rd, hrd⟩ : ∃ rd, m.read ⟨#[99, 104, 101, 99, 107]⟩ = rd := ⟨_, rfl⟩
  rw [hrd] at hRd ⊢
  obtain ⟨bs, z⟩ := rd
  simp only at hRd ⊢
  clear h ok hsh hlt hc he h6 hrd
  by_cases hz : z ≠ 0 ∧ z ≠ 3
  · rw [if_pos hz]
    obtain ⟨hz0, hz3⟩ := hz
    have hz0' : (z != 0) = true := by simpa using hz0
    have hz3' : (z != 3) = true := by simpa using hz3
    go_enter Tryz.func11, Tryz.ntmps11
    go_wp2_with fail
    refine hRd.mono ?_
    rintro e u1 ⟨v1, rfl, ⟨hh, hb⟩, b1⟩
    obtain ⟨va, vc, rfl⟩ := hh.slice
    have HB : Hid (Below w.heap.size w u1) := b1
    clear hRd hh hb b1 HLd
    go_wp2
    (try simp only [Exit.inBlock, Exit.then]); refine bodyPost_ret (results_four rfl _ _ _) rfl ?_
    exact .inl ⟨hz0, rfl, F, H0.out.1.kept HB.out, .of_below HB.out⟩
  · rw [if_neg hz]
    by_cases hpt : part < 1 ∨ 1048576 < part
    · rw [if_pos hpt]
      by_cases hp1 : part < 1
      · by_cases hz0 : z = 0
        · subst hz0
          clear hz hpt
          go_enter Tryz.func11, Tryz.ntmps11
          go_wp2_with fail
          refine hRd.mono ?_
          rintro e u1 ⟨v1, rfl, ⟨hh, hb⟩, b1⟩
          obtain ⟨va, vc, rfl⟩ := hh.slice
          have HB : Hid (Below w.heap.size w u1) := b1
          clear hRd hh hb b1 HLd
          go_wp2
          (try simp only [Exit.inBlock, Exit.then]); refine bodyPost_ret (results_four rfl _ _ _) rfl ?_
          exact .inl ⟨(show ¬ (2 : Int) = 0 by decide), rfl, F, H0.out.1.kept HB.out, .of_below HB.out⟩
        · obtain rfl : z = 3 := by
            by_cases h3 : z = 3
            · exact h3
            · exact absurd ⟨hz0, h3⟩ hz
          clear hz hpt hz0
          go_enter Tryz.func11, Tryz.ntmps11
          go_wp2_with fail
          refine hRd.mono ?_
          rintro e u1 ⟨v1, rfl, ⟨hh, hb⟩, b1⟩
          obtain ⟨va, vc, rfl⟩ := hh.slice
          have HB : Hid (Below w.heap.size w u1) := b1
          clear hRd hh hb b1 HLd
          go_wp2
          (try simp only [Exit.inBlock, Exit.then]); refine bodyPost_ret (results_four rfl _ _ _) rfl ?_
          exact .inl ⟨(show ¬ (2 : Int) = 0 by decide), rfl, F, H0.out.1.kept HB.out, .of_below HB.out⟩
      · have hp2 : 1048576 < part := by omega
        by_cases hz0 : z = 0
        · subst hz0
          clear hz hpt
          go_enter Tryz.func11, Tryz.ntmps11
          go_wp2_with fail
          refine hRd.mono ?_
          rintro e u1 ⟨v1, rfl, ⟨hh, hb⟩, b1⟩
          obtain ⟨va, vc, rfl⟩ := hh.slice
          have HB : Hid (Below w.heap.size w u1) := b1
          clear hRd hh hb b1 HLd
          go_wp2
          (try simp only [Exit.inBlock, Exit.then]); refine bodyPost_ret (results_four rfl _ _ _) rfl ?_
          exact .inl ⟨(show ¬ (2 : Int) = 0 by decide), rfl, F, H0.out.1.kept HB.out, .of_below HB.out⟩
        · obtain rfl : z = 3 := by
            by_cases h3 : z = 3
            · exact h3
            · exact absurd ⟨hz0, h3⟩ hz
          clear hz hpt hz0
          go_enter Tryz.func11, Tryz.ntmps11
          go_wp2_with fail
          refine hRd.mono ?_
          rintro e u1 ⟨v1, rfl, ⟨hh, hb⟩, b1⟩
          obtain ⟨va, vc, rfl⟩ := hh.slice
          have HB : Hid (Below w.heap.size w u1) := b1
          clear hRd hh hb b1 HLd
          go_wp2
          (try simp only [Exit.inBlock, Exit.then]); refine bodyPost_ret (results_four rfl _ _ _) rfl ?_
          exact .inl ⟨(show ¬ (2 : Int) = 0 by decide), rfl, F, H0.out.1.kept HB.out, .of_below HB.out⟩
    · rw [if_neg hpt]
      have hp1 : ¬ part < 1 := fun h => hpt (.inl h)
      have hp2 : ¬ 1048576 < part := fun h => hpt (.inr h)
      clear hpt
      by_cases hz0 : z = 0
      · subst hz0
        rw [if_pos rfl]
        clear hz
        have HU : Hid (∀ W v, Below w.heap.size w W → Holds W v bs → Calls Tryz.prog 28 #[v] W (Unsealed W (unsealL bs))) := fun W v b hv => unseal_any v bs W (H0.out.2.below b) hv
        have HRn : Hid (∀ n cs, unsealL bs = some (n, cs) → 1 ≤ n ∧ n ≤ 999999999) := fun n cs h => unsealL_range h
        obtain ⟨ul, hul⟩ : ∃ ul, unsealL bs = ul := ⟨_, rfl⟩
        rw [hul] at HU HRn ⊢
        clear hul
        cases ul with
        | none =>
          go_enter Tryz.func11, Tryz.ntmps11
          go_wp2_with fail
          refine hRd.mono ?_
          rintro e u1 ⟨v1, rfl, ⟨hh, hb⟩, b1⟩
          have hUn := HU.out u1 v1 b1 hh
          obtain ⟨va, vc, rfl⟩ := hh.slice
          have HB : Hid (Below w.heap.size w u1) := b1
          clear hRd hh hb b1 HLd HU
          go_wp2_with (go_at_call 28; refine hUn.mono ?_; rintro e u2 ⟨b2, rfl⟩)
          (try simp only [Exit.inBlock, Exit.then]); refine bodyPost_ret (results_four rfl _ _ _) rfl ?_
          exact .inl ⟨(show ¬ (7 : Int) = 0 by decide), rfl, F, H0.out.1.kept (keptW HB.out b2), .of_below (keptW HB.out b2)⟩
        | some r =>
          obtain ⟨first, cs⟩ := r
          have hrn := HRn.out first cs rfl
          clear HRn
          obtain ⟨R, hR⟩ : ∃ R, loadL ⟨part, 0, [], 0, false⟩ m first = R := ⟨_, rfl⟩
          have HL2 : Hid (∀ W q, Below w.heap.size w W → w.heap.size ≤ q → LdAt W q (.slice none 0 0) ⟨part, 0, [], 0, false⟩ p F m → Calls Tryz.prog 29 #[.pointer (some ⟨q, 0, none⟩), .int .i64 first] W (Loaded q p W (lfoot q (.slice none 0 0) F) R)) := fun W q b hq hl => by rw [← hR]; exact HLd.out W q first b hq hl hrn
          simp only
          rw [hR]
          clear hR HLd
          obtain ⟨y, lr, mr, rs⟩ := R
          simp only
          by_cases hy : y = 0
          · subst hy
            go_enter Tryz.func11, Tryz.ntmps11
            go_wp2_with fail
            refine hRd.mono ?_
            rintro e u1 ⟨v1, rfl, ⟨hh, hb⟩, b1⟩
            have hUn := HU.out u1 v1 b1 hh
            obtain ⟨va, vc, rfl⟩ := hh.slice
            have HB1 : Hid (Below w.heap.size w u1) := b1
            clear hRd hh hb b1 HU
            go_wp2_with fail
            refine hUn.mono ?_
            rintro e u2 ⟨b2, cv, rfl, hcv, hbv⟩
            have HB : Hid (Below w.heap.size w u2) := keptW HB1.out b2
            obtain ⟨ca, cc, rfl⟩ := hcv.slice
            have HBV : Hid (Behind w.heap.size (.slice ca cs.length cc)) := fun ad n c e => Nat.le_trans HB1.out.size (hbv ad n c e)
            have HCV : Hid (Holds u2 (.slice ca cs.length cc) cs) := hcv
            clear hUn hcv hbv b2
            obtain ⟨X, hX⟩ : ∃ X, u2.alloc (.cells #[.pointer (some ⟨p, 0, none⟩), .int .i64 part, .int .i64 0, .slice none 0 0, .int .i64 0, .bool false] 56) = X := ⟨_, rfl⟩
            have bX : Below u2.heap.size u2 X := by rw [← hX]; exact (Below.refl _ _).alloc (Nat.le_refl _) _
            have hLX : LdAt X u2.heap.size (.slice none 0 0) ⟨part, 0, [], 0, false⟩ p F m := by rw [← hX]; exact ldAt_new (H0.out.1.kept HB.out) part
            have hL := HL2.out X u2.heap.size (keptW HB.out bX) HB.out.size hLX
            have HC : Hid (Holds u2 (.slice ca cs.length cc) cs ∧ Behind w.heap.size (.slice ca cs.length cc)) := ⟨HCV.out, HBV.out⟩
            have HW : Hid (Below w.heap.size w X ∧ w.heap.size ≤ u2.heap.size ∧ Below u2.heap.size u2 X) := ⟨keptW HB.out bX, HB.out.size, bX⟩
            clear HL2 bX hLX
            go_wp2_with (go_at_call 29; first | rw [hX] | skip; refine hL.mono ?_; rintro e w4 hLL; obtain ⟨v4, rfl, ⟨V', F', h4, mv4⟩, hrc⟩ := hLL; obtain ⟨base, hbase, hrec⟩ := hrc rfl)
            (try simp only [Exit.inBlock, Exit.then]); refine bodyPost_ret (results_four rfl _ _ _) rfl ?_
            refine .inr ⟨rfl, _, V', F', _, _, base, rfl, h4, moved_new HW.out.1 HW.out.2.1 mv4, ?_, HC.out.2, hrec, Nat.le_trans HW.out.1.size hbase, HW.out.2.1⟩
            exact holds_kept HC.out.1 (moved_new HW.out.2.2 (Nat.le_refl _) mv4) (fun ad n c e hf => by
              have h1 := HC.out.2 ad n c e
              have := H0.out.1.lts _ hf
              omega)
          · have hy' : (y != 0) = true := by simpa using hy
            go_enter Tryz.func11, Tryz.ntmps11
            go_wp2_with fail
            refine hRd.mono ?_
            rintro e u1 ⟨v1, rfl, ⟨hh, hb⟩, b1⟩
            have hUn := HU.out u1 v1 b1 hh
            obtain ⟨va, vc, rfl⟩ := hh.slice
            have HB1 : Hid (Below w.heap.size w u1) := b1
            clear hRd hh hb b1 HU
            go_wp2_with fail
            refine hUn.mono ?_
            rintro e u2 ⟨b2, cv, rfl, hcv, hbv⟩
            have HB : Hid (Below w.heap.size w u2) := keptW HB1.out b2
            obtain ⟨ca, cc, rfl⟩ := hcv.slice
            have HBV : Hid (Behind w.heap.size (.slice ca cs.length cc)) := fun ad n c e => Nat.le_trans HB1.out.size (hbv ad n c e)
            have HCV : Hid (Holds u2 (.slice ca cs.length cc) cs) := hcv
            clear hUn hcv hbv b2
            obtain ⟨X, hX⟩ : ∃ X, u2.alloc (.cells #[.pointer (some ⟨p, 0, none⟩), .int .i64 part, .int .i64 0, .slice none 0 0, .int .i64 0, .bool false] 56) = X := ⟨_, rfl⟩
            have bX : Below u2.heap.size u2 X := by rw [← hX]; exact (Below.refl _ _).alloc (Nat.le_refl _) _
            have hLX : LdAt X u2.heap.size (.slice none 0 0) ⟨part, 0, [], 0, false⟩ p F m := by rw [← hX]; exact ldAt_new (H0.out.1.kept HB.out) part
            have hL := HL2.out X u2.heap.size (keptW HB.out bX) HB.out.size hLX
            have HC : Hid (Holds u2 (.slice ca cs.length cc) cs ∧ Behind w.heap.size (.slice ca cs.length cc)) := ⟨HCV.out, HBV.out⟩
            have HW : Hid (Below w.heap.size w X ∧ w.heap.size ≤ u2.heap.size ∧ Below u2.heap.size u2 X) := ⟨keptW HB.out bX, HB.out.size, bX⟩
            clear HL2 bX hLX
            go_wp2_with (go_at_call 29; first | rw [hX] | skip; refine hL.mono ?_; rintro e w4 hLL; obtain ⟨v4, rfl, ⟨V', F', h4, mv4⟩, hrc⟩ := hLL)
            (try simp only [Exit.inBlock, Exit.then]); refine bodyPost_ret (results_four rfl _ _ _) rfl ?_
            exact .inl ⟨hy, rfl, F', h4.st, moved_in (moved_new HW.out.1 HW.out.2.1 mv4)⟩
      · obtain rfl : z = 3 := by
          by_cases h3 : z = 3
          · exact h3
          · exact absurd ⟨hz0, h3⟩ hz
        rw [if_neg (by decide)]
        clear hz hz0
        obtain ⟨R, hR⟩ : ∃ R, loadL ⟨part, 0, [], 0, false⟩ m 1 = R := ⟨_, rfl⟩
        have HL2 : Hid (∀ W q, Below w.heap.size w W → w.heap.size ≤ q → LdAt W q (.slice none 0 0) ⟨part, 0, [], 0, false⟩ p F m → Calls Tryz.prog 29 #[.pointer (some ⟨q, 0, none⟩), .int .i64 1] W (Loaded q p W (lfoot q (.slice none 0 0) F) R)) := fun W q b hq hl => by rw [← hR]; exact HLd.out W q 1 b hq hl (by omega)
        simp only
        rw [hR]
        clear hR HLd
        obtain ⟨y, lr, mr, rs⟩ := R
        simp only
        by_cases hy : y = 0
        · subst hy
          go_enter Tryz.func11, Tryz.ntmps11
          go_wp2_with fail
          refine hRd.mono ?_
          rintro e u1 ⟨v1, rfl, ⟨hh, hb⟩, b1⟩
          obtain ⟨va, vc, rfl⟩ := hh.slice
          have HB : Hid (Below w.heap.size w u1) := b1
          clear hRd hh hb b1
          obtain ⟨X, hX⟩ : ∃ X, u1.alloc (.cells #[.pointer (some ⟨p, 0, none⟩), .int .i64 part, .int .i64 0, .slice none 0 0, .int .i64 0, .bool false] 56) = X := ⟨_, rfl⟩
          have bX : Below u1.heap.size u1 X := by rw [← hX]; exact (Below.refl _ _).alloc (Nat.le_refl _) _
          have hLX : LdAt X u1.heap.size (.slice none 0 0) ⟨part, 0, [], 0, false⟩ p F m := by rw [← hX]; exact ldAt_new (H0.out.1.kept HB.out) part
          have hL := HL2.out X u1.heap.size (keptW HB.out bX) HB.out.size hLX
          have HC : Hid (Holds u1 (.slice none 0 0) [] ∧ Behind w.heap.size (.slice none 0 0)) := ⟨.inl ⟨rfl, rfl⟩, fun ad n c e => by cases e⟩
          have HW : Hid (Below w.heap.size w X ∧ w.heap.size ≤ u1.heap.size ∧ Below u1.heap.size u1 X) := ⟨keptW HB.out bX, HB.out.size, bX⟩
          clear HL2 bX hLX
          go_wp2_with (go_at_call 29; first | rw [hX] | skip; refine hL.mono ?_; rintro e w4 hLL; obtain ⟨v4, rfl, ⟨V', F', h4, mv4⟩, hrc⟩ := hLL; obtain ⟨base, hbase, hrec⟩ := hrc rfl)
          (try simp only [Exit.inBlock, Exit.then]); refine bodyPost_ret (results_four rfl _ _ _) rfl ?_
          refine .inr ⟨rfl, _, V', F', _, _, base, rfl, h4, moved_new HW.out.1 HW.out.2.1 mv4, ?_, HC.out.2, hrec, Nat.le_trans HW.out.1.size hbase, HW.out.2.1⟩
          exact holds_kept HC.out.1 (moved_new HW.out.2.2 (Nat.le_refl _) mv4) (fun ad n c e hf => by
            have h1 := HC.out.2 ad n c e
            have := H0.out.1.lts _ hf
            omega)
        · have hy' : (y != 0) = true := by simpa using hy
          go_enter Tryz.func11, Tryz.ntmps11
          go_wp2_with fail
          refine hRd.mono ?_
          rintro e u1 ⟨v1, rfl, ⟨hh, hb⟩, b1⟩
          obtain ⟨va, vc, rfl⟩ := hh.slice
          have HB : Hid (Below w.heap.size w u1) := b1
          clear hRd hh hb b1
          obtain ⟨X, hX⟩ : ∃ X, u1.alloc (.cells #[.pointer (some ⟨p, 0, none⟩), .int .i64 part, .int .i64 0, .slice none 0 0, .int .i64 0, .bool false] 56) = X := ⟨_, rfl⟩
          have bX : Below u1.heap.size u1 X := by rw [← hX]; exact (Below.refl _ _).alloc (Nat.le_refl _) _
          have hLX : LdAt X u1.heap.size (.slice none 0 0) ⟨part, 0, [], 0, false⟩ p F m := by rw [← hX]; exact ldAt_new (H0.out.1.kept HB.out) part
          have hL := HL2.out X u1.heap.size (keptW HB.out bX) HB.out.size hLX
          have HC : Hid (Holds u1 (.slice none 0 0) [] ∧ Behind w.heap.size (.slice none 0 0)) := ⟨.inl ⟨rfl, rfl⟩, fun ad n c e => by cases e⟩
          have HW : Hid (Below w.heap.size w X ∧ w.heap.size ≤ u1.heap.size ∧ Below u1.heap.size u1 X) := ⟨keptW HB.out bX, HB.out.size, bX⟩
          clear HL2 bX hLX
          go_wp2_with (go_at_call 29; first | rw [hX] | skip; refine hL.mono ?_; rintro e w4 hLL; obtain ⟨v4, rfl, ⟨V', F', h4, mv4⟩, hrc⟩ := hLL)
          (try simp only [Exit.inBlock, Exit.then]); refine bodyPost_ret (results_four rfl _ _ _) rfl ?_
          exact .inl ⟨hy, rfl, F', h4.st, moved_in (moved_new HW.out.1 HW.out.2.1 mv4)⟩
theorem parts_at {q : Nat} {V : Value} {l : Lg} (h : LdAt w q V l p F m) (ok : m.Ok) (hc : m.count ≤ 80000) (he : Env w) (hn : ∀ n ∈ m.names, n.size ≤ 18) :
    Calls Tryz.prog 23 #[.pointer (some ⟨q, 0, none⟩)] w fun e w' => ∃ v, e = .returned v ∧ RowI w' w.heap.size v (numsM m) ∧ Below w.heap.size w w' := by
  have hM := madeL_at h
  have hN := numbers_any p F m w h.st ok (by omega) he hn
  have c0 := h.cells.1
  clear h ok he hn
  go_enter Tryz.func23, Tryz.ntmps23
  go_wp2_with (go_at_call 60; refine hM.mono ?_; rintro e w ⟨rfl, rfl⟩)
  refine hN.mono ?_
  rintro e u1 ⟨v1, rfl, r1, b1⟩
  go_wp2
  go_ret
  exact ⟨_, rfl, r1, b1⟩
end
end Go.Proofs.YtjgdmbfkondakaaGreatDoor

/-
  same of the laws, by its contract.
-/
namespace Go.Proofs.YtjgdmbfkondakaaGreatDoor
open Go.RowKit

/-- A row of rows of bytes, whosever they are. -/
def Rw (w : World) (v : Value) (ls : List (List UInt8)) : Prop := ∃ cs, Row w v cs ∧ cs.length = ls.length ∧ ∀ (j : Nat) (u : Value) (x : List UInt8), cs[j]? = some u → ls[j]? = some x → Holds w u x
theorem Rw.slice {w : World} {v : Value} {ls : List (List UInt8)} (h : Rw w v ls) : ∃ a c, v = .slice a ls.length c := by
  obtain ⟨cs, h1, h2, _⟩ := h
  obtain ⟨a, c, e⟩ := h1.slice
  exact ⟨a, c, by rw [e, h2]⟩
theorem Rw.at {w : World} {v : Value} {ls : List (List UInt8)} (h : Rw w v ls) (hp : 0 < ls.length) : ∃ b off cap, v = .slice (some ⟨b, off, none⟩) ls.length cap ∧ ls.length ≤ cap ∧ cap ≤ maxLen ∧ ∀ k (hk : k < ls.length), ∃ a c, w.cell? ⟨b, off + k, none⟩ = some (.slice a ls[k].length c) ∧ Holds w (.slice a ls[k].length c) ls[k] := by
  obtain ⟨cs, h1, h2, h3⟩ := h
  obtain ⟨b, off, cap, hv, q1, q2, q3⟩ := h1.at (by omega)
  rw [h2] at hv q1
  refine ⟨b, off, cap, hv, q1, q2, fun k hk => ?_⟩
  have hk' : k < cs.length := by omega
  have h4 := h3 k cs[k] ls[k] (List.getElem?_eq_getElem hk') (List.getElem?_eq_getElem hk)
  obtain ⟨a, c, hac⟩ := h4.slice
  have h5 := q3 k hk'
  rw [hac] at h5 h4
  exact ⟨a, c, h5, h4⟩
theorem Rw.kept {w w' : World} {v : Value} {ls : List (List UInt8)} (h : Rw w v ls) (b : Below w.heap.size w w') : Rw w' v ls := by
  obtain ⟨cs, h1, h2, h3⟩ := h
  exact ⟨cs, h1.below b (Nat.le_refl _), h2, fun j u x hu hx => (h3 j u x hu hx).below b (Nat.le_refl _)⟩
theorem Recs.rw {w : World} {base : Nat} {v : Value} {rs : List (List UInt8)} (h : Recs w base v rs) : Rw w v rs := by
  obtain ⟨B, h1, h2⟩ := h
  exact ⟨B.map Bv.v, (own1_of h1).row, h2.1, fun j u x hu hx => (h2.2 j u x hu hx).holds⟩
theorem drewN_below (w : World) (n : Nat) : Below w.heap.size w (w.drewN n) := ⟨rfl, rfl, rfl, Nat.le_refl _, fun _ _ => rfl⟩
set_option maxRecDepth 20000 in
set_option maxHeartbeats 2000000 in
theorem sameL_any (va vb : Value) (la lb : List (List UInt8)) (w : World) (ha : Rw w va la) (hb : Rw w vb lb) :
    Calls Tryz.prog 20 #[va, vb] w fun e w' => e = .returned (.bool (la == lb)) ∧ Below w.heap.size w w' := by
  obtain ⟨aa, ac, rfl⟩ := ha.slice
  obtain ⟨ba, bc, rfl⟩ := hb.slice
  by_cases hl : la.length = lb.length
  · have HA : Hid (∀ W, Below w.heap.size w W → Rw W (.slice aa la.length ac) la) := fun W b => ha.kept b
    have HB : Hid (∀ W, Below w.heap.size w W → Rw W (.slice ba la.length bc) lb) := fun W b => by rw [hl]; exact hb.kept b
    have hmx : la.length ≤ maxLen := by
      by_cases h0 : 0 < la.length
      · obtain ⟨_, _, _, _, q1, q2, _⟩ := ha.at h0
        omega
      · omega
    unfold maxLen at hmx
    rw [← hl]
    have HL : Hid (la.length = lb.length ∧ True) := ⟨hl, trivial⟩
    clear ha hb hl
    go_enter Tryz.func20, Tryz.ntmps20
    go_wp2
    go_loopg [13] la.length (fun g u13 wr => ∃ k : Nat, u13 = .int .i64 k ∧ k ≤ la.length ∧ g = la.length - k ∧ Hid (Below w.heap.size w wr) ∧ Hid (∀ (j : Nat) (_ : j < k) (h1 : j < la.length) (h2 : j < lb.length), la[j] = lb[j]))
    case atStart => exact ⟨0, rfl, Nat.zero_le _, rfl, Below.refl _ _, fun j h => absurd h (by omega)⟩
    case round =>
      obtain ⟨k, rfl, hk, rfl, HI, HE⟩ := hrel
      by_cases hlt : k < la.length
      · have hlt' : (k : Int) < (la.length : Int) := by omega
        have hltb : k < lb.length := by have := HL.out.1; omega
        obtain ⟨b1, o1, cp1, hv1, _, _, q1⟩ := (HA.out wr HI.out).at (by omega)
        obtain ⟨b2, o2, cp2, hv2, _, _, q2⟩ := (HB.out wr HI.out).at (by omega)
        injection hv1 with hv1 _ hv3
        injection hv2 with hv2 hvl hv4
        clear hvl
        subst hv1 hv3 hv2 hv4
        obtain ⟨x1, y1, e1, f1⟩ := q1 k hlt
        obtain ⟨x2, y2, e2, f2⟩ := q2 k hltb
        have HSn : Hid (la[k] = lb[k] → ∀ (j : Nat) (_ : j < k + 1) (h1 : j < la.length) (h2 : j < lb.length), la[j] = lb[j]) := fun he j h h1 h2 => by
          by_cases hj : j = k
          · subst hj; exact he
          · exact HE.out j (by omega) h1 h2
        have HNe : Hid (la[k] ≠ lb[k] → (la == lb) = false) := fun hne => by
          rw [beq_eq_false_iff_ne]
          intro h
          subst h
          exact hne rfl
        clear q1 q2 HE
        obtain ⟨x, hx⟩ : ∃ x, la[k] = x := ⟨_, rfl⟩
        obtain ⟨y, hy⟩ : ∃ y, lb[k] = y := ⟨_, rfl⟩
        rw [hx] at e1 f1 HSn HNe
        rw [hy] at e2 f2 HSn HNe
        clear hx hy
        have HS : Hid (∀ n, Calls Tryz.prog 19 #[.slice x1 x.length y1, .slice x2 y.length y2] (wr.drewN n) fun e w' => e = .returned (.bool (x == y)) ∧ w' = wr.drewN n) := fun n => same_any _ _ _ _ _ (f1.below (drewN_below wr n) (Nat.le_refl _)) (f2.below (drewN_below wr n) (Nat.le_refl _))
        clear f1 f2
        by_cases hxy : x = y
        · subst hxy
          have hxy' : (x == x) = true := by simp
          go_wp2
          go_quiet (first | (go_at_call 19; refine Calls.quiet_of_same (HS.out _)))
          go_wp2
          go_roundg (la.length - (k + 1))
          case measure => omega
          case rel => exact ⟨k + 1, by go_num, by omega, rfl, keptW HI.out (drewN_below wr _), HSn.out (by first | trivial | rfl)⟩
        · have hxy' : (x == y) = false := by simpa using hxy
          have HXY : Hid (x ≠ y) := hxy
          clear hxy
          go_wp2
          go_quiet (first | (go_at_call 19; refine Calls.quiet_of_same (HS.out _)))
          go_wp2
          go_ret
          exact ⟨by rw [HNe.out HXY.out]; rfl, keptW HI.out (drewN_below wr _)⟩
      · have hlt' : ¬ (k : Int) < (la.length : Int) := by omega
        go_wp2
        go_ret
        have e : la = lb := List.ext_getElem HL.out.1 fun j h1 h2 => HE.out j (by omega) h1 h2
        exact ⟨by subst e; simp, HI.out⟩
  · have hl' : ((la.length : Int) != (lb.length : Int)) = true := by simp; omega
    have hne : (la == lb) = false := by
      rw [beq_eq_false_iff_ne]
      intro h
      exact hl (by rw [h])
    clear ha hb
    rw [hne]
    go_enter Tryz.func20, Tryz.ntmps20
    go_wp2
    go_ret
    exact ⟨rfl, Below.refl _ _⟩
end Go.Proofs.YtjgdmbfkondakaaGreatDoor
