/-
  'lives', by its contract.
-/
import Derived.Test.YtdbgojmjjkidbaaGreatDoorJFlip22
import Derived.Deep.RegionHeld3
import Derived.Deep.MidRow
namespace Go.Proofs.YtdbgojmjjkidbaaGreatDoor
open Go.RowKit Go.Maps Go.Sort K
set_option maxRecDepth 20000

/-- The example's packet in a box. -/
def BoxH (g : Nat) (U : World) : Prop := U.heap[g]? = some (.cells (pcells helP).toArray 35 (0, 0))
theorem BoxH.go {g : Nat} {U V : World} (h : BoxH g U) (b : Below U.heap.size U V) : BoxH g V := (b.block _ (Array.getElem?_eq_some_iff.1 h).1).trans h
theorem BoxH.moved {g : Nat} {U V : World} {F F' : Nat → Prop} (h : BoxH g U) (m : Moved U V F F') (hg : ¬ F g) : BoxH g V := (m.block _ (Array.getElem?_eq_some_iff.1 h).1 hg).trans h
def xL : Pc := (bytesP helP, false)
def s1L : Wr := ⟨5, [xL], []⟩
def s2L : Wr := ⟨5, [xL, xL], []⟩
def s3L : Wr := ⟨5, [xL], []⟩
def s4L : Wr := ⟨5, [], [⟨1, 2⟩]⟩
theorem fit12 : EFit ⟨1, 2⟩ := ⟨by unfold Fit64; decide, by unfold Fit64; decide⟩
theorem live1 : sendW (newW 5) helP = (0, s1L) := by
  rw [sendW_add helP_good (by simp [newW]), addW_room (by simp [newW])]
  rfl
theorem live2 : twiceW s1L 0 = (0, s2L) := by
  rw [twiceW_yes (by decide), addW_room (by simp [s1L])]
  rfl
theorem readXL : readP xL.1 = some helP := readP_back helP helP_good helP_fits
theorem live3 : lookW s2L 0 = (some helP, 0) := by
  rw [lookW_yes (by decide)]
  show (readP xL.1, errOf (readP xL.1)) = _
  rw [readXL]
  rfl
theorem live4 : dropW s2L 0 = (0, s3L) := by
  rw [dropW_yes (by decide)]
  rfl
theorem live5 : severW s3L ⟨1, 2⟩ = (0, s4L) := by
  rw [severW_new (by decide) (by simp [s3L])]
  have : goesB ⟨1, 2⟩ xL = true := by
    unfold goesB
    rw [readXL]
    rfl
  simp [s3L, s4L, this, insC]
theorem live6 : sendW s4L helP = (0, s4L) := sendW_cut helP_good (by decide)
set_option maxHeartbeats 4000000 in
theorem lives_any (w : World) (ht : Tbs w) : Calls Tryz.prog 10 #[] w fun e w' => e = .returned (.bool true) ∧ Below w.heap.size w w' := by
  have HT : Hid (Tbs w) := ht
  have mixed : Tryz.prog.follows .mixedOrders = true := by kernel_rfl
  have hN := new_lw w w (Below.refl _ _) 5 (by omega) (by omega)
  clear ht
  go_enter Tryz.func10, Tryz.ntmps10
  go_wp2_with fail
  refine hN.mono ?_
  rintro e w1 ⟨p, rfl, F, l1, _, _⟩
  have L1 : Hid (Lw w w1 p F (newW 5)) := l1
  clear l1 hN
  go_wp2_with fail
  refine (hello_any w1).mono ?_
  rintro e w2 ⟨rfl, b2⟩
  have L2 : Hid (Lw w w2 p F (newW 5)) := L1.out.go b2
  clear b2 L1
  go_wp2_with fail
  have hS := L2.out.send HT.out helP helP_fits
  rw [live1] at hS
  refine hS.mono ?_
  rintro e w3 ⟨rfl, F3, l3, _⟩
  have L3 : Hid (Lw w w3 p F3 s1L) := l3
  clear l3 hS L2
  go_wp2_with fail
  have hS := L3.out.twice 0
  rw [live2] at hS
  refine hS.mono ?_
  rintro e w4 ⟨rfl, F4, l4, _⟩
  have L4 : Hid (Lw w w4 p F4 s2L) := l4
  clear l4 hS L3
  go_wp2_with fail
  have hS := L4.out.take HT.out 0
  unfold LookE at hS
  rw [live3, live4] at hS
  refine hS.mono ?_
  rintro e w5 ⟨he, F3, l5, _⟩
  have L5 : Hid (Lw w w5 p F3 s3L) := l5
  have he : e = .returned (.tuple #[pv helP, .int .i64 0]) := he
  subst he
  clear l5 hS L4
  obtain ⟨V, fV⟩ : ∃ X, w5.alloc (.cells #[.int .i64 0, .int .i64 0, .int .i64 0, .int .u64 0, .int .u16 0, .int .u64 0, .int .i64 0, .int .u64 0, .int .i64 0, .string ⟨#[]⟩, .string ⟨#[]⟩, .string ⟨#[]⟩] 35) = X := ⟨_, rfl⟩
  have bV : Below w5.heap.size w5 V := by rw [← fV]; exact box_belowW w5 _
  have xV : V.heap[w5.heap.size]? = some (.cells (pcells nilP).toArray 35 (0, 0)) := by rw [← fV]; exact heap_alloc_new w5 _
  obtain ⟨w6, f6⟩ : ∃ X, V.setRow w5.heap.size (pcells helP).toArray = X := ⟨_, rfl⟩
  have b6 : Below w5.heap.size w5 w6 := by rw [← f6]; exact below_setRow bV (Nat.le_refl _) _
  have x6 : w6.heap[w5.heap.size]? = some (.cells (pcells helP).toArray 35 (0, 0)) := by rw [← f6]; exact setRow_heap _ _ _ _ _ _ xV
  obtain ⟨g, hg⟩ : ∃ g, w5.heap.size = g := ⟨_, rfl⟩
  have HV : Hid (V.heap[g]? = some (.cells (pcells nilP).toArray 35 (0, 0))) := hg ▸ xV
  have HX : Hid (BoxH g w6) := hg ▸ x6
  have HgF : Hid (¬ F3 g) := fun hf => by have := L5.out.wt.lts g hf; omega
  have L0 : Hid (Lw w w6.drew p F3 s3L) := L5.out.go b6.drew
  rw [hg] at f6
  clear bV xV b6 x6
  go_wp2_with (refine wpList_store_row rfl 35 _ _ rfl g (pcells helP).toArray rfl rfl 35 (pcells nilP).toArray HV.out info12 rfl (one12 helP) ?_)
  try rw [f6]
  refine wp_region_noPanic ?_
  refine wp_region_held_drew (S := (BoxH g)) (by kernel_rfl) (BoxH.go HX.out (drew_below w6)) (fun hHeld => ?_)
  refine wpAnyH_take (i := 0) (v := ?_) (by simp only [List.getElem?_toArray, List.getElem?_cons_zero]; rfl) (by kernel_rfl) (by kernel_rfl) (by kernel_rfl) (fun _ _ _ h => h) (Or.inl ⟨by rfl, ?_⟩) (by assumption) ?_
  rotate_left
  · (intro wq hSq; clear hSq; go_simp; try with_reducible rfl)
  try simp only [Act.put, List.setIfInBounds_toArray, List.set_cons_zero, List.set_cons_succ]
  refine wpAnyH_take (i := 1) (v := ?_) (by simp only [List.getElem?_toArray, List.getElem?_cons_succ, List.getElem?_cons_zero]; rfl) (by kernel_rfl) (by kernel_rfl) (by kernel_rfl) (fun _ _ _ h => h) (Or.inl ⟨by rfl, ?_⟩) (by assumption) ?_
  rotate_left
  · (intro wq hSq; clear hSq; go_simp; try with_reducible rfl)
  try simp only [Act.put, List.setIfInBounds_toArray, List.set_cons_zero, List.set_cons_succ]
  refine wpAnyH_take (i := 2) (v := ?_) (by simp only [List.getElem?_toArray, List.getElem?_cons_succ, List.getElem?_cons_zero]; rfl) (by kernel_rfl) (by kernel_rfl) (by kernel_rfl) (fun _ _ _ h => h) (Or.inl ⟨by rfl, ?_⟩) (by assumption) ?_
  rotate_left
  · (intro wq hSq; clear hSq; go_simp; try with_reducible rfl)
  try simp only [Act.put, List.setIfInBounds_toArray, List.set_cons_zero, List.set_cons_succ]
  refine wpAnyH_take (i := 3) (v := pv helP) (by simp only [List.getElem?_toArray, List.getElem?_cons_succ, List.getElem?_cons_zero]; rfl) (by kernel_rfl) (by kernel_rfl) (by kernel_rfl) (fun _ _ _ h => h) (Or.inl ⟨by rfl, fun wz h => exec_load_rowW 35 _ rfl g rfl 35 #[.int .i64 helP.kind, .int .i64 helP.fr, .int .i64 helP.dest, .int .u64 helP.ep, .int .u16 helP.num, .int .u64 helP.mask, .int .i64 helP.m.origin, .int .u64 helP.m.seq, .int .i64 helP.m.hop, .string helP.m.ex, .string helP.m.key, .string helP.m.body] (0, 0) _ h Tryz.underlying35 rfl info12⟩) (by assumption) ?_
  try simp only [Act.put, List.setIfInBounds_toArray, List.set_cons_zero, List.set_cons_succ]
  refine wpAnyH_ready (rs := [4]) (by kernel_rfl) (by simp) ?_
  refine AllReadyH.cons rfl (fun K hK => ?_) AllReadyH.nil
  have HS4 : Hid _ := hHeld
  clear hHeld
  go_simp
  refine (hello_any _).mono ?_
  rintro e u1 ⟨rfl, b1⟩
  have N1 : BoxH g u1 := BoxH.go HS4.out b1
  have L1 : Hid (Lw w u1 p F3 s3L) := L0.out.go b1
  clear b1
  try dsimp only
  refine hK.out _ _ (N1) (fun hHeld => ?_)
  clear hK K
  try simp only [Act.put, List.setIfInBounds_toArray, List.set_cons_zero, List.set_cons_succ]
  refine wpAnyH_take (i := 5) (v := .bool false) (by simp only [List.getElem?_toArray, List.getElem?_cons_succ, List.getElem?_cons_zero]; rfl) (by kernel_rfl) (by kernel_rfl) (by kernel_rfl) (fun _ _ _ h => h) (Or.inl ⟨by rfl, (by intro wq hSq; have he := run_eqP helP helP wq; rw [decide_eq_true rfl] at he; have hgA := eqGuardP; clear hSq hHeld; go_simp)⟩) (by assumption) ?_
  try simp only [Act.put, List.setIfInBounds_toArray, List.set_cons_zero, List.set_cons_succ]
  refine wpAnyH_take (i := 6) (v := ?_) (by simp only [List.getElem?_toArray, List.getElem?_cons_succ, List.getElem?_cons_zero]; rfl) (by kernel_rfl) (by kernel_rfl) (by kernel_rfl) (fun _ _ _ h => h) (Or.inl ⟨by rfl, ?_⟩) (by assumption) ?_
  rotate_left
  · (intro wq hSq; clear hSq; go_simp; try with_reducible rfl)
  try simp only [Act.put, List.setIfInBounds_toArray, List.set_cons_zero, List.set_cons_succ]
  refine wpAnyH_take (i := 7) (v := ?_) (by simp only [List.getElem?_toArray, List.getElem?_cons_succ, List.getElem?_cons_zero]; rfl) (by kernel_rfl) (by kernel_rfl) (by kernel_rfl) (fun _ _ _ h => h) (Or.inl ⟨by rfl, ?_⟩) (by assumption) ?_
  rotate_left
  · (intro wq hSq; clear hSq; go_simp; try with_reducible rfl)
  try simp only [Act.put, List.setIfInBounds_toArray, List.set_cons_zero, List.set_cons_succ]
  refine wpAnyH_take (i := 8) (v := ?_) (by simp only [List.getElem?_toArray, List.getElem?_cons_succ, List.getElem?_cons_zero]; rfl) (by kernel_rfl) (by kernel_rfl) (by kernel_rfl) (fun _ _ _ h => h) (Or.inl ⟨by rfl, ?_⟩) (by assumption) ?_
  rotate_left
  · (intro wq hSq; clear hSq; go_simp; try with_reducible rfl)
  try simp only [Act.put, List.setIfInBounds_toArray, List.set_cons_zero, List.set_cons_succ]
  refine wpAnyH_ready (rs := [9]) (by kernel_rfl) (by simp) ?_
  refine AllReadyH.cons rfl (fun K hK => ?_) AllReadyH.nil
  have HS9 : Hid _ := hHeld
  clear hHeld
  go_simp
  refine L1.out.len.mono ?_
  rintro e u2 ⟨rfl, rfl⟩
  try dsimp only
  refine hK.out _ _ (HS9.out) (fun hHeld => ?_)
  clear hK K
  try simp only [Act.put, List.setIfInBounds_toArray, List.set_cons_zero, List.set_cons_succ]
  refine wpAnyH_take (i := 10) (v := ?_) (by simp only [List.getElem?_toArray, List.getElem?_cons_succ, List.getElem?_cons_zero]; rfl) (by kernel_rfl) (by kernel_rfl) (by kernel_rfl) (fun _ _ _ h => h) (Or.inl ⟨by rfl, ?_⟩) (by assumption) ?_
  rotate_left
  · (intro wq hSq; clear hSq; go_simp; try with_reducible rfl)
  try simp only [Act.put, List.setIfInBounds_toArray, List.set_cons_zero, List.set_cons_succ]
  refine wpAnyH_take (i := 11) (v := ?_) (by simp only [List.getElem?_toArray, List.getElem?_cons_succ, List.getElem?_cons_zero]; rfl) (by kernel_rfl) (by kernel_rfl) (by kernel_rfl) (fun _ _ _ h => h) (Or.inl ⟨by rfl, ?_⟩) (by assumption) ?_
  rotate_left
  · (intro wq hSq; clear hSq; go_simp; try with_reducible rfl)
  try simp only [Act.put, List.setIfInBounds_toArray, List.set_cons_zero, List.set_cons_succ]
  refine wpAnyH_take (i := 12) (v := ?_) (by simp only [List.getElem?_toArray, List.getElem?_cons_succ, List.getElem?_cons_zero]; rfl) (by kernel_rfl) (by kernel_rfl) (by kernel_rfl) (fun _ _ _ h => h) (Or.inl ⟨by rfl, ?_⟩) (by assumption) ?_
  rotate_left
  · (intro wq hSq; clear hSq; go_simp; try with_reducible rfl)
  try simp only [Act.put, List.setIfInBounds_toArray, List.set_cons_zero, List.set_cons_succ]
  refine wpAnyH_take (i := 13) (v := ?_) (by simp only [List.getElem?_toArray, List.getElem?_cons_succ, List.getElem?_cons_zero]; rfl) (by kernel_rfl) (by kernel_rfl) (by kernel_rfl) (fun _ _ _ h => h) (Or.inl ⟨by rfl, ?_⟩) (by assumption) ?_
  rotate_left
  · (intro wq hSq; clear hSq; go_simp; try with_reducible rfl)
  try simp only [Act.put, List.setIfInBounds_toArray, List.set_cons_zero, List.set_cons_succ]
  refine wpAnyH_take (i := 14) (v := ?_) (by simp only [List.getElem?_toArray, List.getElem?_cons_succ, List.getElem?_cons_zero]; rfl) (by kernel_rfl) (by kernel_rfl) (by kernel_rfl) (fun _ _ _ h => h) (Or.inl ⟨by rfl, ?_⟩) (by assumption) ?_
  rotate_left
  · (intro wq hSq; clear hSq; go_simp; try with_reducible rfl)
  try simp only [Act.put, List.setIfInBounds_toArray, List.set_cons_zero, List.set_cons_succ]
  refine wpAnyH_ready (rs := [15]) (by kernel_rfl) (by simp) ?_
  refine AllReadyH.cons rfl (fun K hK => ?_) AllReadyH.nil
  have HS15 : Hid _ := hHeld
  clear hHeld
  go_simp
  refine (L1.out.sever HT.out ⟨1, 2⟩ fit12).mono ?_
  rintro e u3 ⟨rfl, F4, l4, m4⟩
  have L3 : Hid (Lw w u3 p F4 s4L) := l4
  have N3 : BoxH g u3 := BoxH.moved HS15.out m4 HgF.out
  clear l4 m4
  try dsimp only
  refine hK.out _ _ (N3) (fun hHeld => ?_)
  clear hK K
  try simp only [Act.put, List.setIfInBounds_toArray, List.set_cons_zero, List.set_cons_succ]
  refine wpAnyH_take (i := 16) (v := ?_) (by simp only [List.getElem?_toArray, List.getElem?_cons_succ, List.getElem?_cons_zero]; rfl) (by kernel_rfl) (by kernel_rfl) (by kernel_rfl) (fun _ _ _ h => h) (Or.inl ⟨by rfl, ?_⟩) (by assumption) ?_
  rotate_left
  · (intro wq hSq; clear hSq; go_simp; try with_reducible rfl)
  try simp only [Act.put, List.setIfInBounds_toArray, List.set_cons_zero, List.set_cons_succ]
  refine wpAnyH_take (i := 17) (v := ?_) (by simp only [List.getElem?_toArray, List.getElem?_cons_succ, List.getElem?_cons_zero]; rfl) (by kernel_rfl) (by kernel_rfl) (by kernel_rfl) (fun _ _ _ h => h) (Or.inl ⟨by rfl, ?_⟩) (by assumption) ?_
  rotate_left
  · (intro wq hSq; clear hSq; go_simp; try with_reducible rfl)
  try simp only [Act.put, List.setIfInBounds_toArray, List.set_cons_zero, List.set_cons_succ]
  refine wpAnyH_done (by kernel_rfl) ?_ _
  refine NoPanic.normal ?_
  clear hHeld
  go_wp2_with fail
  refine L3.out.len.mono ?_
  rintro e w7 ⟨rfl, rfl⟩
  go_wp2_with fail
  refine (hello_any w7).mono ?_
  rintro e w8 ⟨rfl, b8⟩
  have L8 : Hid (Lw w w8 p F4 s4L) := L3.out.go b8
  clear b8
  go_wp2_with fail
  have hS := L8.out.send HT.out helP helP_fits
  rw [live6] at hS
  refine hS.mono ?_
  rintro e w9 ⟨rfl, F9, l9, _⟩
  have L9 : Hid (Lw w w9 p F9 s4L) := l9
  clear l9 hS L8
  go_wp2_with fail
  refine L9.out.len.mono ?_
  rintro e w10 ⟨rfl, rfl⟩
  go_wp2_with fail
  refine L9.out.severed.mono ?_
  rintro e w11 ⟨v11, rfl, o11, b11⟩
  obtain ⟨a11, c11, hv⟩ := o11.rng.slice
  have hv : v11 = .slice a11 1 c11 := hv
  subst hv
  have H11 : Hid (Below w.heap.size w w11) := keptW L9.out.bel b11
  clear o11 b11
  go_wp2
  go_ret
  exact ⟨rfl, H11.out⟩
end Go.Proofs.YtdbgojmjjkidbaaGreatDoor

/-
  ROWS of packets and of numbers, in memory.
-/
namespace Go.Proofs.YtdbgojmjjkidbaaGreatDoor
open Go.RowKit Go.Maps Go.Sort K
set_option maxRecDepth 20000

instance : Enc pcells 12 where
  len _ := rfl
  one r u hu := by
    simp only [pcells, List.mem_cons, List.not_mem_nil, or_false] at hu
    rcases hu with rfl | rfl | rfl | rfl | rfl | rfl | rfl | rfl | rfl | rfl | rfl | rfl <;> rfl
  pos := by decide
def ncells (l : List Nat) : List Value := l.map fun n : Nat => .int .u64 (n : Int)
theorem ncells_length (l : List Nat) : (ncells l).length = l.length := by simp [ncells]
theorem Row.atN64 {w : World} {a : Option Addr} {n cap : Nat} {l : List Nat} (h : Row w (.slice a n cap) (ncells l)) : n = l.length ∧ l.length ≤ maxLen ∧ ∀ i (hi : i < l.length), ∃ b off, a = some ⟨b, off, none⟩ ∧ b < w.heap.size ∧ w.cell? ⟨b, off + i, none⟩ = some (.int .u64 (l[i] : Nat)) := by
  have hn : n = l.length := by
    obtain ⟨a', cap', hv⟩ := h.slice
    injection hv with _ hv _
    rw [hv, ncells_length]
  have hcm : l.length ≤ maxLen := by
    rcases h with ⟨hv, hl⟩ | ⟨_, _, hv, h1, h2, _⟩
    · have : (ncells l).length = 0 := by rw [hl]; rfl
      rw [ncells_length] at this
      omega
    · rw [ncells_length] at h1; omega
  refine ⟨hn, hcm, fun i hi => ?_⟩
  obtain ⟨b, off, cap', hv, _, _, hc⟩ := h.at (by rw [ncells_length]; omega)
  injection hv with hv1 _ _
  have h1 := hc i (by rw [ncells_length]; exact hi)
  have h2 : w.cell? ⟨b, off + i, none⟩ = some (.int .u64 (l[i] : Nat)) := by rw [h1]; simp [ncells]
  exact ⟨b, off, hv1, World.block_lt_of_cell? _ _ h2, h2⟩
/-- A packet's cells lie there. -/
def PkAt (w : World) (b off : Nat) (p : Pk) : Prop := ∀ j u, (pcells p)[j]? = some u → w.cell? ⟨b, off + j, none⟩ = some u
theorem PkAt.cells {w : World} {b off : Nat} {p : Pk} (h : PkAt w b off p) : w.cell? ⟨b, off, none⟩ = some (.int .i64 p.kind) ∧ w.cell? ⟨b, off + 1, none⟩ = some (.int .i64 p.fr) ∧ w.cell? ⟨b, off + 2, none⟩ = some (.int .i64 p.dest) ∧ w.cell? ⟨b, off + 3, none⟩ = some (.int .u64 p.ep) ∧ w.cell? ⟨b, off + 4, none⟩ = some (.int .u16 p.num) ∧ w.cell? ⟨b, off + 5, none⟩ = some (.int .u64 p.mask) ∧
    w.cell? ⟨b, off + 6, none⟩ = some (.int .i64 p.m.origin) ∧ w.cell? ⟨b, off + 7, none⟩ = some (.int .u64 p.m.seq) ∧ w.cell? ⟨b, off + 8, none⟩ = some (.int .i64 p.m.hop) ∧ w.cell? ⟨b, off + 9, none⟩ = some (.string p.m.ex) ∧ w.cell? ⟨b, off + 10, none⟩ = some (.string p.m.key) ∧ w.cell? ⟨b, off + 11, none⟩ = some (.string p.m.body) :=
  ⟨h 0 _ rfl, h 1 _ rfl, h 2 _ rfl, h 3 _ rfl, h 4 _ rfl, h 5 _ rfl, h 6 _ rfl, h 7 _ rfl, h 8 _ rfl, h 9 _ rfl, h 10 _ rfl, h 11 _ rfl⟩
theorem PkAt.same {w w' : World} {b off : Nat} {p : Pk} (h : PkAt w b off p) (hs : w'.heap[b]? = w.heap[b]?) : PkAt w' b off p := fun j u hj => by
  have := h j u hj
  simpa [World.cell?, hs] using this
theorem PkAt.lt {w : World} {b off : Nat} {p : Pk} (h : PkAt w b off p) : b < w.heap.size := World.block_lt_of_cell? _ _ (h 0 _ rfl)
theorem RowOf.pks {w : World} {a : Option Addr} {n cap : Nat} {l : List Pk} (h : RowOf pcells w (.slice a n cap) l) : n = l.length ∧ l.length ≤ maxLen ∧ ∀ i (hi : i < l.length), ∃ b off, a = some ⟨b, off, none⟩ ∧ PkAt w b (off + i * 12) l[i] := by
  have hn : n = l.length := by
    obtain ⟨a', cap', hv⟩ := h.slice
    injection hv
  have hcm : l.length ≤ maxLen := by
    rcases h with ⟨hv, rfl⟩ | ⟨_, _, hv, h1, h2, _⟩
    · exact Nat.zero_le _
    · omega
  refine ⟨hn, hcm, fun i hi => ?_⟩
  obtain ⟨b, off, cap', hv, _, _, hc⟩ := h.at (by omega)
  injection hv with hv1 _ _
  refine ⟨b, off, hv1, fun j u hj => ?_⟩
  have hj' : j < 12 := (List.getElem?_eq_some_iff.1 hj).1
  exact row_cell hc i hi j hj' u hj
theorem info12L (p : Pk) : (Tryz.prog.info? 35).map (·.size) = some (pcells p).length := info12
end Go.Proofs.YtdbgojmjjkidbaaGreatDoor

/-
  A WIRE THAT NO CALL MADE: what each call answers.
-/
namespace Go.Proofs.YtdbgojmjjkidbaaGreatDoor
open Go.RowKit Go.Maps Go.Sort K
set_option maxRecDepth 20000

/-- No pointer, or one to an empty wire. -/
def Un (w : World) (q : Option Addr) : Prop := q = none ∨ ∃ z, q = some ⟨z, 0, none⟩ ∧ w.heap[z]? = some (.cells #[.int .i64 0, .slice none 0 0, .map none] 70 (0, 0))
theorem Un.go {w w' : World} {q : Option Addr} (h : Un w q) (b : Below w.heap.size w w') : Un w' q := by
  rcases h with h | ⟨z, rfl, h⟩
  · exact .inl h
  · exact .inr ⟨z, rfl, (b.block _ (Array.getElem?_eq_some_iff.1 h).1).trans h⟩
section
variable {w : World} {q : Option Addr}
theorem un_made (h : Un w q) : Calls Tryz.prog 32 #[.pointer q] w fun e w' => e = .returned (.bool false) ∧ w' = w := by
  rcases h with rfl | ⟨z, rfl, h⟩
  · go_enter Tryz.func32, Tryz.ntmps32
    go_wp2
    go_ret
    exact ⟨rfl, rfl⟩
  · have c0 : w.cell? ⟨z, 0, none⟩ = some (.int .i64 0) := by simp [World.cell?, h]
    clear h
    go_enter Tryz.func32, Tryz.ntmps32
    go_wp2
    go_ret
    exact ⟨rfl, rfl⟩
theorem un_check (h : Un w q) (i : Int) : Calls Tryz.prog 40 #[.pointer q, .int .i64 i] w fun e w' => e = .returned (.int .i64 1) ∧ w' = w := by
  have hM := un_made h
  clear h
  go_enter Tryz.func40, Tryz.ntmps40
  go_wp2_with (go_at_call 32; refine hM.mono ?_; rintro e V ⟨rfl, rfl⟩)
  go_ret
  exact ⟨rfl, rfl⟩
theorem un_send (h : Un w q) (p : Pk) : Calls Tryz.prog 12 #[.pointer q, pv p] w fun e w' => e = .returned (.int .i64 1) ∧ Below w.heap.size w w' := by
  obtain ⟨W, fold⟩ : ∃ W, w.alloc (.cells #[.int .i64 p.kind, .int .i64 p.fr, .int .i64 p.dest, .int .u64 p.ep, .int .u16 p.num, .int .u64 p.mask, .int .i64 p.m.origin, .int .u64 p.m.seq, .int .i64 p.m.hop, .string p.m.ex, .string p.m.key, .string p.m.body] 35) = W := ⟨_, rfl⟩
  have b0 : Below w.heap.size w W := by rw [← fold]; exact box_belowW w _
  have hM := un_made (h.go b0)
  clear h
  go_enter Tryz.func12, Tryz.ntmps12
  go_wp2_with (go_at_call 32; refine hM.mono ?_; rintro e V ⟨rfl, rfl⟩)
  go_ret
  exact ⟨rfl, b0⟩
theorem un_look (h : Un w q) (i : Int) : Calls Tryz.prog 16 #[.pointer q, .int .i64 i] w fun e w' => e = .returned (.tuple #[pv nilP, .int .i64 1]) ∧ Below w.heap.size w w' := by
  obtain ⟨W, fold⟩ : ∃ X, w.alloc (.cells #[.int .i64 0, .int .i64 0, .int .i64 0, .int .u64 0, .int .u16 0, .int .u64 0, .int .i64 0, .int .u64 0, .int .i64 0, .string ⟨#[]⟩, .string ⟨#[]⟩, .string ⟨#[]⟩] 35) = X := ⟨_, rfl⟩
  have b1 : Below w.heap.size w W := by rw [← fold]; exact box_belowW w _
  have hR : W.heap[w.heap.size]? = some (.cells (pcells nilP).toArray 35 (0, 0)) := by rw [← fold]; exact heap_alloc_new w _
  have hC := un_check (h.go b1) i
  have HR : Hid (W.heap[w.heap.size]? = some (.cells (pcells nilP).toArray 35 (0, 0)) ∧ Below w.heap.size w W) := ⟨hR, b1⟩
  clear h b1 hR
  go_enter Tryz.func16, Tryz.ntmps16
  go_wp2_with (first
    | (go_at_call 40; refine hC.mono ?_; rintro e w2 ⟨rfl, rfl⟩)
    | refine wpList_store_row rfl 35 _ _ rfl w.heap.size (pcells nilP).toArray rfl rfl 35 (pcells nilP).toArray HR.out.1 info12 rfl (one12 nilP) ?_)
  refine bodyPost_ret (results_pk_tmp rfl _ _ w.heap.size nilP rfl (setRow_heap _ _ _ _ _ _ HR.out.1)) rfl ?_
  exact ⟨rfl, below_setRow HR.out.2 (Nat.le_refl _) _⟩
theorem un_drop (h : Un w q) (i : Int) : Calls Tryz.prog 18 #[.pointer q, .int .i64 i] w fun e w' => e = .returned (.int .i64 1) ∧ w' = w := by
  have hM := un_check h i
  clear h
  go_enter Tryz.func18, Tryz.ntmps18
  go_wp2_with (go_at_call 40; refine hM.mono ?_; rintro e V ⟨rfl, rfl⟩)
  go_ret
  exact ⟨rfl, rfl⟩
theorem un_twice (h : Un w q) (i : Int) : Calls Tryz.prog 20 #[.pointer q, .int .i64 i] w fun e w' => e = .returned (.int .i64 1) ∧ w' = w := by
  have hM := un_check h i
  clear h
  go_enter Tryz.func20, Tryz.ntmps20
  go_wp2_with (go_at_call 40; refine hM.mono ?_; rintro e V ⟨rfl, rfl⟩)
  go_ret
  exact ⟨rfl, rfl⟩
theorem un_flip (h : Un w q) (i k j : Int) : Calls Tryz.prog 22 #[.pointer q, .int .i64 i, .int .i64 k, .int .i64 j] w fun e w' => e = .returned (.int .i64 1) ∧ w' = w := by
  have hM := un_check h i
  clear h
  go_enter Tryz.func22, Tryz.ntmps22
  go_wp2_with (go_at_call 40; refine hM.mono ?_; rintro e V ⟨rfl, rfl⟩)
  go_ret
  exact ⟨rfl, rfl⟩
theorem un_sever (h : Un w q) (x : Ed) : Calls Tryz.prog 24 #[.pointer q, ev x] w fun e w' => e = .returned (.int .i64 1) ∧ Below w.heap.size w w' := by
  have b0 : Below w.heap.size w (w.alloc (.cells #[.int .i64 x.1, .int .i64 x.2] 37)) := box_belowW w _
  have hM := un_made (h.go b0)
  clear h
  go_enter Tryz.func24, Tryz.ntmps24
  go_wp2_with (go_at_call 32; refine hM.mono ?_; rintro e V ⟨rfl, rfl⟩)
  go_ret
  exact ⟨rfl, b0⟩
theorem un_mend (h : Un w q) (x : Ed) : Calls Tryz.prog 26 #[.pointer q, ev x] w fun e w' => e = .returned (.int .i64 1) ∧ Below w.heap.size w w' := by
  have b0 : Below w.heap.size w (w.alloc (.cells #[.int .i64 x.1, .int .i64 x.2] 37)) := box_belowW w _
  have hM := un_made (h.go b0)
  clear h
  go_enter Tryz.func26, Tryz.ntmps26
  go_wp2_with (go_at_call 32; refine hM.mono ?_; rintro e V ⟨rfl, rfl⟩)
  go_ret
  exact ⟨rfl, b0⟩
theorem un_len (h : Un w q) : Calls Tryz.prog 29 #[.pointer q] w fun e w' => e = .returned (.int .i64 0) ∧ w' = w := by
  have hM := un_made h
  clear h
  go_enter Tryz.func29, Tryz.ntmps29
  go_wp2_with (go_at_call 32; refine hM.mono ?_; rintro e V ⟨rfl, rfl⟩)
  go_ret
  exact ⟨rfl, rfl⟩
theorem un_severed (h : Un w q) : Calls Tryz.prog 28 #[.pointer q] w fun e w' => e = .returned (.slice none 0 0) ∧ w' = w := by
  have hM := un_made h
  clear h
  go_enter Tryz.func28, Tryz.ntmps28
  go_wp2_with (go_at_call 32; refine hM.mono ?_; rintro e V ⟨rfl, rfl⟩)
  go_ret
  exact ⟨rfl, rfl⟩
theorem un_take (h : Un w q) (i : Int) : Calls Tryz.prog 14 #[.pointer q, .int .i64 i] w fun e w' => e = .returned (.tuple #[pv nilP, .int .i64 1]) ∧ Below w.heap.size w w' := by
  obtain ⟨W, fold⟩ : ∃ X, w.alloc (.cells #[.int .i64 0, .int .i64 0, .int .i64 0, .int .u64 0, .int .u16 0, .int .u64 0, .int .i64 0, .int .u64 0, .int .i64 0, .string ⟨#[]⟩, .string ⟨#[]⟩, .string ⟨#[]⟩] 35) = X := ⟨_, rfl⟩
  have b1 : Below w.heap.size w W := by rw [← fold]; exact box_belowW w _
  have hR : W.heap[w.heap.size]? = some (.cells (pcells nilP).toArray 35 (0, 0)) := by rw [← fold]; exact heap_alloc_new w _
  have hL := un_look (h.go b1) i
  have HR : Hid (W.heap[w.heap.size]? = some (.cells (pcells nilP).toArray 35 (0, 0)) ∧ Below w.heap.size w W ∧ Un w q) := ⟨hR, b1, h⟩
  clear h b1 hR
  go_enter Tryz.func14, Tryz.ntmps14
  go_wp2_with fail
  try rw [fold]
  refine hL.mono ?_
  rintro e w2 ⟨rfl, b2⟩
  have H2 : Hid (w2.heap[w.heap.size]? = some (.cells (pcells nilP).toArray 35 (0, 0)) ∧ Below w.heap.size w w2) := ⟨(b2.block _ (Array.getElem?_eq_some_iff.1 HR.out.1).1).trans HR.out.1, keptW HR.out.2.1 b2⟩
  clear b2 hL
  obtain ⟨V, fV⟩ : ∃ X, w2.alloc (.cells #[.int .i64 0, .int .i64 0, .int .i64 0, .int .u64 0, .int .u16 0, .int .u64 0, .int .i64 0, .int .u64 0, .int .i64 0, .string ⟨#[]⟩, .string ⟨#[]⟩, .string ⟨#[]⟩] 35) = X := ⟨_, rfl⟩
  have xV : V.heap[w2.heap.size]? = some (.cells (pcells nilP).toArray 35 (0, 0)) := by rw [← fV]; exact heap_alloc_new w2 _
  have bV : Below w2.heap.size w2 V := by rw [← fV]; exact box_belowW w2 _
  obtain ⟨w4, f4⟩ : ∃ X, V.setRow w2.heap.size (pcells nilP).toArray = X := ⟨_, rfl⟩
  have b4 : Below w2.heap.size w2 w4 := by rw [← f4]; exact below_setRow bV (Nat.le_refl _) _
  have x4 : w4.heap[w2.heap.size]? = some (.cells (pcells nilP).toArray 35 (0, 0)) := by rw [← f4]; exact setRow_heap _ _ _ _ _ _ xV
  have HV : Hid (V.heap[w2.heap.size]? = some (.cells (pcells nilP).toArray 35 (0, 0))) := xV
  have H4 : Hid (w4.heap[w2.heap.size]? = some (.cells (pcells nilP).toArray 35 (0, 0)) ∧ w4.heap[w.heap.size]? = some (.cells (pcells nilP).toArray 35 (0, 0)) ∧ Below w.heap.size w w4) := ⟨x4, (b4.block _ (Array.getElem?_eq_some_iff.1 H2.out.1).1).trans H2.out.1, keptW H2.out.2 b4⟩
  clear xV bV b4 x4
  have hD := un_drop (HR.out.2.2.go H4.out.2.2) i
  go_wp2_with (refine wpList_store_row rfl 35 _ _ rfl w2.heap.size (pcells nilP).toArray rfl rfl 35 (pcells nilP).toArray HV.out info12 rfl (one12 nilP) ?_)
  try rw [f4]
  refine hD.mono ?_
  rintro e w4 ⟨rfl, rfl⟩
  go_wp2_with (first
    | refine wpList_load_row rfl 35 _ rfl w2.heap.size rfl 35 (pcells nilP).toArray (0, 0) _ H4.out.1 Tryz.underlying35 rfl info12 ?_
    | refine wpList_store_row rfl 35 _ _ rfl w.heap.size (pcells nilP).toArray rfl rfl 35 (pcells nilP).toArray H4.out.2.1 info12 rfl (one12 nilP) ?_)
  refine bodyPost_ret (results_pk_tmp rfl _ _ w.heap.size nilP rfl (setRow_heap _ _ _ _ _ _ H4.out.2.1)) rfl ?_
  exact ⟨rfl, below_setRow H4.out.2.2 (Nat.le_refl _) _⟩
end
end Go.Proofs.YtdbgojmjjkidbaaGreatDoor
