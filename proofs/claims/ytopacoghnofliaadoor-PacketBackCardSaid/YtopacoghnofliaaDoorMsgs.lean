/-
  MessageBytes, by its contract.
-/
import Derived.Test.YtopacoghnofliaaDoorTexts13
namespace Go.Proofs.YtopacoghnofliaaDoor
open Go.RowKit


theorem wrap_u64 (n : Int) : IntKind.u64.wrap n = ((u64 n : Nat) : Int) := by
  unfold u64 IntKind.wrap
  simp only [IntKind.signed, IntKind.bits]
  simp
  omega

theorem u64_lt (n : Int) : u64 n < 18446744073709551616 := by unfold u64; omega

theorem seq_cast {n : Int} (h : 0 ≤ n) : ((n.toNat : Nat) : Int) = n := by omega

/-- Some texts in a row of their own. -/
theorem row_texts (w : World) (ts : List ByteArray) (n : Nat) (hn : n = ts.length) (h9 : n ≤ 9) (cs : Array Value) (hc : cs = (scells ts).toArray) : Row (w.alloc (.cells cs 9)) (.slice (some ⟨w.heap.size, 0, none⟩) n n) (scells ts) := by
  subst hn hc
  refine .inr ⟨⟨w.heap.size, 0, none⟩, ts.length, by rw [scells_length], by rw [scells_length]; exact Nat.le_refl _, by unfold maxLen; omega, fun j u hj => ?_⟩
  have := heap_alloc_new w (.cells (scells ts).toArray 9)
  rw [Addr.add_lit, Nat.zero_add]
  simp only [World.cell?]
  rw [this]
  simpa using hj

/-- Short texts. -/
def Ms.Short (m : Ms) : Prop := m.ex.size ≤ 65535 ∧ m.key.size ≤ 65535 ∧ m.body.size ≤ 65535

theorem bytesM_eq (m : Ms) : bytesM m = [] ++ putL 1 (u64 m.origin) ++ putL 8 m.seq.toNat ++ putL 1 (u64 m.hop) ++ textsL [m.ex, m.key, m.body] := by
  simp [bytesM, textsL]

set_option maxRecDepth 20000 in
set_option maxHeartbeats 2000000 in
theorem msgBytes_any (m : Ms) (w : World) (ht : Tab w) (hm : m.Fits) (hs : m.Short) :
    Calls Tryd.prog 26 #[mv m] w fun e w' => ∃ v', e = .returned v' ∧ Owns w' w.heap.size 5 v' (bytesM m) ∧ Below w.heap.size w w' := by
  rw [bytesM_eq]
  obtain ⟨W, fold⟩ : ∃ W, w.alloc (.cells #[.int .i64 m.origin, .int .u64 m.seq, .int .i64 m.hop, .string m.ex, .string m.key, .string m.body] 27) = W := ⟨_, rfl⟩
  have b0 : Below w.heap.size w W := by rw [← fold]; exact box_below w _
  have y0 : W.cell? ⟨w.heap.size, 0, none⟩ = some (.int .i64 m.origin) := by rw [← fold]; exact box_cell w _ _ _ _ rfl
  have y1 : W.cell? ⟨w.heap.size, 1, none⟩ = some (.int .u64 m.seq) := by rw [← fold]; exact box_cell w _ _ _ _ rfl
  have y2 : W.cell? ⟨w.heap.size, 2, none⟩ = some (.int .i64 m.hop) := by rw [← fold]; exact box_cell w _ _ _ _ rfl
  have y3 : W.cell? ⟨w.heap.size, 3, none⟩ = some (.string m.ex) := by rw [← fold]; exact box_cell w _ _ _ _ rfl
  have y4 : W.cell? ⟨w.heap.size, 4, none⟩ = some (.string m.key) := by rw [← fold]; exact box_cell w _ _ _ _ rfl
  have y5 : W.cell? ⟨w.heap.size, 5, none⟩ = some (.string m.body) := by rw [← fold]; exact box_cell w _ _ _ _ rfl
  have c0 := wrap_u64 m.origin
  have c2 := wrap_u64 m.hop
  have c1 := seq_cast hm.s.1
  have HM : Hid (m.Short ∧ m.seq.toNat < 18446744073709551616) := ⟨hs, by have := hm.s; omega⟩
  obtain ⟨sq, hsq⟩ : ∃ z, m.seq.toNat = z := ⟨_, rfl⟩
  obtain ⟨og, hog⟩ : ∃ z, u64 m.origin = z := ⟨_, rfl⟩
  obtain ⟨hp, hhp⟩ : ∃ z, u64 m.hop = z := ⟨_, rfl⟩
  have l0 : og < 18446744073709551616 := by rw [← hog]; exact u64_lt _
  have l2 : hp < 18446744073709551616 := by rw [← hhp]; exact u64_lt _
  rw [hsq] at c1 HM ⊢
  rw [hog] at c0 ⊢
  rw [hhp] at c2 ⊢
  rw [← c1] at y1
  have HT : Hid (Tab W) := ht.below b0 ht.pos
  have HB0 : Hid (Below w.heap.size w W) := b0
  have hP := put_good (.slice none 0 0) [] 1 og W (ht.below b0 ht.pos) (.inl ⟨rfl, rfl⟩) (by simp) (by decide) l0
  clear hs hm ht b0 hsq hog hhp c1
  go_enter Tryd.func26, Tryd.ntmps26
  go_wp2_with fail
  try rw [fold]
  refine hP.mono ?_
  rintro e w1 ⟨v1, rfl, o1, b1⟩
  obtain ⟨a1, k1, hv1⟩ := o1.holds.slice
  obtain ⟨n1, hn1⟩ : ∃ z, ([] ++ putL 1 og).length = z := ⟨_, rfl⟩
  rw [hn1] at hv1
  subst hv1
  have z0 := cell_on b1 y0; have z1 := cell_on b1 y1; have z2 := cell_on b1 y2; have z3 := cell_on b1 y3; have z4 := cell_on b1 y4; have z5 := cell_on b1 y5
  have hP2 := put_good (.slice a1 n1 k1) ([] ++ putL 1 og) 8 sq w1 (HT.out.below b1 HT.out.pos) o1.holds (by simp [putL_length]) (by decide) HM.out.2
  have HB1 : Hid (Below w.heap.size w w1 ∧ Below W.heap.size W w1) := ⟨keptW HB0.out b1, b1⟩
  clear hP o1 b1 hn1 y0 y1 y2 y3 y4 y5
  go_wp2_with fail
  refine hP2.mono ?_
  rintro e w2 ⟨v2, rfl, o2, b2⟩
  obtain ⟨a2, k2, hv2⟩ := o2.holds.slice
  obtain ⟨n2, hn2⟩ : ∃ z, ([] ++ putL 1 og ++ putL 8 sq).length = z := ⟨_, rfl⟩
  rw [hn2] at hv2
  subst hv2
  have y0 := cell_on b2 z0; have y1 := cell_on b2 z1; have y2 := cell_on b2 z2; have y3 := cell_on b2 z3; have y4 := cell_on b2 z4; have y5 := cell_on b2 z5
  have hP3 := put_good (.slice a2 n2 k2) ([] ++ putL 1 og ++ putL 8 sq) 1 hp w2 (HT.out.below (keptW HB1.out.2 b2) HT.out.pos) o2.holds (by simp [putL_length]) (by decide) l2
  have HB2 : Hid (Below w.heap.size w w2 ∧ Below W.heap.size W w2) := ⟨keptW HB1.out.1 b2, keptW HB1.out.2 b2⟩
  clear hP2 o2 b2 hn2 z0 z1 z2 z3 z4 z5 HB1
  go_wp2_with fail
  refine hP3.mono ?_
  rintro e w3 ⟨v3, rfl, o3, b3⟩
  obtain ⟨a3, k3, hv3⟩ := o3.holds.slice
  obtain ⟨n3, hn3⟩ : ∃ z, ([] ++ putL 1 og ++ putL 8 sq ++ putL 1 hp).length = z := ⟨_, rfl⟩
  rw [hn3] at hv3
  subst hv3
  have z0 := cell_on b3 y0; have z1 := cell_on b3 y1; have z2 := cell_on b3 y2; have z3 := cell_on b3 y3; have z4 := cell_on b3 y4; have z5 := cell_on b3 y5
  obtain ⟨w4, hw4⟩ : ∃ z, w3.alloc (.cells #[.string m.ex, .string m.key, .string m.body] 9) = z := ⟨_, rfl⟩
  have b4 : Below w3.heap.size w3 w4 := by rw [← hw4]; exact box_below w3 _
  have hrow : Row w4 (.slice (some ⟨w3.heap.size, 0, none⟩) 3 3) (scells [m.ex, m.key, m.body]) := by rw [← hw4]; exact row_texts w3 [m.ex, m.key, m.body] 3 rfl (by omega) _ rfl
  have hPt := puts_any (.slice a3 n3 k3) _ ([] ++ putL 1 og ++ putL 8 sq ++ putL 1 hp) [m.ex, m.key, m.body] w4 (HT.out.below (keptW (keptW HB2.out.2 b3) b4) HT.out.pos) (o3.holds.below b4 (Nat.le_refl _)) hrow (by simp [putL_length]) (by
    intro s hs
    obtain ⟨h1, h2, h3⟩ := HM.out.1
    simp only [List.mem_cons, List.not_mem_nil, or_false] at hs
    rcases hs with rfl | rfl | rfl
    · exact h1
    · exact h2
    · exact h3) (by simp) (by simp)
  have HB4 : Hid (Below w.heap.size w w4) := keptW (keptW HB2.out.1 b3) b4
  clear hP3 o3 b3 hn3 y0 y1 y2 y3 y4 y5 hrow b4
  go_wp2_with fail
  try rw [hw4]
  refine hPt.mono ?_
  rintro e w5 ⟨v5, rfl, o5, b5⟩
  go_wp2
  go_ret
  exact ⟨_, rfl, o5.mono HB4.out.size, keptW HB4.out b5⟩

end Go.Proofs.YtopacoghnofliaaDoor
