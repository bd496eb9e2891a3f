/-
  THE DOCUMENT's need, Used, by their contracts.
-/
import Derived.Test.YtndinjekocgjhaaRFind
namespace Go.Proofs.Ytndinjekocgjhaa
open Go.RowKit

/-- Files that are there lie at plain addresses. -/
theorem rfs_at {w : World} {a : Option Addr} {n cap : Nat} {l : List Rf} (h : K.RowOf rfc w (.slice a n cap) l) : n = l.length ∧ l.length ≤ maxLen ∧ ∀ i (hi : i < l.length), ∃ b off, a = some ⟨b, off, none⟩ ∧ w.cell? ⟨b, off + i * 2, none⟩ = some (.slice l[i].na l[i].nn l[i].nc) ∧ w.cell? ⟨b, off + i * 2 + 1, none⟩ = some (.slice l[i].sa l[i].sn l[i].sc) := by
  have hn : n = l.length := by
    obtain ⟨a', cap', hv⟩ := h.slice
    injection hv
  have hcm : l.length ≤ maxLen := by
    rcases h with ⟨hv, rfl⟩ | ⟨_, _, hv, h1, h2, _⟩
    · exact Nat.zero_le _
    · omega
  refine ⟨hn, hcm, fun i hi => ?_⟩
  obtain ⟨b, off, cap', hv, _, _, hc⟩ := h.at (by omega)
  injection hv with hv1 _ _
  exact ⟨b, off, hv1, by simpa using K.row_cell hc i hi 0 (by decide) _ rfl, K.row_cell hc i hi 1 (by decide) _ rfl⟩
theorem buf_len {w : World} {a : Option Addr} {n c : Nat} {l : List UInt8} (h : Buf w (.slice a n c) l) : n = l.length := by
  obtain ⟨_, _, hv⟩ := h.slice
  injection hv

set_option maxRecDepth 20000 in
set_option maxHeartbeats 2000000 in
theorem rneed_at {w : World} {p : Nat} {A D S : Value} {L : List Rf} {kp : Int} {m : M} (h : RAt w p A D S L kp m) (ok : m.Ok) (hc : m.count ≤ 1000000) :
    Calls Try.prog 45 #[.pointer (some ⟨p, 0, none⟩)] w fun e w' => e = .returned (.int .i64 (m.need : Int)) ∧ Below w.heap.size w w' := by
  obtain ⟨_, c1, c2, _, _, _, _, _⟩ := h.cells
  have hr := h.dir.rng
  obtain ⟨va, vc, rfl⟩ := hr.slice
  obtain ⟨_, hlm, hat⟩ := ens_at hr
  have hra := h.all.rng
  obtain ⟨aa, ac, rfl⟩ := hra.slice
  obtain ⟨_, hlmA, hatA⟩ := rfs_at hra
  have l63 : m.dir.length ≤ 9223372036854775807 := by unfold maxLen at hlm; omega
  have HA : Hid _ := hat
  have HL : Hid (∀ i (hi : i < m.dir.length), ∃ b off na nc, aa = some ⟨b, off, none⟩ ∧ m.dir[i].f < L.length ∧ w.cell? ⟨b, off + m.dir[i].f * 2, none⟩ = some (.slice na (m.fl m.dir[i].f).now.length nc)) := fun i hi => by
    have h1 : m.dir[i].f < L.length := by rw [h.len]; exact ok.fd _ (List.getElem_mem hi)
    obtain ⟨b, off, h2, h3, _⟩ := hatA _ h1
    have h4 := buf_len (h.now _ h1)
    rw [h4] at h3
    exact ⟨b, off, _, _, h2, h1, h3⟩
  have HN : Hid (∀ i (hi : i < m.dir.length), m.needL (m.dir.take (i + 1)) = m.needL (m.dir.take i) + (16 + (m.fl m.dir[i].f).now.length)) := fun i hi => by
    show _ = _
    rw [List.take_succ_eq_append_getElem hi]
    simp only [M.needL, List.map_append, List.sum_append, List.map_cons, List.map_nil, List.sum_cons, List.sum_nil, Nat.add_zero]
  have HB : Hid (∀ i, i ≤ m.dir.length → m.needL (m.dir.take i) ≤ 1073741840000000) := fun i hi => by
    have h1 := ok.needL (m.dir.take i)
    have h2 := ok.ld
    have h3 : (m.dir.take i).length ≤ 1000000 := by rw [List.length_take]; omega
    have h4 := Nat.mul_le_mul_right 1073741840 h3
    show _ ≤ _
    omega
  have HFl : Hid (∀ i, (m.fl i).now.length ≤ 1073741824) := fun i => (ok.fl i).1
  have HE : Hid (m.needL (m.dir.take m.dir.length) = m.need) := by show _ = _; rw [List.take_length]; rfl
  clear hr hat hra hatA h
  go_enter Try.func45, Try.ntmps45
  go_wp2
  go_loopw [3, 11] (fun u3 u11 wr => ∃ k : Nat, u3 = .int .i64 (m.needL (m.dir.take k) : Int) ∧ u11 = .int .i64 k ∧ k ≤ m.dir.length ∧ Below w.heap.size w wr) (fun u3 u11 wr => m.dir.length - (intOf u11).toNat)
  case atStart => exact ⟨0, rfl, rfl, Nat.zero_le _, Below.refl _ _⟩
  case round =>
    obtain ⟨k, rfl, rfl, hk, hB⟩ := hrel
    by_cases hlt : k < m.dir.length
    · have hlt' : (k : Int) < (m.dir.length : Int) := by omega
      obtain ⟨b, off, rfl, g0', g1'⟩ := HA.out k hlt
      obtain ⟨b2, off2, na, nc, rfl, hfl, g2'⟩ := HL.out k hlt
      have hn := HN.out k hlt
      have hb1 := HB.out k hk
      have hb2 := HFl.out m.dir[k].f
      obtain ⟨s, hs⟩ : ∃ z, m.dir[k].name = z := ⟨_, rfl⟩
      obtain ⟨f, hf⟩ : ∃ z, m.dir[k].f = z := ⟨_, rfl⟩
      rw [hs] at g0'
      rw [hf] at g1' hn hb2 hfl g2'
      obtain ⟨q, hq⟩ : ∃ z, (m.fl f).now.length = z := ⟨_, rfl⟩
      rw [hq] at hn hb2 g2'
      have hn' : Hid (m.needL (m.dir.take (k + 1)) = m.needL (m.dir.take k) + (16 + q)) := hn
      generalize m.needL (m.dir.take k) = t at *
      have hfl' : (f : Int) < (L.length : Int) := by omega
      obtain ⟨X, hX⟩ : ∃ X, wr.alloc (.cells #[.string s, .int .i64 (f : Int)] 77) = X := ⟨_, rfl⟩
      have bX : Below wr.heap.size wr X := by rw [← hX]; exact (Below.refl _ _).alloc (Nat.le_refl _) _
      have hBX := keptW hB bX
      have x1 : X.cell? ⟨wr.heap.size, 1, none⟩ = some (.int .i64 (f : Int)) := by
        have h := heap_alloc_new wr (.cells #[.string s, .int .i64 (f : Int)] 77)
        rw [hX] at h
        simp only [World.cell?]; rw [h]; rfl
      have g0 := cell_on hB g0'
      have g1 := cell_on hB g1'
      have y1 := cell_on hBX c1
      have g2 := cell_on hBX g2'
      have hw1 : IntKind.i64.wrap (16 + (q : Int)) = 16 + (q : Int) := by rw [IntKind.wrap_i64]; omega
      have hw2 : IntKind.i64.wrap ((t : Int) + (16 + (q : Int))) = (t : Int) + (16 + (q : Int)) := by rw [IntKind.wrap_i64]; omega
      clear g0' g1' g2' hB bX hn hs hf hq
      go_wp2
      go_quiet (fail)
      go_wp2
      exact ⟨⟨k + 1, by rw [hn'.out]; simp, by go_num, by omega, hBX.trans (below_draws _ _ _)⟩, by simp [intOf]; omega⟩
    · have e : k = m.dir.length := by omega
      have hlt' : ¬ (k : Int) < (m.dir.length : Int) := by omega
      subst e
      rw [HE.out]
      go_wp2
      go_ret
      exact ⟨rfl, hB⟩
set_option maxHeartbeats 1000000 in
theorem rused_at {w : World} {p : Nat} {A D S : Value} {L : List Rf} {kp : Int} {m : M} (h : RAt w p A D S L kp m) (ok : m.Ok) (hc : m.count ≤ 1000000) :
    Calls Try.prog 14 #[.pointer (some ⟨p, 0, none⟩)] w fun e w' => e = .returned (.int .i64 (m.used : Int)) ∧ Below w.heap.size w w' := by
  obtain ⟨_, _, _, _, c4, _, _, _⟩ := h.cells
  have hN := rneed_at h ok hc
  unfold M.used
  clear h
  cases hd : m.dark with
  | true =>
    rw [hd] at c4
    clear hN
    go_enter Try.func14, Try.ntmps14
    go_wp2
    go_ret
    exact ⟨rfl, Below.refl _ _⟩
  | false =>
    rw [hd] at c4
    simp only [Bool.false_eq_true, if_false]
    go_enter Try.func14, Try.ntmps14
    go_wp2_with (go_at_call 45; refine hN.mono ?_; rintro e w4 ⟨rfl, b4⟩)
    go_ret
    exact ⟨rfl, b4⟩
end Go.Proofs.Ytndinjekocgjhaa
