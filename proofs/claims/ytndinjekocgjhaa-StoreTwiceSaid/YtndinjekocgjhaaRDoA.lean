/-
  THE DOCUMENT's count, Commit, Drop, Sync, by their contracts.
-/
import Derived.Test.YtndinjekocgjhaaRFail
namespace Go.Proofs.Ytndinjekocgjhaa
open Go.RowKit

section
variable {w V : World} {p : Nat} {A D S : Value} {L : List Rf} {kp : Int} {m : M}
theorem RAt.toR (h : RAt w p A D S L kp m) : R w p (rfoot p A D S L) m := ⟨_, _, _, _, _, h, rfl⟩
/-- Two of the store's own cells were changed. -/
theorem RAt.ticked (h : RAt w p A D S L kp m) (hV : V.heap = ((w.setCell ⟨p, 5, none⟩ (.int .i64 ((m.count : Int) + 1))).setCell ⟨p, 6, none⟩ (.int .i64 (M.less m.left))).heap) (h1 : V.os = w.os) (h2 : V.tape = w.tape) (h3 : V.output = w.output) : RAt V p A D S L kp m.tick ∧ Moved w V (rfoot p A D S L) (rfoot p A D S L) := by
  have ho : ∀ i, i ≠ p → V.heap[i]? = w.heap[i]? := fun i hi => by rw [hV, Below.heap_setCell _ _ _ _ hi, Below.heap_setCell _ _ _ _ hi]
  refine ⟨h.turn (m' := m.tick) ?_ ho (fun hl => h.keep ?_) rfl rfl rfl, h1, h2, h3, by rw [hV]; simp, fun i _ hn => ho i fun e => hn (.inl e), fun _ h => .inl h⟩
  · rw [hV]
    exact heap_set_list (i := 6) (heap_set_list (i := 5) h.blk _) _
  · unfold M.tick M.less at hl
    simp only at hl
    split at hl <;> omega
set_option maxRecDepth 20000 in
set_option maxHeartbeats 1000000 in
theorem rcount_miss (h : RAt w p A D S L kp m) (ok : m.Ok) (hc : m.count ≤ 900000) (hl : m.left ≠ 1) :
    Calls Try.prog 61 #[.pointer (some ⟨p, 0, none⟩)] w fun e w' => e = .returned (.bool false) ∧ RAt w' p A D S L kp m.tick ∧ Moved w w' (rfoot p A D S L) (rfoot p A D S L) := by
  obtain ⟨_, _, _, _, _, c5, c6, _⟩ := h.cells
  have f5 := h.frozen 5
  have f6 := h.frozen 6
  have hl0 := ok.left0
  have hl1 := ok.left1
  have HE : Hid (∀ V : World, V.heap = ((w.setCell ⟨p, 5, none⟩ (.int .i64 ((m.count : Int) + 1))).setCell ⟨p, 6, none⟩ (.int .i64 (M.less m.left))).heap → V.os = w.os → V.tape = w.tape → V.output = w.output → RAt V p A D S L kp m.tick ∧ Moved w V (rfoot p A D S L) (rfoot p A D S L)) := fun V a b c d => h.ticked a b c d
  have HZ : Hid (m.left = 0 → (w.setCell ⟨p, 5, none⟩ (.int .i64 ((m.count : Int) + 1))).heap = ((w.setCell ⟨p, 5, none⟩ (.int .i64 ((m.count : Int) + 1))).setCell ⟨p, 6, none⟩ (.int .i64 (M.less m.left))).heap) := fun hz => by
    have hb := heap_set_list (i := 5) h.blk (.int .i64 ((m.count : Int) + 1))
    have hb2 := heap_set_list (i := 6) hb (.int .i64 (M.less m.left))
    apply Array.ext_getElem?
    intro i
    by_cases hi : i = p
    · subst hi
      rw [hb, hb2]
      have : M.less m.left = m.left := by unfold M.less; rw [hz]; rfl
      rw [this]
      rfl
    · rw [Below.heap_setCell _ _ _ _ hi, Below.heap_setCell _ _ _ _ hi, Below.heap_setCell _ _ _ _ hi]
  have hcw : IntKind.i64.wrap ((m.count : Int) + 1) = (m.count : Int) + 1 := by rw [IntKind.wrap_i64]; omega
  clear h ok
  generalize m.count = c at *
  by_cases hz : m.left = 0
  · have hlt : m.left < 1 := by omega
    have HZ' := HZ.out hz
    clear hz HZ
    generalize M.less m.left = l' at *
    generalize m.left = l at *
    go_enter Try.func61, Try.ntmps61
    go_wp2
    go_ret
    exact ⟨rfl, HE.out _ HZ' rfl rfl rfl⟩
  · have hlt : ¬ m.left < 1 := by omega
    have hls : M.less m.left = m.left - 1 := by unfold M.less; rw [if_pos (by omega)]
    rw [hls] at HE
    have hgt : 0 < m.left - 1 := by omega
    clear HZ hls
    generalize m.left = l at *
    obtain ⟨l', hl'⟩ : ∃ l', l' = l - 1 := ⟨_, rfl⟩
    rw [← hl'] at hgt HE
    have hlw : IntKind.i64.wrap (l - 1) = l' := by rw [IntKind.wrap_i64]; omega
    clear hl' hz hl hl0 hl1
    go_enter Try.func61, Try.ntmps61
    go_wp2
    go_ret
    exact ⟨rfl, HE.out _ rfl rfl rfl rfl⟩
set_option maxRecDepth 20000 in
set_option maxHeartbeats 1000000 in
theorem rcount_hit (h : RAt w p A D S L kp m) (ok : m.Ok) (hc : m.count ≤ 900000) (hl : m.left = 1) :
    Calls Try.prog 61 #[.pointer (some ⟨p, 0, none⟩)] w fun e w' => e = .returned (.bool true) ∧ ∃ F', R w' p F' (m.tick.fail m.keep) ∧ Moved w w' (rfoot p A D S L) F' := by
  obtain ⟨_, _, _, _, _, c5, c6, c7⟩ := h.cells
  have f5 := h.frozen 5
  have f6 := h.frozen 6
  have hkp : kp = m.keep := h.keep (by omega)
  have hls : M.less m.left = 0 := by unfold M.less; rw [hl]; rfl
  have HE : Hid (∀ V : World, V.heap = ((w.setCell ⟨p, 5, none⟩ (.int .i64 ((m.count : Int) + 1))).setCell ⟨p, 6, none⟩ (.int .i64 0)).heap → V.os = w.os → V.tape = w.tape → V.output = w.output → V.cell? ⟨p, 7, none⟩ = some (.int .i64 kp) ∧ Calls Try.prog 40 #[.pointer (some ⟨p, 0, none⟩), .int .i64 kp] V fun e w' => e = .returned (.tuple #[]) ∧ ∃ F', R w' p F' (m.tick.fail m.keep) ∧ Moved w w' (rfoot p A D S L) F') := fun V a b c d => by
    obtain ⟨r, mv⟩ := h.ticked (V := V) (by rw [hls]; exact a) b c d
    refine ⟨r.cells.2.2.2.2.2.2.2, ?_⟩
    rw [hkp] at *
    refine (rfail_at r ok.tick m.keep ok.kp (by show m.count + 1 ≤ _; omega)).mono ?_
    rintro e w' ⟨rfl, F', r', mv'⟩
    exact ⟨rfl, F', r', mv.trans mv'⟩
  have hcw : IntKind.i64.wrap ((m.count : Int) + 1) = (m.count : Int) + 1 := by rw [IntKind.wrap_i64]; omega
  rw [hl] at c6
  obtain ⟨W, fold⟩ : ∃ W, (w.setCell ⟨p, 5, none⟩ (.int .i64 ((m.count : Int) + 1))).setCell ⟨p, 6, none⟩ (.int .i64 0) = W := ⟨_, rfl⟩
  obtain ⟨x7, hF⟩ := HE.out W (by rw [← fold]) (by rw [← fold]; rfl) (by rw [← fold]; rfl) (by rw [← fold]; rfl)
  have x6 : W.cell? ⟨p, 6, none⟩ = some (.int .i64 0) := by
    rw [← fold]
    refine World.cell?_setCell_same' _ _ _ ?_
    simp only [World.cell?]
    rw [heap_set_list (i := 5) h.blk (.int .i64 ((m.count : Int) + 1))]
    rfl
  clear h ok HE hls hkp hl
  generalize m.count = c at *
  go_enter Try.func61, Try.ntmps61
  go_wp2_with (go_at_call 40; refine hF.mono ?_; rintro e w4 ⟨rfl, HX⟩)
  go_ret
  exact ⟨rfl, HX⟩
end

section
variable {w V : World} {p : Nat} {A D S : Value} {L : List Rf} {kp : Int} {m : M}
theorem foot_newDir {D' : Value} {B : Nat} (h : ∀ g, D'.ownBlock = some g → B ≤ g) : ∀ i, rfoot p A D' S L i → rfoot p A D S L i ∨ B ≤ i := by
  rintro i (hi | hi | hi | hi | hi)
  · exact .inl (.inl hi)
  · exact .inl (.inr (.inl hi))
  · exact .inr (h i hi)
  · exact .inl (.inr (.inr (.inr (.inl hi))))
  · exact .inl (.inr (.inr (.inr (.inr hi))))
theorem foot_newSur {S' : Value} {B : Nat} (h : ∀ g, S'.ownBlock = some g → B ≤ g) : ∀ i, rfoot p A D S' L i → rfoot p A D S L i ∨ B ≤ i := by
  rintro i (hi | hi | hi | hi | hi)
  · exact .inl (.inl hi)
  · exact .inl (.inr (.inl hi))
  · exact .inl (.inr (.inr (.inl hi)))
  · exact .inr (h i hi)
  · exact .inl (.inr (.inr (.inr (.inr hi))))
theorem RAt.newSur {w1 V : World} {v : Value} {acc : List En} (h : RAt w p A D S L kp m) (hb : Below w.heap.size w w1) (own : K.OwnOf ecl 2 77 w1 w.heap.size v acc) (hV : V.heap = (w1.setCell ⟨p, 3, none⟩ v).heap) (h1 : V.os = w1.os) (h2 : V.tape = w1.tape) (h3 : V.output = w1.output) :
    ∃ F', R V p F' { m with sur := acc } ∧ Moved w V (rfoot p A D S L) F' := by
  have hp : p < w.heap.size := h.lts p (.inl rfl)
  have ho : ∀ k, k ≠ p → V.heap[k]? = w1.heap[k]? := fun k hk => by rw [hV, Below.heap_setCell _ _ _ _ hk]
  have h' := h.kept hb
  have ho' : ∀ g, v.ownBlock = some g → V.heap[g]? = w1.heap[g]? := fun g hg => ho g (by have := (own.lt hg).1; omega)
  refine ⟨_, ⟨A, D, v, L, kp, ⟨?_, h'.keep, own_same h'.all fun g hg => ho g (h'.ne (.inl hg)), own_same h'.dir fun g hg => ho g (h'.ne (.inr (.inl hg))), own_same (own.mono (Nat.zero_le _)) ho', h'.len, fun i hi => (h'.now i hi).same fun g hg => ho g (h'.ne (.inr (.inr (.inr ⟨_, List.getElem_mem hi, .inl hg⟩)))), fun i hi => (h'.sure i hi).same fun g hg => ho g (h'.ne (.inr (.inr (.inr ⟨_, List.getElem_mem hi, .inr hg⟩))))⟩, rfl⟩, ?_⟩
  · rw [hV]
    exact heap_set_list (i := 3) h'.blk v
  · exact ⟨h1.trans hb.os, h2.trans hb.tape, h3.trans hb.output, by rw [hV]; simpa using hb.size, fun k hk hn => (ho k fun e => hn (.inl e)).trans (hb.block k hk), foot_newSur fun g hg => (own.lt hg).1⟩
end
set_option maxRecDepth 20000 in
set_option maxHeartbeats 2000000 in
theorem rcommit_any (p : Nat) (F : Nat → Prop) (m : M) (w : World) (h : R w p F m) (ok : m.Ok) (hc : m.count ≤ 900000) :
    Calls Try.prog 36 #[.pointer (some ⟨p, 0, none⟩)] w fun e w' => e = .returned (.int .i64 m.commit.1) ∧ ∃ F', R w' p F' m.commit.2 ∧ Moved w w' F F' := by
  obtain ⟨A, D, S, L, kp, h, rfl⟩ := h
  obtain ⟨_, _, _, _, c4, _, _, _⟩ := h.cells
  cases hd : m.dark with
  | true =>
    have hm : m.commit = (9, m) := by unfold M.commit; rw [hd]; rfl
    rw [hm]
    have HS : Hid (∃ F', R w p F' m ∧ Moved w w (rfoot p A D S L) F') := ⟨_, h.toR, .refl _ _⟩
    rw [hd] at c4
    clear h
    go_enter Try.func36, Try.ntmps36
    go_wp2
    go_ret
    exact ⟨rfl, HS.out⟩
  | false =>
    rw [hd] at c4
    by_cases hl : m.left = 1
    · have hm : m.commit = (9, m.tick.fail m.keep) := by unfold M.commit M.step; rw [hd, if_pos hl]; rfl
      rw [hm]
      have hC := rcount_hit h ok hc hl
      clear h hl hd
      go_enter Try.func36, Try.ntmps36
      go_wp2_with (go_at_call 61; refine hC.mono ?_; rintro e w4 ⟨rfl, HX⟩)
      go_ret
      exact ⟨rfl, HX⟩
    · have hm : m.commit = (0, M.secure m.tick) := by unfold M.commit M.step; rw [hd, if_neg hl]; rfl
      rw [hm]
      have hC := rcount_miss h ok hc hl
      obtain ⟨dva, dvc, rfl⟩ := h.dir.rng.slice
      have hls : m.dir.length ≤ 1000000 := by have := ok.ld; omega
      obtain ⟨i0, hi0, hz0, hzs, hzb⟩ := entInfo
      clear h hl hd
      go_enter Try.func36, Try.ntmps36
      go_wp2_with fail
      refine hC.mono ?_
      rintro e W1 ⟨rfl, h1, mv1⟩
      clear hC
      obtain ⟨V, foldV⟩ : ∃ V, W1.alloc (.cells #[] 77) = V := ⟨_, rfl⟩
      have bV : Below W1.heap.size W1 V := by rw [← foldV]; exact (Below.refl _ _).alloc (Nat.le_refl _) _
      have hV := h1.kept bV
      have eA : K.OwnOf ecl 2 77 V W1.heap.size (.slice (some ⟨W1.heap.size, 0, none⟩) 0 0) [] := by rw [← foldV]; exact K.ownOf_empty W1 W1.heap.size (Nat.le_refl _)
      obtain ⟨_, _, d2, _, _⟩ := hV.cells
      have hrS : K.RowOf ecl V (.slice dva m.dir.length dvc) m.dir := hV.dir.rng
      have HSZ : Hid (V.heap.size = W1.heap.size + 1) := by rw [← foldV]; show _ = _; simp
      have HNF : Hid (∀ w2 va' vc', Below W1.heap.size W1 w2 → K.OwnOf ecl 2 77 w2 W1.heap.size (.slice va' m.dir.length vc') m.dir → w2.cell? ⟨p, 3, none⟩ = some S ∧ w2.frozen? ⟨p, 3, none⟩ = false ∧ ∃ F', R (w2.setCell ⟨p, 3, none⟩ (.slice va' m.dir.length vc')) p F' (M.secure m.tick) ∧ Moved w (w2.setCell ⟨p, 3, none⟩ (.slice va' m.dir.length vc')) (rfoot p A (.slice dva m.dir.length dvc) S L) F') := fun w2 va' vc' b2 own' => by
        refine ⟨(h1.kept b2).cells.2.2.2.1, (h1.kept b2).frozen 3, ?_⟩
        obtain ⟨F', r1, r2⟩ := h1.newSur (V := w2.setCell ⟨p, 3, none⟩ (.slice va' m.dir.length vc')) b2 own' rfl rfl rfl rfl
        exact ⟨F', r1, mv1.trans r2⟩
      clear h1 hV mv1
      go_wp2_with (at_builtin; refine K.wpList_append_rows (enc := ecl) rfl (.tmp 12) (.tmp 16) 38 rfl Try.underlying38 i0 _ 24 hi0 hz0 hzs hzb rfl W1.heap.size (.slice (some ⟨W1.heap.size, 0, none⟩) 0 0) _ [] m.dir rfl rfl eA hrS (by unfold maxLen; simp; omega) (by simp; omega) (by have := HSZ.out; omega) ?_; intro v' w2 own' gr' _; have HB2 : Hid (Below W1.heap.size W1 w2) := eA.below gr' bV bV.size (Nat.le_refl _); obtain ⟨va', vc', hv'⟩ := own'.rng.slice; rw [List.nil_append] at hv' own'; subst hv'; obtain ⟨y3, fz, HX⟩ := HNF.out w2 va' vc' HB2.out own'; clear own' gr' eA hrS bV HB2 HNF)
      go_ret
      exact ⟨rfl, HX⟩
set_option maxRecDepth 20000 in
set_option maxHeartbeats 2000000 in
theorem rdrop_any (p : Nat) (F : Nat → Prop) (m : M) (n : ByteArray) (w : World) (h : R w p F m) (ok : m.Ok) (hc : m.count ≤ 900000) (hs : n.size ≤ maxLen) :
    Calls Try.prog 35 #[.pointer (some ⟨p, 0, none⟩), .string n] w fun e w' => e = .returned (.int .i64 (m.drop n).1) ∧ ∃ F', R w' p F' (m.drop n).2 ∧ Moved w w' F F' := by
  obtain ⟨A, D, S, L, kp, h, rfl⟩ := h
  have hF := rfirst_at h n true hs
  by_cases hf : m.first n true = 0
  · rw [hf] at hF
    by_cases hl : m.left = 1
    · have hm : m.drop n = (9, m.tick.fail m.keep) := by unfold M.drop M.step; rw [if_neg (by simp [hf]), if_pos hl]
      rw [hm]
      have hC : Hid (∀ V, Below w.heap.size w V → Calls Try.prog 61 #[.pointer (some ⟨p, 0, none⟩)] V fun e w' => e = .returned (.bool true) ∧ ∃ F', R w' p F' (m.tick.fail m.keep) ∧ Moved V w' (rfoot p A D S L) F') := fun V b => rcount_hit (h.kept b) ok hc hl
      clear h hl hf
      go_enter Try.func35, Try.ntmps35
      go_wp2_with (first
        | (go_at_call 59; refine hF.mono ?_; rintro e w1 ⟨rfl, b1⟩)
        | (go_at_call 61; refine (hC.out _ b1).mono ?_; rintro e w4 ⟨rfl, F', r', mv'⟩))
      go_ret
      exact ⟨rfl, F', r', (Moved.of_below b1).trans mv'⟩
    · have hm : m.drop n = (0, M.lose n m.tick) := by unfold M.drop M.step; rw [if_neg (by simp [hf]), if_neg hl]
      rw [hm]
      have hC : Hid (∀ V, Below w.heap.size w V → Calls Try.prog 61 #[.pointer (some ⟨p, 0, none⟩)] V fun e w' => e = .returned (.bool false) ∧ RAt w' p A D S L kp m.tick ∧ Moved V w' (rfoot p A D S L) (rfoot p A D S L)) := fun V b => rcount_miss (h.kept b) ok hc hl
      have HS : Hid (∀ V, RAt V p A D S L kp m.tick → Calls Try.prog 62 #[.pointer (some ⟨p, 0, none⟩), .string n, .int .i64 (-1)] V fun e w' => e = .returned (.tuple #[]) ∧ ∃ F', R w' p F' (M.lose n m.tick) ∧ Moved V w' (rfoot p A D S L) F') := fun V r => by
        refine (rset_at r n (-1) 0 true (fun h => by cases h) (by decide) (by have := ok.ld; show m.dir.length ≤ _; omega)).mono ?_
        rintro e w' ⟨rfl, D', r', hg, mv'⟩
        rw [set_cut] at r'
        exact ⟨rfl, _, r'.toR, mv'.os, mv'.tape, mv'.output, mv'.size, fun i hi hn => mv'.block i hi fun e => hn (.inl e), foot_newDir hg⟩
      clear h hl hf
      go_enter Try.func35, Try.ntmps35
      go_wp2_with (first
        | (go_at_call 59; refine hF.mono ?_; rintro e w1 ⟨rfl, b1⟩)
        | (go_at_call 61; refine (hC.out _ b1).mono ?_; rintro e w4 ⟨rfl, r4, mv4⟩)
        | (go_at_call 62; refine (HS.out _ r4).mono ?_; rintro e w5 ⟨rfl, F', r', mv'⟩))
      go_ret
      exact ⟨rfl, F', r', ((Moved.of_below b1).trans mv4).trans mv'⟩
  · have hm : m.drop n = (m.first n true, m) := by unfold M.drop; rw [if_pos hf]
    rw [hm]
    have H : Hid (R w p (rfoot p A D S L) m) := h.toR
    clear h hm
    generalize m.first n true = z at *
    go_enter Try.func35, Try.ntmps35
    go_wp2_with (go_at_call 59; refine hF.mono ?_; rintro e w1 ⟨rfl, b1⟩)
    go_ret
    exact ⟨rfl, _, H.out.kept b1, .of_below b1⟩

section
variable {w V : World} {p : Nat} {A D S : Value} {L : List Rf} {kp : Int} {m : M}
theorem buf_ne {g n cap : Nat} (h : RAt w p (.slice (some ⟨g, 0, none⟩) n cap) D S L kp m) {v : Value} {l : List UInt8} (hb : Buf w v l) {i : Nat} (hi : v.ownBlock = some i) : i ≠ g := by
  obtain ⟨cg, hg⟩ := own_ty h.all (g := g) rfl
  obtain ⟨c, hc⟩ := hb.blk hi
  rintro rfl
  rw [hg] at hc
  simp at hc
/-- A file's bytes are others now. -/
theorem RAt.put0 {w0 : World} {g n cap : Nat} (h : RAt w p (.slice (some ⟨g, 0, none⟩) n cap) D S L kp m) {j : Nat} (hj : j < L.length) {a : Option Addr} {nn c : Nat} {l : List UInt8} (hb : Buf w (.slice a nn c) l) (hnew : ∀ i, (Value.slice a nn c).ownBlock = some i → w0.heap.size ≤ i) (hV : V.heap = (w.setCell ⟨g, j * 2, none⟩ (.slice a nn c)).heap) :
    ∃ F', R V p F' (M.setF j { m.fl j with now := l } m) ∧ (∀ i, F' i → rfoot p (.slice (some ⟨g, 0, none⟩) n cap) D S L i ∨ w0.heap.size ≤ i) ∧ ∀ i, i ≠ g → V.heap[i]? = w.heap[i]? := by
  have o1 := own_set h.all hj (j := 0) (by decide) (.slice a nn c) ⟨a, nn, c, L[j].sa, L[j].sn, L[j].sc⟩ rfl
  rw [Nat.add_zero] at o1
  have ho : ∀ i, i ≠ g → V.heap[i]? = w.heap[i]? := fun i hi => by rw [hV, Below.heap_setCell _ _ _ _ hi]
  have hown : K.OwnOf rfc 2 92 V 0 (.slice (some ⟨g, 0, none⟩) n cap) (L.set j ⟨a, nn, c, L[j].sa, L[j].sn, L[j].sc⟩) := own_same o1 fun i _ => by rw [hV]
  refine ⟨_, (h.put hj (x' := ⟨a, nn, c, L[j].sa, L[j].sn, L[j].sc⟩) (y := { m.fl j with now := l }) (hb.same fun i hi => ho i (buf_ne h hb hi)) ((h.sure j hj).same fun i hi => ho i (buf_ne h (h.sure j hj) hi)) hown (fun i _ hi => ho i hi)).toR, ?_, ho⟩
  exact foot_put hj (fun i hi => .inr (.inr (hnew i hi))) (fun i hi => .inr (.inl hi))
/-- .. they are sure now. -/
theorem RAt.put1 {w0 : World} {g n cap : Nat} (h : RAt w p (.slice (some ⟨g, 0, none⟩) n cap) D S L kp m) {j : Nat} (hj : j < L.length) (hV : V.heap = (w.setCell ⟨g, j * 2 + 1, none⟩ (.slice L[j].na L[j].nn L[j].nc)).heap) :
    ∃ F', R V p F' (M.setF j { m.fl j with sure := (m.fl j).now } m) ∧ (∀ i, F' i → rfoot p (.slice (some ⟨g, 0, none⟩) n cap) D S L i ∨ w0.heap.size ≤ i) ∧ ∀ i, i ≠ g → V.heap[i]? = w.heap[i]? := by
  have o1 := own_set h.all hj (j := 1) (by decide) (.slice L[j].na L[j].nn L[j].nc) ⟨L[j].na, L[j].nn, L[j].nc, L[j].na, L[j].nn, L[j].nc⟩ rfl
  have ho : ∀ i, i ≠ g → V.heap[i]? = w.heap[i]? := fun i hi => by rw [hV, Below.heap_setCell _ _ _ _ hi]
  have hown : K.OwnOf rfc 2 92 V 0 (.slice (some ⟨g, 0, none⟩) n cap) (L.set j ⟨L[j].na, L[j].nn, L[j].nc, L[j].na, L[j].nn, L[j].nc⟩) := own_same o1 fun i _ => by rw [hV]
  have hb := (h.now j hj).same fun i hi => ho i (buf_ne h (h.now j hj) hi)
  refine ⟨_, (h.put hj (x' := ⟨L[j].na, L[j].nn, L[j].nc, L[j].na, L[j].nn, L[j].nc⟩) (y := { m.fl j with sure := (m.fl j).now }) hb hb hown (fun i _ hi => ho i hi)).toR, ?_, ho⟩
  exact foot_put hj (fun i hi => .inl hi) (fun i hi => .inl hi)
/-- What 'file' leads to, and what may be done there. -/
theorem rfile_meets (h : RAt w p A D S L kp m) (ok : m.Ok) (n : ByteArray) (hf : m.first n true = 0) :
    Calls Try.prog 63 #[.pointer (some ⟨p, 0, none⟩), .string n] w fun e w' => ∃ g na nc sa sc, e = .returned (.pointer (some ⟨g, m.place n * 2, none⟩)) ∧ Below w.heap.size w w' ∧ w'.cell? ⟨g, m.place n * 2, none⟩ = some (.slice na (m.fl (m.place n)).now.length nc) ∧ w'.cell? ⟨g, m.place n * 2 + 1, none⟩ = some (.slice sa (m.fl (m.place n)).sure.length sc) ∧ (m.fl (m.place n)).now.length ≤ nc ∧ Hid (Buf w' (.slice na (m.fl (m.place n)).now.length nc) (m.fl (m.place n)).now) ∧ Hid (RAt w' p A D S L kp m) ∧
      Hid (∀ V2 a nn c l, Below w'.heap.size w' V2 → Buf V2 (.slice a nn c) l → (∀ i, (Value.slice a nn c).ownBlock = some i → w'.heap.size ≤ i) → (∃ u, V2.cell? ⟨g, m.place n * 2, none⟩ = some u) ∧ V2.frozen? ⟨g, m.place n * 2, none⟩ = false ∧ ∀ X : World, X.heap = (V2.setCell ⟨g, m.place n * 2, none⟩ (.slice a nn c)).heap → X.os = V2.os → X.tape = V2.tape → X.output = V2.output → ∃ F', R X p F' (M.setF (m.place n) { m.fl (m.place n) with now := l } m) ∧ Moved w X (rfoot p A D S L) F') ∧
      Hid (w'.frozen? ⟨g, m.place n * 2 + 1, none⟩ = false ∧ ∀ X : World, X.heap = (w'.setCell ⟨g, m.place n * 2 + 1, none⟩ (.slice na (m.fl (m.place n)).now.length nc)).heap → X.os = w'.os → X.tape = w'.tape → X.output = w'.output → ∃ F', R X p F' (M.setF (m.place n) { m.fl (m.place n) with sure := (m.fl (m.place n)).now } m) ∧ Moved w X (rfoot p A D S L) F') := by
  refine (rfile_at h ok n hf).mono ?_
  rintro e w' ⟨g, hg, hlt, rfl, b⟩
  have h' := h.kept b
  obtain ⟨g', cap, na, nc, sa, sc, rfl, x1, g0, g1, fz, bn, bs, hnc, e1, e2, e3, e4, e5⟩ := h'.meets hlt
  have : g' = g := by simpa [Value.ownBlock] using hg
  subst this
  have e6 : L[m.place n].nn = (m.fl (m.place n)).now.length := buf_len (h'.now _ hlt)
  refine ⟨g', na, nc, sa, sc, rfl, b, g0, g1, hnc, bn, h', ?_, ?_⟩
  · intro V2 a nn c l b2 hb hnew
    have h2 := h'.kept b2
    refine ⟨⟨_, cell_on b2 g0⟩, ?_, fun X hX q1 q2 q3 => ?_⟩
    · obtain ⟨_, _, _, _, _, _, hA, _, _, _, fz2, _⟩ := h2.meets hlt
      injection hA with hA
      injection hA with hA
      injection hA with hA
      rw [hA]
      exact fz2 _
    · obtain ⟨F', r, hs, ho⟩ := h2.put0 (V := X) (w0 := w') hlt hb hnew hX
      have bb := keptW b b2
      refine ⟨F', r, q1.trans bb.os, q2.trans bb.tape, q3.trans bb.output, by rw [hX]; simpa using bb.size, fun i hi hn => (ho i fun e => hn (.inr (.inl (by rw [e]; rfl)))).trans (bb.block i hi), fun i hi => (hs i hi).imp id fun h => Nat.le_trans b.size h⟩
  · refine ⟨fz _, fun X hX q1 q2 q3 => ?_⟩
    obtain ⟨F', r, hs, ho⟩ := h'.put1 (V := X) (w0 := w') hlt (by rw [e1, e2, e6]; exact hX)
    exact ⟨F', r, q1.trans b.os, q2.trans b.tape, q3.trans b.output, by rw [hX]; simpa using b.size, fun i hi hn => (ho i fun e => hn (.inr (.inl (by rw [e]; rfl)))).trans (b.block i hi), fun i hi => (hs i hi).imp id fun h => Nat.le_trans b.size h⟩
end
set_option maxRecDepth 20000 in
set_option maxHeartbeats 2000000 in
theorem rsync_any (p : Nat) (F : Nat → Prop) (m : M) (n : ByteArray) (w : World) (h : R w p F m) (ok : m.Ok) (hc : m.count ≤ 900000) (hs : n.size ≤ maxLen) :
    Calls Try.prog 31 #[.pointer (some ⟨p, 0, none⟩), .string n] w fun e w' => e = .returned (.int .i64 (m.sync n).1) ∧ ∃ F', R w' p F' (m.sync n).2 ∧ Moved w w' F F' := by
  obtain ⟨A, D, S, L, kp, h, rfl⟩ := h
  have hF := rfirst_at h n true hs
  by_cases hf : m.first n true = 0
  · rw [hf] at hF
    by_cases hl : m.left = 1
    · have hm : m.sync n = (9, m.tick.fail m.keep) := by unfold M.sync M.step; rw [if_neg (by simp [hf]), if_pos hl]
      rw [hm]
      have hC : Hid (∀ V, Below w.heap.size w V → Calls Try.prog 61 #[.pointer (some ⟨p, 0, none⟩)] V fun e w' => e = .returned (.bool true) ∧ ∃ F', R w' p F' (m.tick.fail m.keep) ∧ Moved V w' (rfoot p A D S L) F') := fun V b => rcount_hit (h.kept b) ok hc hl
      clear h hl hf
      go_enter Try.func31, Try.ntmps31
      go_wp2_with (first
        | (go_at_call 59; refine hF.mono ?_; rintro e w1 ⟨rfl, b1⟩)
        | (go_at_call 61; refine (hC.out _ b1).mono ?_; rintro e w4 ⟨rfl, F', r', mv'⟩))
      go_ret
      exact ⟨rfl, F', r', (Moved.of_below b1).trans mv'⟩
    · have hm : m.sync n = (0, M.setF (m.place n) { m.fl (m.place n) with sure := (m.fl (m.place n)).now } m.tick) := by unfold M.sync M.step; rw [if_neg (by simp [hf]), if_neg hl]
      rw [hm]
      have hC : Hid (∀ V, Below w.heap.size w V → Calls Try.prog 61 #[.pointer (some ⟨p, 0, none⟩)] V fun e w' => e = .returned (.bool false) ∧ RAt w' p A D S L kp m.tick ∧ Moved V w' (rfoot p A D S L) (rfoot p A D S L)) := fun V b => rcount_miss (h.kept b) ok hc hl
      have HX := fun V (r : RAt V p A D S L kp m.tick) => rfile_meets r ok.tick n hf
      clear h hl hf
      go_enter Try.func31, Try.ntmps31
      go_wp2_with fail
      refine hF.mono ?_
      rintro e w1 ⟨rfl, b1⟩
      go_wp2_with fail
      refine (hC.out _ b1).mono ?_
      rintro e w4 ⟨rfl, r4, mv4⟩
      have hX := HX w4 r4
      clear HX hC hF
      have hq : m.tick.place n = m.place n := rfl
      have hy : m.tick.fl (m.place n) = m.fl (m.place n) := rfl
      rw [hq, hy] at hX
      go_wp2_with fail
      refine hX.mono ?_
      rintro e w5 ⟨g, na, nc, sa, sc, rfl, b5, g0, g1, _, _, _, _, hN⟩
      have fz := hN.out.1
      have HN : Hid _ := hN.out.2
      clear hX r4
      have HQ : Hid (∃ q, q = m.place n) := ⟨_, rfl⟩
      obtain ⟨q, hq⟩ := HQ.out
      rw [← hq] at HN fz g0 g1 ⊢
      have HQ : Hid (q = m.place n) := hq
      clear hq
      generalize (m.fl q).now.length = ln at *
      generalize (m.fl q).sure.length = ls at *
      go_wp2
      go_ret
      obtain ⟨F', r', mv'⟩ := HN.out _ rfl rfl rfl rfl
      rw [← HQ.out]
      exact ⟨rfl, F', r', ((Moved.of_below b1).trans mv4).trans mv'⟩
  · have hm : m.sync n = (m.first n true, m) := by unfold M.sync; rw [if_pos hf]
    rw [hm]
    have H : Hid (R w p (rfoot p A D S L) m) := h.toR
    clear h hm
    generalize m.first n true = z at *
    go_enter Try.func31, Try.ntmps31
    go_wp2_with (go_at_call 59; refine hF.mono ?_; rintro e w1 ⟨rfl, b1⟩)
    go_ret
    exact ⟨rfl, _, H.out.kept b1, .of_below b1⟩
end Go.Proofs.Ytndinjekocgjhaa
