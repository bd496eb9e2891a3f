/-
  THE CLOSURE that gathers contents, by its contract; lists of lists of bytes in memory.
-/
import Derived.Test.YtdbgojmjjkidbaaGreatDoorJROpen
import Derived.Test.YtdbgojmjjkidbaaGreatDoorJRow
import Derived.WalkMore
namespace Go.Proofs.YtdbgojmjjkidbaaGreatDoor
open Go.RowKit


theorem isRows : Elem Tryz.prog 57 78 (.slice none 0 0) 24 := by
  have hinfo : (Tryz.prog.info? 78).map (fun i => (i.zero, i.size, i.bytes)) = some (some (.slice none 0 0), 1, 24) := by kernel_rfl
  obtain ⟨i0, hi, hz0, hz1, hz2⟩ := info_parts hinfo
  exact ⟨Tryz.underlying57, ⟨i0, hi, hz0, hz1, hz2⟩, rfl⟩


/-- Each of the slices cs is a row of bytes of the call's own, of the bytes that ls tells. -/
def OwnsAll (w : World) (base : Nat) (cs : List Value) (ls : List (List UInt8)) : Prop :=
  cs.length = ls.length ∧ ∀ (j : Nat) (v : Value) (l : List UInt8), cs[j]? = some v → ls[j]? = some l → Owns w base 5 v l


theorem ownsAll_nil (w : World) (base : Nat) : OwnsAll w base [] [] := ⟨rfl, fun j v l h => by simp at h⟩

theorem OwnsAll.snoc {w : World} {base : Nat} {cs : List Value} {ls : List (List UInt8)} {c : Value} {l : List UInt8} (h : OwnsAll w base cs ls) (hc : Owns w base 5 c l) : OwnsAll w base (cs ++ [c]) (ls ++ [l]) := by
  refine ⟨by simp [h.1], fun j v x hv hx => ?_⟩
  by_cases hj : j < cs.length
  · rw [List.getElem?_append_left hj] at hv
    rw [List.getElem?_append_left (by rw [← h.1]; exact hj)] at hx
    exact h.2 j v x hv hx
  · rw [List.getElem?_append_right (by omega)] at hv
    rw [List.getElem?_append_right (by rw [← h.1]; omega)] at hx
    have h1 := (List.getElem?_eq_some_iff.1 hv).1
    have h0 : j - cs.length = 0 := by simpa using h1
    rw [h0] at hv
    rw [← h.1, h0] at hx
    simp at hv hx
    subst hv hx
    exact hc

theorem OwnsAll.kept {w w' : World} {b B : Nat} {cs : List Value} {ls : List (List UInt8)} (h : OwnsAll w b cs ls) (hb : Below B w w') (hB : w.heap.size ≤ B) : OwnsAll w' b cs ls :=
  ⟨h.1, fun j v l hv hl => (h.2 j v l hv hl).kept hb hB⟩

/-- A row of bytes lies elsewhere than a row of rows. -/
theorem Owns.keptRow {w w' : World} {b b' : Nat} {c v : Value} {l : List UInt8} {cs : List Value} (h : Owns w b 5 c l) (hv : Own1 w b' 78 v cs) (hg : w.grownBy w' v.ownBlock) : Owns w' b 5 c l := by
  refine World.ownsRow.kept h hg ?_
  rcases h.2 with ⟨rfl, _⟩ | ⟨g, cap, cur, rfl, _, hgg, _⟩
  · exact .inl rfl
  · right
    rcases hv.2 with ⟨rfl, _⟩ | ⟨g2, cap2, cur2, rfl, _, hgg2, _⟩
    · simp [Value.ownBlock]
    · intro he
      simp only [Value.ownBlock, Option.some.injEq] at he
      subst he
      rw [hgg] at hgg2
      simp at hgg2

theorem OwnsAll.keptRow {w w' : World} {b b' : Nat} {v : Value} {cs vs : List Value} {ls : List (List UInt8)} (h : OwnsAll w b cs ls) (hv : Own1 w b' 78 v vs) (hg : w.grownBy w' v.ownBlock) : OwnsAll w' b cs ls :=
  ⟨h.1, fun j u l hu hl => (h.2 j u l hu hl).keptRow hv hg⟩


theorem cell1 {w : World} {b : Nat} {u : Value} {t : TypeId} (h : w.heap[b]? = some (.cells #[u] t (0, 0))) : w.cell? ⟨b, 0, none⟩ = some u := by simp [World.cell?, h]

theorem free1 {w : World} {b : Nat} {u : Value} {t : TypeId} (h : w.heap[b]? = some (.cells #[u] t (0, 0))) : w.frozen? ⟨b, 0, none⟩ = false := by simp [World.frozen?, h]

theorem set1 {w : World} {b : Nat} {u : Value} {t : TypeId} (u' : Value) (h : w.heap[b]? = some (.cells #[u] t (0, 0))) : (w.setCell ⟨b, 0, none⟩ u').heap[b]? = some (.cells #[u'] t (0, 0)) := by
  have := heap_setCell_same w b 0 #[u] t u' h
  simpa using this


/-- What the closure writes: the list of contents at B, the count of bytes behind it. -/
structure Gath (w : World) (B : Nat) (v : Value) (n : Nat) (cs : List Value) (ls : List (List UInt8)) : Prop where
  c0 : w.heap[B]? = some (.cells #[v] 57 (0, 0))
  c1 : w.heap[B + 1]? = some (.cells #[.int .i64 (n : Int)] 3 (0, 0))
  own : Own1 w (B + 2) 78 v cs
  all : OwnsAll w (B + 2) cs ls


theorem Gath.kept {w w' : World} {B C : Nat} {v : Value} {n : Nat} {cs : List Value} {ls : List (List UInt8)} (h : Gath w B v n cs ls) (hb : Below C w w') (hC : w.heap.size ≤ C) : Gath w' B v n cs ls := by
  have l0 := (Array.getElem?_eq_some_iff.1 h.c0).1
  have l1 := (Array.getElem?_eq_some_iff.1 h.c1).1
  refine ⟨by rw [hb.block B (by omega)]; exact h.c0, by rw [hb.block (B + 1) (by omega)]; exact h.c1, ?_, h.all.kept hb hC⟩
  have ho := h.own
  refine ⟨ho.1, ?_⟩
  rcases ho.2 with hn | ⟨g, cap, cur, hv, hbg, hg, rest⟩
  · exact .inl hn
  · refine .inr ⟨g, cap, cur, hv, hbg, ?_, rest⟩
    rw [hb.block g (by have := (Array.getElem?_eq_some_iff.1 hg).1; omega)]
    exact hg


/-- Behind an append to the list, in a world where something new was laid first. -/
theorem Gath.grown {w w1 w2 : World} {B : Nat} {v : Value} {n : Nat} {cs : List Value} {ls : List (List UInt8)} (h : Gath w B v n cs ls) (hb : Below w.heap.size w w1) (hg : w1.grownBy w2 v.ownBlock) :
    w2.heap[B]? = some (.cells #[v] 57 (0, 0)) ∧ w2.heap[B + 1]? = some (.cells #[.int .i64 (n : Int)] 3 (0, 0)) ∧ Below B w w2 ∧ B + 2 ≤ w.heap.size := by
  have l1 := (Array.getElem?_eq_some_iff.1 h.c1).1
  have hk := h.own.lt
  have hs := hb.size
  have hne : ∀ k, k < B + 2 → some k ≠ v.ownBlock := fun k hk2 he => by have := (hk k he.symm).1; omega
  refine ⟨?_, ?_, ?_, by omega⟩
  · rw [hg.block B (by omega) (hne B (by omega)), hb.block B (by omega)]; exact h.c0
  · rw [hg.block (B + 1) (by omega) (hne _ (by omega)), hb.block (B + 1) (by omega)]; exact h.c1
  · exact (hb.mono (by omega)).grown hg (by omega) (fun k he => by have := (hk k he).1; omega)

theorem Own1.below2 {w w' : World} {b : Nat} {e : TypeId} {v : Value} {cs : List Value} (h : Own1 w b e v cs) (hb : ∀ k, b ≤ k → w'.heap[k]? = w.heap[k]?) : Own1 w' b e v cs := by
  refine ⟨h.1, ?_⟩
  rcases h.2 with hn | ⟨g, cap, cur, hv, hbg, hg, rest⟩
  · exact .inl hn
  · exact .inr ⟨g, cap, cur, hv, hbg, by rw [hb g hbg]; exact hg, rest⟩

theorem Owns.below2 {w w' : World} {b : Nat} {e : TypeId} {v : Value} {l : List UInt8} (h : Owns w b e v l) (hb : ∀ k, b ≤ k → w'.heap[k]? = w.heap[k]?) : Owns w' b e v l := by
  refine ⟨h.1, ?_⟩
  rcases h.2 with hn | ⟨g, cap, cur, hv, hbg, hg, rest⟩
  · exact .inl hn
  · exact .inr ⟨g, cap, cur, hv, hbg, by rw [hb g hbg]; exact hg, rest⟩

theorem own_slice {w : World} {b n : Nat} {e : TypeId} {v : Value} {xs : List Value} (h : w.ownsRow b e 1 v n xs) : ∃ a c, v = .slice a n c := by
  rcases h.2 with ⟨rfl, rfl⟩ | ⟨g, cap, cur, rfl, _⟩
  · exact ⟨_, _, rfl⟩
  · exact ⟨_, _, rfl⟩

/-- Both variables written. -/
theorem gath_set {w2 : World} {B n m : Nat} {v v' c : Value} {cs : List Value} {ls : List (List UInt8)} {l : List UInt8} (h0 : w2.heap[B]? = some (.cells #[v] 57 (0, 0))) (h1 : w2.heap[B + 1]? = some (.cells #[.int .i64 (n : Int)] 3 (0, 0)))
    (own : Own1 w2 (B + 2) 78 v' (cs ++ [c])) (all : OwnsAll w2 (B + 2) cs ls) (hc : Owns w2 (B + 2) 5 c l) :
    Gath ((w2.setCell ⟨B, 0, none⟩ v').setCell ⟨B + 1, 0, none⟩ (.int .i64 ((n + m : Nat) : Int))) B v' (n + m) (cs ++ [c]) (ls ++ [l]) := by
  have hk : ∀ k, B + 2 ≤ k → ((w2.setCell ⟨B, 0, none⟩ v').setCell ⟨B + 1, 0, none⟩ (.int .i64 ((n + m : Nat) : Int))).heap[k]? = w2.heap[k]? := fun k hk => by
    rw [heap_setCell_other _ _ _ _ (by show k ≠ B + 1; omega), heap_setCell_other _ _ _ _ (by show k ≠ B; omega)]
  refine ⟨?_, ?_, own.below2 hk, ?_⟩
  · rw [heap_setCell_other _ _ _ _ (by show B ≠ B + 1; omega)]; exact set1 v' h0
  · refine set1 (u := .int .i64 (n : Int)) _ ?_
    rw [heap_setCell_other _ _ _ _ (by show B + 1 ≠ B; omega)]; exact h1
  · have h2 := all.snoc hc
    exact ⟨h2.1, fun j u x hu hx => (h2.2 j u x hu hx).below2 hk⟩

end Go.Proofs.YtdbgojmjjkidbaaGreatDoor

/-
  THE WALK of Whole.
-/
namespace Go.Proofs.YtdbgojmjjkidbaaGreatDoor
open Go.RowKit


theorem errO_zero (bs : List UInt8) (h : errO bs = 0) : cntO bs + 8 ≤ bs.length ∧ cntO bs ≤ 1048576 ∧ bornO bs = crc (bs.take (4 + cntO bs)) := by
  unfold errO at h
  split at h
  · cases h
  · split at h
    · cases h
    · split at h
      · cases h
      · split at h
        · exact ⟨by omega, by omega, by assumption⟩
        · cases h

/-- All contents that bytes begin with. -/
def wholeC (bs : List UInt8) : List (List UInt8) := if _h : errO bs = 0 then contO bs :: wholeC (bs.drop (sizeO bs)) else []
termination_by bs.length
decreasing_by
  have h1 := errO_zero bs _h
  have h2 := (openO_good bs _h).2
  simp
  omega

/-- How many bytes they are. -/
def wholeS (bs : List UInt8) : Nat := if _h : errO bs = 0 then sizeO bs + wholeS (bs.drop (sizeO bs)) else 0
termination_by bs.length
decreasing_by
  have h1 := errO_zero bs _h
  have h2 := (openO_good bs _h).2
  simp
  omega

theorem wholeC_ok (bs : List UInt8) (h : errO bs = 0) : wholeC bs = contO bs :: wholeC (bs.drop (sizeO bs)) := by rw [wholeC, dif_pos h]

theorem wholeC_end (bs : List UInt8) (h : errO bs ≠ 0) : wholeC bs = [] := by rw [wholeC, dif_neg h]

theorem wholeS_ok (bs : List UInt8) (h : errO bs = 0) : wholeS bs = sizeO bs + wholeS (bs.drop (sizeO bs)) := by rw [wholeS, dif_pos h]

theorem wholeS_end (bs : List UInt8) (h : errO bs ≠ 0) : wholeS bs = 0 := by rw [wholeS, dif_neg h]


/-- So far: n bytes gone over, these contents. -/
structure SoFar (bs : List UInt8) (n : Nat) (ls : List (List UInt8)) : Prop where
  c : wholeC bs = ls ++ wholeC (bs.drop n)
  s : wholeS bs = n + wholeS (bs.drop n)
  le : n ≤ bs.length
  few : ls.length ≤ n

theorem soFar_start (bs : List UInt8) : SoFar bs 0 [] := ⟨by simp, by simp, by omega, by simp⟩

theorem SoFar.step {bs : List UInt8} {n : Nat} {ls : List (List UInt8)} (h : SoFar bs n ls) (he : errO (bs.drop n) = 0) : SoFar bs (n + sizeO (bs.drop n)) (ls ++ [contO (bs.drop n)]) := by
  have h1 := errO_zero _ he
  have h2 := (openO_good _ he).2
  have hl : (bs.drop n).length = bs.length - n := by simp
  have h0 := h.le
  refine ⟨?_, ?_, by omega, by simp; have := h.few; omega⟩
  · rw [h.c, wholeC_ok _ he, List.drop_drop]; simp
  · rw [h.s, wholeS_ok _ he, List.drop_drop]; omega

theorem SoFar.ends {bs : List UInt8} {n : Nat} {ls : List (List UInt8)} (h : SoFar bs n ls) (he : errO (bs.drop n) ≠ 0) : wholeC bs = ls ∧ wholeS bs = n :=
  ⟨by rw [h.c, wholeC_end _ he]; simp, by rw [h.s, wholeS_end _ he]; simp⟩

theorem SoFar.more {bs : List UInt8} {n : Nat} {ls : List (List UInt8)} (h : SoFar bs n ls) (he : errO (bs.drop n) = 0) : 8 ≤ sizeO (bs.drop n) ∧ n + sizeO (bs.drop n) ≤ bs.length := by
  have h1 := errO_zero _ he
  have h2 := (openO_good _ he).2
  have hl : (bs.drop n).length = bs.length - n := by simp
  have h0 := h.le
  omega


/-- How Whole ends. -/
def Wholed (w : World) (bs : List UInt8) (e : Ending) (w' : World) : Prop :=
  ∃ v cs, e = .returned (.tuple #[v, .int .i64 (wholeS bs)]) ∧ Row w' v cs ∧ OwnsAll w' w.heap.size cs (wholeC bs) ∧ Below w.heap.size w w'


def meas (len B : Nat) (wr : World) : Nat := len - (intOf ((wr.cell? ⟨B + 1, 0, none⟩).getD undef)).toNat


theorem OwnsAll.mono {w : World} {b b' : Nat} {cs : List Value} {ls : List (List UInt8)} (h : OwnsAll w b cs ls) (hb : b' ≤ b) : OwnsAll w b' cs ls := ⟨h.1, fun j v l hv hl => (h.2 j v l hv hl).mono hb⟩


theorem errO_nil : errO [] = 8 := errO_short [] (by simp)

theorem gath_new (w : World) : Gath ((w.alloc (.cells #[.slice none 0 0] 57)).alloc (.cells #[.int .i64 0] 3)) w.heap.size (.slice none 0 0) 0 [] [] := by
  have h0 : (w.alloc (.cells #[.slice none 0 0] 57)).heap.size = w.heap.size + 1 := by simp
  refine ⟨?_, ?_, own1_nil _ _ _, ownsAll_nil _ _⟩
  · rw [Below.heap_alloc _ _ _ (by omega)]; exact heap_alloc_new _ _
  · rw [← h0]; exact heap_alloc_new _ _

end Go.Proofs.YtdbgojmjjkidbaaGreatDoor

/-
  THE WALK of the document's Whole.
-/
namespace Go.Proofs.YtdbgojmjjkidbaaGreatDoor
open Go.RowKit


theorem own1_one (w : World) (c : Value) : ∀ j u, [c][j]? = some u → (w.alloc (.cells #[c] 78)).cell? ((⟨w.heap.size, 0, none⟩ : Addr).add j) = some u := by
  intro j u hj
  have hr := row_one w 78 c
  rcases hr with ⟨h, _⟩ | ⟨a, c, h, _, _, hh⟩
  · cases h
  · injection h with h _ _
    injection h with h
    subst h
    exact hh j u hj


/-- So far, in memory. -/
structure Far (w wr : World) (bs : List UInt8) (n : Nat) (v : Value) (cs : List Value) (ls : List (List UInt8)) : Prop where
  own : Own1 wr w.heap.size 78 v cs
  all : OwnsAll wr w.heap.size cs ls
  f : SoFar bs n ls
  bel : Below w.heap.size w wr


theorem Own1.kept {w w' : World} {b B : Nat} {e : TypeId} {v : Value} {cs : List Value} (h : Own1 w b e v cs) (hb : Below B w w') (hB : w.heap.size ≤ B) : Own1 w' b e v cs := by
  refine ⟨h.1, ?_⟩
  rcases h.2 with hn | ⟨g, cap, cur, hv, hbg, hg, rest⟩
  · exact .inl hn
  · refine .inr ⟨g, cap, cur, hv, hbg, ?_, rest⟩
    rw [hb.block g (by have := (Array.getElem?_eq_some_iff.1 hg).1; omega)]
    exact hg

theorem Far.kept {w wr w1 : World} {bs : List UInt8} {n : Nat} {v : Value} {cs : List Value} {ls : List (List UInt8)} (h : Far w wr bs n v cs ls) (hb : Below wr.heap.size wr w1) : Far w w1 bs n v cs ls :=
  ⟨h.own.kept hb (Nat.le_refl _), h.all.kept hb (Nat.le_refl _), h.f, h.bel.trans (hb.mono h.bel.size)⟩

theorem Far.step {w w1 w2 : World} {bs : List UInt8} {n : Nat} {v v' c : Value} {cs : List Value} {ls : List (List UInt8)} (h : Far w w1 bs n v cs ls) (he : errO (bs.drop n) = 0) (hc : Owns w1 w.heap.size 5 c (contO (bs.drop n)))
    (hg : (w1.alloc (.cells #[c] 78)).grownBy w2 v.ownBlock) (own2 : w2.ownsRow w.heap.size 78 1 v' (cs.length + 1) (cs ++ [c])) : Far w w2 bs (n + sizeO (bs.drop n)) v' (cs ++ [c]) (ls ++ [contO (bs.drop n)]) := by
  have hsz := h.bel.size
  have bel : Below w1.heap.size w1 (w1.alloc (.cells #[c] 78)) := (Below.refl _ _).alloc (Nat.le_refl _) _
  have hv0 : Own1 (w1.alloc (.cells #[c] 78)) w.heap.size 78 v cs := World.ownsRow.alloc h.own _
  refine ⟨by unfold Own1; rw [List.length_append]; exact own2, ?_, h.f.step he, ?_⟩
  · exact ((h.all.kept bel (Nat.le_refl _)).keptRow hv0 hg).snoc ((hc.kept bel (Nat.le_refl _)).keptRow hv0 hg)
  · exact (h.bel.alloc hsz _).grown hg (by simp; omega) (fun k hk => (hv0.lt k hk).1)

end Go.Proofs.YtdbgojmjjkidbaaGreatDoor

/-
  WHAT IS OF NO PROGRAM: what was sealed opens; cut, it is too short; one behind the other.
-/
namespace Go.Proofs.YtdbgojmjjkidbaaGreatDoor


theorem getN4 (v : Nat) (h : v < 4294967296) : getN (putL 4 v) = v := by rw [getN_putL]; exact Nat.mod_eq_of_lt h


theorem sealL_eq (b : List UInt8) (h : b.length ≤ 1048576) : sealL b = headL b ++ putL 4 (crc (headL b)) := by unfold sealL; rw [if_pos h]

theorem cnt_seal (b rest : List UInt8) (h : b.length ≤ 1048576) : cntO (sealL b ++ rest) = b.length := by
  unfold cntO
  rw [sealL_eq b h, headL, List.append_assoc, List.append_assoc, List.take_left' (putL_length 4 _), getN4 _ (by omega)]

theorem born_seal (b rest : List UInt8) (h : b.length ≤ 1048576) : bornO (sealL b ++ rest) = crc (headL b) := by
  unfold bornO
  rw [cnt_seal b rest h, sealL_eq b h, List.append_assoc, List.drop_left' (by rw [headL_length]; omega), List.take_left' (putL_length 4 _), getN4 _ (crc_lt _)]

theorem open_seal (b rest : List UInt8) (h : b.length ≤ 1048576) : errO (sealL b ++ rest) = 0 := by
  have hl := sealL_length b h
  refine errO_ok _ (by simp; omega) (by rw [cnt_seal b rest h]; omega) (by rw [cnt_seal b rest h]; simp; omega) ?_
  rw [born_seal b rest h, cnt_seal b rest h, sealL_eq b h, List.append_assoc, List.take_left' (by rw [headL_length]; omega)]

theorem cont_seal (b rest : List UInt8) (h : b.length ≤ 1048576) : contO (sealL b ++ rest) = b := by
  rw [(openO_good _ (open_seal b rest h)).1, cnt_seal b rest h, sealL_eq b h, headL, List.append_assoc, List.append_assoc, List.drop_left' (putL_length 4 _), List.take_left' rfl]

theorem size_seal (b rest : List UInt8) (h : b.length ≤ 1048576) : sizeO (sealL b ++ rest) = b.length + 8 := by
  rw [(openO_good _ (open_seal b rest h)).2, cnt_seal b rest h]

theorem wholeC_seal (b rest : List UInt8) (h : b.length ≤ 1048576) : wholeC (sealL b ++ rest) = b :: wholeC rest := by
  rw [wholeC_ok _ (open_seal b rest h), cont_seal b rest h, size_seal b rest h, List.drop_left' (sealL_length b h)]

theorem wholeS_seal (b rest : List UInt8) (h : b.length ≤ 1048576) : wholeS (sealL b ++ rest) = b.length + 8 + wholeS rest := by
  rw [wholeS_ok _ (open_seal b rest h), size_seal b rest h, List.drop_left' (sealL_length b h)]

/-- Cut, it is too short. -/
theorem open_cut (b : List UInt8) (h : b.length ≤ 1048576) (k : Nat) (hk : k < b.length + 8) : errO ((sealL b).take k) = 8 := by
  have hl := sealL_length b h
  by_cases h4 : k < 4
  · exact errO_short _ (by rw [List.length_take]; omega)
  · have hc : cntO ((sealL b).take k) = b.length := by
      have := cnt_seal b [] h
      unfold cntO at this ⊢
      rw [List.append_nil] at this
      rw [List.take_take, Nat.min_eq_left (by omega)]
      exact this
    refine errO_cut _ (by rw [List.length_take]; omega) (by rw [hc]; omega) (by rw [hc, List.length_take]; omega)

theorem errO_few (bs : List UInt8) (h : bs.length < 8) : errO bs ≠ 0 := fun he => by have := errO_zero bs he; omega

theorem lives_c : wholeC (sealL [] ++ (sealL [1] ++ [7])) = [[], [1]] := by
  rw [wholeC_seal _ _ (by simp), wholeC_seal _ _ (by simp), wholeC_end _ (errO_few _ (by simp))]

theorem lives_s : wholeS (sealL [] ++ (sealL [1] ++ [7])) = 17 := by
  rw [wholeS_seal _ _ (by simp), wholeS_seal _ _ (by simp), wholeS_end _ (errO_few _ (by simp))]
  simp

end Go.Proofs.YtdbgojmjjkidbaaGreatDoor

/-
  WHAT IS OF NO PROGRAM: up to 32 bits in a row that are changed behind the count are seen.
-/
namespace Go.Proofs.YtdbgojmjjkidbaaGreatDoor


/-- A bit of bytes, the highest of each first. -/
def bitAt (bs : List UInt8) (p : Nat) : Bool := ((bs[p / 8]?.getD 0).toNat).testBit (7 - p % 8)

theorem byteBits_get (b : UInt8) (p : Nat) (h : p < 8) : (byteBits b)[p]? = some (b.toNat.testBit (7 - p)) := by
  obtain rfl | rfl | rfl | rfl | rfl | rfl | rfl | rfl : p = 0 ∨ p = 1 ∨ p = 2 ∨ p = 3 ∨ p = 4 ∨ p = 5 ∨ p = 6 ∨ p = 7 := by omega
  all_goals rfl

theorem bitsOf_get : ∀ (bs : List UInt8) (p : Nat), p < 8 * bs.length → (bitsOf bs)[p]? = some (bitAt bs p)
  | [], p, h => by simp at h
  | b :: bs, p, h => by
    have h2 : bitsOf (b :: bs) = byteBits b ++ bitsOf bs := by simp [bitsOf]
    have hl : (byteBits b).length = 8 := rfl
    rw [h2]
    by_cases hp : p < 8
    · rw [List.getElem?_append_left (by omega), byteBits_get b p hp]
      have h0 : p / 8 = 0 := by omega
      have h1 : p % 8 = p := by omega
      simp [bitAt, h0, h1]
    · rw [List.getElem?_append_right (by omega), hl, bitsOf_get bs (p - 8) (by simp at h; omega)]
      obtain ⟨q, rfl⟩ : ∃ q, p = q + 8 := ⟨p - 8, by omega⟩
      have h0 : (q + 8) / 8 = q / 8 + 1 := by omega
      have h1 : (q + 8) % 8 = q % 8 := by omega
      simp [bitAt, h0, h1]


/-- One bit changed. -/
def flipAt (bs : List UInt8) (q : Nat) : List UInt8 := bs.set (q / 8) (UInt8.ofNat ((bs[q / 8]?.getD 0).toNat ^^^ 2 ^ (7 - q % 8)))

theorem flipAt_length (bs : List UInt8) (q : Nat) : (flipAt bs q).length = bs.length := by simp [flipAt]

theorem flipAt_byte (x : UInt8) (m : Nat) (h : m < 8) : (UInt8.ofNat (x.toNat ^^^ 2 ^ m)).toNat = x.toNat ^^^ 2 ^ m := by
  rw [UInt8.toNat_ofNat']
  refine Nat.mod_eq_of_lt (Nat.xor_lt_two_pow (n := 8) x.toNat_lt ?_)
  exact Nat.pow_lt_pow_right (by decide) h

theorem bitAt_flip (bs : List UInt8) (q p : Nat) (hq : q < 8 * bs.length) : bitAt (flipAt bs q) p = (bitAt bs p ^^ decide (p = q)) := by
  have hq8 : q / 8 < bs.length := by omega
  unfold bitAt flipAt
  by_cases h : p / 8 = q / 8
  · rw [h, List.getElem?_set_self hq8, Option.getD_some, flipAt_byte _ _ (by omega), Nat.testBit_xor, Nat.testBit_two_pow]
    congr 1
    rw [decide_eq_decide]
    omega
  · rw [List.getElem?_set_ne (by omega)]
    have : ¬ p = q := fun e => h (by rw [e])
    simp [this]

theorem flipAt_take (bs : List UInt8) (q j : Nat) (h : j ≤ q / 8) : (flipAt bs q).take j = bs.take j := by
  unfold flipAt
  rw [List.take_set, List.set_eq_of_length_le (by rw [List.length_take]; omega)]


/-- So many bits gone over, from q0 on; those that u names are changed. -/
def burstB (bs : List UInt8) (q0 u : Nat) : Nat → List UInt8
  | 0 => bs
  | n + 1 => if u.testBit n then flipAt (burstB bs q0 u n) (q0 + n) else burstB bs q0 u n

theorem burstB_length (bs : List UInt8) (q0 u : Nat) : ∀ n, (burstB bs q0 u n).length = bs.length
  | 0 => rfl
  | n + 1 => by
    unfold burstB
    split
    · rw [flipAt_length]; exact burstB_length bs q0 u n
    · exact burstB_length bs q0 u n

theorem burstB_take (bs : List UInt8) (q0 u j : Nat) (h : j ≤ q0 / 8) : ∀ n, (burstB bs q0 u n).take j = bs.take j
  | 0 => rfl
  | n + 1 => by
    unfold burstB
    split
    · rw [flipAt_take _ _ _ (by omega)]; exact burstB_take bs q0 u j h n
    · exact burstB_take bs q0 u j h n

theorem bitAt_burst (bs : List UInt8) (q0 u p : Nat) : ∀ n, q0 + n ≤ 8 * bs.length → bitAt (burstB bs q0 u n) p = (bitAt bs p ^^ (decide (q0 ≤ p ∧ p < q0 + n) && u.testBit (p - q0)))
  | 0, _ => by
    have : ¬ (q0 ≤ p ∧ p < q0 + 0) := by omega
    rw [decide_eq_false this]
    simp [burstB]
  | n + 1, h => by
    have ih := bitAt_burst bs q0 u p n (by omega)
    unfold burstB
    by_cases hp : p = q0 + n
    · have h1 : ¬ (q0 ≤ p ∧ p < q0 + n) := by omega
      have h2 : q0 ≤ p ∧ p < q0 + (n + 1) := by omega
      have h3 : p - q0 = n := by omega
      rw [decide_eq_false h1] at ih
      rw [decide_eq_true h2, h3]
      split
      · rename_i hu
        rw [bitAt_flip _ _ _ (by rw [burstB_length]; omega), ih, hu, decide_eq_true hp]; simp
      · rename_i hu
        rw [ih]; simp at hu; simp [hu]
    · have h1 : (q0 ≤ p ∧ p < q0 + n) ↔ (q0 ≤ p ∧ p < q0 + (n + 1)) := by omega
      rw [← decide_eq_decide.2 h1]
      split
      · rw [bitAt_flip _ _ _ (by rw [burstB_length]; omega), ih, decide_eq_false hp]; simp
      · exact ih


/-- The bits that are changed. -/
def errBits (q0 n r u : Nat) : List Bool := List.replicate q0 false ++ (List.range n).map u.testBit ++ List.replicate r false

theorem errBits_length (q0 n r u : Nat) : (errBits q0 n r u).length = q0 + n + r := by simp [errBits]; omega

theorem errBits_get (q0 n r u p : Nat) (h : p < q0 + n + r) : (errBits q0 n r u)[p]? = some (decide (q0 ≤ p ∧ p < q0 + n) && u.testBit (p - q0)) := by
  unfold errBits
  by_cases h1 : p < q0
  · have h3 : ¬ (q0 ≤ p ∧ p < q0 + n) := by omega
    rw [List.append_assoc, List.getElem?_append_left (by simpa using h1), List.getElem?_replicate, if_pos h1]
    simp [h3]
  · by_cases h2 : p < q0 + n
    · have h3 : q0 ≤ p ∧ p < q0 + n := by omega
      rw [List.getElem?_append_left (by simp; omega), List.getElem?_append_right (by simp; omega)]
      rw [List.getElem?_map, List.length_replicate, List.getElem?_range (by omega)]
      simp [h3]
    · have h3 : ¬ (q0 ≤ p ∧ p < q0 + n) := by omega
      rw [List.getElem?_append_right (by simp; omega), List.getElem?_replicate, if_pos (by simp; omega)]
      simp [h3]

theorem bits_burst (bs : List UInt8) (q0 u n r : Nat) (h : q0 + n + r = 8 * bs.length) : bitsOf (burstB bs q0 u n) = List.zipWith (· ^^ ·) (bitsOf bs) (errBits q0 n r u) := by
  apply List.ext_getElem?
  intro p
  by_cases hp : p < 8 * bs.length
  · rw [bitsOf_get _ p (by rw [burstB_length]; exact hp), List.getElem?_zipWith, bitsOf_get _ p hp, errBits_get _ _ _ _ _ (by omega), bitAt_burst _ _ _ _ _ (by omega)]
  · rw [List.getElem?_eq_none (by rw [bitsOf_length, burstB_length]; omega), List.getElem?_eq_none (by rw [List.length_zipWith, bitsOf_length]; omega)]

theorem errBits_seen (q0 n r u : Nat) (h1 : 1 ≤ n) (h2 : n ≤ 32) (hu : u.testBit 0 = true) : turns 0#32 (errBits q0 n r u) ≠ 0#32 := by
  obtain ⟨m, rfl⟩ : ∃ m, n = m + 1 := ⟨n - 1, by omega⟩
  unfold errBits
  rw [List.range_succ_eq_map, List.map_cons, hu]
  exact burst_seen _ _ _ (by simp) (by simp) (by simp; omega)


/-- The bits on top, one by one. -/
theorem top_get : ∀ (bs : List Bool) (j : Nat), j < 32 → (top bs).getLsbD (31 - j) = bs[j]?.getD false
  | [], _, _ => by simp [top]
  | b :: bs, 0, _ => by
    have h1 : (topBit b).getLsbD 31 = b := by cases b <;> decide
    simp only [top, BitVec.getLsbD_xor, BitVec.getLsbD_ushiftRight, h1]
    simp
  | b :: bs, j + 1, h => by
    have ih := top_get bs j (by omega)
    have hk : ∀ i : Fin 31, (topBit b).getLsbD i.val = false := by cases b <;> decide
    have h1 := hk ⟨31 - (j + 1), by omega⟩
    simp only at h1
    simp only [top, BitVec.getLsbD_xor, BitVec.getLsbD_ushiftRight, h1]
    rw [show 1 + (31 - (j + 1)) = 31 - j by omega, ih]
    simp

theorem getN_four (a b c d : UInt8) : getN [a, b, c, d] = ((a.toNat * 256 + b.toNat) * 256 + c.toNat) * 256 + d.toNat := by simp [getN]

theorem split8 (x : Nat) (b : UInt8) (i : Nat) : (x * 256 + b.toNat).testBit i = if i < 8 then b.toNat.testBit i else x.testBit (i - 8) := by
  have := Nat.testBit_two_pow_mul_add (i := 8) (b := b.toNat) x b.toNat_lt i
  rw [show x * 256 = 2 ^ 8 * x by omega]
  exact this

theorem top_four (a b c d : UInt8) : top (bitsOf [a, b, c, d]) = BitVec.ofNat 32 (getN [a, b, c, d]) := by
  apply BitVec.eq_of_getLsbD_eq
  intro i hi
  rw [show i = 31 - (31 - i) by omega, top_get _ _ (by omega), bitsOf_get _ _ (by simp; omega), Option.getD_some, BitVec.getLsbD_ofNat, getN_four, split8, split8, split8]
  obtain ⟨j, hj⟩ : ∃ j, j = 31 - i := ⟨_, rfl⟩
  rw [← hj]
  have hj32 : j < 32 := by omega
  simp only [bitAt]
  obtain h | h | h | h : j / 8 = 0 ∨ j / 8 = 1 ∨ j / 8 = 2 ∨ j / 8 = 3 := by omega
  all_goals rw [decide_eq_true (show 31 - j < 32 by omega), Bool.true_and, h]
  · rw [if_neg (by omega), if_neg (by omega), if_neg (by omega), show 31 - j - 8 - 8 - 8 = 7 - j % 8 by omega]; rfl
  · rw [if_neg (by omega), if_neg (by omega), if_pos (by omega), show 31 - j - 8 - 8 = 7 - j % 8 by omega]; rfl
  · rw [if_neg (by omega), if_pos (by omega), show 31 - j - 8 = 7 - j % 8 by omega]; rfl
  · rw [if_pos (by omega), show 31 - j = 7 - j % 8 by omega]; rfl

/-- A remainder with itself behind it leaves nothing. -/
theorem turns_self (r : Rest) (l : List UInt8) (hl : l.length = 4) (h : getN l = r.toNat) : turns r (bitsOf l) = 0#32 := by
  match l, hl with
  | [a, b, c, d], _ =>
    rw [turns_top _ _ (by rw [bitsOf_length]; simp), top_four, h]
    have : BitVec.ofNat 32 r.toNat = r := by simp
    rw [this, BitVec.xor_self, zeds_zero]


theorem sums_zero (bs : List UInt8) (n : Nat) (hl : bs.length = 4 + n + 4) (h : getN (bs.drop (4 + n)) = crc (bs.take (4 + n))) : turns 0xffffffff#32 (bitsOf bs) = 0#32 := by
  rw [← List.take_append_drop (4 + n) bs, bitsOf_append, turns_append, ← sums_turns (bs.take (4 + n))]
  exact turns_self _ _ (by rw [List.length_drop]; omega) h

/-- The damage is seen. -/
theorem burst_open (b : List UInt8) (k u : Nat) (hb : b.length ≤ 1048576) (hu : u.testBit 0 = true) (n : Nat) (hn1 : 1 ≤ n) (hn2 : n ≤ 32) (hn3 : k + n ≤ 8 * (b.length + 4)) : errO (burstB (sealL b) (32 + k) u n) = 7 := by
  have hl := sealL_length b hb
  have hl' : (burstB (sealL b) (32 + k) u n).length = b.length + 8 := by rw [burstB_length, hl]
  have hc : cntO (burstB (sealL b) (32 + k) u n) = b.length := by
    unfold cntO
    rw [burstB_take _ _ _ 4 (by omega)]
    have := cnt_seal b [] hb
    rwa [List.append_nil] at this
  refine errO_sum _ (by omega) (by omega) (by omega) ?_
  intro hbad
  have h0 : turns 0xffffffff#32 (bitsOf (sealL b)) = 0#32 := by
    refine sums_zero _ b.length (by omega) ?_
    have h1 := born_seal b [] hb
    have h2 := cnt_seal b [] hb
    rw [List.append_nil] at h1 h2
    unfold bornO at h1
    rw [h2] at h1
    rw [List.take_of_length_le (by rw [List.length_drop]; omega)] at h1
    rw [h1, sealL_eq b hb, List.take_left' (by rw [headL_length]; omega)]
  have h3 : turns 0xffffffff#32 (bitsOf (burstB (sealL b) (32 + k) u n)) = 0#32 := by
    refine sums_zero _ b.length (by omega) ?_
    unfold bornO at hbad
    rw [hc] at hbad
    rw [List.take_of_length_le (by rw [List.length_drop]; omega)] at hbad
    exact hbad
  rw [bits_burst (sealL b) (32 + k) u n (8 * (b.length + 4) - (k + n)) (by rw [hl]; omega)] at h3
  have h4 := turns_xor (bitsOf (sealL b)) (errBits (32 + k) n (8 * (b.length + 4) - (k + n)) u) 0xffffffff#32 0#32 (by rw [bitsOf_length, errBits_length, hl]; omega)
  rw [BitVec.xor_zero, h3, h0, BitVec.zero_xor] at h4
  exact errBits_seen _ _ _ _ hn1 hn2 hu h4.symm

end Go.Proofs.YtdbgojmjjkidbaaGreatDoor
