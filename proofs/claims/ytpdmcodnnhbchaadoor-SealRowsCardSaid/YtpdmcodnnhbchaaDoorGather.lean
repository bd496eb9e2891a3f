/-
  THE CLOSURE that gathers contents, by its contract; lists of lists of bytes in memory.
-/
import Derived.Test.YtpdmcodnnhbchaaDoorROpen
import Derived.Test.YtpdmcodnnhbchaaDoorRow
namespace Go.Proofs.YtpdmcodnnhbchaaDoor
open Go.RowKit

theorem isRows : Elem Tryd.prog 36 22 (.slice none 0 0) 24 := by
  have hinfo : (Tryd.prog.info? 22).map (fun i => (i.zero, i.size, i.bytes)) = some (some (.slice none 0 0), 1, 24) := by kernel_rfl
  obtain ⟨i0, hi, hz0, hz1, hz2⟩ := info_parts hinfo
  exact ⟨Tryd.underlying36, ⟨i0, hi, hz0, hz1, hz2⟩, rfl⟩

/-- Each of the slices cs is a row of bytes of the call's own, of the bytes that ls tells. -/
def OwnsAll (w : World) (base : Nat) (cs : List Value) (ls : List (List UInt8)) : Prop :=
  cs.length = ls.length ∧ ∀ (j : Nat) (v : Value) (l : List UInt8), cs[j]? = some v → ls[j]? = some l → Owns w base 5 v l

theorem ownsAll_nil (w : World) (base : Nat) : OwnsAll w base [] [] := ⟨rfl, fun j v l h => by simp at h⟩
theorem OwnsAll.snoc {w : World} {base : Nat} {cs : List Value} {ls : List (List UInt8)} {c : Value} {l : List UInt8} (h : OwnsAll w base cs ls) (hc : Owns w base 5 c l) : OwnsAll w base (cs ++ [c]) (ls ++ [l]) := by
  refine ⟨by simp [h.1], fun j v x hv hx => ?_⟩
  by_cases hj : j < cs.length
  · rw [List.getElem?_append_left hj] at hv
    rw [List.getElem?_append_left (by rw [← h.1]; exact hj)] at hx
    exact h.2 j v x hv hx
  · rw [List.getElem?_append_right (by omega)] at hv
    rw [List.getElem?_append_right (by rw [← h.1]; omega)] at hx
    have h1 := (List.getElem?_eq_some_iff.1 hv).1
    have h0 : j - cs.length = 0 := by simpa using h1
    rw [h0] at hv
    rw [← h.1, h0] at hx
    simp at hv hx
    subst hv hx
    exact hc
theorem OwnsAll.kept {w w' : World} {b B : Nat} {cs : List Value} {ls : List (List UInt8)} (h : OwnsAll w b cs ls) (hb : Below B w w') (hB : w.heap.size ≤ B) : OwnsAll w' b cs ls :=
  ⟨h.1, fun j v l hv hl => (h.2 j v l hv hl).kept hb hB⟩
/-- A row of bytes lies elsewhere than a row of rows. -/
theorem Owns.keptRow {w w' : World} {b b' : Nat} {c v : Value} {l : List UInt8} {cs : List Value} (h : Owns w b 5 c l) (hv : Own1 w b' 22 v cs) (hg : w.grownBy w' v.ownBlock) : Owns w' b 5 c l := by
  refine World.ownsRow.kept h hg ?_
  rcases h.2 with ⟨rfl, _⟩ | ⟨g, cap, cur, rfl, _, hgg, _⟩
  · exact .inl rfl
  · right
    rcases hv.2 with ⟨rfl, _⟩ | ⟨g2, cap2, cur2, rfl, _, hgg2, _⟩
    · simp [Value.ownBlock]
    · intro he
      simp only [Value.ownBlock, Option.some.injEq] at he
      subst he
      rw [hgg] at hgg2
      simp at hgg2
theorem OwnsAll.keptRow {w w' : World} {b b' : Nat} {v : Value} {cs vs : List Value} {ls : List (List UInt8)} (h : OwnsAll w b cs ls) (hv : Own1 w b' 22 v vs) (hg : w.grownBy w' v.ownBlock) : OwnsAll w' b cs ls :=
  ⟨h.1, fun j u l hu hl => (h.2 j u l hu hl).keptRow hv hg⟩

theorem cell1 {w : World} {b : Nat} {u : Value} {t : TypeId} (h : w.heap[b]? = some (.cells #[u] t (0, 0))) : w.cell? ⟨b, 0, none⟩ = some u := by simp [World.cell?, h]
theorem free1 {w : World} {b : Nat} {u : Value} {t : TypeId} (h : w.heap[b]? = some (.cells #[u] t (0, 0))) : w.frozen? ⟨b, 0, none⟩ = false := by simp [World.frozen?, h]
theorem set1 {w : World} {b : Nat} {u : Value} {t : TypeId} (u' : Value) (h : w.heap[b]? = some (.cells #[u] t (0, 0))) : (w.setCell ⟨b, 0, none⟩ u').heap[b]? = some (.cells #[u'] t (0, 0)) := by
  have := heap_setCell_same w b 0 #[u] t u' h
  simpa using this

/-- What the closure writes: the list of contents at B, the count of bytes behind it. -/
structure Gath (w : World) (B : Nat) (v : Value) (n : Nat) (cs : List Value) (ls : List (List UInt8)) : Prop where
  c0 : w.heap[B]? = some (.cells #[v] 36 (0, 0))
  c1 : w.heap[B + 1]? = some (.cells #[.int .i64 (n : Int)] 3 (0, 0))
  own : Own1 w (B + 2) 22 v cs
  all : OwnsAll w (B + 2) cs ls

theorem Gath.kept {w w' : World} {B C : Nat} {v : Value} {n : Nat} {cs : List Value} {ls : List (List UInt8)} (h : Gath w B v n cs ls) (hb : Below C w w') (hC : w.heap.size ≤ C) : Gath w' B v n cs ls := by
  have l0 := (Array.getElem?_eq_some_iff.1 h.c0).1
  have l1 := (Array.getElem?_eq_some_iff.1 h.c1).1
  refine ⟨by rw [hb.block B (by omega)]; exact h.c0, by rw [hb.block (B + 1) (by omega)]; exact h.c1, ?_, h.all.kept hb hC⟩
  have ho := h.own
  refine ⟨ho.1, ?_⟩
  rcases ho.2 with hn | ⟨g, cap, cur, hv, hbg, hg, rest⟩
  · exact .inl hn
  · refine .inr ⟨g, cap, cur, hv, hbg, ?_, rest⟩
    rw [hb.block g (by have := (Array.getElem?_eq_some_iff.1 hg).1; omega)]
    exact hg

/-- Behind an append to the list, in a world where something new was laid first. -/
theorem Gath.grown {w w1 w2 : World} {B : Nat} {v : Value} {n : Nat} {cs : List Value} {ls : List (List UInt8)} (h : Gath w B v n cs ls) (hb : Below w.heap.size w w1) (hg : w1.grownBy w2 v.ownBlock) :
    w2.heap[B]? = some (.cells #[v] 36 (0, 0)) ∧ w2.heap[B + 1]? = some (.cells #[.int .i64 (n : Int)] 3 (0, 0)) ∧ Below B w w2 ∧ B + 2 ≤ w.heap.size := by
  have l1 := (Array.getElem?_eq_some_iff.1 h.c1).1
  have hk := h.own.lt
  have hs := hb.size
  have hne : ∀ k, k < B + 2 → some k ≠ v.ownBlock := fun k hk2 he => by have := (hk k he.symm).1; omega
  refine ⟨?_, ?_, ?_, by omega⟩
  · rw [hg.block B (by omega) (hne B (by omega)), hb.block B (by omega)]; exact h.c0
  · rw [hg.block (B + 1) (by omega) (hne _ (by omega)), hb.block (B + 1) (by omega)]; exact h.c1
  · exact (hb.mono (by omega)).grown hg (by omega) (fun k he => by have := (hk k he).1; omega)
theorem Own1.below2 {w w' : World} {b : Nat} {e : TypeId} {v : Value} {cs : List Value} (h : Own1 w b e v cs) (hb : ∀ k, b ≤ k → w'.heap[k]? = w.heap[k]?) : Own1 w' b e v cs := by
  refine ⟨h.1, ?_⟩
  rcases h.2 with hn | ⟨g, cap, cur, hv, hbg, hg, rest⟩
  · exact .inl hn
  · exact .inr ⟨g, cap, cur, hv, hbg, by rw [hb g hbg]; exact hg, rest⟩
theorem Owns.below2 {w w' : World} {b : Nat} {e : TypeId} {v : Value} {l : List UInt8} (h : Owns w b e v l) (hb : ∀ k, b ≤ k → w'.heap[k]? = w.heap[k]?) : Owns w' b e v l := by
  refine ⟨h.1, ?_⟩
  rcases h.2 with hn | ⟨g, cap, cur, hv, hbg, hg, rest⟩
  · exact .inl hn
  · exact .inr ⟨g, cap, cur, hv, hbg, by rw [hb g hbg]; exact hg, rest⟩
theorem own_slice {w : World} {b n : Nat} {e : TypeId} {v : Value} {xs : List Value} (h : w.ownsRow b e 1 v n xs) : ∃ a c, v = .slice a n c := by
  rcases h.2 with ⟨rfl, rfl⟩ | ⟨g, cap, cur, rfl, _⟩
  · exact ⟨_, _, rfl⟩
  · exact ⟨_, _, rfl⟩
/-- Both variables written. -/
theorem gath_set {w2 : World} {B n m : Nat} {v v' c : Value} {cs : List Value} {ls : List (List UInt8)} {l : List UInt8} (h0 : w2.heap[B]? = some (.cells #[v] 36 (0, 0))) (h1 : w2.heap[B + 1]? = some (.cells #[.int .i64 (n : Int)] 3 (0, 0)))
    (own : Own1 w2 (B + 2) 22 v' (cs ++ [c])) (all : OwnsAll w2 (B + 2) cs ls) (hc : Owns w2 (B + 2) 5 c l) :
    Gath ((w2.setCell ⟨B, 0, none⟩ v').setCell ⟨B + 1, 0, none⟩ (.int .i64 ((n + m : Nat) : Int))) B v' (n + m) (cs ++ [c]) (ls ++ [l]) := by
  have hk : ∀ k, B + 2 ≤ k → ((w2.setCell ⟨B, 0, none⟩ v').setCell ⟨B + 1, 0, none⟩ (.int .i64 ((n + m : Nat) : Int))).heap[k]? = w2.heap[k]? := fun k hk => by
    rw [heap_setCell_other _ _ _ _ (by show k ≠ B + 1; omega), heap_setCell_other _ _ _ _ (by show k ≠ B; omega)]
  refine ⟨?_, ?_, own.below2 hk, ?_⟩
  · rw [heap_setCell_other _ _ _ _ (by show B ≠ B + 1; omega)]; exact set1 v' h0
  · refine set1 (u := .int .i64 (n : Int)) _ ?_
    rw [heap_setCell_other _ _ _ _ (by show B + 1 ≠ B; omega)]; exact h1
  · have h2 := all.snoc hc
    exact ⟨h2.1, fun j u x hu hx => (h2.2 j u x hu hx).below2 hk⟩

set_option maxHeartbeats 400000 in
theorem gather_any (B n m : Nat) (v c : Value) (cs : List Value) (ls : List (List UInt8)) (l : List UInt8) (w : World) (h : Gath w B v n cs ls) (hc : Owns w (B + 2) 5 c l) (hcs : cs.length ≤ 100000000) (hn : n + m ≤ 100000000) :
    Calls Tryd.prog 25 #[c, .int .i64 m, .pointer (some ⟨B, 0, none⟩), .pointer (some ⟨B + 1, 0, none⟩)] w fun e w' => e = .returned (.tuple #[]) ∧ (∃ v', Gath w' B v' (n + m) (cs ++ [c]) (ls ++ [l])) ∧ Below B w w' := by
  obtain ⟨ca, cc, rfl⟩ := hc.holds.slice
  obtain ⟨va, vc, rfl⟩ := h.own.row.slice
  have cC := cell1 h.c0
  have l1 := (Array.getElem?_eq_some_iff.1 h.c1).1
  obtain ⟨i, hi, hz, hsz, hby⟩ := isRows.info
  have hone : ∀ u ∈ [Value.slice ca l.length cc], u.oneCell' = true := by
    intro u hu
    obtain rfl : u = Value.slice ca l.length cc := by simpa using hu
    rfl
  go_enter Tryd.func25, Tryd.ntmps25
  go_wp2_with (at_builtin; refine wpList_append_own _ rfl (.tmp 6) (.tmp 8) 36 rfl (B + 2) 22 i _ 1 24 isRows.ht hi hz hsz hby rfl (by decide) _ cs.length cs rfl (World.ownsRow.alloc h.own _) ⟨w.heap.size, 0, none⟩ 1 1 [Value.slice ca l.length cc] rfl rfl ?q1 hone (by unfold maxLen; omega) (by omega) (by simp; omega) ?_; rotate_left; intro v' w2 own2 grown2 _; obtain ⟨va', vc', rfl⟩ : ∃ a c, v' = .slice a (cs.length + 1) c := own_slice own2; obtain ⟨d0, d1, dB, dS⟩ := h.grown ((Below.refl _ _).alloc (Nat.le_refl _) _) grown2; have e0 := cell1 d0; have e1 := free1 d0; have e2 : ∀ u, (w2.setCell ⟨B, 0, none⟩ u).cell? ⟨B + 1, 0, none⟩ = some (.int .i64 (n : Int)) := (fun u => cell1 (by rw [heap_setCell_other _ _ _ _ (by show B + 1 ≠ B; omega)]; exact d1)); have e3 : ∀ u, (w2.setCell ⟨B, 0, none⟩ u).frozen? ⟨B + 1, 0, none⟩ = false := (fun u => free1 (by rw [heap_setCell_other _ _ _ _ (by show B + 1 ≠ B; omega)]; exact d1)))
  case q1 =>
    intro j u hj
    have hr := row_one w 22 (Value.slice ca l.length cc)
    rcases hr with ⟨h, _⟩ | ⟨a, c, h, _, _, hh⟩
    · cases h
    · injection h with h _ _
      injection h with h
      subst h
      exact hh j u hj
  go_end0
  refine ⟨rfl, ⟨.slice va' (cs.length + 1) vc', ?_⟩, (dB.setCell (p := ⟨B, 0, none⟩) (Nat.le_refl _) _).setCell (p := ⟨B + 1, 0, none⟩) (Nat.le_succ _) _⟩
  have own2' : Own1 w2 (B + 2) 22 (.slice va' (cs.length + 1) vc') (cs ++ [.slice ca l.length cc]) := by
    unfold Own1
    rw [List.length_append]
    exact own2
  have hv0 : Own1 (w.alloc (.cells #[.slice ca l.length cc] 22)) (B + 2) 22 (.slice va cs.length vc) cs := World.ownsRow.alloc h.own _
  have bel : Below w.heap.size w (w.alloc (.cells #[.slice ca l.length cc] 22)) := (Below.refl _ _).alloc (Nat.le_refl _) _
  exact gath_set (m := m) d0 d1 own2' ((h.all.kept bel (Nat.le_refl _)).keptRow hv0 grown2) ((hc.kept bel (Nat.le_refl _)).keptRow hv0 grown2)
end Go.Proofs.YtpdmcodnnhbchaaDoor
