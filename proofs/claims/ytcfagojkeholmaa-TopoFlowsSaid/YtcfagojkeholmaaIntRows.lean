/-
  SLICES OF INTS OF THE CALL's OWN; slices.Sort and slices.DeleteFunc, by their contracts.
-/
import Derived.Test.YtcfagojkeholmaaWays
import Derived.Test.YtcfagojkeholmaaShelf
namespace Go.Proofs.Ytcfagojkeholmaa
open Go.RowKit Go.Sort Go.Shelf

/-- The slice v is the call's own, from block number base on, and holds these numbers. -/
def RowI (w : World) (base : Nat) (v : Value) (l : List Int) : Prop :=
  (v = .slice none 0 0 ∧ l = []) ∨ ∃ g cap, v = .slice (some ⟨g, 0, none⟩) l.length cap ∧ base ≤ g ∧ g < w.heap.size ∧ l.length ≤ cap ∧ cap ≤ maxLen ∧ Holds (Value.int .i64) w g 0 l.toArray
theorem rowI_of_own {w : World} {base : Nat} {v : Value} {l : List Int} (h : Own1 w base 3 v (icells l)) : RowI w base v l := by
  have h' := h
  rcases h.2 with ⟨rfl, hn⟩ | ⟨g, cap, cur, rfl, hb, hg, hnc, hcm, _, _⟩
  · exact .inl ⟨rfl, List.eq_nil_of_length_eq_zero (by simpa [icells] using hn)⟩
  · refine .inr ⟨g, cap, by rw [icells_length], hb, (Array.getElem?_eq_some_iff.1 hg).1, by simpa [icells] using hnc, hcm, fun j hj => ?_⟩
    have hj' : j < l.length := by simpa using hj
    refine ⟨?_, by simp [World.frozen?, hg]⟩
    have := World.ownsRow.cells h' (g := g) rfl j (.int .i64 l[j]) (by simp [icells, hj'])
    rw [Go.WideShapes.add_plain] at this
    rw [this, getElem!_pos l.toArray j hj]
    simp
theorem RowI.row {w : World} {base : Nat} {v : Value} {l : List Int} (h : RowI w base v l) : Row w v (icells l) := by
  rcases h with ⟨rfl, rfl⟩ | ⟨g, cap, rfl, _, _, h1, h2, h3⟩
  · exact .inl ⟨rfl, rfl⟩
  · refine .inr ⟨⟨g, 0, none⟩, cap, by rw [icells_length], by rw [icells_length]; exact h1, h2, fun j u hj => ?_⟩
    rw [Go.WideShapes.add_plain]
    simp only [icells, List.getElem?_map, Option.map_eq_some_iff] at hj
    obtain ⟨x, hx, rfl⟩ := hj
    have hj' : j < l.length := by
      rcases Nat.lt_or_ge j l.length with h | h
      · exact h
      · rw [List.getElem?_eq_none h] at hx; cases hx
    have := (h3 j (by simpa using hj')).1
    rw [this, getElem!_pos l.toArray j (by simpa using hj')]
    simp [List.getElem?_eq_getElem hj'] at hx
    simp [hx]
theorem RowI.below {w w' : World} {base B : Nat} {v : Value} {l : List Int} (h : RowI w base v l) (hb : Below B w w') (hB : w.heap.size ≤ B) : RowI w' base v l := by
  rcases h with h | ⟨g, cap, hv, h1, h2, h3, h4, h5⟩
  · exact .inl h
  · refine .inr ⟨g, cap, hv, h1, Nat.lt_of_lt_of_le h2 hb.size, h3, h4, fun j hj => ?_⟩
    rw [hb.cell (p := ⟨g, 0 + j, none⟩) (Nat.lt_of_lt_of_le h2 hB), hb.frozen (p := ⟨g, 0 + j, none⟩) (Nat.lt_of_lt_of_le h2 hB)]
    exact h5 j hj
theorem RowI.mono {w : World} {base c : Nat} {v : Value} {l : List Int} (h : RowI w base v l) (hc : c ≤ base) : RowI w c v l := by
  rcases h with h | ⟨g, cap, hv, h1, rest⟩
  · exact .inl h
  · exact .inr ⟨g, cap, hv, Nat.le_trans hc h1, rest⟩
theorem RowI.slice {w : World} {base : Nat} {v : Value} {l : List Int} (h : RowI w base v l) : ∃ a cap, v = .slice a l.length cap := by
  rcases h with ⟨rfl, rfl⟩ | ⟨g, cap, rfl, _⟩
  · exact ⟨_, _, rfl⟩
  · exact ⟨_, _, rfl⟩
theorem RowI.short {w : World} {base : Nat} {v : Value} {l : List Int} (h : RowI w base v l) : l.length ≤ maxLen := by
  rcases h with ⟨rfl, rfl⟩ | ⟨g, cap, rfl, _, _, h1, h2, _⟩
  · exact Nat.zero_le _
  · omega

theorem below_putRow (w : World) (n g off B : Nat) (d : Array Int) (os : Array Obj) (hB : B ≤ g) (hs : B ≤ w.heap.size) : Below B w (grow (putRow (Value.int .i64) (Sort.ahead w n) g off d) os) := by
  refine ⟨rfl, rfl, rfl, ?_, fun k hk => ?_⟩
  · show w.heap.size ≤ ((putRow (Value.int .i64) (Sort.ahead w n) g off d).heap ++ os).size
    rw [Array.size_append, size_putRow]; exact Nat.le_add_right _ _
  · rw [heap_grow_old _ _ (by rw [size_putRow]; show k < w.heap.size; omega)]
    simp only [putRow, mapBlock, Array.getElem?_modify]
    rw [if_neg (by omega)]
    rfl
theorem holds_grow {w : World} {g off : Nat} {d : Array Int} (os : Array Obj) (hg : g < w.heap.size) (h : Holds (Value.int .i64) w g off d) : Holds (Value.int .i64) (grow w os) g off d := fun j hj => by
  rw [cell?_grow _ _ _ hg, frozen?_grow _ _ _ hg]; exact h j hj

theorem sort_any (w : World) (base : Nat) (v : Value) (l : List Int) (hr : RowI w base v l) (hl : l.length ≤ 100000) (hbs : base ≤ w.heap.size) :
    Calls Try.prog 24 #[v] w fun e w' => e = .returned (.tuple #[]) ∧ RowI w' base v (l.mergeSort fun x y => decide (x ≤ y)) ∧ Below base w w' := by
  rcases hr with ⟨rfl, rfl⟩ | ⟨g, cap, rfl, h1, h2, h3, h4, h5⟩
  · refine (AnyM.slices_Sort_int_none Try.sortI none 0 w).mono ?_
    rintro e w' ⟨rfl, rfl⟩
    exact ⟨rfl, .inl ⟨rfl, by simp⟩, Below.refl _ _⟩
  · refine (AnyM.slices_Sort_int Try.sortI g 0 cap l w h5 h2 (by omega)).mono ?_
    rintro e w' ⟨rfl, n, os, rfl⟩
    refine ⟨rfl, .inr ⟨g, cap, by rw [List.length_mergeSort], h1, ?_, by rw [List.length_mergeSort]; exact h3, h4, ?_⟩, below_putRow _ _ _ _ _ _ _ h1 hbs⟩
    · show g < ((putRow (Value.int .i64) (Sort.ahead w n) g 0 _).heap ++ os).size
      rw [Array.size_append, size_putRow]; exact Nat.lt_of_lt_of_le h2 (Nat.le_add_right _ _)
    · exact holds_grow os (by rw [size_putRow]; exact h2) (holds_putRow _ _ _ _ l.toArray _ (holds_ahead _ w n g 0 _ h5) (by simp))

theorem onward1 (o x : Int) (B : Nat) (W : World) (hc : W.cell? ⟨B, 0, none⟩ = some (.int .i64 o)) :
    FnGives Try.prog 28 #[.pointer (some ⟨B, 0, none⟩)] #[.int .i64 x] (.bool (x == o)) W := by
  show Calls Try.prog 28 #[.int .i64 x, .pointer (some ⟨B, 0, none⟩)] W _
  go_enter Try.func28, Try.ntmps28
  go_wp2
  all_goals (go_ret; exact ⟨by simp_all, 0, rfl⟩)

set_option maxHeartbeats 1000000 in
theorem del_any (w : World) (base : Nat) (v : Value) (l : List Int) (o : Int) (B : Nat) (hr : RowI w base v l) (hbs : base ≤ w.heap.size) (hB : B < base) (hc : w.cell? ⟨B, 0, none⟩ = some (.int .i64 o)) :
    Calls Try.prog 27 #[v, .func (.func 28) #[] #[.pointer (some ⟨B, 0, none⟩)]] w fun e w' => ∃ v', e = .returned v' ∧ RowI w' base v' (l.filter fun x => !(x == o)) ∧ Below base w w' := by
  have hs := hr.short
  have eg : ∀ args w, (callFunc 28 args).run Try.prog w = .ok (.enter 28 args) w := enters_of Try.func28 (by kernel_rfl) rfl
  rcases hr with ⟨rfl, rfl⟩ | ⟨g, cap, rfl, h1, h2, h3, h4, h5⟩
  · have hI := AnyE.slices_IndexFunc_empty (P := Try.prog) { Try.delF with } none 0 (.func (.func 28) #[] #[.pointer (some ⟨B, 0, none⟩)]) w
    change Calls Try.prog 31 _ _ _ at hI
    go_enter Try.func27, Try.ntmps27
    go_wp2_with (go_at_call 31; refine hI.mono ?_; rintro e w' ⟨rfl, rfl⟩)
    go_ret
    exact ⟨_, rfl, .inl ⟨rfl, rfl⟩, Below.refl _ _⟩
  · have hcon := AnyE.slices_DeleteFunc Try.delF (Value.int .i64) (fun _ => rfl) (fun x => x == o) 28 #[.pointer (some ⟨B, 0, none⟩)] eg 0 Try.zeroValue3 g 0 cap l.toArray w
      (fun W x hb => onward1 o x B W ((hb.cell (p := ⟨B, 0, none⟩) (Nat.lt_of_lt_of_le hB hbs)).trans hc))
      (fun n os dk x _ => onward1 o x B _ (by
        unfold sortWorld
        rw [cell?_grow _ _ _ (by show B < (putRow _ _ _ _ _).heap.size; rw [size_putRow]; exact Nat.lt_of_lt_of_le hB hbs), cell?_putRow_other _ _ g 0 _ _ (Or.inl (by show B ≠ g; omega))]
        exact hc)) h5 (by unfold maxLen at hs; simp; omega) (by simpa using h3)
    refine hcon.mono ?_
    rintro e w' ⟨rfl, q, rfl⟩
    refine ⟨_, rfl, .inr ⟨g, cap, rfl, h1, by rw [size_putRow]; exact h2, Nat.le_trans (List.length_filter_le _ _) h3, h4, ?_⟩, ?_⟩
    · have hh := holds_putRow (Value.int .i64) (Sort.ahead w q) g 0 l.toArray ((l.filter fun x => !(x == o)) ++ List.replicate (l.toArray.size - (l.filter fun x => !(x == o)).length) 0).toArray (holds_ahead _ w q g 0 _ h5) (by simp; have := List.length_filter_le (fun x => !(x == o)) l; omega)
      intro j hj
      have hj' : j < (l.filter fun x => !(x == o)).length := by simpa using hj
      have h := hh j (by rw [List.size_toArray, List.length_append]; omega)
      refine ⟨?_, h.2⟩
      rw [h.1, getElem!_pos _ j (by rw [List.size_toArray, List.length_append]; omega), getElem!_pos _ j (by simpa using hj)]
      simp [List.getElem_append_left hj']
    · have := below_putRow w q g 0 base ((l.filter fun x => !(x == o)) ++ List.replicate (l.toArray.size - (l.filter fun x => !(x == o)).length) 0).toArray #[] h1 hbs
      rwa [grow_empty] at this
end Go.Proofs.Ytcfagojkeholmaa
