/-
  find, fits, need, On, Count, Used, by their contracts.
-/
import Derived.Test.YtjgdmbfkondakaaBasics
namespace Go.Proofs.Ytjgdmbfkondakaa
open Go.RowKit Go.Maps

theorem check_one {m : M} {n : ByteArray} : checkI m [n] = if m.dark then 9 else if goodN n then 0 else 2 := by unfold checkI; simp
theorem first_dark {m : M} {n : ByteArray} {b : Bool} (h : m.dark = true) : m.first n b = 9 := by unfold M.first; rw [h]; rfl
theorem first_bad {m : M} {n : ByteArray} {b : Bool} (h : m.dark = false) (hg : goodN n = false) : m.first n b = 2 := by unfold M.first; rw [h, hg]; rfl
theorem first_none {m : M} {n : ByteArray} (h : m.dark = false) (hg : goodN n = true) (hf : findE m.dir n = none) : m.first n true = 3 := by unfold M.first; rw [h, hg, hf]; rfl
theorem first_some {m : M} {n : ByteArray} {e : En} (h : m.dark = false) (hg : goodN n = true) (hf : findE m.dir n = some e) : m.first n true = 0 := by unfold M.first; rw [h, hg, hf]; rfl
theorem first_free {m : M} {n : ByteArray} (h : m.dark = false) (hg : goodN n = true) : m.first n false = 0 := by unfold M.first; rw [h, hg]; rfl
/-- Which block is a name's file. -/
def fileB (ptr : Nat → Nat) (m : M) (n : ByteArray) : Option Nat := if m.first n true = 0 then some (ptr (m.place n)) else none
theorem bcell {w : World} {o : Obj} {b i : Nat} {v : Value} (h : w.cell? ⟨b, i, none⟩ = some v) : (w.alloc o).cell? ⟨b, i, none⟩ = some v := by
  rw [World.cell?_alloc_old _ _ _ (Nat.ne_of_lt (World.block_lt_of_cell? _ _ h))]; exact h

section
variable {w : World} {p nb sb : Nat} {ptr : Nat → Nat} {vb vs : Nat → Value} {L : Nat → Prop} {m : M}
set_option maxRecDepth 20000 in
set_option maxHeartbeats 1000000 in
theorem find_at (h : StAt w p nb sb ptr vb vs L m) (ok : m.Ok) (n : ByteArray) (hs : n.size ≤ maxLen) :
    Calls Try.prog 24 #[.pointer (some ⟨p, 0, none⟩), .string n] w fun e w' => e = .returned (.tuple #[ptrO (fileB ptr m n), .int .i64 (m.first n true)]) ∧ Below w.heap.size w w' := by
  obtain ⟨W, fold⟩ : ∃ W, w.alloc (.cells #[.string n] 9) = W := ⟨_, rfl⟩
  have bW : Below w.heap.size w W := by rw [← fold]; exact (Below.refl _ _).alloc (Nat.le_refl _) _
  have hW := h.kept bW
  have hr : Row W (.slice (some ⟨w.heap.size, 0, none⟩) 1 1) (scells [n]) := by rw [← fold]; exact row_one w 9 (.string n)
  have hC := check_at hW (.slice (some ⟨w.heap.size, 0, none⟩) 1 1) [n] hr (by simpa using hs)
  rw [check_one] at hC
  obtain ⟨_, _, _, _, _, _, c6, _⟩ := hW.cells
  have hk := hW.n.look (ok.dlD ptr) hs
  rw [ents_find] at hk
  clear hr h
  cases hd : m.dark with
  | true =>
    have hF : m.first n true = 9 := first_dark hd
    have hB : fileB ptr m n = none := by unfold fileB; rw [hF]; rfl
    rw [hF, hB]
    rw [hd] at hC
    clear hk hd
    go_enter Try.func24, Try.ntmps24
    go_wp2_with (go_at_call 26; refine hC.mono ?_; rintro e W ⟨rfl, rfl⟩)
    go_ret2
    exact ⟨rfl, bW⟩
  | false =>
    rw [hd] at hC
    cases hg : goodN n with
    | false =>
      have hF : m.first n true = 2 := first_bad hd hg
      have hB : fileB ptr m n = none := by unfold fileB; rw [hF]; rfl
      rw [hF, hB]
      rw [hg] at hC
      clear hk hd hg
      go_enter Try.func24, Try.ntmps24
      go_wp2_with (go_at_call 26; refine hC.mono ?_; rintro e W ⟨rfl, rfl⟩)
      go_ret2
      exact ⟨rfl, bW⟩
    | true =>
      rw [hg] at hC
      cases hf : findE m.dir n with
      | none =>
        have hF : m.first n true = 3 := first_none hd hg hf
        have hB : fileB ptr m n = none := by unfold fileB; rw [hF]; rfl
        rw [hF, hB]
        rw [hf] at hk
        clear hd hg hf
        simp only [Option.map_none, ptrO] at hk ⊢
        go_enter Try.func24, Try.ntmps24
        go_wp2_with (go_at_call 26; refine hC.mono ?_; rintro e W ⟨rfl, rfl⟩)
        go_ret2
        exact ⟨rfl, bW⟩
      | some e0 =>
        have hF : m.first n true = 0 := first_some hd hg hf
        have hB : fileB ptr m n = some (ptr e0.f) := by unfold fileB; rw [hF, M.place_of hf]; rfl
        rw [hF, hB]
        rw [hf] at hk
        clear hd hg hf
        simp only [Option.map_some, ptrO] at hk ⊢
        go_enter Try.func24, Try.ntmps24
        go_wp2_with (go_at_call 26; refine hC.mono ?_; rintro e W ⟨rfl, rfl⟩)
        go_ret2
        exact ⟨rfl, bW⟩

set_option maxRecDepth 20000 in
theorem fits_at (h : StAt w p nb sb ptr vb vs L m) (k : Nat) (hn : m.need ≤ 1073741840000000) (hr0 : 0 ≤ m.room) (hr1 : m.room ≤ 1073741824) :
    Calls Try.prog 27 #[.pointer (some ⟨p, 0, none⟩), .int .i64 (k : Int)] w fun e w' => e = .returned (.bool (!decide (m.room - m.need < k))) ∧ Below w.heap.size w w' := by
  obtain ⟨c0, _, _, c3, _⟩ := h.cells
  have hw : IntKind.i64.wrap (m.room - (m.need : Int)) = m.room - (m.need : Int) := by rw [IntKind.wrap_i64]; omega
  have hE : Hid ((!decide (m.room - m.need < k)) = decide ((k : Int) ≤ m.room - (m.need : Int))) := by
    show (!decide (m.room - (m.need : Int) < (k : Int))) = decide ((k : Int) ≤ m.room - (m.need : Int))
    by_cases hx : m.room - (m.need : Int) < (k : Int)
    · rw [decide_eq_true hx, decide_eq_false (by omega)]; rfl
    · rw [decide_eq_false hx, decide_eq_true (by omega)]; rfl
  rw [hE.out]
  have mixed : Try.prog.follows .mixedOrders = true := by kernel_rfl
  generalize (m.need : Int) = nd at *
  generalize m.room = rm at *
  clear h hE hn hr0 hr1
  go_enter Try.func27, Try.ntmps27
  go_wp2
  go_region
  all_goals go_wp2
  all_goals go_ret
  all_goals exact ⟨rfl, (Below.refl _ _).drew⟩
theorem FileAt.cells {w : World} {p : Nat} {vb vs : Value} {x : Fl} (h : FileAt w p vb vs x) : w.cell? ⟨p, 0, none⟩ = some vb ∧ w.cell? ⟨p, 1, none⟩ = some vs := by simp [World.cell?, h.blk]
theorem FileAt.free {w : World} {p : Nat} {vb vs : Value} {x : Fl} (h : FileAt w p vb vs x) (i : Nat) : w.frozen? ⟨p, i, none⟩ = false := by simp [World.frozen?, h.blk]
set_option maxRecDepth 20000 in
theorem need_at (q : Nat) (b s : Value) (x : Fl) (w : World) (h : FileAt w q b s x) (hl : x.now.length ≤ 1073741824) :
    Calls Try.prog 43 #[.pointer (some ⟨q, 0, none⟩)] w fun e w' => e = .returned (.int .i64 ((16 + x.now.length : Nat) : Int)) ∧ w' = w := by
  obtain ⟨c0, _⟩ := h.cells
  obtain ⟨a, c, rfl⟩ := h.b.slice
  have hw : IntKind.i64.wrap (16 + (x.now.length : Int)) = 16 + (x.now.length : Int) := by rw [IntKind.wrap_i64]; omega
  have hE : ((16 + x.now.length : Nat) : Int) = 16 + (x.now.length : Int) := by omega
  rw [hE]
  clear h hE hl
  generalize x.now.length = n at *
  go_enter Try.func43, Try.ntmps43
  go_wp2
  go_ret
  exact ⟨rfl, rfl⟩

set_option maxRecDepth 20000 in
theorem on_at (h : StAt w p nb sb ptr vb vs L m) : Calls Try.prog 18 #[.pointer (some ⟨p, 0, none⟩)] w fun e w' => e = .returned (.bool (!m.dark)) ∧ w' = w := by
  obtain ⟨_, c1, _⟩ := h.cells
  clear h
  go_enter Try.func18, Try.ntmps18
  go_wp2
  go_ret
  exact ⟨rfl, rfl⟩

set_option maxRecDepth 20000 in
theorem count_at (h : StAt w p nb sb ptr vb vs L m) : Calls Try.prog 17 #[.pointer (some ⟨p, 0, none⟩)] w fun e w' => e = .returned (.int .i64 (m.count : Int)) ∧ w' = w := by
  obtain ⟨_, _, c2, _⟩ := h.cells
  clear h
  go_enter Try.func17, Try.ntmps17
  go_wp2
  go_ret
  exact ⟨rfl, rfl⟩

set_option maxRecDepth 20000 in
theorem used_at (h : StAt w p nb sb ptr vb vs L m) : Calls Try.prog 16 #[.pointer (some ⟨p, 0, none⟩)] w fun e w' => e = .returned (.int .i64 (m.used : Int)) ∧ w' = w := by
  have hC := check_at h (.slice none 0 0) [] (.inl ⟨rfl, rfl⟩) (by simp)
  have hI : checkI m [] = if m.dark then 9 else 0 := by unfold checkI; simp
  rw [hI] at hC
  obtain ⟨_, _, _, c3, _⟩ := h.cells
  unfold M.used
  clear h hI
  cases hd : m.dark with
  | true =>
    rw [hd] at hC
    go_enter Try.func16, Try.ntmps16
    go_wp2_with (go_at_call 26; refine hC.mono ?_; rintro e w ⟨rfl, rfl⟩)
    go_ret
    exact ⟨rfl, rfl⟩
  | false =>
    rw [hd] at hC
    go_enter Try.func16, Try.ntmps16
    go_wp2_with (go_at_call 26; refine hC.mono ?_; rintro e w ⟨rfl, rfl⟩)
    go_ret
    exact ⟨rfl, rfl⟩

end
end Go.Proofs.Ytjgdmbfkondakaa
