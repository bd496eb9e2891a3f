/-
  made, check, find, fits, need, On, Count, by their contracts.
-/
import Derived.Test.YtjgdmbfkondakaaGreatDoorJNames
import Derived.BigQuiet
import Derived.Deep.QuietTactic
namespace Go.Proofs.YtjgdmbfkondakaaGreatDoor
open Go.RowKit Go.Maps

/-- The cells that hold these texts. -/
def scells (l : List ByteArray) : List Value := l.map Value.string
theorem scells_length (l : List ByteArray) : (scells l).length = l.length := by simp [scells]
theorem scells_append (a b : List ByteArray) : scells (a ++ b) = scells a ++ scells b := by simp [scells]
theorem scells_one (l : List ByteArray) : ∀ u ∈ scells l, u.oneCell' = true := by
  intro u hu
  simp only [scells, List.mem_map] at hu
  obtain ⟨b, _, rfl⟩ := hu
  rfl
theorem elemS : Elem Tryz.prog 102 9 (.string ⟨#[]⟩) 16 :=
  ⟨Tryz.underlying102, by
    have h : (Tryz.prog.info? 9).map (fun i => (i.zero, i.size, i.bytes)) = some (some (.string ⟨#[]⟩), 1, 16) := by kernel_rfl
    cases hi : Tryz.prog.info? 9 with
    | none => rw [hi] at h; cases h
    | some i => rw [hi] at h; simp at h; exact ⟨i, rfl, h.1, h.2.1, h.2.2⟩, rfl⟩
/-- Texts that are there lie at plain addresses. -/
theorem Row.atStrs {w : World} {v : Value} {l : List ByteArray} (h : Row w v (scells l)) (hp : 0 < l.length) :
    ∃ b off cap, v = .slice (some ⟨b, off, none⟩) l.length cap ∧ l.length ≤ cap ∧ cap ≤ maxLen ∧ ∀ j (hj : j < l.length), w.cell? ⟨b, off + j, none⟩ = some (.string l[j]) := by
  obtain ⟨b, off, cap, hv, h1, h2, h3⟩ := h.at (by rw [scells_length]; exact hp)
  rw [scells_length] at hv h1
  refine ⟨b, off, cap, hv, h1, h2, fun j hj => ?_⟩
  rw [h3 j (by rw [scells_length]; exact hj)]
  simp [scells]
theorem Row.sliceStrs {w : World} {v : Value} {l : List ByteArray} (h : Row w v (scells l)) : ∃ a cap, v = .slice a l.length cap ∧ l.length ≤ maxLen := by
  rcases h with ⟨rfl, hl⟩ | ⟨a, cap, rfl, h1, h2, _⟩
  · have : l = [] := by simpa [scells] using hl
    subst this
    exact ⟨_, _, rfl, Nat.zero_le _⟩
  · rw [scells_length] at h1 ⊢
    exact ⟨_, _, rfl, by omega⟩

section
variable {w : World} {p nb sb : Nat} {ptr : Nat → Nat} {vb vs : Nat → Value} {L : Nat → Prop} {m : M}
set_option maxRecDepth 20000 in
theorem made_at (h : StAt w p nb sb ptr vb vs L m) : Calls Tryz.prog 53 #[.pointer (some ⟨p, 0, none⟩)] w fun e w' => e = .returned (.bool true) ∧ w' = w := by
  obtain ⟨_, _, _, _, _, _, c6, _⟩ := h.cells
  have hnn : ∀ w, (binOp .neq 62 (.map (some nb)) (.map none)).run Tryz.prog w = .ok (.bool true) w := fun w => run_neq_map_nil w 62 9 80 (some nb) Tryz.underlying62
  clear h
  go_enter Tryz.func53, Tryz.ntmps53
  go_wp2
  go_ret
  exact ⟨rfl, rfl⟩
theorem made_nil (w : World) : Calls Tryz.prog 53 #[.pointer none] w fun e w' => e = .returned (.bool false) ∧ w' = w := by
  go_enter Tryz.func53, Tryz.ntmps53
  go_wp2
  go_ret
  exact ⟨rfl, rfl⟩
set_option maxRecDepth 20000 in
theorem made_zero (p : Nat) (w : World) (c6 : w.cell? ⟨p, 6, none⟩ = some (.map none)) : Calls Tryz.prog 53 #[.pointer (some ⟨p, 0, none⟩)] w fun e w' => e = .returned (.bool false) ∧ w' = w := by
  have hnn : ∀ w, (binOp .neq 62 (.map none) (.map none)).run Tryz.prog w = .ok (.bool false) w := fun w => run_neq_map_nil w 62 9 80 none Tryz.underlying62
  go_enter Tryz.func53, Tryz.ntmps53
  go_wp2
  go_ret
  exact ⟨rfl, rfl⟩

/-- What is wrong ahead of all that hangs on the files. -/
def checkI (m : M) (l : List ByteArray) : Int := if m.dark then 9 else if l.all goodN then 0 else 2
theorem all_take {l : List ByteArray} {k : Nat} (h : k < l.length) (ha : (l.take k).all goodN = true) (hg : goodN l[k] = true) : (l.take (k + 1)).all goodN = true := by
  rw [List.take_succ_eq_append_getElem h, List.all_append, ha]; simp [hg]
theorem all_bad {l : List ByteArray} {k : Nat} (h : k < l.length) (hg : goodN l[k] = false) : l.all goodN = false := by
  rw [Bool.eq_false_iff]
  intro ha
  rw [List.all_eq_true] at ha
  rw [ha _ (List.getElem_mem h)] at hg
  cases hg
set_option maxRecDepth 20000 in
set_option maxHeartbeats 1000000 in
theorem check_at (h : StAt w p nb sb ptr vb vs L m) (v : Value) (l : List ByteArray) (hr : Row w v (scells l)) (hs : ∀ s ∈ l, s.size ≤ maxLen) :
    Calls Tryz.prog 30 #[.pointer (some ⟨p, 0, none⟩), v] w fun e w' => e = .returned (.int .i64 (checkI m l)) ∧ w' = w := by
  have hM := made_at h
  obtain ⟨_, c1, _⟩ := h.cells
  obtain ⟨a, cap, rfl, hl⟩ := hr.sliceStrs
  have l63 : l.length ≤ 9223372036854775807 := by unfold maxLen at hl; omega
  clear h hl
  cases hd : m.dark with
  | true =>
    have hI : checkI m l = 9 := by unfold checkI; rw [hd]; rfl
    rw [hI]
    rw [hd] at c1
    go_enter Tryz.func30, Tryz.ntmps30
    go_wp2_with (go_at_call 53; refine hM.mono ?_; rintro e w ⟨rfl, rfl⟩)
    go_ret
    exact ⟨rfl, rfl⟩
  | false =>
    have hI : Hid (checkI m l = if l.all goodN then 0 else 2) := by show checkI m l = _; unfold checkI; rw [hd]; rfl
    rw [hd] at c1
    have HR : Hid (Row w (.slice a l.length cap) (scells l)) := hr
    have HS : Hid (∀ s ∈ l, s.size ≤ maxLen) := hs
    clear hr hs
    go_enter Tryz.func30, Tryz.ntmps30
    go_wp2_with (go_at_call 53; refine hM.mono ?_; rintro e w ⟨rfl, rfl⟩)
    clear hM c1
    go_loop [6, 17] (fun u6 u17 => ∃ k : Nat, k ≤ l.length ∧ u17 = .int .i64 k ∧ (l.take k).all goodN = true) (fun u6 u17 => l.length - (intOf u17).toNat)
    case atStart => exact ⟨0, Nat.zero_le _, rfl, rfl⟩
    case round =>
      obtain ⟨k, hk, rfl, ha⟩ := hrel
      have HA : Hid ((l.take k).all goodN = true) := ha
      clear ha
      by_cases hlt : k < l.length
      · have hlt' : (k : Int) < (l.length : Int) := by omega
        obtain ⟨b, off, cap', hv, _, _, hc⟩ := HR.out.atStrs (by omega)
        injection hv with e1 e2 e3
        subst e1 e3
        have ck := hc k hlt
        have hG := good_any l[k] w (HS.out _ (List.getElem_mem hlt))
        clear hc e2
        cases hg : goodN l[k] with
        | true =>
          have HT : Hid _ := all_take hlt HA.out hg
          rw [hg] at hG
          clear hg
          generalize l[k] = nm at *
          go_wp2_with (go_at_call 22; refine hG.mono ?_; rintro e w ⟨rfl, rfl⟩)
          go_round
          case rel => exact ⟨k + 1, by omega, by go_num, HT.out⟩
          case measure => simp [intOf]; omega
        | false =>
          have HT : Hid _ := all_bad hlt hg
          rw [hg] at hG
          clear hg
          generalize l[k] = nm at *
          go_wp2_with (go_at_call 22; refine hG.mono ?_; rintro e w ⟨rfl, rfl⟩)
          go_ret
          exact ⟨ret_int (by rw [hI.out, HT.out]; rfl), rfl⟩
      · have hlt' : ¬ (k : Int) < (l.length : Int) := by omega
        go_wp2
        go_ret
        refine ⟨ret_int ?_, rfl⟩
        have := HA.out
        rw [List.take_of_length_le (by omega)] at this
        rw [hI.out, this]; rfl
end
end Go.Proofs.YtjgdmbfkondakaaGreatDoor

/-
  find, fits, need, On, Count, Used, by their contracts.
-/
namespace Go.Proofs.YtjgdmbfkondakaaGreatDoor
open Go.RowKit Go.Maps

theorem check_one {m : M} {n : ByteArray} : checkI m [n] = if m.dark then 9 else if goodN n then 0 else 2 := by unfold checkI; simp
theorem first_dark {m : M} {n : ByteArray} {b : Bool} (h : m.dark = true) : m.first n b = 9 := by unfold M.first; rw [h]; rfl
theorem first_bad {m : M} {n : ByteArray} {b : Bool} (h : m.dark = false) (hg : goodN n = false) : m.first n b = 2 := by unfold M.first; rw [h, hg]; rfl
theorem first_none {m : M} {n : ByteArray} (h : m.dark = false) (hg : goodN n = true) (hf : findE m.dir n = none) : m.first n true = 3 := by unfold M.first; rw [h, hg, hf]; rfl
theorem first_some {m : M} {n : ByteArray} {e : En} (h : m.dark = false) (hg : goodN n = true) (hf : findE m.dir n = some e) : m.first n true = 0 := by unfold M.first; rw [h, hg, hf]; rfl
theorem first_free {m : M} {n : ByteArray} (h : m.dark = false) (hg : goodN n = true) : m.first n false = 0 := by unfold M.first; rw [h, hg]; rfl
/-- Which block is a name's file. -/
def fileB (ptr : Nat → Nat) (m : M) (n : ByteArray) : Option Nat := if m.first n true = 0 then some (ptr (m.place n)) else none
theorem bcell {w : World} {o : Obj} {b i : Nat} {v : Value} (h : w.cell? ⟨b, i, none⟩ = some v) : (w.alloc o).cell? ⟨b, i, none⟩ = some v := by
  rw [World.cell?_alloc_old _ _ _ (Nat.ne_of_lt (World.block_lt_of_cell? _ _ h))]; exact h

section
variable {w : World} {p nb sb : Nat} {ptr : Nat → Nat} {vb vs : Nat → Value} {L : Nat → Prop} {m : M}
set_option maxRecDepth 20000 in
set_option maxHeartbeats 1000000 in
theorem find_at (h : StAt w p nb sb ptr vb vs L m) (ok : m.Ok) (n : ByteArray) (hs : n.size ≤ maxLen) :
    Calls Tryz.prog 64 #[.pointer (some ⟨p, 0, none⟩), .string n] w fun e w' => e = .returned (.tuple #[ptrO (fileB ptr m n), .int .i64 (m.first n true)]) ∧ Below w.heap.size w w' := by
  obtain ⟨W, fold⟩ : ∃ W, w.alloc (.cells #[.string n] 9) = W := ⟨_, rfl⟩
  have bW : Below w.heap.size w W := by rw [← fold]; exact (Below.refl _ _).alloc (Nat.le_refl _) _
  have hW := h.kept bW
  have hr : Row W (.slice (some ⟨w.heap.size, 0, none⟩) 1 1) (scells [n]) := by rw [← fold]; exact row_one w 9 (.string n)
  have hC := check_at hW (.slice (some ⟨w.heap.size, 0, none⟩) 1 1) [n] hr (by simpa using hs)
  rw [check_one] at hC
  obtain ⟨_, _, _, _, _, _, c6, _⟩ := hW.cells
  have hk := hW.n.look (ok.dlD ptr) hs
  rw [ents_find] at hk
  clear hr h
  cases hd : m.dark with
  | true =>
    have hF : m.first n true = 9 := first_dark hd
    have hB : fileB ptr m n = none := by unfold fileB; rw [hF]; rfl
    rw [hF, hB]
    rw [hd] at hC
    clear hk hd
    go_enter Tryz.func64, Tryz.ntmps64
    go_wp2_with (go_at_call 30; refine hC.mono ?_; rintro e W ⟨rfl, rfl⟩)
    go_ret2
    exact ⟨rfl, bW⟩
  | false =>
    rw [hd] at hC
    cases hg : goodN n with
    | false =>
      have hF : m.first n true = 2 := first_bad hd hg
      have hB : fileB ptr m n = none := by unfold fileB; rw [hF]; rfl
      rw [hF, hB]
      rw [hg] at hC
      clear hk hd hg
      go_enter Tryz.func64, Tryz.ntmps64
      go_wp2_with (go_at_call 30; refine hC.mono ?_; rintro e W ⟨rfl, rfl⟩)
      go_ret2
      exact ⟨rfl, bW⟩
    | true =>
      rw [hg] at hC
      cases hf : findE m.dir n with
      | none =>
        have hF : m.first n true = 3 := first_none hd hg hf
        have hB : fileB ptr m n = none := by unfold fileB; rw [hF]; rfl
        rw [hF, hB]
        rw [hf] at hk
        clear hd hg hf
        simp only [Option.map_none, ptrO] at hk ⊢
        go_enter Tryz.func64, Tryz.ntmps64
        go_wp2_with (go_at_call 30; refine hC.mono ?_; rintro e W ⟨rfl, rfl⟩)
        go_ret2
        exact ⟨rfl, bW⟩
      | some e0 =>
        have hF : m.first n true = 0 := first_some hd hg hf
        have hB : fileB ptr m n = some (ptr e0.f) := by unfold fileB; rw [hF, M.place_of hf]; rfl
        rw [hF, hB]
        rw [hf] at hk
        clear hd hg hf
        simp only [Option.map_some, ptrO] at hk ⊢
        go_enter Tryz.func64, Tryz.ntmps64
        go_wp2_with (go_at_call 30; refine hC.mono ?_; rintro e W ⟨rfl, rfl⟩)
        go_ret2
        exact ⟨rfl, bW⟩

set_option maxRecDepth 20000 in
theorem fits_at (h : StAt w p nb sb ptr vb vs L m) (k : Nat) (hn : m.need ≤ 1073741840000000) (hr0 : 0 ≤ m.room) (hr1 : m.room ≤ 1073741824) :
    Calls Tryz.prog 78 #[.pointer (some ⟨p, 0, none⟩), .int .i64 (k : Int)] w fun e w' => e = .returned (.bool (!decide (m.room - m.need < k))) ∧ Below w.heap.size w w' := by
  obtain ⟨c0, _, _, c3, _⟩ := h.cells
  have hw : IntKind.i64.wrap (m.room - (m.need : Int)) = m.room - (m.need : Int) := by rw [IntKind.wrap_i64]; omega
  have hE : Hid ((!decide (m.room - m.need < k)) = decide ((k : Int) ≤ m.room - (m.need : Int))) := by
    show (!decide (m.room - (m.need : Int) < (k : Int))) = decide ((k : Int) ≤ m.room - (m.need : Int))
    by_cases hx : m.room - (m.need : Int) < (k : Int)
    · rw [decide_eq_true hx, decide_eq_false (by omega)]; rfl
    · rw [decide_eq_false hx, decide_eq_true (by omega)]; rfl
  rw [hE.out]
  have mixed : Tryz.prog.follows .mixedOrders = true := by kernel_rfl
  generalize (m.need : Int) = nd at *
  generalize m.room = rm at *
  clear h hE hn hr0 hr1
  go_enter Tryz.func78, Tryz.ntmps78
  go_wp2
  go_region
  all_goals go_wp2
  all_goals go_ret
  all_goals exact ⟨rfl, (Below.refl _ _).drew⟩
theorem FileAt.cells {w : World} {p : Nat} {vb vs : Value} {x : Fl} (h : FileAt w p vb vs x) : w.cell? ⟨p, 0, none⟩ = some vb ∧ w.cell? ⟨p, 1, none⟩ = some vs := by simp [World.cell?, h.blk]
theorem FileAt.free {w : World} {p : Nat} {vb vs : Value} {x : Fl} (h : FileAt w p vb vs x) (i : Nat) : w.frozen? ⟨p, i, none⟩ = false := by simp [World.frozen?, h.blk]
set_option maxRecDepth 20000 in
theorem need_at (q : Nat) (b s : Value) (x : Fl) (w : World) (h : FileAt w q b s x) (hl : x.now.length ≤ 1073741824) :
    Calls Tryz.prog 89 #[.pointer (some ⟨q, 0, none⟩)] w fun e w' => e = .returned (.int .i64 ((16 + x.now.length : Nat) : Int)) ∧ w' = w := by
  obtain ⟨c0, _⟩ := h.cells
  obtain ⟨a, c, rfl⟩ := h.b.slice
  have hw : IntKind.i64.wrap (16 + (x.now.length : Int)) = 16 + (x.now.length : Int) := by rw [IntKind.wrap_i64]; omega
  have hE : ((16 + x.now.length : Nat) : Int) = 16 + (x.now.length : Int) := by omega
  rw [hE]
  clear h hE hl
  generalize x.now.length = n at *
  go_enter Tryz.func89, Tryz.ntmps89
  go_wp2
  go_ret
  exact ⟨rfl, rfl⟩

set_option maxRecDepth 20000 in
theorem on_at (h : StAt w p nb sb ptr vb vs L m) : Calls Tryz.prog 16 #[.pointer (some ⟨p, 0, none⟩)] w fun e w' => e = .returned (.bool (!m.dark)) ∧ w' = w := by
  obtain ⟨_, c1, _⟩ := h.cells
  clear h
  go_enter Tryz.func16, Tryz.ntmps16
  go_wp2
  go_ret
  exact ⟨rfl, rfl⟩

end
end Go.Proofs.YtjgdmbfkondakaaGreatDoor
