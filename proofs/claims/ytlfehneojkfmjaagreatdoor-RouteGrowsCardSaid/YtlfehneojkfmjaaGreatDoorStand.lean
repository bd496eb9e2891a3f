/-
  THE WALK of stand: which counts of words may stand for a pattern's beginning.
-/
import Derived.Test.YtlfehneojkfmjaaGreatDoorKeys
namespace Go.Proofs.YtlfehneojkfmjaaGreatDoor
open Go.RowKit Go.Shelf

theorem standsFor_any (x p : ByteArray) (w : World) :
    Calls Tryz.prog 104 #[.string x, .string p] w fun e w' => e = .returned (.bool (sfB (txt x) (txt p))) ∧ w' = w := by
  have h1 : (x.toList == p.toList) = (txt x == txt p) := by rw [ByteArray.toList_eq, ByteArray.toList_eq]; rfl
  have h2 : (p.toList == [42]) = (txt p == [42]) := by rw [ByteArray.toList_eq]; rfl
  have h3 : (x.toList == [35]) = (txt x == [35]) := by rw [ByteArray.toList_eq]; rfl
  have HS : Hid (sfB (txt x) (txt p) = ((x.toList == p.toList) || ((p.toList == [42]) && !(x.toList == [35])))) := by
    show _ = _
    rw [h1, h2, h3]; rfl
  clear h1 h2 h3
  cases h1 : (x.toList == p.toList) <;> cases h2 : (p.toList == [42]) <;> cases h3 : (x.toList == [35])
  all_goals go_enter Tryz.func104, Tryz.ntmps104
  all_goals go_wp2
  all_goals go_ret
  all_goals exact ⟨ret_bool (by rw [HS.out, h1, h2, h3]; rfl), rfl⟩

/-- The first k cells of block g hold F's answers. -/
structure Half (wr : World) (g L : Nat) (F : Nat → Bool) (k : Nat) : Prop where
  done : ∀ j, j < k → wr.cell? ⟨g, j, none⟩ = some (.bool (F j))
  is : ∀ j, j < L → (wr.cell? ⟨g, j, none⟩).isSome = true ∧ wr.frozen? ⟨g, j, none⟩ = false
theorem Half.set {wr : World} {g L : Nat} {F : Nat → Bool} {k : Nat} (h : Half wr g L F k) (hk : k < L) : Half (wr.setCell ⟨g, k, none⟩ (.bool (F k))) g L F (k + 1) := by
  have hs := World.cell?_setCell_same' wr ⟨g, k, none⟩ (.bool (F k)) (h.is k hk).1
  have ho : ∀ j, j ≠ k → (wr.setCell ⟨g, k, none⟩ (.bool (F k))).cell? ⟨g, j, none⟩ = wr.cell? ⟨g, j, none⟩ := fun j hj => by
    rw [World.cell?_setCell_other]; intro e; cases e; exact hj rfl
  refine ⟨fun j hj => ?_, fun j hj => ⟨?_, by rw [World.frozen?_setCell]; exact (h.is j hj).2⟩⟩
  · by_cases e : j = k
    · subst e; exact hs
    · rw [ho j e]; exact h.done j (by omega)
  · by_cases e : j = k
    · subst e; rw [hs]; rfl
    · rw [ho j e]; exact (h.is j hj).1

theorem Half.step {wr : World} {g L : Nat} {F : Nat → Bool} {k : Nat} (h : Half wr g L F k) (hk : k < L) (b : Bool) (hb : F k = b) : Half (wr.setCell ⟨g, k, none⟩ (.bool b)) g L F (k + 1) := by
  subst hb
  exact h.set hk

/-- A row that tells of each count of words whether they may stand for the pattern. -/
def Reach (w : World) (v : Value) (ps K : List Txt) : Prop := Row w v ((List.range (K.length + 1)).map fun j => .bool (fitsL ps (K.take j)))
theorem Reach.at {w : World} {v : Value} {ps K : List Txt} (h : Reach w v ps K) : ∃ b off cap, v = .slice (some ⟨b, off, none⟩) (K.length + 1) cap ∧ cap ≤ maxLen ∧ ∀ j, j ≤ K.length → w.cell? ⟨b, off + j, none⟩ = some (.bool (fitsL ps (K.take j))) := by
  obtain ⟨b, off, cap, hv, _, h2, h3⟩ := Row.at h (by simp)
  simp only [List.length_map, List.length_range] at hv h3
  refine ⟨b, off, cap, hv, h2, fun j hj => ?_⟩
  rw [h3 j (by omega)]
  simp

theorem elemB : Elem Tryz.prog 108 4 (.bool false) 1 :=
  ⟨Tryz.underlying108, by
    have h : (Tryz.prog.info? 4).map (fun i => (i.zero, i.size, i.bytes)) = some (some (.bool false), 1, 1) := by kernel_rfl
    cases hi : Tryz.prog.info? 4 with
    | none => rw [hi] at h; cases h
    | some i => rw [hi] at h; simp at h; exact ⟨i, rfl, h.1, h.2.1, h.2.2⟩, rfl⟩

theorem half_new (w : World) (C : Array Value) (e : TypeId) (L : Nat) (F : Nat → Bool) (hC : C.size = L) : Half (w.alloc (.cells C e)) w.heap.size L F 0 := by
  refine ⟨fun j hj => by omega, fun j hj => ?_⟩
  have hh : (w.alloc (.cells C e)).heap[w.heap.size]? = some (.cells C e) := World.alloc_heap_new w _
  constructor
  · simp only [World.cell?, hh]
    simp [hC, hj]
  · simp only [World.frozen?, hh]
    simp

set_option maxRecDepth 20000 in
set_option maxHeartbeats 2000000 in
theorem further_any (w : World) (vr vw : Value) (ps : List Txt) (K : List ByteArray) (p : ByteArray) (hr : Reach w vr ps (K.map txt)) (hw : Row w vw (scells K)) (hK : K.length ≤ 1000000) :
    Calls Tryz.prog 88 #[vr, vw, .string p] w fun e w' => ∃ v, e = .returned v ∧ Reach w' v (ps ++ [txt p]) (K.map txt) ∧ Below w.heap.size w w' := by
  obtain ⟨br, fr, cr, rfl, _, hcr⟩ := hr.at
  obtain ⟨aw, cw, rfl⟩ := hw.sliceStrs
  rw [List.length_map] at *
  obtain ⟨C, hmk, hC⟩ := run_make1 (P := Tryz.prog) w 108 4 _ 1 elemB (K.length + 1) (K.length + 1) (Nat.le_refl _) (by omega) (by omega)
  have hmk' : (Instr.makeSlice 108 (.int .i64 ((K.length : Int) + 1)) (.int .i64 ((K.length : Int) + 1))).run Tryz.prog w = .ok (.slice (some ⟨w.heap.size, 0, none⟩) (K.length + 1) (K.length + 1)) (w.alloc (.cells C 4)) := by
    have e : ((K.length : Int) + 1) = ((K.length + 1 : Nat) : Int) := by omega
    rw [e]
    exact hmk
  have hH := half_new w C 4 (K.length + 1) (fun j => fitsL (ps ++ [txt p]) ((K.map txt).take j)) hC
  have hB0 : Below w.heap.size w (w.alloc (.cells C 4)) := (Below.refl _ w).alloc (Nat.le_refl _) _
  have hpe : (p.toList == [35]) = (txt p == [35]) := by rw [ByteArray.toList_eq]; rfl
  go_enter Tryz.func88, Tryz.ntmps88
  go_wp2
  go_loopw [14] (fun i wr => ∃ k : Nat, k ≤ K.length + 1 ∧ i = .int .i64 k ∧ Half wr w.heap.size (K.length + 1) (fun j => fitsL (ps ++ [txt p]) ((K.map txt).take j)) k ∧ Below w.heap.size w wr) (fun i _ => K.length + 1 - (intOf i).toNat)
  case atStart => exact ⟨0, Nat.zero_le _, rfl, hH, hB0⟩
  case round =>
    obtain ⟨k, hk, rfl, hh, hB⟩ := hrel
    by_cases hkl : k < K.length + 1
    · obtain ⟨u, hu⟩ := Option.isSome_iff_exists.1 (hh.is k hkl).1
      have hfz := (hh.is k hkl).2
      have hrc : ∀ j, j ≤ K.length → wr.cell? ⟨br, fr + j, none⟩ = some (.bool (fitsL ps ((K.map txt).take j))) := fun j hj => by
        have := hcr j hj
        rw [hB.cell (p := ⟨br, fr + j, none⟩) (World.block_lt_of_cell? w _ this)]
        exact this
      have hB2 := fun v => hB.setCell (p := ⟨w.heap.size, k, none⟩) (Nat.le_refl _) v
      have hck := hrc k (by omega)
      by_cases hp : txt p = [35]
      · have hsn := fits_snoc_many ps (K.map txt) k (by rw [List.length_map]; omega)
        rw [← hp] at hsn
        rw [hp] at hpe
        have hpe' : (p.toList == [35]) = true := hpe
        clear hpe hcr
        by_cases hk0 : 0 < k
        · obtain ⟨m, rfl⟩ : ∃ m, k = m + 1 := ⟨k - 1, by omega⟩
          have hpv := hh.done m (by omega)
          rw [show m + 1 - 1 = m by omega, decide_eq_true hk0, Bool.true_and] at hsn
          have HS : Hid _ := hsn
          clear hsn hrc
          cases hR : fitsL ps ((K.map txt).take (m + 1)) <;> rw [hR] at hck <;> cases hN : fitsL (ps ++ [txt p]) ((K.map txt).take m) <;> rw [hN] at hpv
          all_goals go_wp2
          all_goals go_roundw
          all_goals first
            | exact ⟨m + 1 + 1, by omega, by go_num, hh.step hkl _ (by rw [HS.out, hR, hN]; rfl), hB2 _⟩
            | (simp [intOf]; omega)
        · have hk0' : ¬ ((0 : Int) < (k : Int)) := by omega
          rw [decide_eq_false hk0, Bool.false_and, Bool.or_false] at hsn
          have HS : Hid _ := hsn
          clear hsn hrc
          cases hR : fitsL ps ((K.map txt).take k) <;> rw [hR] at hck
          all_goals go_wp2
          all_goals go_roundw
          all_goals first
            | exact ⟨k + 1, by omega, by go_num, hh.step hkl _ (by rw [HS.out, hR]), hB2 _⟩
            | (simp [intOf]; omega)
      · have hsn := fits_snoc_one ps (K.map txt) (txt p) hp k (by rw [List.length_map]; omega)
        have hpe' : (p.toList == [35]) = false := by rw [hpe]; simpa using hp
        clear hpe hcr hck
        by_cases hk0 : 0 < k
        · obtain ⟨m, rfl⟩ : ∃ m, k = m + 1 := ⟨k - 1, by omega⟩
          have hck := hrc m (by omega)
          obtain ⟨bw, ow, cw', hv, _, _, hcw⟩ := (hw.below hB (Nat.le_refl _)).atStrs (by omega)
          injection hv with hv1 _ hv3
          subst hv1 hv3
          have hcm := hcw m (by omega)
          rw [show m + 1 - 1 = m by omega, decide_eq_true hk0, Bool.true_and, show (K.map txt).getD m [] = txt (K[m]'(by omega)) from by simp [List.getD, show m < K.length by omega]] at hsn
          have HS : Hid _ := hsn
          clear hsn hrc hcw
          cases hR : fitsL ps ((K.map txt).take m) <;> rw [hR] at hck
          all_goals go_wp2_with (go_at_call 104; refine (standsFor_any _ _ _).mono ?_; rintro e w3 ⟨rfl, rfl⟩)
          all_goals go_roundw
          all_goals first
            | exact ⟨m + 1 + 1, by omega, by go_num, hh.step hkl _ (by rw [HS.out, hR]; rfl), hB2 _⟩
            | (simp [intOf]; omega)
        · have hk0' : ¬ ((0 : Int) < (k : Int)) := by omega
          rw [decide_eq_false hk0, Bool.false_and, Bool.false_and] at hsn
          have HS : Hid _ := hsn
          clear hsn hrc
          go_wp2
          go_roundw
          case rel => exact ⟨k + 1, by omega, by go_num, hh.step hkl _ HS.out, hB2 _⟩
          case measure => simp [intOf]; omega
    · go_wp2
      go_ret
      refine ⟨_, rfl, .inr ⟨⟨w.heap.size, 0, none⟩, K.length + 1, by simp, by simp, by unfold maxLen; omega, fun j u hj => ?_⟩, hB⟩
      rw [List.length_map] at hj
      have hj' : j < K.length + 1 := by
        have := (List.getElem?_eq_some_iff.1 hj).1
        simpa using this
      rw [Go.WideShapes.add_plain, Nat.zero_add, hh.done j (by omega), ← hj]
      simp [hj']
end Go.Proofs.YtlfehneojkfmjaaGreatDoor
