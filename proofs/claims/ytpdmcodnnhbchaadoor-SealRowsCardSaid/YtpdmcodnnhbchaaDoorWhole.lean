/-
  THE WALK of Whole.
-/
import Derived.Test.YtpdmcodnnhbchaaDoorGather
import Derived.WalkMore
namespace Go.Proofs.YtpdmcodnnhbchaaDoor
open Go.RowKit

theorem errO_zero (bs : List UInt8) (h : errO bs = 0) : cntO bs + 8 ≤ bs.length ∧ cntO bs ≤ 1048576 ∧ bornO bs = crc (bs.take (4 + cntO bs)) := by
  unfold errO at h
  split at h
  · cases h
  · split at h
    · cases h
    · split at h
      · cases h
      · split at h
        · exact ⟨by omega, by omega, by assumption⟩
        · cases h
/-- All contents that bytes begin with. -/
def wholeC (bs : List UInt8) : List (List UInt8) := if _h : errO bs = 0 then contO bs :: wholeC (bs.drop (sizeO bs)) else []
termination_by bs.length
decreasing_by
  have h1 := errO_zero bs _h
  have h2 := (openO_good bs _h).2
  simp
  omega
/-- How many bytes they are. -/
def wholeS (bs : List UInt8) : Nat := if _h : errO bs = 0 then sizeO bs + wholeS (bs.drop (sizeO bs)) else 0
termination_by bs.length
decreasing_by
  have h1 := errO_zero bs _h
  have h2 := (openO_good bs _h).2
  simp
  omega
theorem wholeC_ok (bs : List UInt8) (h : errO bs = 0) : wholeC bs = contO bs :: wholeC (bs.drop (sizeO bs)) := by rw [wholeC, dif_pos h]
theorem wholeC_end (bs : List UInt8) (h : errO bs ≠ 0) : wholeC bs = [] := by rw [wholeC, dif_neg h]
theorem wholeS_ok (bs : List UInt8) (h : errO bs = 0) : wholeS bs = sizeO bs + wholeS (bs.drop (sizeO bs)) := by rw [wholeS, dif_pos h]
theorem wholeS_end (bs : List UInt8) (h : errO bs ≠ 0) : wholeS bs = 0 := by rw [wholeS, dif_neg h]

/-- So far: n bytes gone over, these contents. -/
structure SoFar (bs : List UInt8) (n : Nat) (ls : List (List UInt8)) : Prop where
  c : wholeC bs = ls ++ wholeC (bs.drop n)
  s : wholeS bs = n + wholeS (bs.drop n)
  le : n ≤ bs.length
  few : ls.length ≤ n
theorem soFar_start (bs : List UInt8) : SoFar bs 0 [] := ⟨by simp, by simp, by omega, by simp⟩
theorem SoFar.step {bs : List UInt8} {n : Nat} {ls : List (List UInt8)} (h : SoFar bs n ls) (he : errO (bs.drop n) = 0) : SoFar bs (n + sizeO (bs.drop n)) (ls ++ [contO (bs.drop n)]) := by
  have h1 := errO_zero _ he
  have h2 := (openO_good _ he).2
  have hl : (bs.drop n).length = bs.length - n := by simp
  have h0 := h.le
  refine ⟨?_, ?_, by omega, by simp; have := h.few; omega⟩
  · rw [h.c, wholeC_ok _ he, List.drop_drop]; simp
  · rw [h.s, wholeS_ok _ he, List.drop_drop]; omega
theorem SoFar.ends {bs : List UInt8} {n : Nat} {ls : List (List UInt8)} (h : SoFar bs n ls) (he : errO (bs.drop n) ≠ 0) : wholeC bs = ls ∧ wholeS bs = n :=
  ⟨by rw [h.c, wholeC_end _ he]; simp, by rw [h.s, wholeS_end _ he]; simp⟩
theorem SoFar.more {bs : List UInt8} {n : Nat} {ls : List (List UInt8)} (h : SoFar bs n ls) (he : errO (bs.drop n) = 0) : 8 ≤ sizeO (bs.drop n) ∧ n + sizeO (bs.drop n) ≤ bs.length := by
  have h1 := errO_zero _ he
  have h2 := (openO_good _ he).2
  have hl : (bs.drop n).length = bs.length - n := by simp
  have h0 := h.le
  omega

/-- How Whole ends. -/
def Wholed (w : World) (bs : List UInt8) (e : Ending) (w' : World) : Prop :=
  ∃ v cs, e = .returned (.tuple #[v, .int .i64 (wholeS bs)]) ∧ Row w' v cs ∧ OwnsAll w' w.heap.size cs (wholeC bs) ∧ Below w.heap.size w w'

def meas (len B : Nat) (wr : World) : Nat := len - (intOf ((wr.cell? ⟨B + 1, 0, none⟩).getD undef)).toNat

theorem OwnsAll.mono {w : World} {b b' : Nat} {cs : List Value} {ls : List (List UInt8)} (h : OwnsAll w b cs ls) (hb : b' ≤ b) : OwnsAll w b' cs ls := ⟨h.1, fun j v l hv hl => (h.2 j v l hv hl).mono hb⟩

set_option maxHeartbeats 400000 in
theorem whole_some (s : Value) (bs : List UInt8) (w : World) (ht : Tab w) (hs : Holds w s bs) (hl : bs.length ≤ 1000000) (hp : 0 < bs.length) :
    Calls Tryd.prog 19 #[s] w (Wholed w bs) := by
  obtain ⟨b, off, cap, rfl, hc1, hc2, hcell⟩ := hs.at hp
  have hc3 : cap ≤ maxLen := hc2
  unfold maxLen at hc2
  have hmf : ∀ (fn : Fn) (first cap : Array Value) (w : World), (Instr.makeFunc fn first cap).run Tryd.prog w = .ok (.func fn first cap) w := fun _ _ _ _ => rfl
  go_enter Tryd.func19, Tryd.ntmps19
  go_wp2_with fail
  go_step3
  go_wp2_with fail
  go_step3
  go_wp2_with fail
  go_loopw [9] (fun _ wr => ∃ v n cs ls, Gath wr w.heap.size v n cs ls ∧ SoFar bs n ls ∧ Below w.heap.size w wr) (fun _ wr => meas bs.length w.heap.size wr)
  case atStart =>
    have h0 : (w.alloc (.cells #[.slice none 0 0] 36)).heap.size = w.heap.size + 1 := by simp
    refine ⟨_, 0, [], [], ⟨?_, ?_, own1_nil _ _ _, ownsAll_nil _ _⟩, soFar_start bs, ((Below.refl _ _).alloc (Nat.le_refl _) _).alloc (by omega) _⟩
    · rw [Below.heap_alloc _ _ _ (by omega)]; exact heap_alloc_new _ _
    · rw [← h0]; exact heap_alloc_new _ _
  case round =>
    obtain ⟨v, n, cs, ls, G, F, bel⟩ := hrel
    have hn := F.le
    have hc1 := cell1 G.c1
    have hc0 := cell1 G.c0
    obtain ⟨va, vc, rfl⟩ := G.own.row.slice
    have hlt : w.heap.size + 2 ≤ wr.heap.size := by have := (Array.getElem?_eq_some_iff.1 G.c1).1; omega
    have hcellr : ∀ j (hj : j < bs.length), wr.cell? ⟨b, off + j, none⟩ = some (.int .u8 (bs[j].toNat : Int)) := fun j hj => by
      have hx := hcell j hj
      rw [bel.cell (World.block_lt_of_cell? w _ hx)]
      exact hx
    have htr : Tab wr := ht.below bel ht.pos
    have hsz := bel.size
    rcases Nat.lt_or_ge n cap with hcap | hcap
    · have hold : Holds wr (.slice (some ⟨b, off + n, none⟩) (bs.length - n) (cap - n)) (bs.drop n) := by
        have h := holds_part hcellr n (n := bs.length - n) (cap := cap - n) (by omega) (by omega) (by omega)
        rwa [List.take_of_length_le (by simp)] at h
      have hopen := open_any _ _ wr htr hold
      by_cases he : errO (bs.drop n) = 0
      · have hmore := F.more he
        have hfew := F.few
        have hcsl := G.all.1
        go_wp2_with fail
        refine hopen.mono ?_
        rintro e w1 ⟨c, he1, ownc, belc⟩
        rw [he] at he1
        subst he1
        obtain ⟨ca, cc, rfl⟩ := ownc.holds.slice
        have G1 := G.kept belc (Nat.le_refl _)
        have hw1 := belc.size
        have cG1 := cell1 G1.c1
        go_wp2_with (go_at_call 25; refine (gather_any w.heap.size n (sizeO (bs.drop n)) _ _ cs ls _ _ G1 (ownc.mono hlt) (by omega) (by omega)).mono ?_; rintro e w2 ⟨rfl, ⟨v2, G2⟩, bel2⟩)
        refine ⟨⟨_, _, _, _, G2, F.step he, (bel.trans (belc.mono hsz)).trans bel2⟩, ?_⟩
        unfold meas
        rw [cell1 G2.c1, cell1 G.c1]
        simp [intOf]
        omega
      · obtain ⟨hC, hS⟩ := F.ends he
        go_wp2_with fail
        refine hopen.mono ?_
        rintro e w1 ⟨c, rfl, ownc, belc⟩
        obtain ⟨ca, cc, rfl⟩ := ownc.holds.slice
        have G1 := G.kept belc (Nat.le_refl _)
        have hw1 := belc.size
        have cG0 := cell1 G1.c0
        have cG1 := cell1 G1.c1
        have hne : ((errO (bs.drop n) : Int) == 0) = false := by simp; omega
        go_wp2
        go_region
        all_goals go_wp2
        all_goals try rw [Exit.noGoto_ret]
        all_goals go_ret2
        all_goals exact ⟨_, cs, by rw [hS]; rfl, G1.own.row, by rw [hC]; exact G1.all.mono (by omega), (bel.trans (belc.mono hsz)).drew⟩
    · have hnl : n = bs.length := by omega
      have hn0 : bs.length - n = 0 := by omega
      obtain rfl : cap = n := by omega
      have hdrop : bs.drop cap = [] := List.drop_of_length_le (by omega)
      have he0 : errO (bs.drop cap) = 8 := by rw [hdrop]; exact errO_short [] (by simp)
      have hopen := open_any _ _ wr htr (holds_empty wr ⟨b, off, none⟩ 0 (by simp [maxLen]))
      obtain ⟨hC, hS⟩ := F.ends (by rw [he0]; decide)
      go_wp2_with fail
      · refine hopen.mono ?_
        rintro e w1 ⟨c, rfl, ownc, belc⟩
        have hne : ((errO [] : Int) == 0) = false := by rw [errO_short [] (by simp)]; rfl
        obtain ⟨ca, cc, rfl⟩ := ownc.holds.slice
        have G1 := G.kept belc (Nat.le_refl _)
        have hw1 := belc.size
        have cG0 := cell1 G1.c0
        have cG1 := cell1 G1.c1
        go_wp2
        go_region
        all_goals go_wp2
        all_goals try rw [Exit.noGoto_ret]
        all_goals go_ret2
        all_goals exact ⟨_, cs, by rw [hS, hnl]; rfl, G1.own.row, by rw [hC]; exact G1.all.mono (by omega), (bel.trans (belc.mono hsz)).drew⟩

theorem errO_nil : errO [] = 8 := errO_short [] (by simp)
theorem gath_new (w : World) : Gath ((w.alloc (.cells #[.slice none 0 0] 36)).alloc (.cells #[.int .i64 0] 3)) w.heap.size (.slice none 0 0) 0 [] [] := by
  have h0 : (w.alloc (.cells #[.slice none 0 0] 36)).heap.size = w.heap.size + 1 := by simp
  refine ⟨?_, ?_, own1_nil _ _ _, ownsAll_nil _ _⟩
  · rw [Below.heap_alloc _ _ _ (by omega)]; exact heap_alloc_new _ _
  · rw [← h0]; exact heap_alloc_new _ _

set_option maxHeartbeats 400000 in
theorem whole_none (s : Value) (w : World) (ht : Tab w) (hs : Holds w s []) :
    Calls Tryd.prog 19 #[s] w (Wholed w []) := by
  have hmf : ∀ (fn : Fn) (first cap : Array Value) (w : World), (Instr.makeFunc fn first cap).run Tryd.prog w = .ok (.func fn first cap) w := fun _ _ _ _ => rfl
  have hG := gath_new w
  have hbel : Below w.heap.size w ((w.alloc (.cells #[.slice none 0 0] 36)).alloc (.cells #[.int .i64 0] 3)) := ((Below.refl _ _).alloc (Nat.le_refl _) _).alloc (by simp) _
  have ht2 := ht.below hbel ht.pos
  have hS : wholeS [] = 0 := wholeS_end _ (by rw [errO_nil]; decide)
  have hC : wholeC [] = [] := wholeC_end _ (by rw [errO_nil]; decide)
  have hc1 := cell1 hG.c1
  have hc0 := cell1 hG.c0
  rcases hs with ⟨rfl, _⟩ | ⟨a, cap, rfl, h1, h2, _⟩
  · skip
    go_enter Tryd.func19, Tryd.ntmps19
    go_wp2_with fail
    go_step3
    go_wp2_with fail
    go_step3
    go_wp2_with fail
    go_loopw [9] (fun _ wr => wr = ((w.alloc (.cells #[.slice none 0 0] 36)).alloc (.cells #[.int .i64 0] 3))) (fun _ _ => 0)
    case atStart => rfl
    case round =>
      subst hrel
      go_wp2_with (go_at_call 17; refine (open_any _ [] _ ht2 (.inl ⟨rfl, rfl⟩)).mono ?_; rintro e w1 ⟨c, rfl, ownc, belc⟩; obtain ⟨ca, cc, rfl⟩ := ownc.holds.slice; have G1 := hG.kept belc (Nat.le_refl _); have hw1 := belc.size; have cG0 := cell1 G1.c0; have cG1 := cell1 G1.c1; have hne : ((errO [] : Int) == 0) = false := (by rw [errO_nil]; rfl))
      all_goals go_region
      all_goals go_wp2
      all_goals try rw [Exit.noGoto_ret]
      all_goals go_ret2
      all_goals exact ⟨_, [], by rw [hS]; rfl, G1.own.row, by rw [hC]; exact G1.all.mono (by omega), (hbel.trans (belc.mono (by simp; omega))).drew⟩
  · skip
    go_enter Tryd.func19, Tryd.ntmps19
    go_wp2_with fail
    go_step3
    go_wp2_with fail
    go_step3
    go_wp2_with fail
    go_loopw [9] (fun _ wr => wr = ((w.alloc (.cells #[.slice none 0 0] 36)).alloc (.cells #[.int .i64 0] 3))) (fun _ _ => 0)
    case atStart => rfl
    case round =>
      subst hrel
      go_wp2_with (go_at_call 17; refine (open_any _ [] _ ht2 (holds_empty _ _ _ (by first | exact h2 | simp [maxLen]))).mono ?_; rintro e w1 ⟨c, rfl, ownc, belc⟩; obtain ⟨ca, cc, rfl⟩ := ownc.holds.slice; have G1 := hG.kept belc (Nat.le_refl _); have hw1 := belc.size; have cG0 := cell1 G1.c0; have cG1 := cell1 G1.c1; have hne : ((errO [] : Int) == 0) = false := (by rw [errO_nil]; rfl))
      all_goals go_region
      all_goals go_wp2
      all_goals try rw [Exit.noGoto_ret]
      all_goals go_ret2
      all_goals exact ⟨_, [], by rw [hS]; rfl, G1.own.row, by rw [hC]; exact G1.all.mono (by omega), (hbel.trans (belc.mono (by simp; omega))).drew⟩

theorem whole_any (s : Value) (bs : List UInt8) (w : World) (ht : Tab w) (hs : Holds w s bs) (hl : bs.length ≤ 1000000) : Calls Tryd.prog 19 #[s] w (Wholed w bs) := by
  by_cases hp : 0 < bs.length
  · exact whole_some s bs w ht hs hl hp
  · obtain rfl : bs = [] := List.eq_nil_of_length_eq_zero (by omega)
    exact whole_none s w ht hs
end Go.Proofs.YtpdmcodnnhbchaaDoor
