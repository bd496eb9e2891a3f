/-
  math/bits.Len; slices.Sort at no more than twelve tags.
-/
import Derived.Test.YtooaiomghbjpiaaInsU
namespace Go.Proofs.Ytooaiomghbjpiaa
open Go.RowKit Go.Sort Go.Shelf
set_option maxRecDepth 20000

theorem bitsLen_any (x : Int) (w : World) (h0 : 0 ≤ x) (h1 : x ≤ 18446744073709551615) : Calls Try.prog 60 #[.int .u64 x] w fun e w' => e = .returned (.int .i64 (Lib.bitLen x.toNat : Nat)) ∧ w' = w :=
  calls_of_every_depth fun D => AnySM.bits_LenIn { Try.sortI with } D x w h0 h1
set_option maxHeartbeats 1000000 in
theorem pdq_small (w : World) (base g cap n : Nat) (lim : Int) (d : Array Int) (h : UR w base g cap d) (hn : d.size = n) (h12 : n ≤ 12) :
    Calls Try.prog 77 #[.slice (some ⟨g, 0, none⟩) n cap, .int .i64 0, .int .i64 (n : Int), .int .i64 lim] w fun e w' => e = .returned (.tuple #[]) ∧ Go1 w w' base g cap n (Sort.insertionSort ltU d 0 n) := by
  have hI := insertU w base g cap n 0 n d h hn (Nat.zero_le _) (Nat.le_refl _) (by omega)
  have h12' : (n : Int) ≤ 12 := by omega
  clear h hn
  go_enter Try.func77, Try.ntmps77
  go_wp2
  refine wp_loop_rounds 1 ?_
  rw [rounds_succ]
  go_wp2_with fail
  refine hI.mono ?_
  rintro e w1 ⟨rfl, hw⟩
  go_wp2
  refine bodyPost_ret (results_none rfl _ _ _) rfl ?_
  exact ⟨rfl, hw⟩
theorem swoU : SWO ltU where
  irrefl x := by unfold ltU; simp
  trans x y z h1 h2 := by unfold ltU at *; simp at *; omega
  ntrans x y z h1 h2 := by unfold ltU at *; simp at *; omega
/-- The one rising order. -/
theorem sorted_up {d d' : Array Int} {l : List Int} (hp : d.toList.Perm l) (hl : l.Pairwise (· < ·)) (h1 : PermIn 0 d.size d d') (h2 : SortedIn ltU 0 d.size d') : d'.toList = l := by
  have hs := sorted_unique_holds (lt := ltU) swoU (fun x y hx hy => by unfold ltU at hx hy; simp at hx hy; omega) d d' h1 h2
  rw [hs]
  have e : (fun x y => !ltU y x) = fun x y : Int => decide (x ≤ y) := by
    funext x y
    unfold ltU
    rw [Bool.eq_iff_iff]
    simp
  rw [e]
  have h3 : (d.toList.mergeSort fun x y => decide (x ≤ y)).Pairwise (fun a b => decide (a ≤ b) = true) := List.pairwise_mergeSort (fun a b c h1 h2 => by simp at *; omega) (fun a b => by simp; omega) _
  have h4 : l.Pairwise (fun a b => decide (a ≤ b) = true) := hl.imp fun {a b} h => by simp; omega
  exact List.Perm.eq_of_pairwise (le := fun a b : Int => decide (a ≤ b) = true) (fun a b _ _ h1 h2 => by simp at h1 h2; omega) h3 h4 ((List.mergeSort_perm _ _).trans hp)
theorem insertU_nil (w : World) : Calls Try.prog 84 #[.slice none 0 0, .int .i64 0, .int .i64 0] w fun e w' => e = .returned (.tuple #[]) ∧ w' = w := by
  go_enter Try.func84, Try.ntmps84
  go_wp2
  refine wp_loop_rounds 1 ?_
  rw [rounds_succ]
  go_wp2
  go_end0
  exact ⟨rfl, rfl⟩
theorem pdqU_nil (lim : Int) (w : World) : Calls Try.prog 77 #[.slice none 0 0, .int .i64 0, .int .i64 0, .int .i64 lim] w fun e w' => e = .returned (.tuple #[]) ∧ w' = w := by
  have hI := insertU_nil w
  go_enter Try.func77, Try.ntmps77
  go_wp2
  refine wp_loop_rounds 1 ?_
  rw [rounds_succ]
  go_wp2_with fail
  refine hI.mono ?_
  rintro e w1 ⟨rfl, rfl⟩
  go_wp2
  refine bodyPost_ret (results_none rfl _ _ _) rfl ?_
  exact ⟨rfl, rfl⟩
/-- What pdqsort leaves of a whole row. -/
def PdqU (w : World) (base g cap n : Nat) (d : Array Int) : Prop := ∀ lim : Nat, lim ≤ 64 → Calls Try.prog 77 #[.slice (some ⟨g, 0, none⟩) n cap, .int .i64 0, .int .i64 (n : Int), .int .i64 (lim : Int)] w fun e w' => e = .returned (.tuple #[]) ∧ ∃ d', Go1 w w' base g cap n d' ∧ PermIn 0 n d d' ∧ SortedIn ltU 0 n d'
theorem pdqU_small {w : World} {base g cap n : Nat} {d : Array Int} (h : UR w base g cap d) (hn : d.size = n) (h12 : n ≤ 12) : PdqU w base g cap n d := fun lim _ => (pdq_small w base g cap n lim d h hn h12).mono fun e w' ⟨he, hg⟩ => by
  obtain ⟨h1, h2⟩ := insertionSort_holds (lt := ltU) swoU d 0 n (Nat.zero_le _) (by omega)
  exact ⟨he, _, hg, h1, h2⟩
set_option maxHeartbeats 1000000 in
theorem sort_of (w : World) (base : Nat) (v : Value) (xs l : List Int) (h : Own1 w base 31 v (ucells xs)) (hp : xs.Perm l) (hl : l.Pairwise (· < ·)) (hlen : l.length ≤ 100000) (hP : ∀ g cap, v = .slice (some ⟨g, 0, none⟩) xs.length cap → PdqU w base g cap xs.length xs.toArray) :
    Calls Try.prog 62 #[v] w fun e w' => e = .returned (.tuple #[]) ∧ Own1 w' base 31 v (ucells l) ∧ Below base w w' := by
  have hx : xs.length ≤ 100000 := by rw [hp.length_eq]; exact hlen
  have hL := bitsLen_any (xs.length : Int) w (by omega) (by omega)
  rw [Int.toNat_natCast] at hL
  have hb64 : Lib.bitLen xs.length ≤ 64 := Lib.bitLen_le xs.length 64 (Nat.le_refl _) (by omega)
  rcases h.2 with ⟨rfl, hn⟩ | ⟨g, cap, cur, rfl, hb, hg, hnc, hcm, h5, h6⟩
  · obtain rfl : xs = [] := by simpa [ucells] using hn
    obtain rfl : l = [] := hp.symm.eq_nil
    have hN := fun lim => pdqU_nil lim w
    generalize Lib.bitLen ([] : List Int).length = bl at hL
    clear hP hp hl
    rw [show (([] : List Int).length : Int) = 0 from rfl] at hL
    go_enter Try.func62, Try.ntmps62
    go_wp2_with fail
    refine hL.mono ?_
    rintro e w ⟨rfl, rfl⟩
    go_wp2_with fail
    refine (hN _).mono ?_
    rintro e w ⟨rfl, rfl⟩
    go_wp2
    go_end0
    exact ⟨rfl, h, Below.refl _ _⟩
  · rw [ucells_length] at hP ⊢
    have hN := hP g cap rfl (Lib.bitLen xs.length) hb64
    have HE : Hid (∀ w' d', Go1 w w' base g cap xs.length d' → PermIn 0 xs.length xs.toArray d' → SortedIn ltU 0 xs.length d' → Own1 w' base 31 (.slice (some ⟨g, 0, none⟩) xs.length cap) (ucells l) ∧ Below base w w') := fun w' d' h1 h2 h3 => by
      have e := sorted_up (d := xs.toArray) (by simpa using hp) hl (by simpa using h2) (by simpa using h3)
      obtain ⟨u1, u2, u3⟩ := h1
      refine ⟨?_, u3⟩
      rw [← e, ← u2]
      exact u1
    generalize Lib.bitLen xs.length = bl at hL hN
    generalize xs.length = n at *
    clear hP hp hl hb64
    go_enter Try.func62, Try.ntmps62
    go_wp2_with fail
    refine hL.mono ?_
    rintro e w ⟨rfl, rfl⟩
    go_wp2_with fail
    refine hN.mono ?_
    rintro e w2 ⟨rfl, d', h1, h2, h3⟩
    have HR : Hid _ := HE.out w2 d' h1 h2 h3
    clear h1 h2 h3
    go_wp2
    go_end0
    exact ⟨rfl, HR.out⟩
end Go.Proofs.Ytooaiomghbjpiaa
