/-
  Clients, by its contract.
-/
import Derived.Test.YtooaiomghbjpiaaDrop17
import Derived.Sort.KeysCollected
namespace Go.Proofs.Ytooaiomghbjpiaa
open Go.RowKit Go.Maps Go.Sort Go.Shelf Go.WideShapes
set_option maxRecDepth 20000

theorem merge_perm {a b : List Int} (h : a.Perm b) : a.mergeSort (fun x y => decide (x ≤ y)) = b.mergeSort (fun x y => decide (x ≤ y)) := by
  refine List.Perm.eq_of_pairwise (le := fun a b : Int => decide (a ≤ b) = true) (fun a b _ _ h1 h2 => by simp at h1 h2; omega) (List.pairwise_mergeSort (fun a b c h1 h2 => by simp at *; omega) (fun a b => by simp; omega) _) (List.pairwise_mergeSort (fun a b c h1 h2 => by simp at *; omega) (fun a b => by simp; omega) _) (((List.mergeSort_perm _ _).trans h).trans (List.mergeSort_perm _ _).symm)
theorem keysC_sorted {X : List Sx} {ss : List Int} (hp : ss.Perm (intKeys (DofG ckl cd (ccs X)))) : (ss.mergeSort (fun x y => decide (x ≤ y))).map encZ = icells (clientsL (X.map Sx.s)) ∧ ss.length = X.length := by
  have h1 : (intKeys (DofG ckl cd (ccs X))).Perm ((X.map Sx.s).map Se.c) := by
    unfold DofG intKeys
    refine ((sorted_perm (entsG ckl cd (ccs X))).map _).trans ?_
    unfold entsG ccs
    rw [List.map_map, List.map_map, List.map_map]
    exact List.Perm.refl _
  have h2 := hp.trans h1
  refine ⟨?_, by rw [h2.length_eq]; simp⟩
  rw [merge_perm h2]
  rfl
theorem clientsL_len (L : List Se) : (clientsL L).length = L.length := by simp [clientsL]
theorem sortsI_at (m : Nat) : AnyZI.SortsIn Try.prog Try.sortedI_ren Fence.wide m :=
  ⟨fun blk off cap ss W hH hblk hsz => callsIn_wide.2 (AnyM.slices_Sort_int Try.sortI blk off cap ss W hH hblk hsz),
   fun p cap W => callsIn_wide.2 (AnyM.slices_Sort_int_none Try.sortI p cap W)⟩
theorem keysC_at (mb : Option Nat) (W : World) : Calls Try.prog 32 #[.map mb] W fun e w' => e = .returned (.func (.func 48) #[] #[.pointer (some ⟨W.heap.size, 0, none⟩)]) ∧ w' = W.alloc (.cells #[.map mb] 57) :=
  callsIn_wide.1 (AnyZI.keys_in Try.keysC Fence.wide 5 trivial rfl mb W)
set_option maxHeartbeats 1000000 in
theorem sortedC_at (b : Nat) (X : List Sx) (w : World) (hown : CAt w b (ccs X)) (hlen : X.length ≤ 1000000) :
    Calls Try.prog 31 #[.func (.func 48) #[] #[.pointer (some ⟨w.heap.size, 0, none⟩)]] (w.alloc (.cells #[.map (some b)] 57)) fun e w' => ∃ v, e = .returned v ∧ Own1 w' w.heap.size 3 v (icells (clientsL (X.map Sx.s))) ∧ Below w.heap.size w w' := by
  have hbl := hown.lt
  have hsz : Maps.size (DofG ckl cd (ccs X)) = X.length := by rw [size_DofG]; simp [ccs]
  have hseq : SeqGives Fence.wide 2 Try.prog 48 #[.pointer (some ⟨w.heap.size, 0, none⟩)] encZ (fun ss => ss.Perm (intKeys (DofG ckl cd (ccs X)))) (Maps.size (DofG ckl cd (ccs X))) (w.alloc (.cells #[.map (some b)] 57)) :=
    AnyZI.keys_gives (ρ := Try.keysC_ren) { Try.keysC with } Fence.wide _ trivial rfl (by omega) w.heap.size b _ (DofG ckl cd (ccs X)) _ (by simp) (by simp) (hown.same (Below.heap_alloc _ _ b hbl))
  refine (callsIn_wide.1 (AnyZI.sorted_in Try.sortedI Fence.wide 5 trivial trivial trivial trivial rfl (by omega) (sortsI_at _) (enters_of Try.func47 (by kernel_rfl) rfl) 48 #[.pointer (some ⟨w.heap.size, 0, none⟩)] trivial (enters_of Try.func48 (by kernel_rfl) rfl) _ _ (by rw [hsz]; unfold maxLen; omega) (by rw [hsz]; omega) _ hseq)).mono ?_
  rintro e w' ⟨v, ss, rfl, hS, hrow, _, hb⟩
  obtain ⟨h1, h2⟩ := keysC_sorted hS
  rw [h1, h2] at hrow
  refine ⟨v, rfl, ?_, ((Below.refl _ w).alloc (Nat.le_refl _) _).trans (hb.mono (by simp))⟩
  have h3 : w'.ownsRow (w.alloc (.cells #[.map (some b)] 57)).heap.size 3 1 v (icells (clientsL (X.map Sx.s))).length (icells (clientsL (X.map Sx.s))) := by
    rw [icells_length, clientsL_len, List.length_map]
    exact hrow
  exact own1_lower h3 (by simp)
set_option maxHeartbeats 1000000 in
theorem clients_any (p : Nat) (F : Nat → Prop) (L : List Se) (w : World) (h : Dk w p F L) (ok : LOk L) :
    Calls Try.prog 13 #[.pointer (some ⟨p, 0, none⟩)] w fun e w' => ∃ v, e = .returned v ∧ Own1 w' w.heap.size 3 v (icells (clientsL L)) ∧ Below w.heap.size w w' := by
  obtain ⟨mb, v, X, hd, rfl, _⟩ := h
  have hM := made_at hd
  have hK := keysC_at (some mb) w
  have hS := sortedC_at mb X w hd.mp (by have := ok.few; rw [List.length_map] at this; omega)
  obtain ⟨c0, _⟩ := hd.cells
  generalize clientsL (X.map Sx.s) = cl at *
  clear hd
  go_enter Try.func13, Try.ntmps13
  go_wp2_with fail
  refine hM.mono ?_
  rintro e w ⟨rfl, rfl⟩
  go_wp2_with fail
  refine hK.mono ?_
  rintro e w1 ⟨rfl, rfl⟩
  go_wp2_with fail
  refine hS.mono ?_
  rintro e w2 ⟨v2, rfl, row, b⟩
  obtain ⟨va, vc, hv⟩ := own1_slice row
  subst hv
  clear hS hK hM
  go_wp2
  go_ret
  exact ⟨_, rfl, row, b⟩
end Go.Proofs.Ytooaiomghbjpiaa
