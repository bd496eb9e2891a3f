/-
  THE DOCUMENT's file, by its contract.
-/
import Derived.Test.YtndinjekocgjhaaRNames
import Derived.Deep.RegionHeld3
namespace Go.Proofs.Ytndinjekocgjhaa
open Go.RowKit

section
variable {w : World} {p : Nat} {A D S : Value} {L : List Rf} {kp : Int} {m : M}
set_option maxRecDepth 20000 in
set_option maxHeartbeats 2000000 in
/-- A name that is there: the address of its file. -/
theorem rfile_at (h : RAt w p A D S L kp m) (ok : m.Ok) (n : ByteArray) (hf : m.first n true = 0) :
    Calls Try.prog 63 #[.pointer (some ⟨p, 0, none⟩), .string n] w fun e w' => ∃ g, A.ownBlock = some g ∧ m.place n < L.length ∧ e = .returned (.pointer (some ⟨g, m.place n * 2, none⟩)) ∧ Below w.heap.size w w' := by
  obtain ⟨_, _, e, he, hp⟩ := M.first_true hf
  obtain ⟨_, c1, c2, _, _, _, _, _⟩ := h.cells
  have hr := h.dir.rng
  obtain ⟨va, vc, rfl⟩ := hr.slice
  obtain ⟨_, hlm, hat⟩ := ens_at hr
  obtain ⟨hmem, _⟩ := findE_some he
  have hlt : m.place n < L.length := by rw [h.len, hp]; exact ok.fd e hmem
  rcases posE_find m.dir n with ⟨_, h2⟩ | ⟨i, hi, h1, h2⟩
  · rw [he] at h2; cases h2
  rw [he] at h2
  injection h2 with h2
  obtain ⟨b, off, rfl, _, g1⟩ := hat i hi
  rw [← h2, ← hp] at g1
  have hF : Hid (∀ V, Below w.heap.size w V → Calls Try.prog 60 #[.pointer (some ⟨p, 0, none⟩), .string n] V fun e w' => e = .returned (.int .i64 (i : Int)) ∧ Below V.heap.size V w') := fun V bV => by
    have := rfind_at (h.kept bV) n
    rw [h1] at this
    exact this
  obtain ⟨g, cap, cur, hA⟩ : ∃ g cap, ∃ _ : Unit, A = .slice (some ⟨g, 0, none⟩) L.length cap := by
    rcases h.all.2 with ⟨_, hn⟩ | ⟨g, cap, cur, hv, _⟩
    · omega
    · exact ⟨g, cap, (), hv⟩
  subst hA
  generalize m.place n = q at *
  have hi' : (i : Int) < (m.dir.length : Int) := by omega
  have hq' : (q : Int) < (L.length : Int) := by omega
  clear h hr hat he hp hmem h2 h1 ok hf
  go_enter Try.func63, Try.ntmps63
  go_wp2
  first | (go_region_held3 (fun w' => w'.cell? ⟨p, 1, none⟩ = some (.slice (some ⟨g, 0, none⟩) L.length cap) ∧ w'.cell? ⟨p, 2, none⟩ = some (.slice (some ⟨b, off, none⟩) m.dir.length vc) ∧ w'.cell? ⟨b, off + i * 2 + 1, none⟩ = some (.int .i64 (q : Int))) (go_keep) (first | (go_at_call 60; refine (hF.out _ (Below.refl _ w).drew).mono ?_; rintro e w4 ⟨rfl, b4⟩; have z1 := cell_on b4 c1; have z2 := cell_on b4 c2; have z3 := cell_on b4 g1))) | fail
  go_wp2
  go_ret
  exact ⟨g, rfl, hlt, rfl, ((Below.refl _ w).drew).trans b4⟩
end
end Go.Proofs.Ytndinjekocgjhaa
