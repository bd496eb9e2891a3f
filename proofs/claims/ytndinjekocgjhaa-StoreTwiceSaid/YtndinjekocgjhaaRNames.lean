/-
  THE DOCUMENT's Names, by its contract.
-/
import Derived.Test.YtndinjekocgjhaaRSet
namespace Go.Proofs.Ytndinjekocgjhaa
open Go.RowKit

/-- A row of texts of the call's own. -/
def tcl (s : ByteArray) : List Value := [.string s]
instance : K.Enc tcl 1 where
  len _ := rfl
  one r u hu := by
    simp only [tcl, List.mem_cons, List.not_mem_nil, or_false] at hu
    subst hu; rfl
  pos := by decide
theorem tcl_cells (l : List ByteArray) : K.cellsOf tcl l = scells l := by
  induction l with
  | nil => rfl
  | cons s r ih => rw [K.cellsOf_cons, ih]; rfl
theorem strInfo : ∃ i, Try.prog.info? 9 = some i ∧ i.zero = some (.string ⟨#[]⟩) ∧ i.size = 1 ∧ i.bytes = 16 := by
  have hinfo : (Try.prog.info? 9).map (fun i => (i.zero, i.size, i.bytes)) = some (some (.string ⟨#[]⟩), 1, 16) := by kernel_rfl
  exact info_parts hinfo
theorem row_of_tcl {w : World} {v : Value} {l : List ByteArray} (h : K.RowOf tcl w v l) : Row w v (scells l) := by
  rcases h with ⟨rfl, rfl⟩ | ⟨a, cap, rfl, h1, h2, h3⟩
  · exact .inl ⟨rfl, rfl⟩
  · rw [tcl_cells] at h3
    exact .inr ⟨a, cap, by simp [scells], by simpa [scells] using h1, h2, h3⟩
section
variable {w : World} {p : Nat} {A D S : Value} {L : List Rf} {kp : Int} {m : M}
set_option maxRecDepth 20000 in
set_option maxHeartbeats 2000000 in
theorem rnames_at (h : RAt w p A D S L kp m) (hlen : m.dir.length ≤ 1000000) :
    Calls Try.prog 12 #[.pointer (some ⟨p, 0, none⟩)] w fun e w' => ∃ v, e = .returned v ∧ Row w' v (scells m.names) ∧ Below w.heap.size w w' := by
  obtain ⟨_, _, c2, _, c4, _, _, _⟩ := h.cells
  have hr := h.dir.rng
  obtain ⟨va, vc, rfl⟩ := hr.slice
  obtain ⟨_, hlm, hat⟩ := ens_at hr
  have hnm : m.names = if m.dark then [] else m.dir.map En.name := rfl
  rw [hnm]
  generalize m.dir = l at *
  generalize m.dark = dk at *
  have l63 : l.length ≤ 9223372036854775807 := by omega
  have HA : Hid _ := hat
  obtain ⟨i0, hi0, hz0, hzs, hzb⟩ := strInfo
  clear hr hat h hnm
  go_enter Try.func12, Try.ntmps12
  go_wp2
  go_loopg [3, 11] l.length (fun g u3 u11 wr => ∃ k : Nat, u11 = .int .i64 k ∧ k ≤ l.length ∧ g = l.length - k ∧ Hid (K.OwnOf tcl 1 9 wr w.heap.size u3 (if dk then [] else (l.take k).map En.name)) ∧ Hid (Below w.heap.size w wr))
  case atStart => exact ⟨0, rfl, Nat.zero_le _, rfl, by cases dk <;> exact K.ownOf_nil _ _, Below.refl _ _⟩
  case round =>
    obtain ⟨k, rfl, hk, rfl, HO, hB⟩ := hrel
    have y4 := cell_on hB.out c4
    obtain ⟨aa, ac, hv⟩ := HO.out.rng.slice
    subst hv
    by_cases hlt : k < l.length
    · have hlt' : (k : Int) < (l.length : Int) := by omega
      obtain ⟨b, off, rfl, g0', g1'⟩ := HA.out k hlt
      have g0 := cell_on hB.out g0'
      have g1 := cell_on hB.out g1'
      obtain ⟨ek, hek⟩ : ∃ z, l[k] = z := ⟨_, rfl⟩
      rw [hek] at g0 g1
      obtain ⟨X, hX⟩ : ∃ X, wr.alloc (.cells #[.string ek.name, .int .i64 (ek.f : Int)] 77) = X := ⟨_, rfl⟩
      have x0 : X.cell? ⟨wr.heap.size, 0, none⟩ = some (.string ek.name) := by
        have h := heap_alloc_new wr (.cells #[.string ek.name, .int .i64 (ek.f : Int)] 77)
        rw [hX] at h
        simp only [World.cell?]; rw [h]; rfl
      have HBX : Hid (Below w.heap.size w X) := by rw [← hX]; exact hB.out.alloc hB.out.size _
      have z4 := cell_on HBX.out c4
      clear g0' g1' y4
      cases dk with
      | true =>
        have oX : Hid (K.OwnOf tcl 1 9 X w.heap.size (.slice aa 0 ac) []) := by rw [← hX]; exact HO.out.alloc _
        clear HO
        go_wp2
        go_roundg (l.length - (k + 1))
        case measure => omega
        case rel => exact ⟨k + 1, by go_num, by omega, rfl, oX, HBX⟩
      | false =>
        obtain ⟨acc, hacc⟩ : ∃ z, (l.take k).map En.name = z := ⟨_, rfl⟩
        have hal : acc.length ≤ 1000000 := by rw [← hacc]; simp; omega
        have HN : Hid ((l.take (k + 1)).map En.name = acc ++ [ek.name]) := by
          show _ = _
          rw [List.take_succ_eq_append_getElem hlt, List.map_append, hacc, hek]; rfl
        have oX : K.OwnOf tcl 1 9 X w.heap.size (.slice aa acc.length ac) acc := by
          rw [← hX, ← hacc]; exact HO.out.alloc _
        simp only [Bool.false_eq_true, if_false, hacc]
        clear HO
        go_wp2_with (at_builtin; refine K.wpList_append_rows (enc := tcl) rfl (.tmp 20) (.tmp 23) 34 rfl Try.underlying34 i0 _ 16 hi0 hz0 hzs hzb rfl w.heap.size (.slice aa acc.length ac) _ acc [ek.name] rfl rfl (oX.alloc _) (K.row_one _ (ek.name) _ rfl) (by unfold maxLen; simp; omega) (by simp; omega) (by have := Below.size HBX.out; simp; omega) ?_; intro v' w' own' gr' _; have HW : Hid (Below w.heap.size w w') := (oX.alloc _).below gr' (Below.alloc HBX.out (Below.size HBX.out) _) (by have := Below.size HBX.out; simp; omega) (Nat.le_refl _); obtain ⟨va', vc', hv'⟩ := own'.rng.slice; rw [List.length_append, List.length_singleton] at hv'; subst hv')
        go_roundg (l.length - (k + 1))
        case measure => omega
        case rel => exact ⟨k + 1, by go_num, by omega, rfl, by rw [show (if (false : Bool) = true then [] else (l.take (k + 1)).map En.name) = acc ++ [ek.name] from HN.out]; exact own', HW⟩
    · have e : k = l.length := by omega
      have hlt' : ¬ (k : Int) < (l.length : Int) := by omega
      have hR := row_of_tcl HO.out.rng
      rw [e, List.take_length] at hR ⊢
      clear HO
      cases dk with
      | true =>
        have HR : Hid (Row wr (.slice aa 0 ac) (scells [])) := hR
        clear hR
        go_wp2
        go_ret
        exact ⟨_, rfl, HR.out, hB.out⟩
      | false =>
        simp only [Bool.false_eq_true, if_false] at hR ⊢
        have HR : Hid (Row wr (.slice aa (l.map En.name).length ac) (scells (l.map En.name))) := hR
        clear hR
        obtain ⟨nl, hnl⟩ : ∃ z, l.map En.name = z := ⟨_, rfl⟩
        have HE : Hid (l.map En.name = nl) := hnl
        rw [hnl] at HR ⊢
        clear hnl
        go_wp2
        go_ret
        refine ⟨_, rfl, ?_, hB.out⟩
        rw [HE.out]
        exact HR.out
end
end Go.Proofs.Ytndinjekocgjhaa
