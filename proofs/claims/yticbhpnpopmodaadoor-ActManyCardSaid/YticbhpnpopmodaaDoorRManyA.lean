/-
  The document's Many, by its contract.
-/
import Derived.Test.YticbhpnpopmodaaDoorManyA
import Derived.Test.YticbhpnpopmodaaDoorRBytes
namespace Go.Proofs.YticbhpnpopmodaaDoor
open Go.RowKit

set_option maxRecDepth 20000 in
set_option maxHeartbeats 8000000 in
theorem rmanyL_any (v : Value) (l : List Ax) (w : World) (hv : K.RowOf xcells w v l) (hl : l.length ≤ 1000) (hf : ∀ a ∈ l, a.Fits) :
    Calls Tryd.prog 26 #[v] w (PutPost w.heap.size (.slice none 0 0) w (manyL l)) := by
  have HV : Hid (K.RowOf xcells w v l ∧ (∀ a ∈ l, a.Fits)) := ⟨hv, hf⟩
  have hP := rput_good (.slice none 0 0) [] 2 l.length w (.inl ⟨rfl, rfl⟩) (by simp) (by decide)
  obtain ⟨va, vc, rfl⟩ := hv.slice
  obtain ⟨n, hn⟩ : ∃ z, l.length = z := ⟨_, rfl⟩
  rw [hn] at HV hP ⊢
  have HL : Hid (l.length = n) := hn
  clear hv hf
  rw [hn] at hl
  clear hn
  have hsm : ¬ (60000 : Int) < (n : Int) := by omega
  have cw : IntKind.u64.wrap (n : Int) = (n : Int) := by rw [IntKind.wrap_u64]; omega
  go_enter Tryd.func26, Tryd.ntmps26
  go_wp2_with fail
  refine hP.mono ?_
  rintro e V1 ⟨v1, rfl, o1, b1⟩
  clear hP
  have HS : Hid (Owns V1 w.heap.size 5 v1 (putL 2 n) ∧ Below w.heap.size w V1) := ⟨o1, b1⟩
  clear o1 b1
  go_wp2
  go_loopg [3, 16] n (fun g u3 u16 wr => ∃ i : Nat, u16 = .int .i64 (i : Int) ∧ i ≤ n ∧ g = n - i ∧ Hid (Owns wr w.heap.size 5 u3 (putL 2 n ++ (l.take i).flatMap itemL) ∧ Below w.heap.size w wr ∧ (l.take i).all goodA = true))
  case atStart => exact ⟨0, rfl, Nat.zero_le _, rfl, by simpa using HS.out.1, HS.out.2, rfl⟩
  case round =>
    obtain ⟨i, rfl, hi, rfl, HI⟩ := hrel
    by_cases hlt : i < n
    · have hlt' : (i : Int) < (n : Int) := by omega
      have hil : i < l.length := by rw [HL.out]; exact hlt
      have RW := HV.out.1.below HI.out.2.1 (Nat.le_refl _)
      obtain ⟨b, off, cap, hva, hcap, hmax, hcells⟩ := RW.at (by omega)
      rw [HL.out] at hva
      injection hva with hva1 hva0 hva2
      subst hva1 hva2
      obtain ⟨z, hz⟩ : ∃ z, l[i] = z := ⟨_, rfl⟩
      have HC : Hid (∀ j u, (xcells z)[j]? = some u → wr.cell? ⟨b, off + i * 17 + j, none⟩ = some u) := fun j u hj => by
        have hj17 : j < 17 := by have := (List.getElem?_eq_some_iff.1 hj).1; simpa [xcells] using this
        exact K.row_cell hcells i hil j hj17 u (by rw [hz]; exact hj)
      have HZ : Hid (l[i]'hil = z) := hz
      have HF : Hid (z.Fits) := by show z.Fits; rw [← hz]; exact HV.out.2 _ (List.getElem_mem hil)
      obtain ⟨X0, foldX⟩ : ∃ X, wr.alloc (.cells #[.int .i64 0, .string ⟨#[]⟩, .int .i64 0, .int .u64 0, .int .i64 0, .string ⟨#[]⟩, .int .i64 0, .bool false, .string ⟨#[]⟩, .string ⟨#[]⟩, .string ⟨#[]⟩, .int .i64 0, .int .u64 0, .int .i64 0, .string ⟨#[]⟩, .string ⟨#[]⟩, .string ⟨#[]⟩] 32) = X := ⟨_, rfl⟩
      have zX : X0.heap[wr.heap.size]? = some (.cells (xcells (zA 0)).toArray 32 (0, 0)) := by rw [← foldX]; exact heap_alloc_new wr _
      have bX0 : Below wr.heap.size wr X0 := by rw [← foldX]; exact box_below wr _
      obtain ⟨X1, foldX1⟩ : ∃ X, X0.setRow wr.heap.size (xcells z).toArray = X := ⟨_, rfl⟩
      have bX1 : Below wr.heap.size wr X1 := by rw [← foldX1]; exact below_setRow bX0 (Nat.le_refl _) _
      have xX1 : X1.heap[wr.heap.size]? = some (.cells (xcells z).toArray 32 (0, 0)) := by rw [← foldX1]; exact setRow_heap _ _ _ _ _ _ zX
      have HX : Hid (X0.heap[wr.heap.size]? = some (.cells (xcells (zA 0)).toArray 32 (0, 0)) ∧ X1.heap[wr.heap.size]? = some (.cells (xcells z).toArray 32 (0, 0)) ∧ X0.setRow wr.heap.size (xcells z).toArray = X1 ∧ Below wr.heap.size wr X1 ∧ (∀ j u, (xcells z)[j]? = some u → X0.cell? ⟨b, off + i * 17 + j, none⟩ = some u)) := ⟨zX, xX1, foldX1, bX1, fun j u hj => cell_on bX0 (HC.out j u hj)⟩
      have bw1 := keptW HI.out.2.1 bX1
      have hB := rbytesA_any z X1 HF.out
      clear hcells hva0 hcap hmax RW hz zX bX0 xX1 bX1 bw1
      go_wp2_with (first
        | refine wpList_load_off rfl 32 _ rfl b (off + i * 17) rfl (xcells z) _ (by first | exact HC.out | exact HX.out.2.2.2.2 | (rw [foldX]; exact HX.out.2.2.2.2)) Tryd.underlying32 rfl info17 ?_
        | refine wpList_store_row rfl 32 _ _ rfl wr.heap.size (xcells z).toArray rfl rfl 32 (xcells (zA 0)).toArray HX.out.1 info17 rfl (one17 _) ?_
        | refine wpList_load_row rfl 32 _ rfl wr.heap.size rfl 32 (xcells z).toArray (0, 0) _ (by first | exact HX.out.2.1 | (rw [HX.out.2.2.1]; exact HX.out.2.1)) Tryd.underlying32 rfl info17 ?_)
      try rw [foldX1]
      refine hB.mono ?_
      rintro e V2 ⟨v2, rfl, o2, g2, z2⟩
      clear hB HC
      have b2 : Below wr.heap.size wr V2 := keptW HX.out.2.2.2.1 (grown_none g2)
      have p2 := Owns.mono o2 HX.out.2.2.2.1.size
      have H2 : Hid (Owns V2 w.heap.size 5 u3 (putL 2 n ++ (l.take i).flatMap itemL) ∧ Owns V2 wr.heap.size 5 v2 (bytesA z) ∧ Below w.heap.size w V2 ∧ wr.heap.size ≤ V2.heap.size ∧ (∀ k, u3.ownBlock = some k → k < wr.heap.size)) := ⟨HI.out.1.kept b2 (Nat.le_refl _), p2, keptW HI.out.2.1 b2, b2.size, fun k hk => (World.ownsRow.lt HI.out.1 k hk).2⟩
      have hG2 : Hid ((l.take i).all goodA = true) := HI.out.2.2
      obtain ⟨qa, qc, hv2⟩ := o2.holds.slice
      obtain ⟨k, hk⟩ : ∃ q, (bytesA z).length = q := ⟨_, rfl⟩
      rw [hk] at hv2
      subst hv2
      have HK : Hid ((bytesA z).length = k) := hk
      clear o2 p2 g2 z2 b2 hk HI
      cases hg : goodA z
      · have hk0 : k = 0 := by rw [← HK.out, bytesA_none hg]; rfl
        have HM : Hid (manyL l = []) := manyL_none hil (by rw [HZ.out]; exact hg)
        subst hk0
        clear hg
        go_wp2
        go_ret
        rw [HM.out]
        exact ⟨_, rfl, World.ownsRow_nil _ _ _ _, grown_of H2.out.2.2.1 _, H2.out.2.2.1.size⟩
      · have hk1 : 1 ≤ k ∧ k ≤ 600 := by rw [← HK.out]; exact bytesA_len hg
        have HG : Hid ((l.take (i + 1)).all goodA = true) := take_all hil hG2.out (by rw [HZ.out]; exact hg)
        have HT : Hid ((l.take (i + 1)).flatMap itemL = (l.take i).flatMap itemL ++ itemL z) := by
          have h := take_more hil
          rw [HZ.out] at h
          exact h
        have HS2 : Hid (((l.take i).flatMap itemL).length ≤ 602000) := by
          have h := items_len _ hG2.out
          have h2 : (l.take i).length ≤ i := by rw [List.length_take]; omega
          show _ ≤ _
          omega
        clear hg hG2
        have hP := rput_good u3 (putL 2 n ++ (l.take i).flatMap itemL) 2 k V2 H2.out.1.holds (by have := HS2.out; rw [List.length_append, putL_length]; omega) (by decide)
        have hk0 : ¬ (k : Int) = 0 := by omega
        have cw2 : IntKind.u64.wrap (k : Int) = (k : Int) := by rw [IntKind.wrap_u64]; omega
        go_wp2_with fail
        refine hP.mono ?_
        rintro e V3 ⟨v3, rfl, o3, b3⟩
        clear hP
        have H5 : Hid (Owns V3 V2.heap.size 5 v3 (putL 2 n ++ (l.take i).flatMap itemL ++ putL 2 k) ∧ Owns V3 wr.heap.size 5 (.slice qa k qc) (bytesA z) ∧ Below V2.heap.size V2 V3 ∧ V2.heap.size ≤ V3.heap.size) := ⟨o3, H2.out.2.1.kept b3 (Nat.le_refl _), b3, b3.size⟩
        clear o3 b3
        go_wp2_with (at_builtin; refine wpList_append_bytesG rfl _ _ 37 5 bigU8 rfl V2.heap.size _ _ _ _ rfl rfl H5.out.1 H5.out.2.1.holds (by have := HS2.out; rw [List.length_append, List.length_append, putL_length, putL_length, HK.out]; omega) H5.out.2.2.2 ?_; intro v6 w6 o6 g6 z6; have H6 : Hid (Owns w6 w.heap.size 5 v6 (putL 2 n ++ (l.take i).flatMap itemL ++ putL 2 k ++ bytesA z) ∧ Below w.heap.size w w6) := ⟨o6.mono H2.out.2.2.1.size, keptW H2.out.2.2.1 (Owns.below H5.out.1 g6 H5.out.2.2.1 H5.out.2.2.2)⟩; clear o6 g6 z6)
        go_roundg (n - (i + 1))
        case measure => omega
        case rel =>
          refine ⟨i + 1, by go_num, by omega, rfl, ?_, H6.out.2, HG.out⟩
          rw [HT.out]
          unfold itemL
          rw [HK.out, ← List.append_assoc, ← List.append_assoc]
          exact H6.out.1
    · obtain rfl : i = n := by omega
      have hlt' : ¬ (i : Int) < (i : Int) := by omega
      have HF : Hid (Owns wr w.heap.size 5 u3 (manyL l) ∧ Below w.heap.size w wr) := by
        have h1 := HI.out.1
        have h2 := HI.out.2.2
        rw [List.take_of_length_le (by rw [HL.out]; exact Nat.le_refl _)] at h1 h2
        refine ⟨?_, HI.out.2.1⟩
        rw [manyL_all (by rw [HL.out]; omega) h2, HL.out]
        exact h1
      clear HI
      go_wp2
      go_ret
      exact ⟨_, rfl, HF.out.1, grown_of HF.out.2 _, HF.out.2.size⟩
end Go.Proofs.YticbhpnpopmodaaDoor
