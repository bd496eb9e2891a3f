/-
  The document's Many, by its contract.
-/
import Derived.Test.YteimdolckhpndaaDoorJLists13
import Derived.Test.YteimdolckhpndaaDoorRBytes
import Derived.Test.YteimdolckhpndaaDoorLives13
import Derived.Test.YteimdolckhpndaaDoorRGoodA
import Derived.Deep.RegionHeld3
namespace Go.Proofs.YteimdolckhpndaaDoor
open Go.RowKit

set_option maxRecDepth 20000 in
set_option maxHeartbeats 8000000 in
theorem rmanyL_any (v : Value) (l : List Ax) (w : World) (hv : K.RowOf xcells w v l) (hl : l.length ≤ 1000) (hf : ∀ a ∈ l, a.Fits) :
    Calls Tryd.prog 26 #[v] w (PutPost w.heap.size (.slice none 0 0) w (manyL l)) := by
  have HV : Hid (K.RowOf xcells w v l ∧ (∀ a ∈ l, a.Fits)) := ⟨hv, hf⟩
  have hP := rput_good (.slice none 0 0) [] 2 l.length w (.inl ⟨rfl, rfl⟩) (by simp) (by decide)
  obtain ⟨va, vc, rfl⟩ := hv.slice
  obtain ⟨n, hn⟩ : ∃ z, l.length = z := ⟨_, rfl⟩
  rw [hn] at HV hP ⊢
  have HL : Hid (l.length = n) := hn
  clear hv hf
  rw [hn] at hl
  clear hn
  have hsm : ¬ (60000 : Int) < (n : Int) := by omega
  have cw : IntKind.u64.wrap (n : Int) = (n : Int) := by rw [IntKind.wrap_u64]; omega
  go_enter Tryd.func26, Tryd.ntmps26
  go_wp2_with fail
  refine hP.mono ?_
  rintro e V1 ⟨v1, rfl, o1, b1⟩
  clear hP
  have HS : Hid (Owns V1 w.heap.size 5 v1 (putL 2 n) ∧ Below w.heap.size w V1) := ⟨o1, b1⟩
  clear o1 b1
  go_wp2
  go_loopg [3, 16] n (fun g u3 u16 wr => ∃ i : Nat, u16 = .int .i64 (i : Int) ∧ i ≤ n ∧ g = n - i ∧ Hid (Owns wr w.heap.size 5 u3 (putL 2 n ++ (l.take i).flatMap itemL) ∧ Below w.heap.size w wr ∧ (l.take i).all goodA = true))
  case atStart => exact ⟨0, rfl, Nat.zero_le _, rfl, by simpa using HS.out.1, HS.out.2, rfl⟩
  case round =>
    obtain ⟨i, rfl, hi, rfl, HI⟩ := hrel
    by_cases hlt : i < n
    · have hlt' : (i : Int) < (n : Int) := by omega
      have hil : i < l.length := by rw [HL.out]; exact hlt
      have RW := HV.out.1.below HI.out.2.1 (Nat.le_refl _)
      obtain ⟨b, off, cap, hva, hcap, hmax, hcells⟩ := RW.at (by omega)
      rw [HL.out] at hva
      injection hva with hva1 hva0 hva2
      subst hva1 hva2
      obtain ⟨z, hz⟩ : ∃ z, l[i] = z := ⟨_, rfl⟩
      have HC : Hid (∀ j u, (xcells z)[j]? = some u → wr.cell? ⟨b, off + i * 17 + j, none⟩ = some u) := fun j u hj => by
        have hj17 : j < 17 := by have := (List.getElem?_eq_some_iff.1 hj).1; simpa [xcells] using this
        exact K.row_cell hcells i hil j hj17 u (by rw [hz]; exact hj)
      have HZ : Hid (l[i]'hil = z) := hz
      have HF : Hid (z.Fits) := by show z.Fits; rw [← hz]; exact HV.out.2 _ (List.getElem_mem hil)
      obtain ⟨X0, foldX⟩ : ∃ X, wr.alloc (.cells #[.int .i64 0, .string ⟨#[]⟩, .int .i64 0, .int .u64 0, .int .i64 0, .string ⟨#[]⟩, .int .i64 0, .bool false, .string ⟨#[]⟩, .string ⟨#[]⟩, .string ⟨#[]⟩, .int .i64 0, .int .u64 0, .int .i64 0, .string ⟨#[]⟩, .string ⟨#[]⟩, .string ⟨#[]⟩] 32) = X := ⟨_, rfl⟩
      have zX : X0.heap[wr.heap.size]? = some (.cells (xcells (zA 0)).toArray 32 (0, 0)) := by rw [← foldX]; exact heap_alloc_new wr _
      have bX0 : Below wr.heap.size wr X0 := by rw [← foldX]; exact box_below wr _
      obtain ⟨X1, foldX1⟩ : ∃ X, X0.setRow wr.heap.size (xcells z).toArray = X := ⟨_, rfl⟩
      have bX1 : Below wr.heap.size wr X1 := by rw [← foldX1]; exact below_setRow bX0 (Nat.le_refl _) _
      have xX1 : X1.heap[wr.heap.size]? = some (.cells (xcells z).toArray 32 (0, 0)) := by rw [← foldX1]; exact setRow_heap _ _ _ _ _ _ zX
      have HX : Hid (X0.heap[wr.heap.size]? = some (.cells (xcells (zA 0)).toArray 32 (0, 0)) ∧ X1.heap[wr.heap.size]? = some (.cells (xcells z).toArray 32 (0, 0)) ∧ X0.setRow wr.heap.size (xcells z).toArray = X1 ∧ Below wr.heap.size wr X1 ∧ (∀ j u, (xcells z)[j]? = some u → X0.cell? ⟨b, off + i * 17 + j, none⟩ = some u)) := ⟨zX, xX1, foldX1, bX1, fun j u hj => cell_on bX0 (HC.out j u hj)⟩
      have bw1 := keptW HI.out.2.1 bX1
      have hB := rbytesA_any z X1 HF.out
      clear hcells hva0 hcap hmax RW hz zX bX0 xX1 bX1 bw1
      go_wp2_with (first
        | refine wpList_load_off rfl 32 _ rfl b (off + i * 17) rfl (xcells z) _ (by first | exact HC.out | exact HX.out.2.2.2.2 | (rw [foldX]; exact HX.out.2.2.2.2)) Tryd.underlying32 rfl info17 ?_
        | refine wpList_store_row rfl 32 _ _ rfl wr.heap.size (xcells z).toArray rfl rfl 32 (xcells (zA 0)).toArray HX.out.1 info17 rfl (one17 _) ?_
        | refine wpList_load_row rfl 32 _ rfl wr.heap.size rfl 32 (xcells z).toArray (0, 0) _ (by first | exact HX.out.2.1 | (rw [HX.out.2.2.1]; exact HX.out.2.1)) Tryd.underlying32 rfl info17 ?_)
      try rw [foldX1]
      refine hB.mono ?_
      rintro e V2 ⟨v2, rfl, o2, g2, z2⟩
      clear hB HC
      have b2 : Below wr.heap.size wr V2 := keptW HX.out.2.2.2.1 (grown_none g2)
      have p2 := Owns.mono o2 HX.out.2.2.2.1.size
      have H2 : Hid (Owns V2 w.heap.size 5 u3 (putL 2 n ++ (l.take i).flatMap itemL) ∧ Owns V2 wr.heap.size 5 v2 (bytesA z) ∧ Below w.heap.size w V2 ∧ wr.heap.size ≤ V2.heap.size ∧ (∀ k, u3.ownBlock = some k → k < wr.heap.size)) := ⟨HI.out.1.kept b2 (Nat.le_refl _), p2, keptW HI.out.2.1 b2, b2.size, fun k hk => (World.ownsRow.lt HI.out.1 k hk).2⟩
      have hG2 : Hid ((l.take i).all goodA = true) := HI.out.2.2
      obtain ⟨qa, qc, hv2⟩ := o2.holds.slice
      obtain ⟨k, hk⟩ : ∃ q, (bytesA z).length = q := ⟨_, rfl⟩
      rw [hk] at hv2
      subst hv2
      have HK : Hid ((bytesA z).length = k) := hk
      clear o2 p2 g2 z2 b2 hk HI
      cases hg : goodA z
      · have hk0 : k = 0 := by rw [← HK.out, bytesA_none hg]; rfl
        have HM : Hid (manyL l = []) := manyL_none hil (by rw [HZ.out]; exact hg)
        subst hk0
        clear hg
        go_wp2
        go_ret
        rw [HM.out]
        exact ⟨_, rfl, World.ownsRow_nil _ _ _ _, grown_of H2.out.2.2.1 _, H2.out.2.2.1.size⟩
      · have hk1 : 1 ≤ k ∧ k ≤ 600 := by rw [← HK.out]; exact bytesA_len hg
        have HG : Hid ((l.take (i + 1)).all goodA = true) := take_all hil hG2.out (by rw [HZ.out]; exact hg)
        have HT : Hid ((l.take (i + 1)).flatMap itemL = (l.take i).flatMap itemL ++ itemL z) := by
          have h := take_more hil
          rw [HZ.out] at h
          exact h
        have HS2 : Hid (((l.take i).flatMap itemL).length ≤ 602000) := by
          have h := items_len _ hG2.out
          have h2 : (l.take i).length ≤ i := by rw [List.length_take]; omega
          show _ ≤ _
          omega
        clear hg hG2
        have hP := rput_good u3 (putL 2 n ++ (l.take i).flatMap itemL) 2 k V2 H2.out.1.holds (by have := HS2.out; rw [List.length_append, putL_length]; omega) (by decide)
        have hk0 : ¬ (k : Int) = 0 := by omega
        have cw2 : IntKind.u64.wrap (k : Int) = (k : Int) := by rw [IntKind.wrap_u64]; omega
        go_wp2_with fail
        refine hP.mono ?_
        rintro e V3 ⟨v3, rfl, o3, b3⟩
        clear hP
        have H5 : Hid (Owns V3 V2.heap.size 5 v3 (putL 2 n ++ (l.take i).flatMap itemL ++ putL 2 k) ∧ Owns V3 wr.heap.size 5 (.slice qa k qc) (bytesA z) ∧ Below V2.heap.size V2 V3 ∧ V2.heap.size ≤ V3.heap.size) := ⟨o3, H2.out.2.1.kept b3 (Nat.le_refl _), b3, b3.size⟩
        clear o3 b3
        go_wp2_with (at_builtin; refine wpList_append_bytesG rfl _ _ 37 5 bigU8 rfl V2.heap.size _ _ _ _ rfl rfl H5.out.1 H5.out.2.1.holds (by have := HS2.out; rw [List.length_append, List.length_append, putL_length, putL_length, HK.out]; omega) H5.out.2.2.2 ?_; intro v6 w6 o6 g6 z6; have H6 : Hid (Owns w6 w.heap.size 5 v6 (putL 2 n ++ (l.take i).flatMap itemL ++ putL 2 k ++ bytesA z) ∧ Below w.heap.size w w6) := ⟨o6.mono H2.out.2.2.1.size, keptW H2.out.2.2.1 (Owns.below H5.out.1 g6 H5.out.2.2.1 H5.out.2.2.2)⟩; clear o6 g6 z6)
        go_roundg (n - (i + 1))
        case measure => omega
        case rel =>
          refine ⟨i + 1, by go_num, by omega, rfl, ?_, H6.out.2, HG.out⟩
          rw [HT.out]
          unfold itemL
          rw [HK.out, ← List.append_assoc, ← List.append_assoc]
          exact H6.out.1
    · obtain rfl : i = n := by omega
      have hlt' : ¬ (i : Int) < (i : Int) := by omega
      have HF : Hid (Owns wr w.heap.size 5 u3 (manyL l) ∧ Below w.heap.size w wr) := by
        have h1 := HI.out.1
        have h2 := HI.out.2.2
        rw [List.take_of_length_le (by rw [HL.out]; exact Nat.le_refl _)] at h1 h2
        refine ⟨?_, HI.out.2.1⟩
        rw [manyL_all (by rw [HL.out]; omega) h2, HL.out]
        exact h1
      clear HI
      go_wp2
      go_ret
      exact ⟨_, rfl, HF.out.1, grown_of HF.out.2 _, HF.out.2.size⟩
end Go.Proofs.YteimdolckhpndaaDoor

/-
  ActMany's law.
-/
namespace Go.Proofs.YteimdolckhpndaaDoor
open Go.RowKit

theorem many_bad {l : List Ax} (h : l.all goodA = false) : readL (manyL l) = none := by
  have : manyL l = [] := by
    unfold manyL
    rw [if_neg (fun hh => by rw [h] at hh; cases hh.2)]
  rw [this]
  exact readL_nil
theorem many_len {l : List Ax} (h : l.length ≤ 100) : (manyL l).length ≤ 100000 := by
  unfold manyL
  split
  · rename_i hh
    have := items_len l hh.2
    rw [List.length_append, putL_length]
    omega
  · simp
/-- Two rows, and an act that stands in both. -/
structure Duo (w U : World) (b o b' o' : Nat) (x : Value) (l : List Ax) (z : Ax) : Prop where
  bel : Below w.heap.size w U
  row : K.RowOf xcells U x l
  cv : ∀ q u, (xcells z)[q]? = some u → U.cell? ⟨b, o + q, none⟩ = some u
  cx : ∀ q u, (xcells z)[q]? = some u → U.cell? ⟨b', o' + q, none⟩ = some u
theorem Duo.drew {w U : World} {b o b' o' : Nat} {x : Value} {l : List Ax} {z : Ax} (h : Duo w U b o b' o' x l z) : Duo w U.drew b o b' o' x l z :=
  ⟨keptW h.bel (drew_below U), h.row.below (drew_below U) (Nat.le_refl _), fun q u hq => cell_on (drew_below U) (h.cv q u hq), fun q u hq => cell_on (drew_below U) (h.cx q u hq)⟩
set_option maxRecDepth 20000 in
set_option maxHeartbeats 8000000 in
theorem many_law (v : Value) (l : List Ax) (w : World) (ht : Tab w) (hK : Kinds w) (hv : K.RowOf xcells w v l) (hf : ∀ a ∈ l, a.Fits ∧ a.Sum) :
    Calls Tryd.prog 5 #[v] w fun e w' => e = .returned (.bool true) ∧ Below w.heap.size w w' := by
  have HV : Hid (K.RowOf xcells w v l ∧ (∀ a ∈ l, a.Fits ∧ a.Sum) ∧ Kinds w ∧ Tab w) := ⟨hv, hf, hK, ht⟩
  obtain ⟨va, vc, rfl⟩ := hv.slice
  obtain ⟨n, hn⟩ : ∃ z, l.length = z := ⟨_, rfl⟩
  rw [hn] at HV ⊢
  have HL : Hid (l.length = n) := hn
  have hL := lives_any w ht hK
  clear hv hf ht hK hn
  go_enter Tryd.func5, Tryd.ntmps5
  by_cases hbig : (100 : Int) < (n : Int)
  · go_wp2_with fail
    refine hL.mono ?_
    rintro e V2 ⟨rfl, b2⟩
    have HE : Hid (Below w.heap.size w V2) := b2
    clear hL b2
    go_wp2
    go_ret
    exact ⟨rfl, HE.out⟩
  clear hL
  go_wp2
  go_loopg [3, 16] n (fun g u3 u16 wr => ∃ i : Nat, u16 = .int .i64 (i : Int) ∧ u3 = .bool ((l.take i).all goodA) ∧ i ≤ n ∧ g = n - i ∧ Hid (Below w.heap.size w wr))
  case atStart => exact ⟨0, rfl, rfl, Nat.zero_le _, rfl, Below.refl _ _⟩
  case round =>
    obtain ⟨i, rfl, rfl, hi, rfl, HI⟩ := hrel
    by_cases hlt : i < n
    · have hlt' : (i : Int) < (n : Int) := by omega
      have hil : i < l.length := by rw [HL.out]; exact hlt
      have RW := HV.out.1.below HI.out (Nat.le_refl _)
      obtain ⟨b, off, cap, hva, hcap, hmax, hcells⟩ := RW.at (by omega)
      rw [HL.out] at hva
      injection hva with hva1 hva0 hva2
      subst hva1 hva2
      obtain ⟨z, hz⟩ : ∃ z, l[i] = z := ⟨_, rfl⟩
      have HC : Hid (∀ j u, (xcells z)[j]? = some u → wr.cell? ⟨b, off + i * 17 + j, none⟩ = some u) := fun j u hj => by
        have hj17 : j < 17 := by have := (List.getElem?_eq_some_iff.1 hj).1; simpa [xcells] using this
        exact K.row_cell hcells i hil j hj17 u (by rw [hz]; exact hj)
      have HZ : Hid (l[i]'hil = z) := hz
      have HF : Hid (z.Fits ∧ z.Sum) := by show z.Fits ∧ z.Sum; rw [← hz]; exact HV.out.2.1 _ (List.getElem_mem hil)
      obtain ⟨X0, foldX⟩ : ∃ X, wr.alloc (.cells #[.int .i64 0, .string ⟨#[]⟩, .int .i64 0, .int .u64 0, .int .i64 0, .string ⟨#[]⟩, .int .i64 0, .bool false, .string ⟨#[]⟩, .string ⟨#[]⟩, .string ⟨#[]⟩, .int .i64 0, .int .u64 0, .int .i64 0, .string ⟨#[]⟩, .string ⟨#[]⟩, .string ⟨#[]⟩] 32) = X := ⟨_, rfl⟩
      have zX : X0.heap[wr.heap.size]? = some (.cells (xcells (zA 0)).toArray 32 (0, 0)) := by rw [← foldX]; exact heap_alloc_new wr _
      have bX0 : Below wr.heap.size wr X0 := by rw [← foldX]; exact box_below wr _
      obtain ⟨X1, foldX1⟩ : ∃ X, X0.setRow wr.heap.size (xcells z).toArray = X := ⟨_, rfl⟩
      have bX1 : Below wr.heap.size wr X1 := by rw [← foldX1]; exact below_setRow bX0 (Nat.le_refl _) _
      have xX1 : X1.heap[wr.heap.size]? = some (.cells (xcells z).toArray 32 (0, 0)) := by rw [← foldX1]; exact setRow_heap _ _ _ _ _ _ zX
      have HX : Hid (X0.heap[wr.heap.size]? = some (.cells (xcells (zA 0)).toArray 32 (0, 0)) ∧ X1.heap[wr.heap.size]? = some (.cells (xcells z).toArray 32 (0, 0)) ∧ X0.setRow wr.heap.size (xcells z).toArray = X1 ∧ Below wr.heap.size wr X1 ∧ (∀ j u, (xcells z)[j]? = some u → X0.cell? ⟨b, off + i * 17 + j, none⟩ = some u)) := ⟨zX, xX1, foldX1, bX1, fun j u hj => cell_on bX0 (HC.out j u hj)⟩
      have hB := great_any z X1 HF.out.2
      clear hcells hva0 hcap hmax RW hz zX bX0 xX1 bX1
      obtain ⟨gd, hgd⟩ : ∃ q, (l.take i).all goodA = q := ⟨_, rfl⟩
      rw [hgd]
      have HGd : Hid ((l.take i).all goodA = gd) := hgd
      clear hgd
      go_wp2_with (first
        | refine wpList_load_off rfl 32 _ rfl b (off + i * 17) rfl (xcells z) _ (by first | exact HC.out | exact HX.out.2.2.2.2 | (rw [foldX]; exact HX.out.2.2.2.2)) Tryd.underlying32 rfl info17 ?_
        | refine wpList_store_row rfl 32 _ _ rfl wr.heap.size (xcells z).toArray rfl rfl 32 (xcells (zA 0)).toArray HX.out.1 info17 rfl (one17 _) ?_
        | refine wpList_load_row rfl 32 _ rfl wr.heap.size rfl 32 (xcells z).toArray (0, 0) _ (by first | exact HX.out.2.1 | (rw [HX.out.2.2.1]; exact HX.out.2.1)) Tryd.underlying32 rfl info17 ?_)
      try rw [foldX1]
      refine hB.mono ?_
      rintro e V2 ⟨rfl, b2⟩
      clear hB HC
      have bw2 := keptW HI.out (keptW HX.out.2.2.2.1 b2)
      have H2 : Hid (Below w.heap.size w V2 ∧ V2.heap[wr.heap.size]? = some (.cells (xcells z).toArray 32 (0, 0))) := ⟨bw2, (b2.block _ (Array.getElem?_eq_some_iff.1 HX.out.2.1).1).trans HX.out.2.1⟩
      have hL := lives_any V2 (HV.out.2.2.2.below bw2 HV.out.2.2.2.pos) (HV.out.2.2.1.below bw2)
      have hG := goodA_any z V2 (HV.out.2.2.1.below bw2) HF.out.1
      clear bw2 b2
      cases hg : greatB z
      rotate_left
      · clear hg hG
        go_wp2_with fail
        refine hL.mono ?_
        rintro e V3 ⟨rfl, b3⟩
        have HE : Hid (Below w.heap.size w V3) := keptW H2.out.1 b3
        clear hL b3
        go_wp2
        go_ret
        exact ⟨rfl, HE.out⟩
      clear hL hg
      have HA : Hid ((l.take (i + 1)).all goodA = (gd && goodA z)) := by
        show _ = _
        rw [List.take_succ_eq_append_getElem hil, List.all_append, HGd.out, HZ.out]
        simp
      cases gd
      · clear hG
        go_wp2
        go_roundg (n - (i + 1))
        case measure => omega
        case rel => exact ⟨i + 1, by go_num, by rw [HA.out]; rfl, by omega, rfl, H2.out.1⟩
      · go_wp2_with (refine wpList_load_rowG (by rfl) 32 _ rfl wr.heap.size rfl 32 (xcells z).toArray (0, 0) _ H2.out.2 Tryd.underlying32 rfl info17 ?_)
        refine hG.mono ?_
        rintro e V3 ⟨rfl, b3⟩
        have HE : Hid (Below w.heap.size w V3) := keptW H2.out.1 b3
        clear hG b3
        go_wp2
        go_roundg (n - (i + 1))
        case measure => omega
        case rel => exact ⟨i + 1, by go_num, by rw [HA.out]; rfl, by omega, rfl, HE.out⟩
    · obtain rfl : i = n := by omega
      have hlt' : ¬ (i : Int) < (i : Int) := by omega
      obtain ⟨gd, hgd⟩ : ∃ q, l.all goodA = q := ⟨_, rfl⟩
      have hti : (l.take i).all goodA = gd := by rw [List.take_of_length_le (by rw [HL.out]; exact Nat.le_refl _)]; exact hgd
      rw [hti]
      have HGd : Hid (l.all goodA = gd) := hgd
      clear hti hgd
      have hM := manyL_any _ l wr (HV.out.2.2.2.below HI.out HV.out.2.2.2.pos) (HV.out.2.2.1.below HI.out) (HV.out.1.below HI.out (Nat.le_refl _)) (by rw [HL.out]; omega) (fun a ha => (HV.out.2.1 a ha).1)
      go_wp2_with fail
      refine hM.mono ?_
      rintro e V1 ⟨v1, rfl, o1, g1, z1⟩
      have b1 := grown_none g1
      have HR : Hid (readL (manyL l) = if gd then some l else none) := by
        cases gd
        · exact many_bad HGd.out
        · exact readL_back l (by rw [HL.out]; omega) HGd.out (fun a ha => ⟨(HV.out.2.1 a ha).1.t, (HV.out.2.1 a ha).1.m.s.2⟩)
      have HLn : Hid ((manyL l).length ≤ 100000) := many_len (by rw [HL.out]; omega)
      obtain ⟨B, hB⟩ : ∃ q, manyL l = q := ⟨_, rfl⟩
      rw [hB] at o1 HR HLn
      have HB : Hid (manyL l = B) := hB
      have bw1 := keptW HI.out b1
      have hR := readL_any v1 B V1 (HV.out.2.2.2.below bw1 HV.out.2.2.2.pos) (HV.out.2.2.1.below bw1) o1.holds HLn.out
      have H1 : Hid (Below w.heap.size w V1 ∧ Holds V1 v1 B) := ⟨bw1, o1.holds⟩
      obtain ⟨qa, qc, hv1⟩ := o1.holds.slice
      obtain ⟨k, hk⟩ : ∃ q, B.length = q := ⟨_, rfl⟩
      rw [hk] at hv1
      subst hv1
      clear hM o1 g1 z1 b1 bw1 hB hk
      go_wp2_with fail
      refine hR.mono ?_
      rintro e V2 ⟨v2, rfl, o2, b2⟩
      clear hR
      rw [HR.out] at o2 ⊢
      have bw2 := keptW H1.out.1 b2
      have hQ := rmanyL_any _ l V2 (HV.out.1.below bw2 (Nat.le_refl _)) (by rw [HL.out]; omega) (fun a ha => (HV.out.2.1 a ha).1)
      have H2 : Hid (Below w.heap.size w V2 ∧ Holds V2 (.slice qa k qc) B ∧ OwnA V2 V1.heap.size v2 ((if gd then some l else none).getD [])) := ⟨bw2, H1.out.2.below b2 (Nat.le_refl _), o2⟩
      obtain ⟨xa, xc, hv2⟩ := o2.rng.slice
      obtain ⟨xn, hxn⟩ : ∃ q, ((if gd then some l else none).getD []).length = q := ⟨_, rfl⟩
      rw [hxn] at hv2
      subst hv2
      have HX : Hid (((if gd then some l else none).getD []).length = xn) := hxn
      clear hxn o2 b2 bw2
      obtain ⟨er, her⟩ : ∃ q, errOf (if gd then some l else none) = q := ⟨_, rfl⟩
      rw [her]
      have HEr : Hid (errOf (if gd then some l else none) = er) := her
      clear her
      go_wp2_with fail
      refine hQ.mono ?_
      rintro e V3 ⟨v3, rfl, o3, g3, z3⟩
      rw [HB.out] at o3
      have b3 := grown_none g3
      have H3 : Hid (Below w.heap.size w V3 ∧ Holds V3 (.slice qa k qc) B ∧ OwnA V3 V1.heap.size (.slice xa xn xc) ((if gd then some l else none).getD [])) := ⟨keptW H2.out.1 b3, H2.out.2.1.below b3 (Nat.le_refl _), H2.out.2.2.kept b3 (Nat.le_refl _)⟩
      have hS := same_any _ v3 B B V3 H3.out.2.1 o3.holds
      rw [beq_self_eq_true] at hS
      clear hQ o3 g3 z3 b3
      go_wp2_with fail
      refine hS.mono ?_
      rintro e V3 ⟨rfl, rfl⟩
      clear hS
      have hL : Hid (∀ V, Below w.heap.size w V → Calls Tryd.prog 9 #[] V fun e w' => e = .returned (.bool true) ∧ Below V.heap.size V w') := fun V hV => lives_any V (HV.out.2.2.2.below hV HV.out.2.2.2.pos) (HV.out.2.2.1.below hV)
      cases gd
      · obtain rfl : xn = 0 := by have := HX.out; exact this.symm
        obtain rfl : er = 7 := by have := HEr.out; exact this.symm
        go_wp2
        go_loopg [59] 0 (fun g u59 wr => u59 = .int .i64 0 ∧ g = 0 ∧ wr = V3)
        case atStart => exact ⟨rfl, rfl, rfl⟩
        case round =>
          obtain ⟨rfl, rfl, rfl⟩ := hrel
          have hC := hL.out wr H3.out.1
          go_wp2_with fail
          refine hC.mono ?_
          rintro e V4 ⟨rfl, b4⟩
          have HE : Hid (Below w.heap.size w V4) := keptW H3.out.1 b4
          clear hC b4
          go_wp2
          go_ret
          exact ⟨rfl, HE.out⟩
      · obtain rfl : xn = i := by have := HX.out; rw [← HL.out]; exact this.symm
        obtain rfl : er = 0 := by have := HEr.out; exact this.symm
        have H4 : Hid (Below w.heap.size w V3 ∧ K.RowOf xcells V3 (.slice xa xn xc) l) := ⟨H3.out.1, H3.out.2.2.rng⟩
        go_wp2
        go_loopg [59] xn (fun g u59 wr => ∃ j : Nat, u59 = .int .i64 (j : Int) ∧ j ≤ xn ∧ g = xn - j ∧ Hid (Below w.heap.size w wr ∧ K.RowOf xcells wr (.slice xa xn xc) l))
        case atStart => exact ⟨0, rfl, Nat.zero_le _, rfl, H4.out⟩
        case round =>
          obtain ⟨j, rfl, hj, rfl, HJ⟩ := hrel
          by_cases hjn : j < xn
          · have hjn' : (j : Int) < (xn : Int) := by omega
            have hjl : j < l.length := by rw [HL.out]; exact hjn
            obtain ⟨b, off, cap, hva, _, _, hcells⟩ := (HV.out.1.below HJ.out.1 (Nat.le_refl _)).at (by omega)
            obtain ⟨b', off', cap', hxa, _, _, hcells'⟩ := HJ.out.2.at (by omega)
            rw [HL.out] at hva hxa
            injection hva with hva1 hva0 hva2
            injection hxa with hxa1 hxa0 hxa2
            subst hva1 hva2 hxa1 hxa2
            obtain ⟨z, hz⟩ : ∃ z, l[j] = z := ⟨_, rfl⟩
            have HC : Hid ((∀ q u, (xcells z)[q]? = some u → wr.cell? ⟨b, off + j * 17 + q, none⟩ = some u) ∧ (∀ q u, (xcells z)[q]? = some u → wr.cell? ⟨b', off' + j * 17 + q, none⟩ = some u)) := by
              refine ⟨fun q u hq => ?_, fun q u hq => ?_⟩
              · have hj17 : q < 17 := by have := (List.getElem?_eq_some_iff.1 hq).1; simpa [xcells] using this
                exact K.row_cell hcells j hjl q hj17 u (by rw [hz]; exact hq)
              · have hj17 : q < 17 := by have := (List.getElem?_eq_some_iff.1 hq).1; simpa [xcells] using this
                exact K.row_cell hcells' j hjl q hj17 u (by rw [hz]; exact hq)
            clear hcells hcells' hva0 hxa0 hz
            have HD : Hid (Duo w wr b (off + j * 17) b' (off' + j * 17) (.slice (some ⟨b', off', none⟩) xn xc) l z) := ⟨HJ.out.1, HJ.out.2, HC.out.1, HC.out.2⟩
            clear HC
            have heqA : ∀ X, (binOp .neq 32 (av z) (av z)).run Tryd.prog X = .ok (.bool false) X := fun X => by rw [run_neA, decide_eq_true rfl]; rfl
            go_wp2
            refine wp_region_noPanic ?_
            refine wp_region_held_drew (S := fun U => Duo w U b (off + j * 17) b' (off' + j * 17) (.slice (some ⟨b', off', none⟩) xn xc) l z) (by kernel_rfl) (HD.out.drew) (fun hHeld => ?_)
            refine wpAnyH_take (i := 0) (v := .slice (some ⟨b', off', none⟩) xn xc) (by simp only [List.getElem?_toArray, List.getElem?_cons_zero]; rfl) (by kernel_rfl) (by kernel_rfl) (by kernel_rfl) (fun _ _ _ h => h) (Or.inl ⟨by rfl, ?_⟩) (by assumption) ?_
            · (intro wq hSq; clear hSq; go_simp; try with_reducible rfl)
            try simp only [Act.put, List.setIfInBounds_toArray, List.set_cons_zero, List.set_cons_succ]
            refine wpAnyH_take (i := 1) (v := .int .i64 (j : Int)) (by simp only [List.getElem?_toArray, List.getElem?_cons_succ, List.getElem?_cons_zero]; rfl) (by kernel_rfl) (by kernel_rfl) (by kernel_rfl) (fun _ _ _ h => h) (Or.inl ⟨by rfl, ?_⟩) (by assumption) ?_
            · (intro wq hSq; clear hSq; go_simp; try with_reducible rfl)
            try simp only [Act.put, List.setIfInBounds_toArray, List.set_cons_zero, List.set_cons_succ]
            refine wpAnyH_take (i := 2) (v := .pointer (some ⟨b', off' + j * 17, none⟩)) (by simp only [List.getElem?_toArray, List.getElem?_cons_succ, List.getElem?_cons_zero]; rfl) (by kernel_rfl) (by kernel_rfl) (by kernel_rfl) (fun _ _ _ h => h) (Or.inl ⟨by rfl, ?_⟩) (by assumption) ?_
            · (intro wq hSq; clear hSq; go_simp; try with_reducible rfl)
            try simp only [Act.put, List.setIfInBounds_toArray, List.set_cons_zero, List.set_cons_succ]
            refine wpAnyH_take (i := 3) (v := av z) (by simp only [List.getElem?_toArray, List.getElem?_cons_succ, List.getElem?_cons_zero]; rfl) (by kernel_rfl) (by kernel_rfl) (by kernel_rfl) (fun _ _ _ h => h) (Or.inl ⟨by rfl, fun w h => exec_load_off 32 _ rfl b' (off' + j * 17) rfl (xcells z) _ h.cx Tryd.underlying32 rfl info17⟩) (by assumption) ?_
            try simp only [Act.put, List.setIfInBounds_toArray, List.set_cons_zero, List.set_cons_succ]
            refine wpAnyH_take (i := 4) (v := .slice (some ⟨b, off, none⟩) xn vc) (by simp only [List.getElem?_toArray, List.getElem?_cons_succ, List.getElem?_cons_zero]; rfl) (by kernel_rfl) (by kernel_rfl) (by kernel_rfl) (fun _ _ _ h => h) (Or.inl ⟨by rfl, ?_⟩) (by assumption) ?_
            · (intro wq hSq; clear hSq; go_simp; try with_reducible rfl)
            try simp only [Act.put, List.setIfInBounds_toArray, List.set_cons_zero, List.set_cons_succ]
            refine wpAnyH_take (i := 5) (v := .int .i64 (j : Int)) (by simp only [List.getElem?_toArray, List.getElem?_cons_succ, List.getElem?_cons_zero]; rfl) (by kernel_rfl) (by kernel_rfl) (by kernel_rfl) (fun _ _ _ h => h) (Or.inl ⟨by rfl, ?_⟩) (by assumption) ?_
            · (intro wq hSq; clear hSq; go_simp; try with_reducible rfl)
            try simp only [Act.put, List.setIfInBounds_toArray, List.set_cons_zero, List.set_cons_succ]
            refine wpAnyH_take (i := 6) (v := .pointer (some ⟨b, off + j * 17, none⟩)) (by simp only [List.getElem?_toArray, List.getElem?_cons_succ, List.getElem?_cons_zero]; rfl) (by kernel_rfl) (by kernel_rfl) (by kernel_rfl) (fun _ _ _ h => h) (Or.inl ⟨by rfl, ?_⟩) (by assumption) ?_
            · (intro wq hSq; clear hSq; go_simp; try with_reducible rfl)
            try simp only [Act.put, List.setIfInBounds_toArray, List.set_cons_zero, List.set_cons_succ]
            refine wpAnyH_take (i := 7) (v := av z) (by simp only [List.getElem?_toArray, List.getElem?_cons_succ, List.getElem?_cons_zero]; rfl) (by kernel_rfl) (by kernel_rfl) (by kernel_rfl) (fun _ _ _ h => h) (Or.inl ⟨by rfl, fun w h => exec_load_off 32 _ rfl b (off + j * 17) rfl (xcells z) _ h.cv Tryd.underlying32 rfl info17⟩) (by assumption) ?_
            try simp only [Act.put, List.setIfInBounds_toArray, List.set_cons_zero, List.set_cons_succ]
            refine wpAnyH_take (i := 8) (v := .bool false) (by simp only [List.getElem?_toArray, List.getElem?_cons_succ, List.getElem?_cons_zero]; rfl) (by kernel_rfl) (by kernel_rfl) (by kernel_rfl) (fun _ _ _ h => h) (Or.inl ⟨by rfl, ?_⟩) (by assumption) ?_
            · (intro wq hSq; clear hSq; go_simp; try with_reducible rfl)
            try simp only [Act.put, List.setIfInBounds_toArray, List.set_cons_zero, List.set_cons_succ]
            refine wpAnyH_done (by kernel_rfl) ?_ _
            refine NoPanic.normal ?_
            have HE : Hid _ := hHeld
            clear hHeld HD heqA
            go_wp2
            go_roundg (xn - (j + 1))
            case measure => omega
            case rel => exact ⟨j + 1, by go_num, by omega, rfl, HE.out.bel, HE.out.row⟩
          · obtain rfl : j = xn := by omega
            have hjn' : ¬ (j : Int) < (j : Int) := by omega
            have hC := hL.out wr HJ.out.1
            go_wp2_with fail
            refine hC.mono ?_
            rintro e V4 ⟨rfl, b4⟩
            have HE : Hid (Below w.heap.size w V4) := keptW HJ.out.1 b4
            clear hC b4
            go_wp2
            go_ret
            exact ⟨rfl, HE.out⟩
end Go.Proofs.YteimdolckhpndaaDoor
