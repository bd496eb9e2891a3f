/-
  THE DOCUMENT's Forget, by its contract.
-/
import Derived.Test.YtiaagiijjledkaaGreatDoorSwap3
import Derived.Test.YtiaagiijjledkaaGreatDoorDrop
namespace Go.Proofs.YtiaagiijjledkaaGreatDoor
open Go.RowKit Go.Sort

theorem keep_take {pd : Bd → Bool} {l : List Bd} {k : Nat} (h : k < l.length) : keepB pd (l.take (k + 1)) = keepB pd (l.take k) ++ (if pd l[k] = true then [] else [l[k]]) := by
  unfold keepB
  rw [List.take_succ_eq_append_getElem h, List.filter_append]
  congr 1
  by_cases hp : pd l[k] = true <;> simp [hp]

set_option maxRecDepth 20000 in
set_option maxHeartbeats 4000000 in
theorem rforget_any (p : Nat) (F : Nat → Prop) (s : Tb) (n : ByteArray) (w : World) (h : RT w p F s) (ok : s.Ok) :
    Calls Tryz.prog 27 #[.pointer (some ⟨p, 0, none⟩), .string n] w fun e w' => e = .returned (.int .i64 ((s.bs.length : Int) - ((keepB (fun b => b.que.toList == n.toList) s.bs).length : Int))) ∧ ∃ F', RT w' p F' { s with bs := keepB (fun b => b.que.toList == n.toList) s.bs } ∧ Moved w w' F F' := by
  obtain ⟨vx, vb, hq, hF, hlt⟩ := h
  obtain ⟨c0, c1⟩ := cells2 hq.blk
  obtain ⟨ax, cx, rfl⟩ := hq.b.slice
  have hB := hq.b.bds
  have hp : p < w.heap.size := (Array.getElem?_eq_some_iff.1 hq.blk).1
  have HQ : Hid (RTAt w p vx (.slice ax s.bs.length cx) s ∧ (∀ k, F k ↔ rfootT p vx (.slice ax s.bs.length cx) k) ∧ ∀ k, F k → k < w.heap.size) := ⟨hq, hF, hlt⟩
  obtain ⟨i0, hi0, hz0, hzs, hzb⟩ := bInfo
  have nb := ok.nb
  obtain ⟨pd, hpd⟩ : ∃ pd : Bd → Bool, pd = fun b => b.que.toList == n.toList := ⟨_, rfl⟩
  rw [← hpd]
  have HPD : Hid (∀ b, (b.que.toList == n.toList) = pd b) := fun b => by rw [hpd]
  clear hq hF hlt hpd
  go_enter Tryz.func27, Tryz.ntmps27
  go_wp2
  clear c0 c1
  go_loopw [5, 7, 14] (fun u5 u7 u14 wr => ∃ k : Nat, u14 = .int .i64 k ∧ k ≤ s.bs.length ∧ OwnB wr w.heap.size u5 (keepB pd (s.bs.take k)) ∧ Below w.heap.size w wr) (fun u5 u7 u14 wr => s.bs.length - (intOf u14).toNat)
  case atStart => exact ⟨0, rfl, Nat.zero_le _, ownOf_nil _ _, Below.refl _ _⟩
  case round =>
    obtain ⟨k, rfl, hkl, hown, hbr⟩ := hrel
    have HS : Hid (w.heap.size ≤ wr.heap.size) := hbr.size
    by_cases hlt2 : k < s.bs.length
    · have hlt : (k : Int) < (s.bs.length : Int) := by omega
      obtain ⟨eb, eo, rfl, hi⟩ := hB k hlt2
      obtain ⟨e0, e1, e2⟩ := hi.below hbr (Nat.le_refl _)
      have hkt := keep_take (pd := pd) hlt2
      have hkn : (keepB pd (s.bs.take k)).length ≤ 32 := Nat.le_trans (keepB_le _ _) (by rw [List.length_take]; omega)
      clear hB hi
      generalize s.bs[k] = b at *
      have hpb := HPD.out b
      generalize keepB pd (s.bs.take k) = G at *
      obtain ⟨X, foldX⟩ : ∃ X, wr.alloc (.cells #[.string b.ex, .string b.que, .string b.pat] 35) = X := ⟨_, rfl⟩
      have bX : Below w.heap.size w X := by rw [← foldX]; exact hbr.alloc hbr.size _
      have z0 : X.cell? ⟨wr.heap.size, 0, none⟩ = some (.string b.ex) := by rw [← foldX]; exact cell_of_list (C := bcells b) (heap_alloc_new wr _) 0
      have z1 : X.cell? ⟨wr.heap.size, 1, none⟩ = some (.string b.que) := by rw [← foldX]; exact cell_of_list (C := bcells b) (heap_alloc_new wr _) 1
      have z2 : X.cell? ⟨wr.heap.size, 2, none⟩ = some (.string b.pat) := by rw [← foldX]; exact cell_of_list (C := bcells b) (heap_alloc_new wr _) 2
      have oX : OwnB X w.heap.size u5 G := by rw [← foldX]; exact hown.alloc _
      obtain ⟨da, dc, rfl⟩ := hown.rng.slice
      have HBX : Hid _ := bX
      have HOX : Hid _ := oX
      cases hpc : pd b
      · rw [hpc] at hkt hpb
        have HK : Hid _ := hkt
        clear hkt bX hown
        go_wp2_with (at_builtin; refine wpList_append_rows (enc := bcells) rfl (.tmp 22) (.tmp 24) 27 rfl Tryz.underlying27 i0 _ 48 hi0 hz0 hzs hzb rfl w.heap.size (.slice da G.length dc) _ G [b] rfl rfl (oX.alloc _) (rowK_one _ _ _ rfl) (by unfold maxLen; simp; omega) (by simp; omega) (by have := Below.size HBX.out; simp; omega) ?_; intro v' w' own' gr' _; have HW : Hid (Below w.heap.size w w') := (oX.alloc _).below gr' (Below.alloc HBX.out (Below.size HBX.out) _) (by have := Below.size HBX.out; simp; omega) (Nat.le_refl _); obtain ⟨va', vc', hv'⟩ := own'.rng.slice; rw [List.length_append, List.length_singleton] at hv'; subst hv')
        go_roundw
        case rel => exact ⟨k + 1, by go_num, by omega, by rw [HK.out]; exact own', HW.out⟩
        case measure => simp [intOf]; omega
      · rw [hpc] at hkt hpb
        have HK : Hid _ := hkt
        clear hkt bX oX hown
        go_wp2
        go_roundw
        case rel => exact ⟨k + 1, by go_num, by omega, by rw [HK.out]; simp only [if_true, List.append_nil]; exact HOX.out, HBX.out⟩
        case measure => simp [intOf]; omega
    · obtain rfl : k = s.bs.length := by omega
      rw [List.take_length] at hown
      have hkn := keepB_le pd s.bs
      obtain ⟨G, hG⟩ : ∃ G, keepB pd s.bs = G := ⟨_, rfl⟩
      rw [hG] at hown hkn
      have HG : Hid _ := hG
      clear hG
      obtain ⟨da, dc, rfl⟩ := hown.rng.slice
      have hpb := (hbr.block p hp).trans HQ.out.1.blk
      obtain ⟨_, d1⟩ := cells2 hpb
      have f1 := frozen_of_list hpb 1
      have HE : Hid _ := rt_setB HQ.out.1 HQ.out.2.1 HQ.out.2.2 hbr hown
      clear hB hown hpb
      go_wp2
      go_ret
      rw [HG.out]
      exact ⟨rfl, HE.out⟩
end Go.Proofs.YtiaagiijjledkaaGreatDoor
