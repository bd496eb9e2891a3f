/-
  THE DOCUMENT's Drop, by its contract.
-/
import Derived.Test.YtiaagiijjledkaaGreatDoorRForget
namespace Go.Proofs.YtiaagiijjledkaaGreatDoor
open Go.RowKit Go.Sort

def keepX (n : ByteArray) (l : List Ex) : List Ex := l.filter fun x => !decide (x.name = n)
theorem keepX_le (n : ByteArray) (l : List Ex) : (keepX n l).length ≤ l.length := List.length_filter_le _ _
theorem keepX_take {n : ByteArray} {l : List Ex} {k : Nat} (h : k < l.length) : keepX n (l.take (k + 1)) = keepX n (l.take k) ++ (if l[k].name = n then [] else [l[k]]) := by
  unfold keepX
  rw [List.take_succ_eq_append_getElem h, List.filter_append]
  congr 1
  by_cases hp : l[k].name = n <;> simp [hp]
/-- Both rows of the document's table are new ones. -/
theorem rt_setXB {w W : World} {p : Nat} {vx vb v' v'' : Value} {s : Tb} {l : List Ex} {m : List Bd} {F : Nat → Prop} (hq : RTAt w p vx vb s) (hF : ∀ k, F k ↔ rfootT p vx vb k) (hl : ∀ k, F k → k < w.heap.size) (hW : Below w.heap.size w W) (own : OwnX W w.heap.size v' l) (own2 : OwnB W w.heap.size v'' m) :
    ∃ F', RT ((W.setCell ⟨p, 0, none⟩ v').setCell ⟨p, 1, none⟩ v'') p F' ⟨l, m⟩ ∧ Moved w ((W.setCell ⟨p, 0, none⟩ v').setCell ⟨p, 1, none⟩ v'') F F' := by
  have hp : p < w.heap.size := (Array.getElem?_eq_some_iff.1 hq.blk).1
  have hqW : RTAt W p vx vb s := hq.same fun k hk => hW.block k (hl k ((hF k).2 hk))
  have hne : v'.ownBlock ≠ some p := fun he => by have := (own.lt he).1; omega
  have hne2 : v''.ownBlock ≠ some p := fun he => by have := (own2.lt he).1; omega
  have hot : ∀ k, k ≠ p → ((W.setCell ⟨p, 0, none⟩ v').setCell ⟨p, 1, none⟩ v'').heap[k]? = W.heap[k]? := fun k hk => by
    rw [heap_setCell_other _ _ _ _ hk, heap_setCell_other _ _ _ _ hk]
  have e0 := heap_setCell_same _ p 0 _ _ v' hqW.blk
  have e1 := heap_setCell_same _ p 1 _ _ v'' e0
  refine ⟨rfootT p v' v'', ⟨v', v'', ⟨?_, own.rng.same fun g hg => hot g (fun he => hne (by rw [hg, he])), own2.rng.same fun g hg => hot g (fun he => hne2 (by rw [hg, he])), hne, hne2⟩, fun _ => Iff.rfl, ?_⟩, ?_⟩
  · rw [e1]; simp
  · rintro k (rfl | hk | hk)
    · rw [World.size_setCell, World.size_setCell]; exact Nat.lt_of_lt_of_le hp hW.size
    · rw [World.size_setCell, World.size_setCell]; exact (own.lt hk).2
    · rw [World.size_setCell, World.size_setCell]; exact (own2.lt hk).2
  · refine ⟨hW.os, hW.tape, hW.output, by rw [World.size_setCell, World.size_setCell]; exact hW.size, fun k hk hn => ?_, ?_⟩
    · rw [hot k (fun h => hn ((hF k).2 (.inl h))), hW.block k hk]
    · rintro k (rfl | hk | hk)
      · exact .inl ((hF _).2 (.inl rfl))
      · exact .inr (own.lt hk).1
      · exact .inr (own2.lt hk).1

set_option maxRecDepth 20000 in
set_option maxHeartbeats 4000000 in
theorem rdrop_any (p : Nat) (F : Nat → Prop) (s : Tb) (n : ByteArray) (w : World) (h : RT w p F s) (ok : s.Ok) :
    Calls Tryz.prog 23 #[.pointer (some ⟨p, 0, none⟩), .string n] w fun e w' => e = .returned (.int .i64 (s.drop n).1) ∧ ∃ F', RT w' p F' (s.drop n).2 ∧ Moved w w' F F' := by
  have hFi := rfind_any p F s n w h (by have := ok.nx; omega)
  have HR : Hid (RT w p F s) := h
  cases hf : findX s.xs n with
  | none =>
    rw [hf] at hFi
    have hd : s.drop n = (3, s) := by unfold Tb.drop; rw [hf]
    rw [hd]
    simp only [Option.getD_none, Option.isSome_none] at hFi
    generalize zeroEx = yy at hFi
    clear hf
    go_enter Tryz.func23, Tryz.ntmps23
    go_wp2_with fail
    refine hFi.mono ?_
    rintro e w1 ⟨rfl, b1⟩
    go_wp2
    go_ret
    exact ⟨rfl, F, RT.kept HR.out (b1.alloc b1.size _), .of_below (b1.alloc b1.size _)⟩
  | some yy =>
    rw [hf] at hFi
    have hd : s.drop n = (0, ⟨keepX n s.xs, keepB (fun b => b.ex.toList == n.toList) s.bs⟩) := by unfold Tb.drop; rw [hf]; rfl
    rw [hd]
    simp only [Option.getD_some, Option.isSome_some] at hFi
    obtain ⟨i0, hi0, hz0, hzs, hzb⟩ := bInfo
    obtain ⟨j0, hj0, hy0, hys, hyb⟩ := xInfo
    have nb := ok.nb
    have nx := ok.nx
    obtain ⟨pd, hpd⟩ : ∃ pd : Bd → Bool, pd = fun b => b.ex.toList == n.toList := ⟨_, rfl⟩
    rw [← hpd]
    have HPD : Hid (∀ b, (b.ex.toList == n.toList) = pd b) := fun b => by rw [hpd]
    clear hf hpd hd h
    go_enter Tryz.func23, Tryz.ntmps23
    go_wp2_with fail
    refine hFi.mono ?_
    rintro e w1 ⟨rfl, b1⟩
    obtain ⟨W, fold⟩ : ∃ W, w1.alloc (.cells #[.string yy.name, .int .i64 yy.kind, .bool yy.fed] 33) = W := ⟨_, rfl⟩
    have bW : Below w.heap.size w W := by rw [← fold]; exact b1.alloc b1.size _
    obtain ⟨vx, vb, hq, hF, hlt⟩ := RT.kept HR.out bW
    obtain ⟨c0, c1⟩ := cells2 hq.blk
    obtain ⟨bx, dx, rfl⟩ := hq.x.slice
    obtain ⟨ax, cx, rfl⟩ := hq.b.slice
    have hB := hq.b.bds
    have hX := hq.x.exs
    have hp : p < W.heap.size := (Array.getElem?_eq_some_iff.1 hq.blk).1
    have HQ : Hid (RTAt W p (.slice bx s.xs.length dx) (.slice ax s.bs.length cx) s ∧ (∀ k, F k ↔ rfootT p (.slice bx s.xs.length dx) (.slice ax s.bs.length cx) k) ∧ ∀ k, F k → k < W.heap.size) := ⟨hq, hF, hlt⟩
    have HBW : Hid _ := bW
    clear hq hF hlt hFi b1
    go_wp2
    clear fold c0 c1
    go_loopw [7, 9, 26] (fun u7 u9 u26 wr => ∃ k : Nat, u26 = .int .i64 k ∧ k ≤ s.xs.length ∧ OwnX wr W.heap.size u7 (keepX n (s.xs.take k)) ∧ Below W.heap.size W wr) (fun u7 u9 u26 wr => s.xs.length - (intOf u26).toNat)
    case atStart => exact ⟨0, rfl, Nat.zero_le _, ownOf_nil _ _, Below.refl _ _⟩
    case round =>
      obtain ⟨k, rfl, hkl, hown, hbr⟩ := hrel
      by_cases hlt2 : k < s.xs.length
      · have hlt : (k : Int) < (s.xs.length : Int) := by omega
        obtain ⟨eb, eo, rfl, hi⟩ := hX k hlt2
        obtain ⟨e0, e1, e2⟩ := hi.below hbr (Nat.le_refl _)
        have hkt := keepX_take (n := n) hlt2
        have hkn : (keepX n (s.xs.take k)).length ≤ 8 := Nat.le_trans (keepX_le _ _) (by rw [List.length_take]; omega)
        clear hB hX hi
        generalize s.xs[k] = x at *
        have hsd := same_dec x.name n
        generalize keepX n (s.xs.take k) = G at *
        obtain ⟨X, foldX⟩ : ∃ X, wr.alloc (.cells #[.string x.name, .int .i64 x.kind, .bool x.fed] 33) = X := ⟨_, rfl⟩
        have bX : Below W.heap.size W X := by rw [← foldX]; exact hbr.alloc hbr.size _
        have z0 : X.cell? ⟨wr.heap.size, 0, none⟩ = some (.string x.name) := by rw [← foldX]; exact cell_of_list (C := xcells x) (heap_alloc_new wr _) 0
        have z1 : X.cell? ⟨wr.heap.size, 1, none⟩ = some (.int .i64 x.kind) := by rw [← foldX]; exact cell_of_list (C := xcells x) (heap_alloc_new wr _) 1
        have z2 : X.cell? ⟨wr.heap.size, 2, none⟩ = some (.bool x.fed) := by rw [← foldX]; exact cell_of_list (C := xcells x) (heap_alloc_new wr _) 2
        have oX : OwnX X W.heap.size u7 G := by rw [← foldX]; exact hown.alloc _
        obtain ⟨da, dc, rfl⟩ := hown.rng.slice
        have HBX : Hid _ := bX
        have HOX : Hid _ := oX
        by_cases hxn : x.name = n
        · rw [if_pos hxn, List.append_nil] at hkt
          rw [decide_eq_true hxn] at hsd
          have HK : Hid _ := hkt
          clear hkt bX oX hown hxn
          go_wp2
          go_roundw
          case rel => exact ⟨k + 1, by go_num, by omega, by rw [HK.out]; exact HOX.out, HBX.out⟩
          case measure => simp [intOf]; omega
        · rw [if_neg hxn] at hkt
          rw [decide_eq_false hxn] at hsd
          have HK : Hid _ := hkt
          clear hkt bX hown hxn
          go_wp2_with (at_builtin; refine wpList_append_rows (enc := xcells) rfl (.tmp 34) (.tmp 36) 26 rfl Tryz.underlying26 j0 _ 32 hj0 hy0 hys hyb rfl W.heap.size (.slice da G.length dc) _ G [x] rfl rfl (oX.alloc _) (rowK_one _ _ _ rfl) (by unfold maxLen; simp; omega) (by simp; omega) (by have := Below.size HBX.out; simp; omega) ?_; intro v' w' own' gr' _; have HW : Hid (Below W.heap.size W w') := (oX.alloc _).below gr' (Below.alloc HBX.out (Below.size HBX.out) _) (by have := Below.size HBX.out; simp; omega) (Nat.le_refl _); obtain ⟨va', vc', hv'⟩ := own'.rng.slice; rw [List.length_append, List.length_singleton] at hv'; subst hv')
          go_roundw
          case rel => exact ⟨k + 1, by go_num, by omega, by rw [HK.out]; exact own', HW.out⟩
          case measure => simp [intOf]; omega
      · obtain rfl : k = s.xs.length := by omega
        rw [List.take_length] at hown
        obtain ⟨GX, hGX⟩ : ∃ GX, keepX n s.xs = GX := ⟨_, rfl⟩
        rw [hGX] at hown
        have HGX : Hid _ := hGX
        clear hGX hX
        obtain ⟨xa, xc, rfl⟩ := hown.rng.slice
        have hpb := (hbr.block p hp).trans HQ.out.1.blk
        obtain ⟨d0, d1⟩ := cells2 hpb
        have HOWN : Hid _ := hown
        have HBR : Hid (Below W.heap.size W wr) := hbr
        obtain ⟨W2, hW2⟩ : ∃ W2, W2 = wr := ⟨_, rfl⟩
        clear hown hpb hbr
        go_wp2
        clear d0 d1
        go_loopw [10, 12, 44] (fun u10 u12 u44 wv => ∃ k : Nat, u44 = .int .i64 k ∧ k ≤ s.bs.length ∧ OwnB wv W2.heap.size u10 (keepB pd (s.bs.take k)) ∧ Below W2.heap.size W2 wv) (fun u10 u12 u44 wv => s.bs.length - (intOf u44).toNat)
        case atStart => exact ⟨0, rfl, Nat.zero_le _, ownOf_nil _ _, by rw [hW2]; exact Below.refl _ _⟩
        case round =>
          obtain ⟨k, rfl, hkl, hown, hbr⟩ := hrel
          have hbrW : Below W.heap.size W wr := by
            have h1 := HBR.out
            rw [← hW2] at h1
            exact Below.trans h1 (hbr.mono (Below.size h1))
          by_cases hlt2 : k < s.bs.length
          · have hlt : (k : Int) < (s.bs.length : Int) := by omega
            obtain ⟨eb, eo, rfl, hi⟩ := hB k hlt2
            obtain ⟨e0, e1, e2⟩ := hi.below hbrW (Nat.le_refl _)
            have hkt := keep_take (pd := pd) hlt2
            have hkn : (keepB pd (s.bs.take k)).length ≤ 32 := Nat.le_trans (keepB_le _ _) (by rw [List.length_take]; omega)
            clear hB hi
            generalize s.bs[k] = b at *
            have hpb := HPD.out b
            generalize keepB pd (s.bs.take k) = G at *
            obtain ⟨X, foldX⟩ : ∃ X, wr.alloc (.cells #[.string b.ex, .string b.que, .string b.pat] 35) = X := ⟨_, rfl⟩
            have bX : Below W2.heap.size W2 X := by rw [← foldX]; exact hbr.alloc hbr.size _
            have z0 : X.cell? ⟨wr.heap.size, 0, none⟩ = some (.string b.ex) := by rw [← foldX]; exact cell_of_list (C := bcells b) (heap_alloc_new wr _) 0
            have z1 : X.cell? ⟨wr.heap.size, 1, none⟩ = some (.string b.que) := by rw [← foldX]; exact cell_of_list (C := bcells b) (heap_alloc_new wr _) 1
            have z2 : X.cell? ⟨wr.heap.size, 2, none⟩ = some (.string b.pat) := by rw [← foldX]; exact cell_of_list (C := bcells b) (heap_alloc_new wr _) 2
            have oX : OwnB X W2.heap.size u10 G := by rw [← foldX]; exact hown.alloc _
            obtain ⟨da, dc, rfl⟩ := hown.rng.slice
            have HBX : Hid _ := bX
            have HOX : Hid _ := oX
            cases hpc : pd b
            · rw [hpc] at hkt hpb
              have HK : Hid _ := hkt
              clear hkt bX hown
              go_wp2_with (at_builtin; refine wpList_append_rows (enc := bcells) rfl (.tmp 52) (.tmp 54) 27 rfl Tryz.underlying27 i0 _ 48 hi0 hz0 hzs hzb rfl W2.heap.size (.slice da G.length dc) _ G [b] rfl rfl (oX.alloc _) (rowK_one _ _ _ rfl) (by unfold maxLen; simp; omega) (by simp; omega) (by have := Below.size HBX.out; simp; omega) ?_; intro v' w' own' gr' _; have HW : Hid (Below W2.heap.size W2 w') := (oX.alloc _).below gr' (Below.alloc HBX.out (Below.size HBX.out) _) (by have := Below.size HBX.out; simp; omega) (Nat.le_refl _); obtain ⟨va', vc', hv'⟩ := own'.rng.slice; rw [List.length_append, List.length_singleton] at hv'; subst hv')
              go_roundw
              case rel => exact ⟨k + 1, by go_num, by omega, by rw [HK.out]; exact own', HW.out⟩
              case measure => simp [intOf]; omega
            · rw [hpc] at hkt hpb
              have HK : Hid _ := hkt
              clear hkt bX oX hown
              go_wp2
              go_roundw
              case rel => exact ⟨k + 1, by go_num, by omega, by rw [HK.out]; simp only [if_true, List.append_nil]; exact HOX.out, HBX.out⟩
              case measure => simp [intOf]; omega
          · obtain rfl : k = s.bs.length := by omega
            rw [List.take_length] at hown
            obtain ⟨G, hG⟩ : ∃ G, keepB pd s.bs = G := ⟨_, rfl⟩
            rw [hG] at hown
            have HG : Hid _ := hG
            clear hG hB
            obtain ⟨da, dc, rfl⟩ := hown.rng.slice
            have hpb := (hbrW.block p hp).trans HQ.out.1.blk
            obtain ⟨d0, d1⟩ := cells2 hpb
            have f0 := frozen_of_list hpb 0
            have f1 := frozen_of_list hpb 1
            have hx1 := HOWN.out
            rw [← hW2] at hx1
            have hxw := OwnOf.kept hx1 hbr (Nat.le_refl _)
            have hsz : W.heap.size ≤ W2.heap.size := by rw [hW2]; exact Below.size HBR.out
            have HE : Hid _ := rt_setXB HQ.out.1 HQ.out.2.1 HQ.out.2.2 hbrW hxw (hown.mono hsz)
            clear hown hpb hxw hx1 hbr hbrW hsz
            go_wp2
            go_ret
            obtain ⟨F', r1, r2⟩ := HE.out
            rw [HG.out, HGX.out]
            exact ⟨rfl, F', r1, (Moved.of_below HBW.out).trans r2⟩
end Go.Proofs.YtiaagiijjledkaaGreatDoor
