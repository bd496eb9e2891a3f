import Derived.Test.YtjagaankkcbjmaaGreatDoorQrA
import Derived.Test.YtjagaankkcbjmaaGreatDoorQr3
import Derived.Laws.OwnMore
import Derived.Deep.QuietTactic
import Derived.BigQuiet
set_option maxHeartbeats 2000000
set_option maxRecDepth 20000
namespace Go.Proofs.YtjagaankkcbjmaaGreatDoor
open Go.RowKit Go.Shelf
theorem run_make_bools (w : World) (n : Nat) (hn : n <= 1000000000) :
  (Instr.makeSlice 375 (.int .i64 (n : Int)) (.int .i64 (n : Int))).run Tryz.prog w = .ok (.slice (some ⟨w.heap.size,0,none⟩) n n) (w.alloc (.cells (List.replicate n (Value.bool false)).toArray 4)) := by
 obtain ⟨i,hi,hz,hsz,hby⟩ := elemB.info
 have hr := run_make (P := Tryz.prog) w 375 4 i (.bool false) elemB.ht hi hz .i64 .i64 n n (by omega) (by omega) (by rw [hby]; omega) (by omega)
 simp only [Int.toNat_natCast,hsz,Nat.mul_one] at hr
 rw [hr]
 congr 3
 apply Array.toList_inj.1
 exact toList_madeCells_one (.bool false) n
theorem fits_nil_take (K : List Txt) (j : Nat) (hj : j <= K.length) : fitsL [] (K.take j) = decide (j = 0) := by
 simp only [fitsL]
 rw [Bool.eq_iff_iff,List.isEmpty_iff,List.take_eq_nil_iff,decide_eq_true_eq]
 constructor
 ·rintro (h | h)
  ·exact h
  ·subst h; simpa using hj
 ·exact .inl
theorem stand_any (w : World) (vw vp : Value) (K Q : List ByteArray) (hw : Row w vw (scells K)) (hp : Row w vp (scells Q)) (hK : K.length <= 1000000) (hQ : Q.length <= 1000000) :
  Calls Tryz.prog 298 #[vw,vp] w fun e w' => e = .returned (.bool (fitsL (Q.map txt) (K.map txt))) /\ Below w.heap.size w w' := by
 obtain ⟨aw,cw,rfl⟩ := hw.sliceStrs
 obtain ⟨ap,cp,rfl⟩ := hp.sliceStrs
 have hmk := run_make_bools w (K.length + 1) (by omega)
 have hmk' : (Instr.makeSlice 375 (.int .i64 ((K.length : Int) + 1)) (.int .i64 ((K.length : Int) + 1))).run Tryz.prog w = .ok (.slice (some ⟨w.heap.size,0,none⟩) (K.length + 1) (K.length + 1)) (w.alloc (.cells (List.replicate (K.length + 1) (Value.bool false)).toArray 4)) := by
  have e : ((K.length : Int) + 1) = ((K.length + 1 : Nat) : Int) := by omega
  rw [e]
  exact hmk
 obtain ⟨w0,hw0⟩ : ∃ w0,w.alloc (.cells (List.replicate (K.length + 1) (Value.bool false)).toArray 4) = w0 := ⟨_,rfl⟩
 rw [hw0] at hmk hmk'
 have hh : w0.heap[w.heap.size]? = some (.cells (List.replicate (K.length + 1) (Value.bool false)).toArray 4) := by rw [<- hw0]; exact World.alloc_heap_new w _
 have hB0 : Below w.heap.size w w0 := by rw [<- hw0]; exact (Below.refl _ w).alloc (yyH _) _
 have hc : ∀ j,j < K.length + 1 -> w0.cell? ⟨w.heap.size,j,none⟩ = some (.bool false) := fun j hj => by
  simp only [World.cell?,hh]
  simp [hj]
 have hf : w0.frozen? ⟨w.heap.size,0,none⟩ = false := by
  simp only [World.frozen?,hh]
  simp
 have hc0 := hc 0 (by omega)
 have hst : Reach (w0.setCell ⟨w.heap.size,0,none⟩ (.bool true)) (.slice (some ⟨w.heap.size,0,none⟩) (K.length + 1) (K.length + 1)) [] (K.map txt) := by
  refine .inr ⟨⟨w.heap.size,0,none⟩,K.length + 1,by simp,by simp,by unfold maxLen; omega,fun j u hj => ?_⟩
  have hj' : j < K.length + 1 := by
   have := (List.getElem?_eq_some_iff.1 hj).1
   simpa using this
  rw [Go.WideShapes.add_plain,Nat.zero_add,<- hj]
  have hfit := fits_nil_take (K.map txt) j (by rw [List.length_map]; omega)
  by_cases e : j = 0
  ·subst e
   rw [World.cell?_setCell_same' _ _ _ (by rw [hc0]; rfl)]
   simp [fitsL]
  ·rw [World.cell?_setCell_other,hc j hj']
   ·rw [List.getElem?_map,List.getElem?_range (by rw [List.length_map]; exact hj')]
    simp only [Option.map_some,hfit,e,decide_false]
   ·intro e'; cases e'; exact e rfl
 have hB1 := hB0.setCell (p := ⟨w.heap.size,0,none⟩) (yyH _) (.bool true)
 clear hh hc hw0
 go_enter Tryz.func298,Tryz.ntmps298
 go_wp2
 go_loopw [5,16] (fun r i wr => ∃ k : Nat,k <= Q.length /\ i = .int .i64 k /\ Reach wr r ((Q.map txt).take k) (K.map txt) /\ Below w.heap.size w wr) (fun _ i _ => Q.length - (intOf i).toNat)
 case atStart => exact ⟨0,Nat.zero_le _,rfl,hst,hB1⟩
 case round =>
  obtain ⟨k,hk,rfl,hR,hB⟩ := hrel
  have hsz := hB.size
  by_cases hkl : k < Q.length
  ·obtain ⟨bp,op,cp',hv,_,_,hcp⟩ := (hp.below hB (yyH _)).atStrs (by omega)
   injection hv with hv1 _ hv3
   subst hv1 hv3
   have hcell := hcp k hkl
   have hfur := further_any wr _ _ _ K Q[k] hR (hw.below hB (yyH _)) hK
   have htk : (Q.map txt).take k ++ [txt Q[k]] = (Q.map txt).take (k + 1) := by
    rw [List.take_succ_eq_append_getElem (by rw [List.length_map]; exact hkl)]
    simp
   rw [htk] at hfur
   clear hcp htk
   go_wp2_with (go_at_call 348; refine hfur.mono ?_; rintro e w3 ⟨v3,rfl,hR3,hb3⟩)
   go_roundw
   case rel => exact ⟨k + 1,by omega,by go_num,hR3,hB.trans (hb3.mono hsz)⟩
   case measure => simp [intOf]; omega
  ·obtain ⟨br,fr,cr,rfl,_,hcr⟩ := hR.at
   have hlast := hcr K.length (by simp)
   rw [List.length_map] at *
   rw [List.take_of_length_le (by rw [List.length_map]; omega),List.take_of_length_le (by simp)] at hlast
   clear hcr
   go_wp2
   go_ret
   exact ⟨rfl,hB⟩
theorem Row.drewN {w : World} {v : Value} {cs : List Value} (h : Row w v cs) (d : Nat) : Row (w.drewN d) v cs := h
theorem strs_txt (l : List Txt) : (strs l).map txt = l := by
 unfold strs
 rw [List.map_map]
 exact (List.map_congr_left (fun x _ => txt_str x)).trans (List.map_id l)
theorem ofB_size {may : Txt -> Bool} {s : ByteArray} (h : ofB may (txt s) = true) : s.size <= 60 := by
 unfold ofB at h
 simp only [Bool.and_eq_true,decide_eq_true_eq] at h
 rw [txt_length] at h
 exact h.1.1
theorem ofB_words {may : Txt -> Bool} {s : Txt} (h : ofB may s = true) : (wordsL s).length <= 12 := by
 unfold ofB at h
 simp only [Bool.and_eq_true,decide_eq_true_eq] at h
 exact h.2
theorem match_any (p k : ByteArray) (w : World) (hp : p.size <= maxLen) (hk : k.size <= maxLen) :
  Calls Tryz.prog 257 #[.string p,.string k] w fun e w' => e = .returned (.bool (matchB (txt p) (txt k))) /\ Below w.heap.size w w' := by
 cases hP : patB (txt p)
 ·have hm : matchB (txt p) (txt k) = false := by unfold matchB; rw [hP]; rfl
  rw [hm]
  go_enter Tryz.func257,Tryz.ntmps257
  go_wp2_with fail
  refine (pattern_any p _ hp).mono ?_
  rintro e w1 ⟨rfl,hb1⟩
  go_wp2
  go_ret
  exact ⟨rfl,hb1⟩
 ·cases hK : keyB (txt k)
  ·have hm : matchB (txt p) (txt k) = false := by unfold matchB; rw [hP,hK]; rfl
   rw [hm]
   go_enter Tryz.func257,Tryz.ntmps257
   go_wp2_with fail
   refine (pattern_any p _ hp).mono ?_
   rintro e w1 ⟨rfl,hb1⟩
   go_wp2_with fail
   refine (key_any k _ hk).mono ?_
   rintro e w2 ⟨rfl,hb2⟩
   go_wp2
   go_ret
   exact ⟨rfl,hb1.trans (hb2.mono hb1.size)⟩
  ·have hm : matchB (txt p) (txt k) = fitsL (wordsL (txt p)) (wordsL (txt k)) := by unfold matchB; rw [hP,hK]; rfl
   rw [hm]
   have s1 := ofB_size hP
   have s2 := ofB_size hK
   have l1 := ofB_words hP
   have l2 := ofB_words hK
   go_enter Tryz.func257,Tryz.ntmps257
   go_wp2_with fail
   refine (pattern_any p _ hp).mono ?_
   rintro e w1 ⟨rfl,hb1⟩
   go_wp2_with fail
   refine (key_any k _ hk).mono ?_
   rintro e w2 ⟨rfl,hb2⟩
   go_wp2_with fail
   refine (words_any k _ (by omega)).mono ?_
   rintro e w3 ⟨v3,rfl,ho3,hb3⟩
   go_wp2_with fail
   refine (words_any p _ (by omega)).mono ?_
   rintro e w4 ⟨v4,rfl,ho4,hb4⟩
   have hst := stand_any w4 v3 v4 _ _ (ho3.row.below hb4 (yyH _)) ho4.row (by rw [strs_length]; omega) (by rw [strs_length]; omega)
   rw [strs_txt,strs_txt] at hst
   go_wp2_with fail
   refine hst.mono ?_
   rintro e w5 ⟨rfl,hb5⟩
   go_wp2
   go_ret
   have z1 := hb1.size; have z2 := hb2.size; have z3 := hb3.size; have z4 := hb4.size
   exact ⟨rfl,(((hb1.trans (hb2.mono z1)).trans (hb3.mono (by omega))).trans (hb4.mono (by omega))).trans (hb5.mono (by omega))⟩
end Go.Proofs.YtjagaankkcbjmaaGreatDoor
