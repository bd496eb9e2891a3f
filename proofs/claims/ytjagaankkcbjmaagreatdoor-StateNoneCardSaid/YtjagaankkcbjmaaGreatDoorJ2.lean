/-
  THE WALKS of the signs of a name: the program's range over a string, the document's loop.
-/
import Derived.Test.YtjagaankkcbjmaaGreatDoorProg
import Derived.Test.YtjagaankkcbjmaaGreatDoorJ1
import Derived.Laws.RangeAny
import Derived.Deep.Light
import Derived.RangeFuncNested
import Derived.RangeFuncBound
import Derived.RangeFuncCalls
import Derived.RangeFuncLeaves
import Derived.RangeFuncBox
import Derived.Shelf.Abstract
import Derived.Shelf.RegionOpen
import Derived.WalkKit
import Derived.OwnWalkIn
import Derived.TacticsInMore
import Derived.LoopNIn
import Derived.LoopIn
import Derived.Maps.AppendAt
import Derived.Shelf.Strings.Search3
import Derived.Shelf.Strings.Count
import Derived.Shelf.Slices.Turned
namespace Go.Proofs.YtjagaankkcbjmaaGreatDoor
open Go.RowKit

/-- A text's bytes. -/
def txt (s : ByteArray) : Txt := s.data.toList
theorem txt_length (s : ByteArray) : (txt s).length = s.size := by simp [txt]
theorem txt_inj {s t : ByteArray} (h : txt s = txt t) : s = t := by
  cases s; cases t
  simpa [txt] using h
theorem txt_snoc (s : ByteArray) (k : Nat) (h : k < s.size) : (txt s).take (k + 1) = (txt s).take k ++ [s[k]] := by
  unfold txt
  rw [List.take_succ_eq_append_getElem (by simpa using h)]; rfl
theorem txt_mem (s : ByteArray) (k : Nat) (h : k < s.size) : s[k] ∈ txt s := by
  have : (txt s)[k]'(by rw [txt_length]; exact h) = s[k] := rfl
  rw [← this]
  exact List.getElem_mem _

/-- A rune that is a sign. -/
def signI (r : Int) : Bool := decide (97 ≤ r ∧ r ≤ 122) || decide (48 ≤ r ∧ r ≤ 57) || r == 45 || r == 95
theorem signI_byte (b : UInt8) : signI (b.toNat : Int) = signB b := by
  unfold signI signB
  rw [Bool.eq_iff_iff]
  simp
  omega
theorem signI_high {r : Int} (h : 128 ≤ r) : signI r = false := by
  unfold signI
  rw [Bool.eq_false_iff]
  simp
  omega

theorem sign_any (r : Int) (w : World) :
    Calls Tryz.prog 271 #[.int .i32 r] w fun e w' => e = .returned (.bool (signI r)) ∧ w' = w := by
  go_enter Tryz.func271, Tryz.ntmps271
  go_wp2
  all_goals go_ret
  all_goals refine ⟨ret_bool ?_, rfl⟩
  all_goals go_light
  all_goals unfold signI
  all_goals rw [Bool.eq_iff_iff]
  all_goals simp only [Bool.or_eq_true, decide_eq_true_eq, beq_iff_eq, true_iff]
  all_goals first | omega | simp

theorem letters_take (s : ByteArray) (k : Nat) (h : k < s.size) : ((txt s).take (k + 1)).all signB = (((txt s).take k).all signB && signB s[k]) := by
  rw [txt_snoc s k h, List.all_append]
  simp
theorem letters_bad (s : ByteArray) (k : Nat) (h : k < s.size) (hb : signB s[k] = false) : lettersB (txt s) = false := by
  unfold lettersB
  have : (txt s).all signB = false := by
    rw [Bool.eq_false_iff]
    intro ha
    rw [List.all_eq_true] at ha
    rw [ha _ (txt_mem s k h)] at hb
    cases hb
  rw [this]; rfl
theorem letters_good (s : ByteArray) (k : Nat) (h : ¬ k < s.size) (ha : ((txt s).take k).all signB = true) : lettersB (txt s) = !(txt s).isEmpty := by
  rw [List.take_of_length_le (by rw [txt_length]; omega)] at ha
  unfold lettersB
  rw [ha]; rfl

/-- plain: every byte is a sign, and there is one. -/
theorem plain_any (s : ByteArray) (w : World) :
    Calls Tryz.prog 226 #[.string s] w fun e w' => e = .returned (.bool (lettersB (txt s))) ∧ Below w.heap.size w w' := by
  go_enter Tryz.func226, Tryz.ntmps226
  go_wp2
  go_loopw [] (fun w' => ∃ pos : Nat, w' = w.iter s pos ∧ ((txt s).take pos).all signB = true) (fun w' => s.size - w'.iterPos w.heap.size)
  case atStart => exact ⟨0, rfl, rfl⟩
  case round =>
    obtain ⟨pos, rfl, ha⟩ := hrel
    have hbel : Below w.heap.size w (w.iter s pos) := (Below.refl _ w).alloc (Nat.le_refl _) _
    have HA : Hid _ := ha
    clear ha
    by_cases hp : pos < s.size
    · by_cases hr : signB s[pos] = true
      · have h128 : (s[pos]'hp).toNat < 128 := by
          unfold signB at hr
          simp at hr
          omega
        have hsg : signI ((s[pos]'hp).toNat : Int) = true := by rw [signI_byte]; exact hr
        have hnx : ∀ ty, (Instr.next (.pointer (some ⟨w.heap.size, 0, none⟩)) true ty).run Tryz.prog (w.iter s pos) = _ := fun ty => run_next_ascii w s pos ty hp h128
        go_wp2_with (go_at_call 271; refine (sign_any _ _).mono ?_; rintro e w' ⟨rfl, rfl⟩)
        go_roundw
        case rel => exact ⟨pos + 1, rfl, by rw [letters_take s pos hp, HA.out, hr]; rfl⟩
        case measure => simp; omega
      · have hr' : signB s[pos] = false := by simpa using hr
        have hbad := letters_bad s pos hp hr'
        have hdec : signI ((Utf8.decode s pos).1 : Int) = false := by
          by_cases h128 : (s[pos]'hp).toNat < 128
          · rw [decode_ascii s pos hp h128, signI_byte]; exact hr'
          · exact signI_high (by have := (decode_high s pos hp (by omega)).1; omega)
        have hnx : ∀ ty, (Instr.next (.pointer (some ⟨w.heap.size, 0, none⟩)) true ty).run Tryz.prog (w.iter s pos) = _ := fun ty => run_next_any w s pos ty hp
        go_wp2_with (go_at_call 271; refine (sign_any _ _).mono ?_; rintro e w' ⟨rfl, rfl⟩)
        go_ret
        exact ⟨ret_bool hbad.symm, (Below.refl _ w).alloc (Nat.le_refl _) _⟩
    · have hnx : ∀ ty, (Instr.next (.pointer (some ⟨w.heap.size, 0, none⟩)) true ty).run Tryz.prog (w.iter s pos) = _ := fun ty => run_next_end w s pos ty hp
      go_wp2
      go_ret
      refine ⟨ret_bool ?_, hbel⟩
      rw [letters_good s pos hp HA.out, ByteArray.toList_eq]
      rfl

/-- The document's letters. -/
theorem letters_any (s : ByteArray) (w : World) (hs : s.size ≤ maxLen) :
    Calls Tryz.prog 168 #[.string s] w fun e w' => e = .returned (.bool (lettersB (txt s))) ∧ w' = w := by
  unfold maxLen at hs
  go_enter Tryz.func168, Tryz.ntmps168
  go_wp2
  go_loop [3] (fun i => ∃ k : Nat, k ≤ s.size ∧ i = .int .i64 k ∧ ((txt s).take k).all signB = true) (fun i => s.size - (intOf i).toNat)
  case atStart => exact ⟨0, Nat.zero_le _, rfl, rfl⟩
  case round =>
    obtain ⟨k, hk, rfl, ha⟩ := hrel
    have HA : Hid _ := ha
    clear ha
    by_cases hlt : k < s.size
    · have HB : Hid (signB s[k] = signI (s[k].toNat : Int)) := (signI_byte _).symm
      go_wp2
      all_goals first
        | (go_round
           case rel =>
             refine ⟨k + 1, by omega, by go_num, ?_⟩
             rw [letters_take s k hlt, HA.out, HB.out]
             go_light
             simp only [Bool.not_eq_false', decide_eq_true_eq, beq_iff_eq] at *
             simp only [signI, Bool.true_and, Bool.or_eq_true, decide_eq_true_eq, beq_iff_eq]
             omega
           case measure => simp [intOf]; omega)
        | (go_ret
           refine ⟨ret_bool (letters_bad s k hlt ?_).symm, rfl⟩
           rw [HB.out]
           go_light
           simp only [Bool.not_eq_true', decide_eq_false_iff_not, beq_eq_false_iff_ne, ne_eq] at *
           rw [Bool.eq_false_iff]
           simp only [signI, ne_eq, Bool.or_eq_true, decide_eq_true_eq, beq_iff_eq]
           omega)
    · go_wp2
      all_goals go_ret
      all_goals refine ⟨ret_bool ?_, rfl⟩
      all_goals rw [letters_good s k hlt HA.out]
      all_goals rw [show (txt s).isEmpty = decide (s.size = 0) from by rw [← txt_length]; cases txt s <;> simp]
      all_goals go_light
      all_goals rw [Bool.eq_iff_iff]
      all_goals simp only [decide_eq_true_eq, Bool.not_eq_true', decide_eq_false_iff_not]
      all_goals omega

theorem name_any (s : ByteArray) (w : World) (hs : s.size ≤ maxLen) :
    Calls Tryz.prog 144 #[.string s] w fun e w' => e = .returned (.bool (nameB (txt s))) ∧ Below w.heap.size w w' := by
  unfold maxLen at hs
  have hn : nameB (txt s) = (decide (s.size ≤ 20) && lettersB (txt s)) := by unfold nameB; rw [txt_length]
  rw [hn]
  by_cases h20 : s.size ≤ 20
  all_goals go_enter Tryz.func144, Tryz.ntmps144
  all_goals go_wp2_with (go_at_call 226; refine (plain_any s _).mono ?_; rintro e w' ⟨rfl, hb⟩)
  all_goals go_ret
  · exact ⟨ret_bool (by rw [decide_eq_true h20]; rfl), by assumption⟩
  · exact ⟨rfl, Below.refl _ _⟩

theorem rname_any (s : ByteArray) (w : World) (hs : s.size ≤ maxLen) :
    Calls Tryz.prog 84 #[.string s] w fun e w' => e = .returned (.bool (nameB (txt s))) ∧ w' = w := by
  have hs' := hs
  unfold maxLen at hs
  have hn : nameB (txt s) = (decide (s.size ≤ 20) && lettersB (txt s)) := by unfold nameB; rw [txt_length]
  rw [hn]
  by_cases h20 : s.size ≤ 20
  all_goals go_enter Tryz.func84, Tryz.ntmps84
  all_goals go_wp2_with (go_at_call 168; refine (letters_any s _ hs').mono ?_; rintro e w' ⟨rfl, rfl⟩)
  all_goals go_ret
  all_goals exact ⟨ret_bool (by simp [h20]), rfl⟩
end Go.Proofs.YtjagaankkcbjmaaGreatDoor

/-
  WHAT IS OF NO PROGRAM: a range over a function that keeps a state of its own in a box (strings.SplitSeq and the like), by a body that never leaves.
-/
namespace Go.Proofs.YtjagaankkcbjmaaGreatDoor
open Go.RowKit Go.Shelf

/-- The blocks from lo to hi lie as they lay. -/
def Kept (lo hi : Nat) (A B : World) : Prop := ∀ b, lo ≤ b → b < hi → B.heap[b]? = A.heap[b]?
theorem Kept.refl (lo hi : Nat) (A : World) : Kept lo hi A A := fun _ _ _ => rfl
theorem Kept.trans {lo hi : Nat} {A B C : World} (h : Kept lo hi A B) (k : Kept lo hi B C) : Kept lo hi A C := fun b h1 h2 => (k b h1 h2).trans (h b h1 h2)
theorem Kept.putObj (lo hi : Nat) (A : World) (l : Nat) (o : Obj) (hl : hi ≤ l) : Kept lo hi A (A.putObj l o) := fun b _ h2 => World.putObj_heap_other (by omega)
theorem Kept.cell {lo hi : Nat} {A B : World} (h : Kept lo hi A B) (b o : Nat) (h1 : lo ≤ b) (h2 : b < hi) : B.cell? ⟨b, o, none⟩ = A.cell? ⟨b, o, none⟩ := World.cell?_of_block (a := ⟨b, o, none⟩) (h b h1 h2)
theorem Kept.frozen {lo hi : Nat} {A B : World} (h : Kept lo hi A B) (b o : Nat) (h1 : lo ≤ b) (h2 : b < hi) : B.frozen? ⟨b, o, none⟩ = A.frozen? ⟨b, o, none⟩ := World.frozen?_of_block (a := ⟨b, o, none⟩) (h b h1 h2)

variable {F : Fence} {n : Nat} {P : Program}

/-- The iterator's word: for whatever is true between two rounds (J), if it stays true where memory grows and where the box Bs is written, and each round keeps the boxes from lo to hi. -/
def SeqBox {α : Type} (F : Fence) (n : Nat) (P : Program) (g : Nat) (lb : Array Value) (encs : α → Array Value) (Bs lo hi : Nat) (S : List α → Prop) (N : Nat) (w : World) : Prop :=
  ∀ (l : Nat) (J : List α → World → Prop) (W : World), Below w.heap.size w W → (∀ pre A B row, J pre A → A.grownBy B row → (∀ r, row = some r → r = Bs) → J pre B) →
    (∀ pre x W1, J pre W1 → pre.length < N → YieldAt F (n - 1) P l (encs x) W1 fun e W' => e = .returned (.bool true) ∧ J (pre ++ [x]) W' ∧ Kept lo hi W1 W') →
    J [] W → CallsIn F n P g (#[.func (.yield l) #[] #[]] ++ lb) W fun e W' => (∃ v, e = .returned v) ∧ ∃ xs, S xs ∧ J xs W'

/-- The loop over it. -/
theorem wpIn_range_box {α : Type} {g : Operand} {ps : Array Tmp} {assign body : Code} {Q : Exit → Act → World → Prop} {a : Act} {w : World} (hro : F.round = none) (h1 : 1 ≤ n) {gf : Nat} {lb : Array Value}
    (hg : a.eval g = .func (.func gf) #[] lb) (hF : F.fn gf) (eg : ∀ args w, (callFunc gf args).run P w = .ok (.enter gf args) w) {encs : α → Array Value} {Bs lo : Nat} {S : List α → Prop} {N : Nat} (hBs : Bs < w.heap.size)
    (hseq : SeqBox F (n - 1) P gf lb encs Bs lo w.heap.size S N w) (hps : ∀ x, (encs x).size = ps.size) (I : List α → World → Prop)
    (hI : ∀ pre A B row, I pre A → A.grownBy B row → (∀ r, row = some r → r = Bs ∨ (w.heap.size ≤ r ∧ ∃ o : Obj, A.heap[r]? = some o ∧ o.isCells = false)) → I pre B) (h0 : I [] w) (a1 : α → Act)
    (hassign : ∀ (l : Nat) (x : α) (W : World) (K : Act → World → Prop), K (a1 x) W →
      assign.wpIn (F.inRound l) (n - 1 - 1) P (Exit.then K (fun _ _ _ => False)) { tmps := (ps.zip (encs x)).foldl (fun t (p, v) => t.setIfInBounds p v) a.tmps, defers := [] } W)
    (hbody : ∀ (l : Nat) (pre : List α) (x : α) (W : World), I pre W → pre.length < N → body.wpIn (F.inRound l) (n - 1 - 1) P (fun e _ W' => e = .normal ∧ KeepsFrom w.heap.size W W' ∧ Kept lo w.heap.size W W' ∧ I (pre ++ [x]) W') (a1 x) W)
    (hdone : ∀ (D : Nat) (xs : List α) (W : World), w.heap.size ≤ D → S xs → I xs W → W.heap[D]? = some (.deferred (some [])) → Q .normal { a with defers := { target := .collected D, args := #[] } :: a.defers } W) :
    (Code.rangeFunc g ps assign body).wpIn F n P Q a w := by
  refine wpIn_rangeFunc fun fn hfn => ?_
  rw [hro]
  -- the record r of the loop lies at block w.heap.size + 1, the deferred calls at w.heap.size
  obtain ⟨r, hr⟩ : ∃ r : Loop, r = { state := .ready, pending := none, fn, tmps := a.tmps, params := ps, assign, body, defers := w.heap.size } := ⟨_, rfl⟩
  have hsize : ((w.alloc (.deferred (some []))).alloc (.loop r)).heap.size = w.heap.size + 2 := by simp
  have hrec : ((w.alloc (.deferred (some []))).alloc (.loop r)).heap[w.heap.size + 1]? = some (.loop r) := by
    have := World.alloc_heap_new (w.alloc (.deferred (some []))) (.loop r); rwa [World.size_alloc] at this
  have hdef : ((w.alloc (.deferred (some []))).alloc (.loop r)).heap[w.heap.size]? = some (.deferred (some [])) :=
    (Below.heap_alloc _ _ _ (by simp)).trans (World.alloc_heap_new w _)
  have hst : I [] ((w.alloc (.deferred (some []))).alloc (.loop r)) :=
    hI _ _ _ none (hI _ _ _ none h0 (World.grownBy_alloc w _ none) (fun _ e => by cases e)) (World.grownBy_alloc _ _ none) (fun _ e => by cases e)
  have hb : Below w.heap.size w ((w.alloc (.deferred (some []))).alloc (.loop r)) := ((Below.refl _ w).alloc (Nat.le_refl _) _).alloc (by simp) _
  refine ⟨w.heap.size + 1, [{ target := .collected w.heap.size, args := #[] }], (w.alloc (.deferred (some []))).alloc (.loop r), { target := .fn (.func gf) lb, args := #[.func (.yield (w.heap.size + 1)) #[] #[]] }, _, gf,
    #[.func (.yield (w.heap.size + 1)) #[] #[]] ++ lb, _, by rw [hr]; exact run_enterLoop_outer _ _ _ _ _, by simp only [resolve, hg]; simp [go_sem]; rfl, ?_, by simp [invoke, go_sem, eg]; rfl, fun _ => h1, ?_⟩
  · intro f' hf'
    simp [Target.leads] at hf'
    subst hf'
    exact hF
  have key := hseq (w.heap.size + 1) (fun pre W => I pre W ∧ W.heap[w.heap.size + 1]? = some (.loop r) ∧ W.heap[w.heap.size]? = some (.deferred (some []))) _ hb
    (fun pre A B row hA hgr hrow => by
      have hne : ∀ k, w.heap.size ≤ k → some k ≠ row := fun k hk e => by have := hrow k e.symm; omega
      exact ⟨hI pre A B row hA.1 hgr (fun x e => .inl (hrow x e)), (hgr.block _ (Array.getElem?_eq_some_iff.1 hA.2.1).1 (hne _ (by omega))).trans hA.2.1, (hgr.block _ (Array.getElem?_eq_some_iff.1 hA.2.2).1 (hne _ (Nat.le_refl _))).trans hA.2.2⟩)
    ?_ ⟨hst, hrec, hdef⟩
  · refine key.mono ?_
    rintro e W2 ⟨⟨v, rfl⟩, xs, hS, hi, hl, hk⟩
    refine ⟨none, _, ?_, hdone _ xs _ (Nat.le_refl _) hS (hI xs W2 _ (some (w.heap.size + 1)) hi (grownBy_putObj' W2 _ (.loop { r with state := .exhausted })) (fun x e => by cases e; exact .inr ⟨by omega, _, hl, rfl⟩)) ((World.putObj_heap_other (by omega)).trans hk)⟩
    have := run_endLoop (P := P) hl (by rw [hr]; simp)
    rw [hr] at this ⊢
    exact this
  · rintro pre x W ⟨hi, hl, hk⟩ hlen
    have hlt : w.heap.size + 1 < W.heap.size := (Array.getElem?_eq_some_iff.1 hl).1
    have hy := run_yield (P := P) (args := encs x) hl (by rw [hr]; exact hps x)
    rw [hr] at hy
    have busy : (W.putObj (w.heap.size + 1) (.loop { r with state := .busy })).heap[w.heap.size + 1]? = some (.loop { r with state := .busy }) := World.putObj_heap_same hlt
    have dfr : (W.putObj (w.heap.size + 1) (.loop { r with state := .busy })).heap[w.heap.size]? = some (.deferred (some [])) := (World.putObj_heap_other (by omega)).trans hk
    refine ⟨fn, _, assign, body, hy, roundIn_of_wpIn hfn (hassign _ x W _ ⟨_, run_beginRound hl (by rw [hr]), ?_⟩)⟩
    refine wpIn_mono (hbody _ pre x _ (hI pre W _ (some (w.heap.size + 1)) hi (grownBy_putObj' W _ _) (fun x e => by cases e; exact .inr ⟨by omega, _, hl, rfl⟩)) hlen) ?_
    rintro e a3 W3 ⟨rfl, hk3, hkp, hi3⟩
    have b3 := hk3.same _ _ (by omega) busy rfl
    have d3 := hk3.same _ _ (Nat.le_refl _) dfr rfl
    have hend := run_endRound (P := P) none b3
    have hback : ({ ({ r with state := .busy } : Loop) with state := if (none : Option Code).isNone = true then .ready else .done, pending := none } : Loop) = r := by rw [hr]; rfl
    rw [hback] at hend
    refine ⟨_, _, hend, rfl, ⟨hI _ W3 _ (some (w.heap.size + 1)) hi3 (grownBy_putObj' W3 _ _) (fun x e => by cases e; exact .inr ⟨by omega, _, b3, rfl⟩), World.putObj_heap_same (Array.getElem?_eq_some_iff.1 b3).1, (World.putObj_heap_other (by omega)).trans d3⟩, ?_⟩
    exact ((Kept.putObj lo _ W _ _ (by omega)).trans hkp).trans (Kept.putObj lo _ W3 _ _ (by omega))
end Go.Proofs.YtjagaankkcbjmaaGreatDoor

/-
  THE SHELF's CONTRACTS of strings.Index, strings.Count, slices.Contains at this dump.
-/
namespace Go.Proofs
open Go.Shelf
def Tryz.lays143_ren : Go.Shelf.Ren := ⟨fun | 143 => 371 | 219 => 378 | 217 => 381 | 225 => 382 | 224 => 383 | 267 => 384 | 266 => 386 | 314 => 387 | n => n, fun | 9 => 9 | 3 => 3 | 4 => 4 | 5 => 5 | 46 => 72 | 146 => 401 | 51 => 334 | n => n, fun | 1 => 1 | n => n⟩
theorem Tryz.lays143 : Go.Proofs.Lays.n143 Tryz.prog Tryz.lays143_ren := {
  mixed := by kernel_rfl
  f143 := Tryz.func371.trans (congrArg some (by kernel_rfl))
  f217 := Tryz.func381.trans (congrArg some (by kernel_rfl))
  f219 := Tryz.func378.trans (congrArg some (by kernel_rfl))
  f224 := Tryz.func383.trans (congrArg some (by kernel_rfl))
  f225 := Tryz.func382.trans (congrArg some (by kernel_rfl))
  f266 := Tryz.func386.trans (congrArg some (by kernel_rfl))
  f267 := Tryz.func384.trans (congrArg some (by kernel_rfl))
  f314 := Tryz.func387.trans (congrArg some (by kernel_rfl))
  t3 := Tryz.underlying3
  a3 := Tryz.isAgg3
  z3 := Tryz.sizeOf3
  v3 := Tryz.zeroValue3
  t4 := Tryz.underlying4
  a4 := Tryz.isAgg4
  z4 := Tryz.sizeOf4
  v4 := Tryz.zeroValue4
  t5 := Tryz.underlying5
  a5 := Tryz.isAgg5
  z5 := Tryz.sizeOf5
  v5 := Tryz.zeroValue5
  t9 := Tryz.underlying9
  a9 := Tryz.isAgg9
  z9 := Tryz.sizeOf9
  v9 := Tryz.zeroValue9
  t46 := Tryz.underlying72
  a46 := Tryz.isAgg72
  z46 := Tryz.sizeOf72
  v46 := Tryz.zeroValue72
  t51 := Tryz.underlying334
  a51 := Tryz.isAgg334
  z51 := Tryz.sizeOf334
  v51 := Tryz.zeroValue334
  t146 := Tryz.underlying401
  a146 := Tryz.isAgg401
  z146 := Tryz.sizeOf401
  v146 := Tryz.zeroValue401
  g1 := by kernel_rfl }
def Tryz.lays138_ren : Go.Shelf.Ren := ⟨fun | 138 => 349 | 195 => 369 | 218 => 370 | 143 => 371 | 219 => 378 | 217 => 381 | 225 => 382 | 224 => 383 | 267 => 384 | 266 => 386 | 314 => 387 | n => n, fun | 9 => 9 | 3 => 3 | 4 => 4 | 5 => 5 | 0 => 0 | 46 => 72 | 146 => 401 | 51 => 334 | n => n, fun | 1 => 1 | n => n⟩
theorem Tryz.lays138 : Go.Proofs.Lays.n138 Tryz.prog Tryz.lays138_ren := {
  mixed := by kernel_rfl
  f138 := Tryz.func349.trans (congrArg some (by kernel_rfl))
  f143 := Tryz.func371.trans (congrArg some (by kernel_rfl))
  f195 := Tryz.func369.trans (congrArg some (by kernel_rfl))
  f217 := Tryz.func381.trans (congrArg some (by kernel_rfl))
  f218 := Tryz.func370.trans (congrArg some (by kernel_rfl))
  f219 := Tryz.func378.trans (congrArg some (by kernel_rfl))
  f224 := Tryz.func383.trans (congrArg some (by kernel_rfl))
  f225 := Tryz.func382.trans (congrArg some (by kernel_rfl))
  f266 := Tryz.func386.trans (congrArg some (by kernel_rfl))
  f267 := Tryz.func384.trans (congrArg some (by kernel_rfl))
  f314 := Tryz.func387.trans (congrArg some (by kernel_rfl))
  t0 := Tryz.underlying0
  a0 := Tryz.isAgg0
  z0 := Tryz.sizeOf0
  v0 := Tryz.zeroValue0
  t3 := Tryz.underlying3
  a3 := Tryz.isAgg3
  z3 := Tryz.sizeOf3
  v3 := Tryz.zeroValue3
  t4 := Tryz.underlying4
  a4 := Tryz.isAgg4
  z4 := Tryz.sizeOf4
  v4 := Tryz.zeroValue4
  t5 := Tryz.underlying5
  a5 := Tryz.isAgg5
  z5 := Tryz.sizeOf5
  v5 := Tryz.zeroValue5
  t9 := Tryz.underlying9
  a9 := Tryz.isAgg9
  z9 := Tryz.sizeOf9
  v9 := Tryz.zeroValue9
  t46 := Tryz.underlying72
  a46 := Tryz.isAgg72
  z46 := Tryz.sizeOf72
  v46 := Tryz.zeroValue72
  t51 := Tryz.underlying334
  a51 := Tryz.isAgg334
  z51 := Tryz.sizeOf334
  v51 := Tryz.zeroValue334
  t146 := Tryz.underlying401
  a146 := Tryz.isAgg401
  z146 := Tryz.sizeOf401
  v146 := Tryz.zeroValue401
  g1 := by kernel_rfl }
def Tryz.lays110_ren : Go.Shelf.Ren := ⟨fun | 110 => 340 | 109 => 365 | n => n, fun | 31 => 43 | 9 => 9 | 4 => 4 | 3 => 3 | 0 => 0 | n => n, fun | n => n⟩
theorem Tryz.lays110 : Go.Proofs.Lays.n110 Tryz.prog Tryz.lays110_ren := {
  mixed := by kernel_rfl
  f109 := Tryz.func365.trans (congrArg some (by kernel_rfl))
  f110 := Tryz.func340.trans (congrArg some (by kernel_rfl))
  t0 := Tryz.underlying0
  a0 := Tryz.isAgg0
  z0 := Tryz.sizeOf0
  v0 := Tryz.zeroValue0
  t3 := Tryz.underlying3
  a3 := Tryz.isAgg3
  z3 := Tryz.sizeOf3
  v3 := Tryz.zeroValue3
  t4 := Tryz.underlying4
  a4 := Tryz.isAgg4
  z4 := Tryz.sizeOf4
  v4 := Tryz.zeroValue4
  t9 := Tryz.underlying9
  a9 := Tryz.isAgg9
  z9 := Tryz.sizeOf9
  v9 := Tryz.zeroValue9
  t31 := Tryz.underlying43
  a31 := Tryz.isAgg43
  z31 := Tryz.sizeOf43
  v31 := Tryz.zeroValue43 }
end Go.Proofs

/-
  THE WALK of strings.SplitSeq at one dot: the pieces between dots, one by one.
-/
namespace Go.Proofs.YtjagaankkcbjmaaGreatDoor
open Go.RowKit Go.Shelf

attribute [local go_sem] Oper.semAt_some

/-- A text of these bytes. -/
def str (l : Txt) : ByteArray := ⟨l.toArray⟩
theorem txt_str (l : Txt) : txt (str l) = l := by simp [txt, str]
theorem str_txt (s : ByteArray) : str (txt s) = s := txt_inj (txt_str _)

theorem txt_extract (t : ByteArray) (a b : Nat) : txt (t.extract a b) = ((txt t).drop a).take (b - a) := by
  unfold txt
  rw [ByteArray.data_extract, Array.toList_extract, List.extract_eq_take_drop]

theorem index_none (l : Txt) (h : Lib.indexByte l 46 = -1) : ∀ b ∈ l, b ≠ 46 := by
  induction l with
  | nil => simp
  | cons b l ih =>
    unfold Lib.indexByte at h
    split at h
    · cases h
    · rename_i hb
      split at h
      · rename_i hi
        intro c hc
        rcases List.mem_cons.1 hc with rfl | hc
        · simpa using hb
        · exact ih (by simpa using hi) c hc
      · have := Lib.indexByte_ge l 46
        omega
theorem index_some (l : Txt) (i : Nat) (h : Lib.indexByte l 46 = i) : i < l.length ∧ l = l.take i ++ 46 :: l.drop (i + 1) ∧ ∀ b ∈ l.take i, b ≠ 46 := by
  induction l generalizing i with
  | nil => exact absurd h (by unfold Lib.indexByte; omega)
  | cons b l ih =>
    unfold Lib.indexByte at h
    split at h
    · rename_i hb
      have : b = 46 := by simpa using hb
      subst this
      have hi : i = 0 := by omega
      subst hi
      simp
    · rename_i hb
      split at h
      · exact absurd h (by omega)
      · have hge := Lib.indexByte_ge l 46
        rename_i hne
        have hne' : Lib.indexByte l 46 ≠ -1 := by simpa using hne
        obtain ⟨j, hj⟩ : ∃ j : Nat, Lib.indexByte l 46 = j := ⟨(Lib.indexByte l 46).toNat, by omega⟩
        have hij : i = j + 1 := by omega
        subst hij
        obtain ⟨h1, h2, h3⟩ := ih j hj
        refine ⟨by simp; omega, ?_, ?_⟩
        · rw [List.take_succ_cons, List.drop_succ_cons, List.cons_append, ← h2]
        · intro c hc
          rw [List.take_succ_cons] at hc
          rcases List.mem_cons.1 hc with rfl | hc
          · simpa using hb
          · exact h3 c hc

/-- The length of the text in a box: for the loop's measure. -/
def boxLen (W : World) (B : Nat) : Nat := match W.cell? ⟨B, 0, none⟩ with | some (.string t) => t.size | _ => 0
theorem boxLen_eq {W : World} {B : Nat} {t : ByteArray} (h : W.cell? ⟨B, 0, none⟩ = some (.string t)) : boxLen W B = t.size := by
  unfold boxLen; rw [h]

def strs (l : List Txt) : List ByteArray := l.map str

theorem index_dot (t : ByteArray) (w : World) : Calls Tryz.prog 371 #[.string t, .string ⟨#[46]⟩] w fun e w' => e = .returned (.int .i64 (Lib.indexByte (txt t) 46)) ∧ w' = w :=
  Any.strings_Index_one Tryz.lays143 t 46 w
theorem count_dot (t : ByteArray) (w : World) : Calls Tryz.prog 349 #[.string t, .string ⟨#[46]⟩] w fun e w' => e = .returned (.int .i64 ((txt t).count 46 : Nat)) ∧ w' = w :=
  Any.strings_Count_one Tryz.lays138 t 46 w

set_option maxRecDepth 100000 in
set_option maxHeartbeats 1000000 in
theorem split1_in (n : Nat) (_hn : 1 ≤ n) (l Bs : Nat) (s : ByteArray) (hs : s.size ≤ 1000000) (J : List ByteArray → World → Prop)
    (hJ : ∀ pre A B row, J pre A → A.grownBy B row → (∀ r, row = some r → r = Bs) → J pre B)
    (hY : ∀ pre x W1, J pre W1 → pre.length < (pieces (txt s)).length → YieldAt Fence.wide (n - 1) Tryz.prog l #[.string x] W1 fun e W' => e = .returned (.bool true) ∧ J (pre ++ [x]) W' ∧ Kept Bs (Bs + 3) W1 W')
    (W : World) (hc0 : W.cell? ⟨Bs, 0, none⟩ = some (.string s)) (hf0 : W.frozen? ⟨Bs, 0, none⟩ = false) (hc1 : W.cell? ⟨Bs + 1, 0, none⟩ = some (.string ⟨#[46]⟩)) (hc2 : W.cell? ⟨Bs + 2, 0, none⟩ = some (.int .i64 0)) (h0 : J [] W) :
    CallsIn Fence.wide n Tryz.prog 379 #[.func (.yield l) #[] #[], .pointer (some ⟨Bs + 1, 0, none⟩), .pointer (some ⟨Bs, 0, none⟩), .pointer (some ⟨Bs + 2, 0, none⟩)] W fun e W' => (∃ v, e = .returned v) ∧ ∃ xs, xs = strs (pieces (txt s)) ∧ J xs W' := by
  refine callsIn_of_wp Tryz.func379 rfl trivial ?_ rfl
  simp only [Tryz.ntmps379, List.size_toArray, List.length_cons, List.length_nil, Nat.reduceAdd, Nat.reduceSub, Array.replicate_succ, Array.replicate_zero, List.push_toArray, List.append_toArray, List.nil_append, List.cons_append]
  have hlen1 : ∀ q : ByteArray, q.size ≤ 1000000 → (q.size : Int) ≤ 1000000 := fun q h => by omega
  gi_wp2
  gi_loopw [] (fun wr => ∃ (pre : List ByteArray) (t : ByteArray), strs (pieces (txt s)) = pre ++ strs (pieces (txt t)) ∧ t.size ≤ 1000000 ∧ wr.cell? ⟨Bs, 0, none⟩ = some (.string t) ∧ wr.frozen? ⟨Bs, 0, none⟩ = false ∧ wr.cell? ⟨Bs + 1, 0, none⟩ = some (.string ⟨#[46]⟩) ∧ wr.cell? ⟨Bs + 2, 0, none⟩ = some (.int .i64 0) ∧ J pre wr)
    (fun wr => boxLen wr Bs)
  case atStart => exact ⟨[], s, rfl, hs, hc0, hf0, hc1, hc2, h0⟩
  case round =>
    clear hc0 hf0 hc1 hc2 h0
    obtain ⟨pre, t, hx, ht, hc0, hf0, hc1, hc2, hJp⟩ := hrel
    have hge := Lib.indexByte_ge (txt t) 46
    have HX : Hid _ := hx
    clear hx
    by_cases hi : Lib.indexByte (txt t) 46 = -1
    · obtain ⟨fn, tmps, assign, body, hy, hR⟩ := hY pre t wr hJp (by
        have := congrArg List.length HX.out
        have h1 := pieces_count (txt t)
        simp [strs] at this
        omega)
      gi_wp2_with (refine ⟨trivial, ?_⟩; gi_at_call 371; refine (callsIn_wide.2 (index_dot t _)).mono ?_; rintro e w' ⟨rfl, rfl⟩)
      refine hR.mono ?_
      rintro e W3 ⟨rfl, hJ3, hk3⟩
      gi_wp2
      go_end0
      refine ⟨⟨_, rfl⟩, _, ?_, hJ3⟩
      rw [HX.out, pieces_none _ (index_none _ hi)]
      simp [strs, str_txt]
    · obtain ⟨i, hii⟩ : ∃ i : Nat, Lib.indexByte (txt t) 46 = i := ⟨(Lib.indexByte (txt t) 46).toNat, by omega⟩
      obtain ⟨hlt, heq, hno⟩ := index_some _ _ hii
      rw [txt_length] at hlt
      have HE : Hid _ := heq
      clear hge hi heq
      have hcnt : pre.length < (pieces (txt s)).length := by
        have := congrArg List.length HX.out
        have h1 := pieces_count (txt t)
        simp [strs] at this
        omega
      have hnext : strs (pieces (txt s)) = (pre ++ [t.extract 0 i]) ++ strs (pieces (txt (t.extract (i + 1) t.size))) := by
        rw [HX.out]
        have e0 : t.extract 0 i = str ((txt t).take i) := txt_inj (by rw [txt_str, txt_extract]; simp)
        have e1 : txt (t.extract (i + 1) t.size) = (txt t).drop (i + 1) := by
          rw [txt_extract, List.take_of_length_le (by rw [List.length_drop, txt_length]; exact Nat.le_refl _)]
        rw [e1, e0]
        have h2 := pieces_dot ((txt t).take i) ((txt t).drop (i + 1)) hno
        rw [← HE.out] at h2
        rw [h2]
        simp [strs]
      have HN : Hid _ := hnext
      clear hnext
      obtain ⟨fn, tmps, assign, body, hy, hR⟩ := hY pre (t.extract 0 i) wr hJp hcnt
      gi_wp2_with (refine ⟨trivial, ?_⟩; gi_at_call 371; refine (callsIn_wide.2 (index_dot t _)).mono ?_; rintro e w' ⟨rfl, rfl⟩)
      refine hR.mono ?_
      rintro e W3 ⟨rfl, hJ3, hk3⟩
      have d0 := (hk3.cell Bs 0 (by omega) (by omega)).trans hc0
      have d1 := (hk3.cell (Bs + 1) 0 (by omega) (by omega)).trans hc1
      have d2 := (hk3.cell (Bs + 2) 0 (by omega) (by omega)).trans hc2
      have df := (hk3.frozen Bs 0 (by omega) (by omega)).trans hf0
      gi_wp2
      go_roundw
      case rel =>
        have oth : ∀ b, b ≠ Bs → ∀ v, (W3.setCell ⟨Bs, 0, none⟩ v).cell? ⟨b, 0, none⟩ = W3.cell? ⟨b, 0, none⟩ := fun b hb v => by
          by_cases hlt' : b < W3.heap.size
          · exact World.cell?_of_block (a := ⟨b, 0, none⟩) ((grownBy_setCell' W3 Bs v).block b hlt' (fun e => hb (by cases e; rfl)))
          · rw [World.cell?_setCell_other]; intro e; apply hb; cases e; rfl
        refine ⟨pre ++ [t.extract 0 i], t.extract (i + 1) t.size, HN.out, ?_, ?_, by rw [World.frozen?_setCell]; exact df, (oth _ (by omega) _).trans d1, (oth _ (by omega) _).trans d2, hJ _ _ _ _ hJ3 (grownBy_setCell' W3 Bs _) (fun r e => by cases e; rfl)⟩
        · rw [ByteArray.size_extract]; omega
        · exact World.cell?_setCell_same' _ _ _ (by rw [d0]; rfl)
      case measure =>
        rw [boxLen_eq hc0, boxLen_eq (t := t.extract (i + 1) t.size) (World.cell?_setCell_same' _ _ _ (by rw [d0]; rfl)), ByteArray.size_extract]
        omega

/-- SplitSeq(s, "."): the pieces of s, if nobody else writes its boxes. -/
theorem splitSeq_any (s : ByteArray) (w : World) :
    Calls Tryz.prog 350 #[.string s, .string ⟨#[46]⟩] w fun e w' =>
      e = .returned (.func (.func 379) #[] #[.pointer (some ⟨w.heap.size + 1, 0, none⟩), .pointer (some ⟨w.heap.size, 0, none⟩), .pointer (some ⟨w.heap.size + 2, 0, none⟩)]) ∧
      w' = ((w.alloc (.cells #[.string s] 9)).alloc (.cells #[.string ⟨#[46]⟩] 9)).alloc (.cells #[.int .i64 0] 3) := by
  go_enter Tryz.func350, Tryz.ntmps350
  go_wp2
  go_ret
  exact ⟨rfl, rfl⟩

theorem split_seq (n : Nat) (hn : 1 ≤ n) (Bs : Nat) (s : ByteArray) (hs : s.size ≤ 1000000) (w : World) (hw : Bs + 3 = w.heap.size) (hc0 : w.cell? ⟨Bs, 0, none⟩ = some (.string s)) (hf0 : w.frozen? ⟨Bs, 0, none⟩ = false)
    (hc1 : w.cell? ⟨Bs + 1, 0, none⟩ = some (.string ⟨#[46]⟩)) (hc2 : w.cell? ⟨Bs + 2, 0, none⟩ = some (.int .i64 0)) :
    SeqBox Fence.wide n Tryz.prog 379 #[.pointer (some ⟨Bs + 1, 0, none⟩), .pointer (some ⟨Bs, 0, none⟩), .pointer (some ⟨Bs + 2, 0, none⟩)] (fun x : ByteArray => #[Value.string x]) Bs Bs w.heap.size (fun xs => xs = strs (pieces (txt s))) (pieces (txt s)).length w := by
  intro l J W hW hJ hY h0
  rw [← hw] at hY
  exact split1_in n hn l Bs s hs J hJ hY W ((hW.cell (p := ⟨Bs, 0, none⟩) (by show Bs < _; omega)).trans hc0) ((hW.frozen (p := ⟨Bs, 0, none⟩) (by show Bs < _; omega)).trans hf0)
    ((hW.cell (p := ⟨Bs + 1, 0, none⟩) (by show Bs + 1 < _; omega)).trans hc1) ((hW.cell (p := ⟨Bs + 2, 0, none⟩) (by show Bs + 2 < _; omega)).trans hc2) h0
end Go.Proofs.YtjagaankkcbjmaaGreatDoor
