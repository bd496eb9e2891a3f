import Derived.Test.YtjagaankkcbjmaaGreatDoorQrA
import Derived.Test.YtjagaankkcbjmaaGreatDoorQr2
import Derived.Test.YtjagaankkcbjmaaGreatDoorQr1
import Derived.DeepKeys4
import Derived.WalkKit
import Derived.WalkLawsBesides
import Derived.Handy
import Derived.Laws.IdiomStrings
import Derived.Laws.AppendOwnNone
import Derived.Laws.MakeOwn
import Derived.Deep.QuietTactic
import Derived.Test.YtjagaankkcbjmaaGreatDoorProg
import Derived.Lib.LaidTab
import Derived.Deep.Light
import Derived.Outline
set_option maxHeartbeats 2000000
set_option maxRecDepth 20000
namespace Go.Proofs.YtjagaankkcbjmaaGreatDoor
open Go.RowKit Go.Shelf
theorem Row.atStrs {w : World} {v : Value} {l : List ByteArray} (h : Row w v (scells l)) (hp : 0 < l.length) :
  ∃ b off cap,v = .slice (some ⟨b,off,none⟩) l.length cap /\ l.length <= cap /\ cap <= maxLen /\ ∀ j (hj : j < l.length),w.cell? ⟨b,off + j,none⟩ = some (.string l[j]) := by
 obtain ⟨b,off,cap,hv,h1,h2,h3⟩ := h.at (by rw [scells_length]; exact hp)
 rw [scells_length] at hv h1
 refine ⟨b,off,cap,hv,h1,h2,fun j hj => ?_⟩
 rw [h3 j (by rw [scells_length]; exact hj)]
 simp [scells]
theorem Row.sliceStrs {w : World} {v : Value} {l : List ByteArray} (h : Row w v (scells l)) : ∃ a cap,v = .slice a l.length cap := by
 obtain ⟨a,cap,hv⟩ := h.slice
 rw [scells_length] at hv
 exact ⟨a,cap,hv⟩
theorem contains_any (w : World) (v : Value) (l : List ByteArray) (x : ByteArray) (h : Row w v (scells l)) (hl : l.length <= 1000000) :
  Calls Tryz.prog 340 #[v,.string x] w fun e w' => e = .returned (.bool (l.any fun y => txt y == txt x)) /\ w' = w := by
 have hspec : ∀ l : List ByteArray,Lib.containsS l x = l.any fun y => txt y == txt x := fun l => by
  rw [Bool.eq_iff_iff,Lib.containsS_iff,List.any_eq_true]
  constructor
  ·intro hx
   exact ⟨x,hx,by simp⟩
  ·rintro ⟨y,hy,e⟩
   rw [<- txt_inj (beq_iff_eq.1 e)]
   exact hy
 by_cases h0 : l.length = 0
 ·have : l = [] := List.eq_nil_of_length_eq_zero h0
  subst this
  obtain ⟨a,cap,rfl⟩ := h.sliceStrs
  exact Any.slices_Contains_string_empty Tryz.lays110 a cap x w
 ·obtain ⟨b,off,cap,rfl,h1,h2,h3⟩ := h.atStrs (by omega)
  have := Any.slices_Contains_string Tryz.lays110 b off l.length cap l x w (yyH _) (by omega) (fun j hj => by rw [h3 j hj]; simp [List.getD,hj])
  rw [List.take_length,hspec] at this
  exact this
theorem or1_any (w : World) (b : Nat) (v : Value) (l : List ByteArray) (x : ByteArray) (hb : w.cell? ⟨b,0,none⟩ = some v) (h : Row w v (scells l)) (hl : l.length <= 1000000) :
  Calls Tryz.prog 339 #[.string x,.pointer (some ⟨b,0,none⟩)] w fun e w' => e = .returned (.bool (lettersB (txt x) || l.any fun y => txt y == txt x)) /\ Below w.heap.size w w' := by
 have hlt := World.block_lt_of_cell? w _ hb
 cases hL : lettersB (txt x)
 all_goals go_enter Tryz.func339,Tryz.ntmps339
 all_goals go_wp2_with (first
  |(go_at_call 226; refine (plain_any x _).mono ?_; rintro e w1 ⟨rfl,hb1⟩; have hc1 := (hb1.cell (p := ⟨b,0,none⟩) hlt).trans hb; have hr1 := h.below hb1 (yyH _))
  |(go_at_call 340; refine (contains_any _ _ l x hr1 hl).mono ?_; rintro e w2 ⟨rfl,rfl⟩))
 all_goals go_ret
 ·exact ⟨ret_bool (by simp),by assumption⟩
 ·exact ⟨ret_bool (by simp),by assumption⟩
theorem strs_get (l : List Txt) (k : Nat) (h : k < (strs l).length) : txt (strs l)[k] = l[k]'(by rw [strs_length] at h; exact h) := by
 simp [strs,txt_str]
theorem all_take (may : Txt -> Bool) (l : List Txt) (k : Nat) (h : k < l.length) : (l.take (k + 1)).all may = ((l.take k).all may && may l[k]) := by
 rw [List.take_succ_eq_append_getElem h,List.all_append]
 simp
theorem all_bad (may : Txt -> Bool) (l : List Txt) (k : Nat) (h : k < l.length) (hb : may l[k] = false) : l.all may = false := by
 rw [Bool.eq_false_iff]
 intro ha
 rw [List.all_eq_true] at ha
 rw [ha _ (List.getElem_mem h)] at hb
 cases hb
def mayB (l : List ByteArray) (x : Txt) : Bool := lettersB x || l.any fun y => txt y == x
theorem isOf_any (s : ByteArray) (w : World) (b : Nat) (v : Value) (l : List ByteArray) (hs : s.size <= maxLen) (hb : w.cell? ⟨b,0,none⟩ = some v) (h : Row w v (scells l)) (hl : l.length <= 1000000) :
  Calls Tryz.prog 288 #[.string s,.func (.func 339) #[] #[.pointer (some ⟨b,0,none⟩)]] w fun e w' => e = .returned (.bool (ofB (mayB l) (txt s))) /\ Below w.heap.size w w' := by
 unfold maxLen at hs
 have hlt := World.block_lt_of_cell? w _ hb
 have hof : ofB (mayB l) (txt s) = (decide (s.size <= 60) && (wordsL (txt s)).all (mayB l) && decide ((wordsL (txt s)).length <= 12)) := by unfold ofB; rw [txt_length]
 by_cases h60 : s.size <= 60
 ·have hwl := wordsL_le (txt s)
  rw [txt_length] at hwl
  have hln : (strs (wordsL (txt s))).length = (wordsL (txt s)).length := strs_length _
  rw [hof,decide_eq_true h60,Bool.true_and]
  clear hof
  go_enter Tryz.func288,Tryz.ntmps288
  go_wp2_with (go_at_call 299; refine (words_any s _ (by omega)).mono ?_; rintro e w1 ⟨vw,rfl,hown,hb1⟩; have hrow := hown.row; obtain ⟨aw,cw,hvw⟩ := hrow.sliceStrs; rw [hln] at hvw; subst hvw)
  have hc1 := (hb1.cell (p := ⟨b,0,none⟩) hlt).trans hb
  have hr1 := h.below hb1 (yyH _)
  go_loopw [15] (fun i wr => ∃ k : Nat,k <= (wordsL (txt s)).length /\ i = .int .i64 k /\ ((wordsL (txt s)).take k).all (mayB l) = true /\ Below w1.heap.size w1 wr) (fun i _ => (wordsL (txt s)).length - (intOf i).toNat)
  case atStart => exact ⟨0,Nat.zero_le _,rfl,rfl,Below.refl _ _⟩
  case round =>
   obtain ⟨k,hk,rfl,ha,hB⟩ := hrel
   have hbl := World.block_lt_of_cell? w1 _ hc1
   have hc2 := (hB.cell (p := ⟨b,0,none⟩) hbl).trans hc1
   have hr2 := hr1.below hB (yyH _)
   have HA : Hid _ := ha
   clear ha
   by_cases hkl : k < (wordsL (txt s)).length
   ·obtain ⟨bw,ow,cw',hv,_,_,hcells⟩ := (hrow.below hB (yyH _)).atStrs (by rw [hln]; omega)
    rw [hln] at hv
    injection hv with hv1 _ hv3
    subst hv1 hv3
    have hcell := hcells k (by rw [hln]; exact hkl)
    have hg := strs_get (wordsL (txt s)) k (by rw [hln]; exact hkl)
    have hor := or1_any wr b v l ((strs (wordsL (txt s)))[k]'(by rw [hln]; exact hkl)) hc2 hr2 hl
    rw [hg] at hor
    have hmay : (lettersB (wordsL (txt s))[k] || l.any fun y => txt y == (wordsL (txt s))[k]) = mayB l (wordsL (txt s))[k] := rfl
    rw [hmay] at hor
    generalize (strs (wordsL (txt s)))[k]'(by rw [hln]; exact hkl) = x at hcell hor
    clear hmay hg hcells
    cases hm : mayB l (wordsL (txt s))[k]
    ·have HM : Hid _ := all_bad (mayB l) _ k hkl hm
     rw [hm] at hor
     go_wp2_with (go_at_call 339; refine hor.mono ?_; rintro e w3 ⟨rfl,hb3⟩)
     go_ret
     refine ⟨ret_bool (by rw [HM.out]; rfl),(hb1.trans (hB.mono hb1.size)).trans (hb3.mono (Nat.le_trans hb1.size hB.size))⟩
    ·have HM : Hid _ := all_take (mayB l) _ k hkl
     rw [hm] at hor
     go_wp2_with (go_at_call 339; refine hor.mono ?_; rintro e w3 ⟨rfl,hb3⟩)
     go_roundw
     case rel => exact ⟨k + 1,by omega,by go_num,by rw [HM.out,HA.out,hm]; rfl,hB.trans (hb3.mono hB.size)⟩
     case measure => simp [intOf]; omega
   ·have HT : Hid ((wordsL (txt s)).all (mayB l) = true) := by
     have := HA.out
     rw [List.take_of_length_le (by omega)] at this
     exact this
    go_wp2
    go_ret
    refine ⟨ret_bool ?_,hb1.trans (hB.mono hb1.size)⟩
    rw [HT.out]
    go_light
    rw [Bool.true_and,Bool.eq_iff_iff,decide_eq_true_eq,decide_eq_true_eq]
    omega
 ·rw [hof,decide_eq_false h60]
  go_enter Tryz.func288,Tryz.ntmps288
  go_wp2
  go_ret
  exact ⟨rfl,Below.refl _ _⟩
theorem mayB_nil : mayB [] = lettersB := by funext x; simp [mayB]
theorem mayB_wild : mayB [⟨#[42]⟩,⟨#[35]⟩] = fun x => lettersB x || wildB x := by
 funext x
 unfold mayB wildB
 congr 1
 show ([42] == x || ([35] == x || false)) = _
 rw [Bool.or_false]
 congr 1 <;> (rw [Bool.eq_iff_iff,beq_iff_eq,beq_iff_eq]; exact eq_comm)
theorem key_any (s : ByteArray) (w : World) (hs : s.size <= maxLen) :
  Calls Tryz.prog 241 #[.string s] w fun e w' => e = .returned (.bool (keyB (txt s))) /\ Below w.heap.size w w' := by
 unfold keyB
 rw [<- mayB_nil]
 go_enter Tryz.func241,Tryz.ntmps241
 go_wp2_with (first
  |(go_at_call 288; refine (isOf_any s _ w.heap.size (.slice none 0 0) [] hs (by rw [World.cell?_alloc_at _ _ _ _ (by simp)]; rfl) (.inl ⟨rfl,rfl⟩) (by simp)).mono ?_; rintro e w' ⟨rfl,hb⟩)
  |go_in)
 go_ret
 exact ⟨rfl,((Below.refl _ _).alloc (yyH _) _).trans (hb.mono (by simp))⟩
theorem pattern_any (s : ByteArray) (w : World) (hs : s.size <= maxLen) :
  Calls Tryz.prog 270 #[.string s] w fun e w' => e = .returned (.bool (patB (txt s))) /\ Below w.heap.size w w' := by
 unfold patB
 rw [<- mayB_wild]
 go_enter Tryz.func270,Tryz.ntmps270
 go_wp2_with (first
  |(go_at_call 288; refine (isOf_any s _ (w.heap.size + 1) (.slice (some ⟨w.heap.size,0,none⟩) 2 2) [⟨#[42]⟩,⟨#[35]⟩] hs (by rw [World.cell?_alloc_at _ _ _ _ (by simp)]; rfl) (Own1.row ((own1_new w w.heap.size 9 (scells [⟨#[42]⟩,⟨#[35]⟩]) (yyH _) (by simp [scells,maxLen])).alloc _)) (by simp)).mono ?_; rintro e w' ⟨rfl,hb⟩)
  |go_in)
 go_ret
 exact ⟨rfl,(((Below.refl _ _).alloc (yyH _) _).alloc (by simp) _).trans (hb.mono (by simp; omega))⟩
theorem all_any (s : ByteArray) (wild : Bool) (w : World) (hs : s.size <= maxLen) :
  Calls Tryz.prog 238 #[.string s,.bool wild] w fun e w' => e = .returned (.bool (ofB (fun x => lettersB x || (wild && wildB x)) (txt s))) /\ Below w.heap.size w w' := by
 unfold maxLen at hs
 have hof : ofB (fun x => lettersB x || (wild && wildB x)) (txt s) = (decide (s.size <= 60) && (wordsL (txt s)).all (fun x => lettersB x || (wild && wildB x)) && decide ((wordsL (txt s)).length <= 12)) := by unfold ofB; rw [txt_length]
 by_cases h60 : s.size <= 60
 ·have hwl := wordsL_le (txt s)
  rw [txt_length] at hwl
  have hln : (strs (wordsL (txt s))).length = (wordsL (txt s)).length := strs_length _
  rw [hof,decide_eq_true h60,Bool.true_and]
  clear hof
  go_enter Tryz.func238,Tryz.ntmps238
  go_wp2_with (go_at_call 240; refine (rwords_any s _ (by omega)).mono ?_; rintro e w1 ⟨vw,rfl,hown,hb1⟩; have hrow := hown.row; obtain ⟨aw,cw,hvw⟩ := hrow.sliceStrs; rw [hln] at hvw; subst hvw)
  go_loop [15] (fun i => ∃ k : Nat,k <= (wordsL (txt s)).length /\ i = .int .i64 k /\ ((wordsL (txt s)).take k).all (fun x => lettersB x || (wild && wildB x)) = true) (fun i => (wordsL (txt s)).length - (intOf i).toNat)
  case atStart => exact ⟨0,Nat.zero_le _,rfl,rfl⟩
  case round =>
   obtain ⟨k,hk,rfl,ha⟩ := hrel
   have HA : Hid _ := ha
   clear ha
   by_cases hkl : k < (wordsL (txt s)).length
   ·obtain ⟨bw,ow,cw',hv,_,_,hcells⟩ := hrow.atStrs (by rw [hln]; omega)
    rw [hln] at hv
    injection hv with hv1 _ hv3
    subst hv1 hv3
    have hcell := hcells k (by rw [hln]; exact hkl)
    have hg := strs_get (wordsL (txt s)) k (by rw [hln]; exact hkl)
    have hsx : ((strs (wordsL (txt s)))[k]'(by rw [hln]; exact hkl)).size <= maxLen := by
     rw [<- txt_length,hg]
     have := wordsL_len (txt s) _ (List.getElem_mem hkl)
     rw [txt_length] at this
     unfold maxLen
     omega
    generalize (strs (wordsL (txt s)))[k]'(by rw [hln]; exact hkl) = x at hcell hg hsx
    have HW : Hid ((lettersB (wordsL (txt s))[k] || (wild && wildB (wordsL (txt s))[k])) = (lettersB (txt x) || (wild && (x.toList == [42] || x.toList == [35])))) := by
     show _ = _
     rw [<- hg,ByteArray.toList_eq]
     rfl
    have HT : Hid _ := all_take (fun x => lettersB x || (wild && wildB x)) _ k hkl
    have HF : Hid _ := all_bad (fun x => lettersB x || (wild && wildB x)) _ k hkl
    clear hcells hg
    cases wild <;> cases hm : lettersB (txt x) <;> cases h42 : (x.toList == [42]) <;> cases h35 : (x.toList == [35])
    all_goals go_wp2_with (go_at_call 168; refine (letters_any x _ hsx).mono ?_; rintro e w3 ⟨rfl,rfl⟩)
    all_goals first
     |(go_round
       case rel => exact ⟨k + 1,by omega,by go_num,by rw [HT.out,HA.out,HW.out,hm,h42,h35]; rfl⟩
       case measure => simp [intOf]; omega)
     |(go_ret
       exact ⟨ret_bool (by rw [HF.out (by rw [HW.out,hm,h42,h35]; rfl)]; rfl),hb1⟩)
   ·have HT : Hid ((wordsL (txt s)).all (fun x => lettersB x || (wild && wildB x)) = true) := by
     have := HA.out
     rw [List.take_of_length_le (by omega)] at this
     exact this
    go_wp2
    go_ret
    refine ⟨ret_bool ?_,hb1⟩
    rw [HT.out]
    go_light
    rw [Bool.true_and,Bool.eq_iff_iff,decide_eq_true_eq,decide_eq_true_eq]
    omega
 ·rw [hof,decide_eq_false h60]
  go_enter Tryz.func238,Tryz.ntmps238
  go_wp2
  go_ret
  exact ⟨rfl,Below.refl _ _⟩
end Go.Proofs.YtjagaankkcbjmaaGreatDoor
namespace Go.Proofs.YtjagaankkcbjmaaGreatDoor
open Go.RowKit Go.Maps
abbrev Le := Int × Value
def rdS (v : Value) : Option (DataW Value × List MemPlace) := match v with
 | .slice a n c => some (.held (.slice a n c),[])
 |_ => none
theorem rdS_inv {v : Value} {z : DataW Value × List MemPlace} (h : rdS v = some z) : z = (.held v,[]) := by
 unfold rdS at h
 split at h
 ·injection h with h; exact h.symm
 ·cases h
def lkl (x : Le) : Lit := .int .i64 x.1
def ld (x : Le) : DataW Value := .held x.2
def I64 (n : Int) : Prop := -9223372036854775808 <= n /\ n <= 9223372036854775807
theorem iKeyed : Keyed Tryz.prog 3 := int_keyed Tryz.underlying3
theorem keyOf_int {n : Int} (h : I64 n) : keyOf Tryz.prog 3 (.int .i64 n) = some (.int .i64 n) := by
 refine keyOf_int_mk Tryz.underlying3 ?_
 unfold I64 at h
 simp [Lit.wf,IntKind.min,IntKind.max,IntKind.signed,IntKind.bits]
 omega
theorem int_inj {a b : Int} (h : Lit.int .i64 a = .int .i64 b) : a = b := by injection h
structure LL (l : List Le) : Prop where
 diff : Diff lkl l
 fit : ∀ x ∈ l,I64 x.1
theorem LL.keys {l : List Le} (h : LL l) : ∀ x ∈ l,KeysOf Tryz.prog 3 (lkl x) := fun x hx => ⟨_,keyOf_int (h.fit x hx)⟩
theorem LL.perm {l l' : List Le} (h : LL l) (hp : l'.Perm l) : LL l' := ⟨h.diff.perm hp,fun x hx => h.fit x (hp.mem_iff.1 hx)⟩
def LAt (w : World) (b : Nat) (l : List Le) : Prop := w.ownsMap Tryz.prog 3 rdS b l.length (DofG lkl ld l)
theorem LAt.same {w w' : World} {b : Nat} {l : List Le} (h : LAt w b l) (hs : w'.heap[b]? = w.heap[b]?) : LAt w' b l := by
 obtain ⟨es,clock,hb,r⟩ := h
 exact ⟨es,clock,by rw [hs]; exact hb,r⟩
theorem LAt.lt {w : World} {b : Nat} {l : List Le} (h : LAt w b l) : b < w.heap.size := World.ownsMap.lt h
theorem lAt_new (w : World) : LAt (w.alloc (.map #[] 0)) w.heap.size [] := World.ownsMap_made w _ _ _
theorem LAt.perm {w : World} {b n : Nat} {l l' : List Le} (h : w.ownsMap Tryz.prog 3 rdS b n (DofG lkl ld l')) (hl : LL l) (hp : l'.Perm l) : LAt w b l := by
 rw [DofG_perm iKeyed.one hl.keys hl.diff hp] at h
 exact ownsMapG_fit h
theorem LAt.permTo {w : World} {b : Nat} {l l' : List Le} (h : LAt w b l') (hl : LL l) (hp : l'.Perm l) : LAt w b l := LAt.perm h hl hp
def findL (l : List Le) (n : Int) : Option Le := l.find? fun x => decide (x.1 = n)
theorem findL_some {l : List Le} {n : Int} {x : Le} (h : findL l n = some x) : x ∈ l /\ x.1 = n := ⟨List.mem_of_find?_eq_some h,by simpa using List.find?_some h⟩
theorem findL_none {l : List Le} {n : Int} (h : findL l n = none) : ∀ x ∈ l,x.1 ≠ n := fun x hx => by simpa using List.find?_eq_none.1 h x hx
theorem LAt.look {w : World} {b : Nat} {l : List Le} (h : LAt w b l) (hl : LL l) {n : Int} (hn : I64 n) :
  (Instr.lookup 94 (.map (some b)) (.int .i64 n) false).run Tryz.prog w = .ok (((findL l n).map Prod.snd).getD (.slice none 0 0)) w := by
 obtain ⟨v,ps,h1,h2⟩ := World.ownsMap.lookup h iKeyed Tryz.underlying94 (Tryz.zeroValue67 w) (zd := .held (.slice none 0 0)) (zp := []) rfl (keyOf_int hn)
 have hx := rdS_inv h2
 rw [h1]
 cases hf : findL l n with
 |none =>
  have hne : ∀ y ∈ l,lkl y ≠ .int .i64 n := fun y hy e => findL_none hf y hy (int_inj e)
  rw [atKey_none hne] at hx
  simp at hx
  rw [<- hx.1]
  rfl
 |some y =>
  obtain ⟨hy,rfl⟩ := findL_some hf
  rw [show Lit.int .i64 y.1 = lkl y from rfl,atKey_mem iKeyed.one hl.keys hl.diff hy] at hx
  simp [ld] at hx
  rw [<- hx.1]
  rfl
theorem LAt.put {w : World} {b : Nat} {l : List Le} (h : LAt w b l) (hl : LL l) {n : Int} (hn : I64 n) (a : Option Addr) (m c : Nat) (hlen : l.length <= 1000000000) :
  ∃ w',(Instr.mapUpdate 94 (.map (some b)) (.int .i64 n) (.slice a m c)).run Tryz.prog w = .ok () w' /\ LAt w' b ((n,.slice a m c) :: l.filter fun y => !decide (y.1 = n)) /\ w.grownBy w' (some b) := by
 obtain ⟨w',h1,h2,h3⟩ := World.ownsMap.update h iKeyed Tryz.underlying94 (by unfold maxLen; omega) (keyOf_int hn) (show rdS (.slice a m c) = some (.held (.slice a m c),[]) from rfl)
 refine ⟨w',h1,?_,h3⟩
 have e : (DofG lkl ld l).put (.int .i64 n) (.held (.slice a m c)) = DofG lkl ld ((n,.slice a m c) :: l.filter fun y => !decide (y.1 = n)) := by
  rw [show Lit.int .i64 n = lkl (n,Value.slice a m c) from rfl,show DataW.held (Value.slice a m c) = ld (n,Value.slice a m c) from rfl,put_DofG iKeyed.one hl.keys hl.diff (x := (n,Value.slice a m c)) ⟨_,keyOf_int hn⟩]
  congr 2
  refine List.filter_congr fun y hy => ?_
  congr 1
  show (lkl y).sameKey (.int .i64 n) = decide (y.1 = n)
  rw [Bool.eq_iff_iff,sameKey_iff iKeyed.one ⟨_,keyOf_int hn⟩,decide_eq_true_iff]
  exact ⟨fun e => int_inj e,fun e => by rw [<- e]; rfl⟩
 rw [e] at h2
 exact ownsMapG_fit h2
theorem LAt.del {w : World} {b : Nat} {l : List Le} (h : LAt w b l) (hl : LL l) {n : Int} (hn : I64 n) :
  ∃ f : TypeId -> World,∀ ty,(Builtin.delete_ #[94,3] ty #[.map (some b),.int .i64 n]).run Tryz.prog w = .ok (.tuple #[]) (f ty) /\ LAt (f ty) b (l.filter fun y => !decide (y.1 = n)) /\ w.grownBy (f ty) (some b) := by
 have each : ∀ ty : TypeId,∃ w',(Builtin.delete_ #[94,3] ty #[.map (some b),.int .i64 n]).run Tryz.prog w = .ok (.tuple #[]) w' /\ LAt w' b (l.filter fun y => !decide (y.1 = n)) /\ w.grownBy w' (some b) := fun ty => by
  obtain ⟨w',h1,h2,h3⟩ := World.ownsMap.drop h iKeyed Tryz.underlying94 (keyOf_int hn) ty
  refine ⟨w',h1,?_,h3.grown⟩
  rw [del_DofG iKeyed.one hl.keys hl.diff] at h2
  have e : (l.filter fun y => !(lkl y).sameKey (.int .i64 n)) = l.filter fun y => !decide (y.1 = n) := List.filter_congr fun y hy => by
   congr 1
   rw [Bool.eq_iff_iff,sameKey_iff iKeyed.one ⟨_,keyOf_int hn⟩,decide_eq_true_iff]
   exact ⟨fun e => int_inj e,fun e => by rw [<- e]; rfl⟩
  rw [e] at h2
  exact ownsMapG_fit h2
 obtain ⟨f,hf⟩ := Classical.axiomOfChoice each
 exact ⟨f,hf⟩
end Go.Proofs.YtjagaankkcbjmaaGreatDoor
namespace Go.Proofs.YtjagaankkcbjmaaGreatDoor
open Go.RowKit
def bcells (bs : List UInt8) : List Value := bs.map fun b => .int .u8 (b.toNat : Int)
def Holds (w : World) (v : Value) (bs : List UInt8) : Prop :=
 (v = .slice none 0 0 /\ bs = []) \/
 ∃ a cap,v = .slice (some a) bs.length cap /\ bs.length <= cap /\ cap <= maxLen /\ ∀ j u,(bcells bs)[j]? = some u -> w.cell? (a.add j) = some u
theorem Addr.block_add (a : Addr) (j : Nat) : (a.add j).block = a.block := by unfold Addr.add; split <;> rfl
theorem holds_of_owns {w : World} {base : Nat} {e : TypeId} {v : Value} {bs : List UInt8} (h : w.ownsRow base e 1 v bs.length (bcells bs)) : Holds w v bs := by
 have h' := h
 rcases h.2 with ⟨rfl,hn⟩ | ⟨g,cap,cur,rfl,_,_,hnc,hcm,_,_⟩
 ·exact .inl ⟨rfl,List.eq_nil_of_length_eq_zero hn⟩
 ·exact .inr ⟨⟨g,0,none⟩,cap,rfl,hnc,hcm,fun j u hj => h'.cells (g := g) rfl j u hj⟩
structure U8 (P : Program) (t e : TypeId) : Prop where
 ht : P.underlying t = some (.slice e)
 he : P.underlying e = some (.int .u8)
 info : ∃ i,P.info? e = some i /\ i.zero = some (.int .u8 0) /\ i.size = 1 /\ i.bytes = 1
def Owns (w : World) (base : Nat) (e : TypeId) (v : Value) (bs : List UInt8) : Prop := w.ownsRow base e 1 v bs.length (bcells bs)
theorem Owns.holds {w : World} {base : Nat} {e : TypeId} {v : Value} {bs : List UInt8} (h : Owns w base e v bs) : Holds w v bs := holds_of_owns h
structure Moved (w w' : World) (F F' : Nat -> Prop) : Prop where
 os : w'.os = w.os
 tape : w'.tape = w.tape
 output : w'.output = w.output
 size : w.heap.size <= w'.heap.size
 block : ∀ k,k < w.heap.size -> ¬ F k -> w'.heap[k]? = w.heap[k]?
 sub : ∀ k,F' k -> F k \/ w.heap.size <= k
theorem Moved.refl (w : World) (F : Nat -> Prop) : Moved w w F F := ⟨rfl,rfl,rfl,yyH _,fun _ _ _ => rfl,fun _ h => .inl h⟩
theorem Moved.trans {a b c : World} {F G H : Nat -> Prop} (h : Moved a b F G) (k : Moved b c G H) : Moved a c F H := by
 refine ⟨k.os.trans h.os,k.tape.trans h.tape,k.output.trans h.output,Nat.le_trans h.size k.size,fun i hi hn => ?_,fun i hi => ?_⟩
 ·have h1 : ¬ G i := fun hg => (h.sub i hg).elim hn (by omega)
  exact (k.block i (Nat.lt_of_lt_of_le hi h.size) h1).trans (h.block i hi hn)
 ·rcases k.sub i hi with hg | hg
  ·exact h.sub i hg
  ·exact .inr (Nat.le_trans h.size hg)
theorem Moved.of_below {w w' : World} {F : Nat -> Prop} (h : Below w.heap.size w w') : Moved w w' F F := ⟨h.os,h.tape,h.output,h.size,fun k hk _ => h.block k hk,fun _ h => .inl h⟩
theorem Moved.weak {w w' : World} {F F' G : Nat -> Prop} (h : Moved w w' F F') (hs : ∀ k,F k -> G k) : Moved w w' G F' :=
 ⟨h.os,h.tape,h.output,h.size,fun k hk hn => h.block k hk (fun hf => hn (hs k hf)),fun k hk => (h.sub k hk).imp (hs k) id⟩
theorem Moved.below {w0 w w' : World} {F F' : Nat -> Prop} {base : Nat} (h : Moved w w' F F') (hF : ∀ k,F k -> base <= k) (h0 : Below base w0 w) (hb : base <= w.heap.size) : Below base w0 w' :=
 h0.trans ⟨h.os,h.tape,h.output,h.size,fun k hk => h.block k (by omega) (fun hf => by have := hF k hf; omega)⟩
theorem Moved.from {w w' : World} {F F' : Nat -> Prop} {base : Nat} (h : Moved w w' F F') (hF : ∀ k,F k -> base <= k) (hb : base <= w.heap.size) : ∀ k,F' k -> base <= k := fun k hk => (h.sub k hk).elim (hF k) (fun h => by omega)
theorem Moved.apart {w w' : World} {F F' G : Nat -> Prop} (h : Moved w w' F F') (hG : ∀ k,G k -> k < w.heap.size) (ha : ∀ k,F k -> ¬ G k) : ∀ k,F' k -> ¬ G k := fun k hk hg => (h.sub k hk).elim (fun hf => ha k hf hg) (fun h => by have := hG k hg; omega)
theorem run_load_cells {P : Program} (w : World) (g : Nat) (ty : TypeId) (cs : List Value) (d : TypeDesc) (hc : ∀ j u,cs[j]? = some u -> w.cell? ⟨g,j,none⟩ = some u)
  (hu : P.underlying ty = some d) (hd : (match d with | .struct _ | .array _ _ => true | _ => false) = true) (hi : (P.info? ty).map (·.size) = some cs.length) :
  (loadVar ty ⟨g,0,none⟩).run P w = .ok (.agg cs.toArray) w := by
 have hl : (loadCells ⟨g,0,none⟩ cs.length).run P w = .ok cs.toArray w :=
  run_loadCells_list (P := P) w ⟨g,0,none⟩ cs (fun j v hv => by
   have hadd : (⟨g,0,none⟩ : Addr).add j = ⟨g,j,none⟩ := by unfold Addr.add; split <;> simp_all
   rw [hadd]
   exact hc j v hv)
 cases hq : P.info? ty with
 |none => simp [hq] at hi
 |some i =>
  have hs : i.size = cs.length := by simpa [hq] using hi
  have hagg : (isAgg ty).run P w = .ok true w := by
   unfold isAgg
   rw [Sem.run_bind,run_underlying hu w]
   cases d <;> simp_all
  simp [loadVar,Sem.run_bind,hagg,sizeOf,typeInfo,hq,hs,hl]
theorem wpList_load_cells {P : Program} {ops : Array Oper} {rest : List Oper} {o : Oper} {a : Act} {w : World} {Q : Exit -> Act -> World -> Prop} (hgd : o.guard = none) (ty : TypeId) (x : Operand) (ho : o.op = .load ty x)
  (g : Nat) (hx : a.eval x = .pointer (some ⟨g,0,none⟩)) (cs : List Value) (d : TypeDesc) (hc : ∀ j u,cs[j]? = some u -> w.cell? ⟨g,j,none⟩ = some u)
  (hu : P.underlying ty = some d) (hd : (match d with | .struct _ | .array _ _ => true | _ => false) = true) (hi : (P.info? ty).map (·.size) = some cs.length)
  (h : wpList P ops Q rest (a.put o.dst (.agg cs.toArray)) w) : wpList P ops Q (o :: rest) a w :=
 wpList_plain hgd fun _ hK => by
  unfold Oper.wp execOp
  simp only [ho,hx,Instr.loadAt,Instr.sureAddr,Sem.run_bind,Sem.run_pure,Result.andThen_ok,run_load_cells w g ty cs d hc hu hd hi]
  exact hK _ _ h
def goodB (n : Int) : Bool := n == 1 || n == 2 || n == 4 || n == 8
def cutI (v n : Int) : Int := if n = 1 then v % 256 else if n = 2 then v % 65536 else if n = 4 then v % 4294967296 else if n = 8 then v else 0
def signedI (v n : Int) : Int := if n = 1 then (v + 128) % 256 - 128 else if n = 2 then (v + 32768) % 65536 - 32768 else if n = 4 then (v + 2147483648) % 4294967296 - 2147483648 else if n = 8 then (v + 9223372036854775808) % 18446744073709551616 - 9223372036854775808 else 0
def fitsB (n k : Int) : Bool := goodB k && (signedI (n % 18446744073709551616) k == n)
def farI (a b : Int) : Int := (b - a + 32768) % 65536 - 32768
def moveI (a n : Int) : Int := (a + n) % 65536
def lessB (a b : Int) : Bool := decide (0 < farI a b)
def putL (n v : Nat) : List UInt8 := (List.range n).map fun i => UInt8.ofNat (v >>> (8 * (n - 1 - i)))
def putI (n : Int) (v : Nat) : List UInt8 := if goodB n then putL n.toNat v else []
def getN (bs : List UInt8) : Nat := bs.foldl (fun a b => a * 256 + b.toNat) 0
end Go.Proofs.YtjagaankkcbjmaaGreatDoor
namespace Go.Proofs.YtjagaankkcbjmaaGreatDoor
open Go.RowKit Go.Shelf
theorem standsFor_any (x p : ByteArray) (w : World) :
  Calls Tryz.prog 368 #[.string x,.string p] w fun e w' => e = .returned (.bool (sfB (txt x) (txt p))) /\ w' = w := by
 have h1 : (x.toList == p.toList) = (txt x == txt p) := by rw [ByteArray.toList_eq,ByteArray.toList_eq]; rfl
 have h2 : (p.toList == [42]) = (txt p == [42]) := by rw [ByteArray.toList_eq]; rfl
 have h3 : (x.toList == [35]) = (txt x == [35]) := by rw [ByteArray.toList_eq]; rfl
 have HS : Hid (sfB (txt x) (txt p) = ((x.toList == p.toList) || ((p.toList == [42]) && !(x.toList == [35])))) := by
  show _ = _
  rw [h1,h2,h3]; rfl
 clear h1 h2 h3
 cases h1 : (x.toList == p.toList) <;> cases h2 : (p.toList == [42]) <;> cases h3 : (x.toList == [35])
 all_goals go_enter Tryz.func368,Tryz.ntmps368
 all_goals go_wp2
 all_goals go_ret
 all_goals exact ⟨ret_bool (by rw [HS.out,h1,h2,h3]; rfl),rfl⟩
structure Half (wr : World) (g L : Nat) (F : Nat -> Bool) (k : Nat) : Prop where
 done : ∀ j,j < k -> wr.cell? ⟨g,j,none⟩ = some (.bool (F j))
 is : ∀ j,j < L -> (wr.cell? ⟨g,j,none⟩).isSome = true /\ wr.frozen? ⟨g,j,none⟩ = false
theorem Half.set {wr : World} {g L : Nat} {F : Nat -> Bool} {k : Nat} (h : Half wr g L F k) (hk : k < L) : Half (wr.setCell ⟨g,k,none⟩ (.bool (F k))) g L F (k + 1) := by
 have hs := World.cell?_setCell_same' wr ⟨g,k,none⟩ (.bool (F k)) (h.is k hk).1
 have ho : ∀ j,j ≠ k -> (wr.setCell ⟨g,k,none⟩ (.bool (F k))).cell? ⟨g,j,none⟩ = wr.cell? ⟨g,j,none⟩ := fun j hj => by
  rw [World.cell?_setCell_other]; intro e; cases e; exact hj rfl
 refine ⟨fun j hj => ?_,fun j hj => ⟨?_,by rw [World.frozen?_setCell]; exact (h.is j hj).2⟩⟩
 ·by_cases e : j = k
  ·subst e; exact hs
  ·rw [ho j e]; exact h.done j (by omega)
 ·by_cases e : j = k
  ·subst e; rw [hs]; rfl
  ·rw [ho j e]; exact (h.is j hj).1
theorem Half.step {wr : World} {g L : Nat} {F : Nat -> Bool} {k : Nat} (h : Half wr g L F k) (hk : k < L) (b : Bool) (hb : F k = b) : Half (wr.setCell ⟨g,k,none⟩ (.bool b)) g L F (k + 1) := by
 subst hb
 exact h.set hk
def Reach (w : World) (v : Value) (ps K : List Txt) : Prop := Row w v ((List.range (K.length + 1)).map fun j => .bool (fitsL ps (K.take j)))
theorem Reach.at {w : World} {v : Value} {ps K : List Txt} (h : Reach w v ps K) : ∃ b off cap,v = .slice (some ⟨b,off,none⟩) (K.length + 1) cap /\ cap <= maxLen /\ ∀ j,j <= K.length -> w.cell? ⟨b,off + j,none⟩ = some (.bool (fitsL ps (K.take j))) := by
 obtain ⟨b,off,cap,hv,_,h2,h3⟩ := Row.at h (by simp)
 simp only [List.length_map,List.length_range] at hv h3
 refine ⟨b,off,cap,hv,h2,fun j hj => ?_⟩
 rw [h3 j (by omega)]
 simp
theorem elemB : Elem Tryz.prog 375 4 (.bool false) 1 :=
 ⟨Tryz.underlying375,by
  have h : (Tryz.prog.info? 4).map (fun i => (i.zero,i.size,i.bytes)) = some (some (.bool false),1,1) := by kernel_rfl
  cases hi : Tryz.prog.info? 4 with
  |none => rw [hi] at h; cases h
  |some i => rw [hi] at h; simp at h; exact ⟨i,rfl,h.1,h.2.1,h.2.2⟩,rfl⟩
theorem half_new (w : World) (C : Array Value) (e : TypeId) (L : Nat) (F : Nat -> Bool) (hC : C.size = L) : Half (w.alloc (.cells C e)) w.heap.size L F 0 := by
 refine ⟨fun j hj => by omega,fun j hj => ?_⟩
 have hh : (w.alloc (.cells C e)).heap[w.heap.size]? = some (.cells C e) := World.alloc_heap_new w _
 constructor
 ·simp only [World.cell?,hh]
  simp [hC,hj]
 ·simp only [World.frozen?,hh]
  simp
theorem further_any (w : World) (vr vw : Value) (ps : List Txt) (K : List ByteArray) (p : ByteArray) (hr : Reach w vr ps (K.map txt)) (hw : Row w vw (scells K)) (hK : K.length <= 1000000) :
  Calls Tryz.prog 348 #[vr,vw,.string p] w fun e w' => ∃ v,e = .returned v /\ Reach w' v (ps ++ [txt p]) (K.map txt) /\ Below w.heap.size w w' := by
 obtain ⟨br,fr,cr,rfl,_,hcr⟩ := hr.at
 obtain ⟨aw,cw,rfl⟩ := hw.sliceStrs
 rw [List.length_map] at *
 obtain ⟨C,hmk,hC⟩ := run_make1 (P := Tryz.prog) w 375 4 _ 1 elemB (K.length + 1) (K.length + 1) (yyH _) (by omega) (by omega)
 have hmk' : (Instr.makeSlice 375 (.int .i64 ((K.length : Int) + 1)) (.int .i64 ((K.length : Int) + 1))).run Tryz.prog w = .ok (.slice (some ⟨w.heap.size,0,none⟩) (K.length + 1) (K.length + 1)) (w.alloc (.cells C 4)) := by
  have e : ((K.length : Int) + 1) = ((K.length + 1 : Nat) : Int) := by omega
  rw [e]
  exact hmk
 have hH := half_new w C 4 (K.length + 1) (fun j => fitsL (ps ++ [txt p]) ((K.map txt).take j)) hC
 have hB0 : Below w.heap.size w (w.alloc (.cells C 4)) := (Below.refl _ w).alloc (yyH _) _
 have hpe : (p.toList == [35]) = (txt p == [35]) := by rw [ByteArray.toList_eq]; rfl
 go_enter Tryz.func348,Tryz.ntmps348
 go_wp2
 go_loopw [14] (fun i wr => ∃ k : Nat,k <= K.length + 1 /\ i = .int .i64 k /\ Half wr w.heap.size (K.length + 1) (fun j => fitsL (ps ++ [txt p]) ((K.map txt).take j)) k /\ Below w.heap.size w wr) (fun i _ => K.length + 1 - (intOf i).toNat)
 case atStart => exact ⟨0,Nat.zero_le _,rfl,hH,hB0⟩
 case round =>
  obtain ⟨k,hk,rfl,hh,hB⟩ := hrel
  by_cases hkl : k < K.length + 1
  ·obtain ⟨u,hu⟩ := Option.isSome_iff_exists.1 (hh.is k hkl).1
   have hfz := (hh.is k hkl).2
   have hrc : ∀ j,j <= K.length -> wr.cell? ⟨br,fr + j,none⟩ = some (.bool (fitsL ps ((K.map txt).take j))) := fun j hj => by
    have := hcr j hj
    rw [hB.cell (p := ⟨br,fr + j,none⟩) (World.block_lt_of_cell? w _ this)]
    exact this
   have hB2 := fun v => hB.setCell (p := ⟨w.heap.size,k,none⟩) (yyH _) v
   have hck := hrc k (by omega)
   by_cases hp : txt p = [35]
   ·have hsn := fits_snoc_many ps (K.map txt) k (by rw [List.length_map]; omega)
    rw [<- hp] at hsn
    rw [hp] at hpe
    have hpe' : (p.toList == [35]) = true := hpe
    clear hpe hcr
    by_cases hk0 : 0 < k
    ·obtain ⟨m,rfl⟩ : ∃ m,k = m + 1 := ⟨k - 1,by omega⟩
     have hpv := hh.done m (by omega)
     rw [show m + 1 - 1 = m by omega,decide_eq_true hk0,Bool.true_and] at hsn
     have HS : Hid _ := hsn
     clear hsn hrc
     cases hR : fitsL ps ((K.map txt).take (m + 1)) <;> rw [hR] at hck <;> cases hN : fitsL (ps ++ [txt p]) ((K.map txt).take m) <;> rw [hN] at hpv
     all_goals go_wp2
     all_goals go_roundw
     all_goals first
      |exact ⟨m + 1 + 1,by omega,by go_num,hh.step hkl _ (by rw [HS.out,hR,hN]; rfl),hB2 _⟩
      |(simp [intOf]; omega)
    ·have hk0' : ¬ ((0 : Int) < (k : Int)) := by omega
     rw [decide_eq_false hk0,Bool.false_and,Bool.or_false] at hsn
     have HS : Hid _ := hsn
     clear hsn hrc
     cases hR : fitsL ps ((K.map txt).take k) <;> rw [hR] at hck
     all_goals go_wp2
     all_goals go_roundw
     all_goals first
      |exact ⟨k + 1,by omega,by go_num,hh.step hkl _ (by rw [HS.out,hR]),hB2 _⟩
      |(simp [intOf]; omega)
   ·have hsn := fits_snoc_one ps (K.map txt) (txt p) hp k (by rw [List.length_map]; omega)
    have hpe' : (p.toList == [35]) = false := by rw [hpe]; simpa using hp
    clear hpe hcr hck
    by_cases hk0 : 0 < k
    ·obtain ⟨m,rfl⟩ : ∃ m,k = m + 1 := ⟨k - 1,by omega⟩
     have hck := hrc m (by omega)
     obtain ⟨bw,ow,cw',hv,_,_,hcw⟩ := (hw.below hB (yyH _)).atStrs (by omega)
     injection hv with hv1 _ hv3
     subst hv1 hv3
     have hcm := hcw m (by omega)
     rw [show m + 1 - 1 = m by omega,decide_eq_true hk0,Bool.true_and,show (K.map txt).getD m [] = txt (K[m]'(by omega)) from by simp [List.getD,show m < K.length by omega]] at hsn
     have HS : Hid _ := hsn
     clear hsn hrc hcw
     cases hR : fitsL ps ((K.map txt).take m) <;> rw [hR] at hck
     all_goals go_wp2_with (go_at_call 368; refine (standsFor_any _ _ _).mono ?_; rintro e w3 ⟨rfl,rfl⟩)
     all_goals go_roundw
     all_goals first
      |exact ⟨m + 1 + 1,by omega,by go_num,hh.step hkl _ (by rw [HS.out,hR]; rfl),hB2 _⟩
      |(simp [intOf]; omega)
    ·have hk0' : ¬ ((0 : Int) < (k : Int)) := by omega
     rw [decide_eq_false hk0,Bool.false_and,Bool.false_and] at hsn
     have HS : Hid _ := hsn
     clear hsn hrc
     go_wp2
     go_roundw
     case rel => exact ⟨k + 1,by omega,by go_num,hh.step hkl _ HS.out,hB2 _⟩
     case measure => simp [intOf]; omega
  ·go_wp2
   go_ret
   refine ⟨_,rfl,.inr ⟨⟨w.heap.size,0,none⟩,K.length + 1,by simp,by simp,by unfold maxLen; omega,fun j u hj => ?_⟩,hB⟩
   rw [List.length_map] at hj
   have hj' : j < K.length + 1 := by
    have := (List.getElem?_eq_some_iff.1 hj).1
    simpa using this
   rw [Go.WideShapes.add_plain,Nat.zero_add,hh.done j (by omega),<- hj]
   simp [hj']
end Go.Proofs.YtjagaankkcbjmaaGreatDoor
