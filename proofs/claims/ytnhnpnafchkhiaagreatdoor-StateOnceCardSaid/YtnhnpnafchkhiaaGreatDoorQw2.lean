import Derived.Test.YtnhnpnafchkhiaaGreatDoorQw1
import Derived.Laws.DeepStrings4
import Derived.Laws.Concat
import Derived.Test.YtnhnpnafchkhiaaGreatDoorQw0
import Derived.DeepKeys4
import Derived.WalkKit
import Derived.WalkLawsBesides
import Derived.Handy
import Derived.Laws.IdiomStrings
import Derived.Laws.AppendOwnNone
import Derived.Laws.MakeOwn
import Derived.Deep.QuietTactic
import Derived.Shelf.SlSorted.Search
import Derived.Shelf.SlMaps.Clone
import Derived.Test.YtnhnpnafchkhiaaGreatDoorProg
import Derived.Shelf.SlSortCmp.WholeK
import Derived.Shelf.SlSortCmp.NoneTotal
import Derived.Shelf.Small.Strs
set_option maxHeartbeats 1000000
set_option maxRecDepth 20000
namespace Go.Proofs.YtnhnpnafchkhiaaGreatDoor
open Go.RowKit Go.Shelf
theorem strs_append (a b:List Txt):strs (a++b)=strs a++strs b:=by simp [strs]
theorem strs_length (a:List Txt):(strs a).length=a.length:=by simp [strs]
theorem run_sub {P:Program} (W:World) (t:TypeId) (h:P.underlying t=some .string) (s:ByteArray) (i j:Nat) (hij:i<=j) (hj:j<=s.size) (i' j':Int) (hi':i'=i) (hj':j'=j) :
  (Instr.slice t (.string s) (some (.int .i64 i')) (some (.int .i64 j')) none).run P W=.ok (.string (s.extract i j)) W:=by
 subst hi' hj'
 rw [run_slice_string_if W t s .i64 .i64 i j h,if_pos (by omega),if_pos (by omega)]
 simp
theorem run_plus {P:Program} (W:World) (a b:ByteArray) (ha:a.size<=8388608) (hb:b.size<=8388608) :
  (Op.stringOp .add a b).run P W=.ok (.string (str (txt a++txt b))) W:=by
 rw [run_string_add W a b (by omega) (by omega)]
 congr 2
theorem rwords_in (s:ByteArray) (w:World) (hs:s.size<=1000000) (hs0:s≠⟨#[]⟩) :
  Calls Tryz.prog 163 #[.string s] w fun e W' => ∃ v,e=.returned v/\Own1 W' w.heap.size 9 v (scells (strs (pieces (txt s))))/\Below w.heap.size w W':=by
 have hne:s.toList.isEmpty=false:=by
  rw [ByteArray.toList_eq]
  cases h:s.data.toList with
  |nil=>exact absurd (txt_inj (show txt s=txt ⟨#[]⟩ from h)) hs0
  |cons b l=>rfl
 have hpc:=pieces_cut (txt s)
 go_enter Tryz.func163,Tryz.ntmps163
 go_wp2
 go_loopw [3,4,5] (fun l p i wr => ∃ k:Nat,k<=s.size/\i=.int .i64 k/\p=.string (str (cutP ((txt s).take k)).2)/\Own1 wr w.heap.size 9 l (scells (strs (cutP ((txt s).take k)).1))/\Below w.heap.size w wr) (fun _ _ i _=>s.size-(intOf i).toNat)
 case atStart=>exact ⟨0,Nat.zero_le _,rfl,rfl,own1_nil _ _ _,Below.refl _ _⟩
 case round =>
  obtain ⟨k,hk,rfl,rfl,hown,hB⟩:=hrel
  have hln:=cutP_len ((txt s).take k)
  have hlk:((txt s).take k).length<=k:=List.length_take_le _ _
  have hsl:=hB.size
  by_cases hlt:k<s.size
  ·have hsn:=txt_snoc s k hlt
   by_cases hd:s[k]=46
   ·have hcd:=cutP_dot ((txt s).take k)
    rw [hd] at hsn
    rw [<- hsn] at hcd
    have HC:Hid _:=hcd
    clear hcd hsn
    go_wp2_with (at_builtin; refine wpList_append_row rfl _ _ 52 9 (.string ⟨#[]⟩) 16 elemS rfl w.heap.size _ _ (scells (strs (cutP ((txt s).take k)).1)) [.string (str (cutP ((txt s).take k)).2)] rfl rfl (hown.alloc _) (row_one _ _ _) (by simp [Value.oneCell']) (by simp [scells,strs]; omega) (by simp [scells,strs]; omega) (by simp; omega) ?_; intro v' w1 hown' hb1 hs1)
    go_roundw
    case rel =>
     refine ⟨k+1,by omega,by go_num,by rw [HC.out]; rfl,?_,((hB.alloc hsl _).trans (hb1.mono (by omega)))⟩
     rw [HC.out,strs_append,scells_append]
     exact hown'
    case measure=>simp [intOf]; omega
   ·have hd' : ¬ ((s[k].toNat:Int)=46):=fun e=>hd (UInt8.toNat_inj.1 (show s[k].toNat=46 by omega))
    have hcd:=cutP_snoc ((txt s).take k) s[k] hd
    rw [<- hsn] at hcd
    have HC:Hid _:=hcd
    clear hcd hsn
    have hsub : ∀ W,(Instr.slice 9 (.string s) (some (.int .i64 (k:Int))) (some (.int .i64 ((k:Int)+1))) none).run Tryz.prog W=.ok (.string (s.extract k (k+1))) W:=fun W=>run_sub W 9 Tryz.underlying9 s k (k+1) (by omega) (by omega) _ _ rfl (by omega)
    have hadd : ∀ W,(Op.stringOp .add (str (cutP ((txt s).take k)).2) (s.extract k (k+1))).run Tryz.prog W=.ok (.string (str ((cutP ((txt s).take k)).2++[s[k]]))) W:=fun W=>by
     rw [run_plus W _ _ (by rw [<- txt_length,txt_str]; omega) (by rw [ByteArray.size_extract]; omega),txt_str,txt_extract]
     congr 4
     rw [show k+1-k=1 by omega,List.drop_eq_getElem_cons (by rw [txt_length]; omega),List.take_succ_cons,List.take_zero]
     rfl
    go_wp2
    go_roundw
    case rel =>
     refine ⟨k+1,by omega,by go_num,?_,by rw [HC.out]; exact hown,hB⟩
     rw [HC.out]
    case measure=>simp [intOf]; omega
  ·have htk:(txt s).take k=txt s:=List.take_of_length_le (by rw [txt_length]; omega)
   rw [htk] at hown hln ⊢
   clear htk hlk
   rw [txt_length] at hln
   have HP:Hid _:=hpc
   clear hpc
   go_wp2_with (at_builtin; refine wpList_append_row rfl _ _ 52 9 (.string ⟨#[]⟩) 16 elemS rfl w.heap.size _ _ (scells (strs (cutP (txt s)).1)) [.string (str (cutP (txt s)).2)] rfl rfl (hown.alloc _) (row_one _ _ _) (by simp [Value.oneCell']) (by simp [scells,strs]; omega) (by simp [scells,strs]; omega) (by simp; omega) ?_; intro v' w1 hown' hb1 hs1)
   go_ret
   refine ⟨_,rfl,?_,(hB.alloc hsl _).trans hb1⟩
   rw [HP.out,strs_append,scells_append]
   exact hown'
theorem rwords_any (s:ByteArray) (w:World) (hs:s.size<=1000000) :
  Calls Tryz.prog 163 #[.string s] w fun e W' => ∃ v,e=.returned v/\Own1 W' w.heap.size 9 v (scells (strs (wordsL (txt s))))/\Below w.heap.size w W':=by
 by_cases h:s=⟨#[]⟩
 ·subst h
  go_enter Tryz.func163,Tryz.ntmps163
  go_wp2
  go_ret
  exact ⟨_,rfl,own1_nil _ _ _,Below.refl _ _⟩
 ·rw [wordsL_txt s h]
  exact rwords_in s w hs h
theorem Row.atStrs {w:World} {v:Value} {l:List ByteArray} (h:Row w v (scells l)) (hp:0<l.length) :
  ∃ b off cap,v=.slice (some ⟨b,off,none⟩) l.length cap/\l.length<=cap/\cap<=maxLen /\ ∀ j (hj:j<l.length),w.cell? ⟨b,off+j,none⟩=some (.string l[j]):=by
 obtain ⟨b,off,cap,hv,h1,h2,h3⟩:=h.at (by rw [scells_length]; exact hp)
 rw [scells_length] at hv h1
 refine ⟨b,off,cap,hv,h1,h2,fun j hj=>?_⟩
 rw [h3 j (by rw [scells_length]; exact hj)]
 simp [scells]
theorem Row.sliceStrs {w:World} {v:Value} {l:List ByteArray} (h:Row w v (scells l)) : ∃ a cap,v=.slice a l.length cap:=by
 obtain ⟨a,cap,hv⟩:=h.slice
 rw [scells_length] at hv
 exact ⟨a,cap,hv⟩
theorem contains_any (w:World) (v:Value) (l:List ByteArray) (x:ByteArray) (h:Row w v (scells l)) (hl:l.length<=1000000) :
  Calls Tryz.prog 279 #[v,.string x] w fun e w'=>e=.returned (.bool (l.any fun y=>txt y==txt x))/\w'=w:=by
 have hspec : ∀ l:List ByteArray,Lib.containsS l x=l.any fun y=>txt y==txt x:=fun l=>by
  rw [Bool.eq_iff_iff,Lib.containsS_iff,List.any_eq_true]
  constructor
  ·intro hx
   exact ⟨x,hx,by simp⟩
  ·rintro ⟨y,hy,e⟩
   rw [<- txt_inj (beq_iff_eq.1 e)]
   exact hy
 by_cases h0:l.length=0
 ·have:l=[]:=List.eq_nil_of_length_eq_zero h0
  subst this
  obtain ⟨a,cap,rfl⟩:=h.sliceStrs
  exact Any.slices_Contains_string_empty Tryz.lays110 a cap x w
 ·obtain ⟨b,off,cap,rfl,h1,h2,h3⟩:=h.atStrs (by omega)
  have:=Any.slices_Contains_string Tryz.lays110 b off l.length cap l x w (Nat.le_refl _) (by omega) (fun j hj=>by rw [h3 j hj]; simp [List.getD,hj])
  rw [List.take_length,hspec] at this
  exact this
theorem or1_any (w:World) (b:Nat) (v:Value) (l:List ByteArray) (x:ByteArray) (hb:w.cell? ⟨b,0,none⟩=some v) (h:Row w v (scells l)) (hl:l.length<=1000000) :
  Calls Tryz.prog 278 #[.string x,.pointer (some ⟨b,0,none⟩)] w fun e w'=>e=.returned (.bool (lettersB (txt x) || l.any fun y=>txt y==txt x))/\Below w.heap.size w w':=by
 have hlt:=World.block_lt_of_cell? w _ hb
 cases hL:lettersB (txt x)
 all_goals go_enter Tryz.func278,Tryz.ntmps278
 all_goals go_wp2_with (first
  |(go_at_call 176; refine (plain_any x _).mono ?_; rintro e w1 ⟨rfl,hb1⟩; have hc1:=(hb1.cell (p:=⟨b,0,none⟩) hlt).trans hb; have hr1:=h.below hb1 (Nat.le_refl _))
  |(go_at_call 279; refine (contains_any _ _ l x hr1 hl).mono ?_; rintro e w2 ⟨rfl,rfl⟩))
 all_goals go_ret
 ·exact ⟨ret_bool (by simp),by assumption⟩
 ·exact ⟨ret_bool (by simp),by assumption⟩
theorem strs_get (l:List Txt) (k:Nat) (h:k<(strs l).length):txt (strs l)[k]=l[k]'(by rw [strs_length] at h; exact h):=by
 simp [strs,txt_str]
theorem all_take (may:Txt->Bool) (l:List Txt) (k:Nat) (h:k<l.length):(l.take (k+1)).all may=((l.take k).all may && may l[k]):=by
 rw [List.take_succ_eq_append_getElem h,List.all_append]
 simp
theorem all_bad (may:Txt->Bool) (l:List Txt) (k:Nat) (h:k<l.length) (hb:may l[k]=false):l.all may=false:=by
 rw [Bool.eq_false_iff]
 intro ha
 rw [List.all_eq_true] at ha
 rw [ha _ (List.getElem_mem h)] at hb
 cases hb
def mayB (l:List ByteArray) (x:Txt):Bool:=lettersB x || l.any fun y=>txt y==x
theorem isOf_any (s:ByteArray) (w:World) (b:Nat) (v:Value) (l:List ByteArray) (hs:s.size<=maxLen) (hb:w.cell? ⟨b,0,none⟩=some v) (h:Row w v (scells l)) (hl:l.length<=1000000) :
  Calls Tryz.prog 240 #[.string s,.func (.func 278) #[] #[.pointer (some ⟨b,0,none⟩)]] w fun e w'=>e=.returned (.bool (ofB (mayB l) (txt s)))/\Below w.heap.size w w':=by
 unfold maxLen at hs
 have hlt:=World.block_lt_of_cell? w _ hb
 have hof:ofB (mayB l) (txt s)=(decide (s.size<=60) && (wordsL (txt s)).all (mayB l) && decide ((wordsL (txt s)).length<=12)):=by unfold ofB; rw [txt_length]
 by_cases h60:s.size<=60
 ·have hwl:=wordsL_le (txt s)
  rw [txt_length] at hwl
  have hln:(strs (wordsL (txt s))).length=(wordsL (txt s)).length:=strs_length _
  rw [hof,decide_eq_true h60,Bool.true_and]
  clear hof
  go_enter Tryz.func240,Tryz.ntmps240
  go_wp2_with (go_at_call 253; refine (words_any s _ (by omega)).mono ?_; rintro e w1 ⟨vw,rfl,hown,hb1⟩; have hrow:=hown.row; obtain ⟨aw,cw,hvw⟩:=hrow.sliceStrs; rw [hln] at hvw; subst hvw)
  have hc1:=(hb1.cell (p:=⟨b,0,none⟩) hlt).trans hb
  have hr1:=h.below hb1 (Nat.le_refl _)
  go_loopw [15] (fun i wr => ∃ k:Nat,k<=(wordsL (txt s)).length/\i=.int .i64 k/\((wordsL (txt s)).take k).all (mayB l)=true/\Below w1.heap.size w1 wr) (fun i _=>(wordsL (txt s)).length-(intOf i).toNat)
  case atStart=>exact ⟨0,Nat.zero_le _,rfl,rfl,Below.refl _ _⟩
  case round =>
   obtain ⟨k,hk,rfl,ha,hB⟩:=hrel
   have hbl:=World.block_lt_of_cell? w1 _ hc1
   have hc2:=(hB.cell (p:=⟨b,0,none⟩) hbl).trans hc1
   have hr2:=hr1.below hB (Nat.le_refl _)
   have HA:Hid _:=ha
   clear ha
   by_cases hkl:k<(wordsL (txt s)).length
   ·obtain ⟨bw,ow,cw',hv,_,_,hcells⟩:=(hrow.below hB (Nat.le_refl _)).atStrs (by rw [hln]; omega)
    rw [hln] at hv
    injection hv with hv1 _ hv3
    subst hv1 hv3
    have hcell:=hcells k (by rw [hln]; exact hkl)
    have hg:=strs_get (wordsL (txt s)) k (by rw [hln]; exact hkl)
    have hor:=or1_any wr b v l ((strs (wordsL (txt s)))[k]'(by rw [hln]; exact hkl)) hc2 hr2 hl
    rw [hg] at hor
    have hmay:(lettersB (wordsL (txt s))[k] || l.any fun y=>txt y==(wordsL (txt s))[k])=mayB l (wordsL (txt s))[k]:=rfl
    rw [hmay] at hor
    generalize (strs (wordsL (txt s)))[k]'(by rw [hln]; exact hkl)=x at hcell hor
    clear hmay hg hcells
    cases hm:mayB l (wordsL (txt s))[k]
    ·have HM:Hid _:=all_bad (mayB l) _ k hkl hm
     rw [hm] at hor
     go_wp2_with (go_at_call 278; refine hor.mono ?_; rintro e w3 ⟨rfl,hb3⟩)
     go_ret
     refine ⟨ret_bool (by rw [HM.out]; rfl),(hb1.trans (hB.mono hb1.size)).trans (hb3.mono (Nat.le_trans hb1.size hB.size))⟩
    ·have HM:Hid _:=all_take (mayB l) _ k hkl
     rw [hm] at hor
     go_wp2_with (go_at_call 278; refine hor.mono ?_; rintro e w3 ⟨rfl,hb3⟩)
     go_roundw
     case rel=>exact ⟨k+1,by omega,by go_num,by rw [HM.out,HA.out,hm]; rfl,hB.trans (hb3.mono hB.size)⟩
     case measure=>simp [intOf]; omega
   ·have HT:Hid ((wordsL (txt s)).all (mayB l)=true):=by
     have:=HA.out
     rw [List.take_of_length_le (by omega)] at this
     exact this
    go_wp2
    go_ret
    refine ⟨ret_bool ?_,hb1.trans (hB.mono hb1.size)⟩
    rw [HT.out]
    go_light
    rw [Bool.true_and,Bool.eq_iff_iff,decide_eq_true_eq,decide_eq_true_eq]
    omega
 ·rw [hof,decide_eq_false h60]
  go_enter Tryz.func240,Tryz.ntmps240
  go_wp2
  go_ret
  exact ⟨rfl,Below.refl _ _⟩
theorem mayB_nil:mayB []=lettersB:=by funext x; simp [mayB]
theorem mayB_wild:mayB [⟨#[42]⟩,⟨#[35]⟩]=fun x=>lettersB x || wildB x:=by
 funext x
 unfold mayB wildB
 congr 1
 show ([42]==x || ([35]==x || false))=_
 rw [Bool.or_false]
 congr 1 <;> (rw [Bool.eq_iff_iff,beq_iff_eq,beq_iff_eq]; exact eq_comm)
theorem key_any (s:ByteArray) (w:World) (hs:s.size<=maxLen) :
  Calls Tryz.prog 177 #[.string s] w fun e w'=>e=.returned (.bool (keyB (txt s)))/\Below w.heap.size w w':=by
 unfold keyB
 rw [<- mayB_nil]
 go_enter Tryz.func177,Tryz.ntmps177
 go_wp2_with (first
  |(go_at_call 240; refine (isOf_any s _ w.heap.size (.slice none 0 0) [] hs (by rw [World.cell?_alloc_at _ _ _ _ (by simp)]; rfl) (.inl ⟨rfl,rfl⟩) (by simp)).mono ?_; rintro e w' ⟨rfl,hb⟩)
  |go_in)
 go_ret
 exact ⟨rfl,((Below.refl _ _).alloc (Nat.le_refl _) _).trans (hb.mono (by simp))⟩
theorem pattern_any (s:ByteArray) (w:World) (hs:s.size<=maxLen) :
  Calls Tryz.prog 244 #[.string s] w fun e w'=>e=.returned (.bool (patB (txt s)))/\Below w.heap.size w w':=by
 unfold patB
 rw [<- mayB_wild]
 go_enter Tryz.func244,Tryz.ntmps244
 go_wp2_with (first
  |(go_at_call 240; refine (isOf_any s _ (w.heap.size+1) (.slice (some ⟨w.heap.size,0,none⟩) 2 2) [⟨#[42]⟩,⟨#[35]⟩] hs (by rw [World.cell?_alloc_at _ _ _ _ (by simp)]; rfl) (Own1.row ((own1_new w w.heap.size 9 (scells [⟨#[42]⟩,⟨#[35]⟩]) (Nat.le_refl _) (by simp [scells,maxLen])).alloc _)) (by simp)).mono ?_; rintro e w' ⟨rfl,hb⟩)
  |go_in)
 go_ret
 exact ⟨rfl,(((Below.refl _ _).alloc (Nat.le_refl _) _).alloc (by simp) _).trans (hb.mono (by simp; omega))⟩
theorem all_any (s:ByteArray) (wild:Bool) (w:World) (hs:s.size<=maxLen) :
  Calls Tryz.prog 160 #[.string s,.bool wild] w fun e w'=>e=.returned (.bool (ofB (fun x=>lettersB x || (wild && wildB x)) (txt s)))/\Below w.heap.size w w':=by
 unfold maxLen at hs
 have hof:ofB (fun x=>lettersB x || (wild && wildB x)) (txt s)=(decide (s.size<=60) && (wordsL (txt s)).all (fun x=>lettersB x || (wild && wildB x)) && decide ((wordsL (txt s)).length<=12)):=by unfold ofB; rw [txt_length]
 by_cases h60:s.size<=60
 ·have hwl:=wordsL_le (txt s)
  rw [txt_length] at hwl
  have hln:(strs (wordsL (txt s))).length=(wordsL (txt s)).length:=strs_length _
  rw [hof,decide_eq_true h60,Bool.true_and]
  clear hof
  go_enter Tryz.func160,Tryz.ntmps160
  go_wp2_with (go_at_call 163; refine (rwords_any s _ (by omega)).mono ?_; rintro e w1 ⟨vw,rfl,hown,hb1⟩; have hrow:=hown.row; obtain ⟨aw,cw,hvw⟩:=hrow.sliceStrs; rw [hln] at hvw; subst hvw)
  go_loop [15] (fun i => ∃ k:Nat,k<=(wordsL (txt s)).length/\i=.int .i64 k/\((wordsL (txt s)).take k).all (fun x=>lettersB x || (wild && wildB x))=true) (fun i=>(wordsL (txt s)).length-(intOf i).toNat)
  case atStart=>exact ⟨0,Nat.zero_le _,rfl,rfl⟩
  case round =>
   obtain ⟨k,hk,rfl,ha⟩:=hrel
   have HA:Hid _:=ha
   clear ha
   by_cases hkl:k<(wordsL (txt s)).length
   ·obtain ⟨bw,ow,cw',hv,_,_,hcells⟩:=hrow.atStrs (by rw [hln]; omega)
    rw [hln] at hv
    injection hv with hv1 _ hv3
    subst hv1 hv3
    have hcell:=hcells k (by rw [hln]; exact hkl)
    have hg:=strs_get (wordsL (txt s)) k (by rw [hln]; exact hkl)
    have hsx:((strs (wordsL (txt s)))[k]'(by rw [hln]; exact hkl)).size<=maxLen:=by
     rw [<- txt_length,hg]
     have:=wordsL_len (txt s) _ (List.getElem_mem hkl)
     rw [txt_length] at this
     unfold maxLen
     omega
    generalize (strs (wordsL (txt s)))[k]'(by rw [hln]; exact hkl)=x at hcell hg hsx
    have HW:Hid ((lettersB (wordsL (txt s))[k] || (wild && wildB (wordsL (txt s))[k]))=(lettersB (txt x) || (wild && (x.toList==[42] || x.toList==[35])))):=by
     show _=_
     rw [<- hg,ByteArray.toList_eq]
     rfl
    have HT:Hid _:=all_take (fun x=>lettersB x || (wild && wildB x)) _ k hkl
    have HF:Hid _:=all_bad (fun x=>lettersB x || (wild && wildB x)) _ k hkl
    clear hcells hg
    cases wild <;> cases hm:lettersB (txt x) <;> cases h42:(x.toList==[42]) <;> cases h35:(x.toList==[35])
    all_goals go_wp2_with (go_at_call 211; refine (letters_any x _ hsx).mono ?_; rintro e w3 ⟨rfl,rfl⟩)
    all_goals first
     |(go_round
       case rel=>exact ⟨k+1,by omega,by go_num,by rw [HT.out,HA.out,HW.out,hm,h42,h35]; rfl⟩
       case measure=>simp [intOf]; omega)
     |(go_ret
       exact ⟨ret_bool (by rw [HF.out (by rw [HW.out,hm,h42,h35]; rfl)]; rfl),hb1⟩)
   ·have HT:Hid ((wordsL (txt s)).all (fun x=>lettersB x || (wild && wildB x))=true):=by
     have:=HA.out
     rw [List.take_of_length_le (by omega)] at this
     exact this
    go_wp2
    go_ret
    refine ⟨ret_bool ?_,hb1⟩
    rw [HT.out]
    go_light
    rw [Bool.true_and,Bool.eq_iff_iff,decide_eq_true_eq,decide_eq_true_eq]
    omega
 ·rw [hof,decide_eq_false h60]
  go_enter Tryz.func160,Tryz.ntmps160
  go_wp2
  go_ret
  exact ⟨rfl,Below.refl _ _⟩
end Go.Proofs.YtnhnpnafchkhiaaGreatDoor
namespace Go.Proofs.YtnhnpnafchkhiaaGreatDoor
open Go.RowKit Go.Maps
abbrev Le:=Int × Value
def rdS (v:Value):Option (DataW Value × List MemPlace):=match v with
 | .slice a n c=>some (.held (.slice a n c),[])
 |_=>none
theorem rdS_inv {v:Value} {z:DataW Value × List MemPlace} (h:rdS v=some z):z=(.held v,[]):=by
 unfold rdS at h
 split at h
 ·injection h with h; exact h.symm
 ·cases h
def lkl (x:Le):Lit:=.int .i64 x.1
def ld (x:Le):DataW Value:=.held x.2
def I64 (n:Int):Prop := -9223372036854775808<=n/\n<=9223372036854775807
theorem iKeyed:Keyed Tryz.prog 3:=int_keyed Tryz.underlying3
theorem keyOf_int {n:Int} (h:I64 n):keyOf Tryz.prog 3 (.int .i64 n)=some (.int .i64 n):=by
 refine keyOf_int_mk Tryz.underlying3 ?_
 unfold I64 at h
 simp [Lit.wf,IntKind.min,IntKind.max,IntKind.signed,IntKind.bits]
 omega
theorem int_inj {a b:Int} (h:Lit.int .i64 a=.int .i64 b):a=b:=by injection h
structure LL (l:List Le):Prop where
 diff:Diff lkl l
 fit : ∀ x∈l,I64 x.1
theorem LL.keys {l:List Le} (h:LL l) : ∀ x∈l,KeysOf Tryz.prog 3 (lkl x):=fun x hx=>⟨_,keyOf_int (h.fit x hx)⟩
theorem LL.perm {l l':List Le} (h:LL l) (hp:l'.Perm l):LL l':=⟨h.diff.perm hp,fun x hx=>h.fit x (hp.mem_iff.1 hx)⟩
def LAt (w:World) (b:Nat) (l:List Le):Prop:=w.ownsMap Tryz.prog 3 rdS b l.length (DofG lkl ld l)
theorem LAt.same {w w':World} {b:Nat} {l:List Le} (h:LAt w b l) (hs:w'.heap[b]? = w.heap[b]?):LAt w' b l:=by
 obtain ⟨es,clock,hb,r⟩:=h
 exact ⟨es,clock,by rw [hs]; exact hb,r⟩
theorem LAt.lt {w:World} {b:Nat} {l:List Le} (h:LAt w b l):b<w.heap.size:=World.ownsMap.lt h
theorem lAt_new (w:World):LAt (w.alloc (.map #[] 0)) w.heap.size []:=World.ownsMap_made w _ _ _
theorem LAt.perm {w:World} {b n:Nat} {l l':List Le} (h:w.ownsMap Tryz.prog 3 rdS b n (DofG lkl ld l')) (hl:LL l) (hp:l'.Perm l):LAt w b l:=by
 rw [DofG_perm iKeyed.one hl.keys hl.diff hp] at h
 exact ownsMapG_fit h
theorem LAt.permTo {w:World} {b:Nat} {l l':List Le} (h:LAt w b l') (hl:LL l) (hp:l'.Perm l):LAt w b l:=LAt.perm h hl hp
def findL (l:List Le) (n:Int):Option Le:=l.find? fun x=>decide (x.1=n)
theorem findL_some {l:List Le} {n:Int} {x:Le} (h:findL l n=some x):x∈l/\x.1=n:=⟨List.mem_of_find?_eq_some h,by simpa using List.find?_some h⟩
theorem findL_none {l:List Le} {n:Int} (h:findL l n=none) : ∀ x∈l,x.1≠n:=fun x hx=>by simpa using List.find?_eq_none.1 h x hx
theorem LAt.look {w:World} {b:Nat} {l:List Le} (h:LAt w b l) (hl:LL l) {n:Int} (hn:I64 n) :
  (Instr.lookup 86 (.map (some b)) (.int .i64 n) false).run Tryz.prog w=.ok (((findL l n).map Prod.snd).getD (.slice none 0 0)) w:=by
 obtain ⟨v,ps,h1,h2⟩:=World.ownsMap.lookup h iKeyed Tryz.underlying86 (Tryz.zeroValue62 w) (zd:=.held (.slice none 0 0)) (zp:=[]) rfl (keyOf_int hn)
 have hx:=rdS_inv h2
 rw [h1]
 cases hf:findL l n with
 |none =>
  have hne : ∀ y∈l,lkl y≠.int .i64 n:=fun y hy e=>findL_none hf y hy (int_inj e)
  rw [atKey_none hne] at hx
  simp at hx
  rw [<- hx.1]
  rfl
 |some y =>
  obtain ⟨hy,rfl⟩:=findL_some hf
  rw [show Lit.int .i64 y.1=lkl y from rfl,atKey_mem iKeyed.one hl.keys hl.diff hy] at hx
  simp [ld] at hx
  rw [<- hx.1]
  rfl
theorem LAt.put {w:World} {b:Nat} {l:List Le} (h:LAt w b l) (hl:LL l) {n:Int} (hn:I64 n) (a:Option Addr) (m c:Nat) (hlen:l.length<=1000000000) :
  ∃ w',(Instr.mapUpdate 86 (.map (some b)) (.int .i64 n) (.slice a m c)).run Tryz.prog w=.ok () w'/\LAt w' b ((n,.slice a m c)::l.filter fun y => !decide (y.1=n))/\w.grownBy w' (some b):=by
 obtain ⟨w',h1,h2,h3⟩:=World.ownsMap.update h iKeyed Tryz.underlying86 (by unfold maxLen; omega) (keyOf_int hn) (show rdS (.slice a m c)=some (.held (.slice a m c),[]) from rfl)
 refine ⟨w',h1,?_,h3⟩
 have e:(DofG lkl ld l).put (.int .i64 n) (.held (.slice a m c))=DofG lkl ld ((n,.slice a m c)::l.filter fun y => !decide (y.1=n)):=by
  rw [show Lit.int .i64 n=lkl (n,Value.slice a m c) from rfl,show DataW.held (Value.slice a m c)=ld (n,Value.slice a m c) from rfl,put_DofG iKeyed.one hl.keys hl.diff (x:=(n,Value.slice a m c)) ⟨_,keyOf_int hn⟩]
  congr 2
  refine List.filter_congr fun y hy=>?_
  congr 1
  show (lkl y).sameKey (.int .i64 n)=decide (y.1=n)
  rw [Bool.eq_iff_iff,sameKey_iff iKeyed.one ⟨_,keyOf_int hn⟩,decide_eq_true_iff]
  exact ⟨fun e=>int_inj e,fun e=>by rw [<- e]; rfl⟩
 rw [e] at h2
 exact ownsMapG_fit h2
theorem LAt.del {w:World} {b:Nat} {l:List Le} (h:LAt w b l) (hl:LL l) {n:Int} (hn:I64 n) :
  ∃ f:TypeId->World,∀ ty,(Builtin.delete_ #[86,3] ty #[.map (some b),.int .i64 n]).run Tryz.prog w=.ok (.tuple #[]) (f ty)/\LAt (f ty) b (l.filter fun y => !decide (y.1=n))/\w.grownBy (f ty) (some b):=by
 have each : ∀ ty:TypeId,∃ w',(Builtin.delete_ #[86,3] ty #[.map (some b),.int .i64 n]).run Tryz.prog w=.ok (.tuple #[]) w'/\LAt w' b (l.filter fun y => !decide (y.1=n))/\w.grownBy w' (some b):=fun ty=>by
  obtain ⟨w',h1,h2,h3⟩:=World.ownsMap.drop h iKeyed Tryz.underlying86 (keyOf_int hn) ty
  refine ⟨w',h1,?_,h3.grown⟩
  rw [del_DofG iKeyed.one hl.keys hl.diff] at h2
  have e:(l.filter fun y => !(lkl y).sameKey (.int .i64 n))=l.filter fun y => !decide (y.1=n):=List.filter_congr fun y hy=>by
   congr 1
   rw [Bool.eq_iff_iff,sameKey_iff iKeyed.one ⟨_,keyOf_int hn⟩,decide_eq_true_iff]
   exact ⟨fun e=>int_inj e,fun e=>by rw [<- e]; rfl⟩
  rw [e] at h2
  exact ownsMapG_fit h2
 obtain ⟨f,hf⟩:=Classical.axiomOfChoice each
 exact ⟨f,hf⟩
theorem l_entry {l:List Le} (h:LL l) {z:Lit} {v:Value} {yd:DataW Value} {yp:List MemPlace} (hv:rdS v=some (yd,yp)) (hat : ∀ zd,(DofG lkl ld l).atKey z zd=yd) : ∃ c∈l,lkl c=z/\v=c.2:=by
 have hz:=rdS_inv hv
 simp at hz
 obtain ⟨rfl,rfl⟩:=hz
 by_cases hn : ∃ y∈l,lkl y=z
 ·obtain ⟨y,hy,rfl⟩:=hn
  have h1:=hat .nil
  rw [atKey_mem iKeyed.one h.keys h.diff hy] at h1
  injection h1 with h1
  exact ⟨y,hy,rfl,h1.symm⟩
 ·have h1:=hat .nil
  rw [atKey_none (fun y hy e=>hn ⟨y,hy,e⟩)] at h1
  cases h1
end Go.Proofs.YtnhnpnafchkhiaaGreatDoor
namespace Go.Proofs.YtnhnpnafchkhiaaGreatDoor
open Go.RowKit
def bcells (bs:List UInt8):List Value:=bs.map fun b=>.int .u8 (b.toNat:Int)
def Holds (w:World) (v:Value) (bs:List UInt8):Prop :=
 (v=.slice none 0 0/\bs=[]) \/
 ∃ a cap,v=.slice (some a) bs.length cap/\bs.length<=cap/\cap<=maxLen /\ ∀ j u,(bcells bs)[j]? = some u->w.cell? (a.add j)=some u
theorem Addr.block_add (a:Addr) (j:Nat):(a.add j).block=a.block:=by unfold Addr.add; split <;> rfl
structure U8 (P:Program) (t e:TypeId):Prop where
 ht:P.underlying t=some (.slice e)
 he:P.underlying e=some (.int .u8)
 info : ∃ i,P.info? e=some i/\i.zero=some (.int .u8 0)/\i.size=1/\i.bytes=1
def Owns (w:World) (base:Nat) (e:TypeId) (v:Value) (bs:List UInt8):Prop:=w.ownsRow base e 1 v bs.length (bcells bs)
structure Moved (w w':World) (F F':Nat->Prop):Prop where
 os:w'.os=w.os
 tape:w'.tape=w.tape
 output:w'.output=w.output
 size:w.heap.size<=w'.heap.size
 block : ∀ k,k<w.heap.size -> ¬ F k->w'.heap[k]? = w.heap[k]?
 sub : ∀ k,F' k->F k\/w.heap.size<=k
theorem Moved.refl (w:World) (F:Nat->Prop):Moved w w F F:=⟨rfl,rfl,rfl,Nat.le_refl _,fun _ _ _=>rfl,fun _ h=>.inl h⟩
theorem Moved.trans {a b c:World} {F G H:Nat->Prop} (h:Moved a b F G) (k:Moved b c G H):Moved a c F H:=by
 refine ⟨k.os.trans h.os,k.tape.trans h.tape,k.output.trans h.output,Nat.le_trans h.size k.size,fun i hi hn=>?_,fun i hi=>?_⟩
 ·have h1 : ¬ G i:=fun hg=>(h.sub i hg).elim hn (by omega)
  exact (k.block i (Nat.lt_of_lt_of_le hi h.size) h1).trans (h.block i hi hn)
 ·rcases k.sub i hi with hg | hg
  ·exact h.sub i hg
  ·exact .inr (Nat.le_trans h.size hg)
theorem Moved.of_below {w w':World} {F:Nat->Prop} (h:Below w.heap.size w w'):Moved w w' F F:=⟨h.os,h.tape,h.output,h.size,fun k hk _=>h.block k hk,fun _ h=>.inl h⟩
theorem Moved.weak {w w':World} {F F' G:Nat->Prop} (h:Moved w w' F F') (hs : ∀ k,F k->G k):Moved w w' G F' :=
 ⟨h.os,h.tape,h.output,h.size,fun k hk hn=>h.block k hk (fun hf=>hn (hs k hf)),fun k hk=>(h.sub k hk).imp (hs k) id⟩
theorem Moved.below {w0 w w':World} {F F':Nat->Prop} {base:Nat} (h:Moved w w' F F') (hF : ∀ k,F k->base<=k) (h0:Below base w0 w) (hb:base<=w.heap.size):Below base w0 w' :=
 h0.trans ⟨h.os,h.tape,h.output,h.size,fun k hk=>h.block k (by omega) (fun hf=>by have:=hF k hf; omega)⟩
theorem Moved.from {w w':World} {F F':Nat->Prop} {base:Nat} (h:Moved w w' F F') (hF : ∀ k,F k->base<=k) (hb:base<=w.heap.size) : ∀ k,F' k->base<=k:=fun k hk=>(h.sub k hk).elim (hF k) (fun h=>by omega)
end Go.Proofs.YtnhnpnafchkhiaaGreatDoor
namespace Go.Proofs
open Go.Shelf
def Tryz.search_ren:Go.Shelf.Ren:=⟨fun | 16=>209 | n=>n,fun | 3=>3 | 35=>116 | 4=>4 | 38=>226 | n=>n,fun | n=>n⟩
theorem Tryz.search:Go.Proofs.SlLaysO.n16 Tryz.prog Tryz.search_ren:={
 mixed:=by kernel_rfl
 f16:=Tryz.func209.trans (congrArg some (by kernel_rfl))
 t3:=Tryz.underlying3
 a3:=Tryz.isAgg3
 z3:=Tryz.sizeOf3
 v3:=Tryz.zeroValue3
 t4:=Tryz.underlying4
 a4:=Tryz.isAgg4
 z4:=Tryz.sizeOf4
 v4:=Tryz.zeroValue4
 t35:=Tryz.underlying116
 a35:=Tryz.isAgg116
 z35:=Tryz.sizeOf116
 v35:=Tryz.zeroValue116
 t38:=Tryz.underlying226
 a38:=Tryz.isAgg226
 z38:=Tryz.sizeOf226
 v38:=Tryz.zeroValue226 }
def Tryz.clone_ren:Go.Shelf.Ren:=⟨fun | 5=>77 | 7=>125 | n=>n,fun | 23=>160 | 25=>32 | 3=>74 | 4=>4 | 20=>20 | n=>n,fun | n=>n⟩
theorem Tryz.clone:Go.Proofs.SlLaysW.n5 Tryz.prog Tryz.clone_ren:={
 mixed:=by kernel_rfl
 f5:=⟨Tryz.f77.name,by decide,Tryz.func77.trans (congrArg some (by kernel_rfl))⟩
 f7:=Tryz.func125.trans (congrArg some (by kernel_rfl))
 t4:=Tryz.underlying4
 a4:=Tryz.isAgg4
 z4:=Tryz.sizeOf4
 v4:=Tryz.zeroValue4
 t20:=Tryz.underlying20
 a20:=Tryz.isAgg20
 z20:=Tryz.sizeOf20
 v20:=Tryz.zeroValue20
 t23:=Tryz.underlying160
 a23:=Tryz.isAgg160
 z23:=Tryz.sizeOf160
 v23:=Tryz.zeroValue160 }
def Tryz.lays106_ren:Go.Shelf.Ren:=⟨fun | 106=>60 | 213=>110 | 265=>170 | n=>n,fun | 9=>9 | 3=>3 | n=>n,fun | n=>n⟩
theorem Tryz.lays106:Go.Proofs.Lays.n106 Tryz.prog Tryz.lays106_ren:={
 mixed:=by kernel_rfl
 f106:=Tryz.func60.trans (congrArg some (by kernel_rfl))
 f213:=Tryz.func110.trans (congrArg some (by kernel_rfl))
 f265:=Tryz.func170.trans (congrArg some (by kernel_rfl))
 t3:=Tryz.underlying3
 a3:=Tryz.isAgg3
 z3:=Tryz.sizeOf3
 v3:=Tryz.zeroValue3
 t9:=Tryz.underlying9
 a9:=Tryz.isAgg9
 z9:=Tryz.sizeOf9
 v9:=Tryz.zeroValue9 }
def Tryz.sortX_ren:Go.Shelf.Ren:=⟨fun | 6=>108 | 15=>156 | 14=>169 | 28=>207 | 29=>208 | 20=>214 | 21=>215 | 22=>216 | 23=>217 | 24=>218 | 25=>219 | 26=>220 | 27=>221 | 46=>268 | 47=>255 | 48=>256 | 49=>269 | 50=>270 | 57=>294 | n=>n,fun | 22=>43 | 24=>34 | 25=>138 | 3=>3 | 39=>226 | 0=>0 | 53=>262 | 55=>32 | 4=>4 | 46=>254 | 45=>253 | 50=>259 | 5=>5 | 9=>9 | 66=>294 | 70=>297 | 76=>317 | 77=>288 | n=>n,fun | n=>n⟩
theorem Tryz.sortX:Go.Proofs.SlLaysF0.n6 Tryz.prog Tryz.sortX_ren:={
 mixed:=by kernel_rfl
 f6:=⟨Tryz.f108.name,by decide,Tryz.func108.trans (congrArg some (by kernel_rfl))⟩
 f14:=⟨Tryz.f169.name,by decide,Tryz.func169.trans (congrArg some (by kernel_rfl))⟩
 f15:=Tryz.func156.trans (congrArg some (by kernel_rfl))
 f20:=⟨Tryz.f214.name,by decide,Tryz.func214.trans (congrArg some (by kernel_rfl))⟩
 f21:=⟨Tryz.f215.name,by decide,Tryz.func215.trans (congrArg some (by kernel_rfl))⟩
 f22:=⟨Tryz.f216.name,by decide,Tryz.func216.trans (congrArg some (by kernel_rfl))⟩
 f23:=⟨Tryz.f217.name,by decide,Tryz.func217.trans (congrArg some (by kernel_rfl))⟩
 f24:=⟨Tryz.f218.name,by decide,Tryz.func218.trans (congrArg some (by kernel_rfl))⟩
 f25:=⟨Tryz.f219.name,by decide,Tryz.func219.trans (congrArg some (by kernel_rfl))⟩
 f26:=⟨Tryz.f220.name,by decide,Tryz.func220.trans (congrArg some (by kernel_rfl))⟩
 f27:=⟨Tryz.f221.name,by decide,Tryz.func221.trans (congrArg some (by kernel_rfl))⟩
 f28:=Tryz.func207.trans (congrArg some (by kernel_rfl))
 f29:=Tryz.func208.trans (congrArg some (by kernel_rfl))
 f46:=⟨Tryz.f268.name,by decide,Tryz.func268.trans (congrArg some (by kernel_rfl))⟩
 f47:=Tryz.func255.trans (congrArg some (by kernel_rfl))
 f48:=Tryz.func256.trans (congrArg some (by kernel_rfl))
 f49:=⟨Tryz.f269.name,by decide,Tryz.func269.trans (congrArg some (by kernel_rfl))⟩
 f50:=⟨Tryz.f270.name,by decide,Tryz.func270.trans (congrArg some (by kernel_rfl))⟩
 f57:=⟨Tryz.f294.name,by decide,Tryz.func294.trans (congrArg some (by kernel_rfl))⟩
 t0:=Tryz.underlying0
 a0:=Tryz.isAgg0
 z0:=Tryz.sizeOf0
 v0:=Tryz.zeroValue0
 t3:=Tryz.underlying3
 a3:=Tryz.isAgg3
 z3:=Tryz.sizeOf3
 v3:=Tryz.zeroValue3
 t4:=Tryz.underlying4
 a4:=Tryz.isAgg4
 z4:=Tryz.sizeOf4
 v4:=Tryz.zeroValue4
 t5:=Tryz.underlying5
 a5:=Tryz.isAgg5
 z5:=Tryz.sizeOf5
 v5:=Tryz.zeroValue5
 t9:=Tryz.underlying9
 a9:=Tryz.isAgg9
 z9:=Tryz.sizeOf9
 v9:=Tryz.zeroValue9
 t22:=Tryz.underlying43
 a22:=Tryz.isAgg43
 z22:=Tryz.sizeOf43
 v22:=Tryz.zeroValue43
 t25:=Tryz.underlying138
 a25:=Tryz.isAgg138
 z25:=Tryz.sizeOf138
 v25:=Tryz.zeroValue138
 t39:=Tryz.underlying226
 a39:=Tryz.isAgg226
 z39:=Tryz.sizeOf226
 v39:=Tryz.zeroValue226
 t45:=Tryz.underlying253
 a45:=Tryz.isAgg253
 z45:=Tryz.sizeOf253
 v45:=Tryz.zeroValue253
 t46:=Tryz.underlying254
 a46:=Tryz.isAgg254
 z46:=Tryz.sizeOf254
 v46:=Tryz.zeroValue254
 t50:=Tryz.underlying259
 a50:=Tryz.isAgg259
 z50:=Tryz.sizeOf259
 v50:=Tryz.zeroValue259
 t53:=Tryz.underlying262
 a53:=Tryz.isAgg262
 z53:=Tryz.sizeOf262
 v53:=Tryz.zeroValue262
 t55:=Tryz.underlying32
 a55:=Tryz.isAgg32
 z55:=Tryz.sizeOf32
 v55:=Tryz.zeroValue32
 t66:=Tryz.underlying294
 a66:=Tryz.isAgg294
 z66:=Tryz.sizeOf294
 v66:=Tryz.zeroValue294
 t70:=Tryz.underlying297
 a70:=Tryz.isAgg297
 z70:=Tryz.sizeOf297
 v70:=Tryz.zeroValue297
 t76:=Tryz.underlying317
 a76:=Tryz.isAgg317
 z76:=Tryz.sizeOf317
 v76:=Tryz.zeroValue317
 t77:=Tryz.underlying288
 a77:=Tryz.isAgg288
 z77:=Tryz.sizeOf288
 v77:=Tryz.zeroValue288 }
def Tryz.sortB_ren:Go.Shelf.Ren:=⟨fun | 6=>112 | 15=>156 | 14=>172 | 28=>207 | 29=>208 | 20=>222 | 21=>223 | 22=>224 | 23=>225 | 24=>226 | 25=>227 | 26=>228 | 27=>229 | 46=>271 | 47=>255 | 48=>256 | 49=>272 | 50=>273 | 57=>295 | n=>n,fun | 22=>44 | 24=>36 | 25=>144 | 3=>3 | 39=>226 | 0=>0 | 53=>262 | 55=>32 | 4=>4 | 46=>254 | 45=>253 | 50=>259 | 5=>5 | 9=>9 | 66=>294 | 70=>297 | 76=>317 | 77=>288 | n=>n,fun | n=>n⟩
theorem Tryz.sortB:Go.Proofs.SlLaysF0.n6 Tryz.prog Tryz.sortB_ren:={
 mixed:=by kernel_rfl
 f6:=⟨Tryz.f112.name,by decide,Tryz.func112.trans (congrArg some (by kernel_rfl))⟩
 f14:=⟨Tryz.f172.name,by decide,Tryz.func172.trans (congrArg some (by kernel_rfl))⟩
 f15:=Tryz.func156.trans (congrArg some (by kernel_rfl))
 f20:=⟨Tryz.f222.name,by decide,Tryz.func222.trans (congrArg some (by kernel_rfl))⟩
 f21:=⟨Tryz.f223.name,by decide,Tryz.func223.trans (congrArg some (by kernel_rfl))⟩
 f22:=⟨Tryz.f224.name,by decide,Tryz.func224.trans (congrArg some (by kernel_rfl))⟩
 f23:=⟨Tryz.f225.name,by decide,Tryz.func225.trans (congrArg some (by kernel_rfl))⟩
 f24:=⟨Tryz.f226.name,by decide,Tryz.func226.trans (congrArg some (by kernel_rfl))⟩
 f25:=⟨Tryz.f227.name,by decide,Tryz.func227.trans (congrArg some (by kernel_rfl))⟩
 f26:=⟨Tryz.f228.name,by decide,Tryz.func228.trans (congrArg some (by kernel_rfl))⟩
 f27:=⟨Tryz.f229.name,by decide,Tryz.func229.trans (congrArg some (by kernel_rfl))⟩
 f28:=Tryz.func207.trans (congrArg some (by kernel_rfl))
 f29:=Tryz.func208.trans (congrArg some (by kernel_rfl))
 f46:=⟨Tryz.f271.name,by decide,Tryz.func271.trans (congrArg some (by kernel_rfl))⟩
 f47:=Tryz.func255.trans (congrArg some (by kernel_rfl))
 f48:=Tryz.func256.trans (congrArg some (by kernel_rfl))
 f49:=⟨Tryz.f272.name,by decide,Tryz.func272.trans (congrArg some (by kernel_rfl))⟩
 f50:=⟨Tryz.f273.name,by decide,Tryz.func273.trans (congrArg some (by kernel_rfl))⟩
 f57:=⟨Tryz.f295.name,by decide,Tryz.func295.trans (congrArg some (by kernel_rfl))⟩
 t0:=Tryz.underlying0
 a0:=Tryz.isAgg0
 z0:=Tryz.sizeOf0
 v0:=Tryz.zeroValue0
 t3:=Tryz.underlying3
 a3:=Tryz.isAgg3
 z3:=Tryz.sizeOf3
 v3:=Tryz.zeroValue3
 t4:=Tryz.underlying4
 a4:=Tryz.isAgg4
 z4:=Tryz.sizeOf4
 v4:=Tryz.zeroValue4
 t5:=Tryz.underlying5
 a5:=Tryz.isAgg5
 z5:=Tryz.sizeOf5
 v5:=Tryz.zeroValue5
 t9:=Tryz.underlying9
 a9:=Tryz.isAgg9
 z9:=Tryz.sizeOf9
 v9:=Tryz.zeroValue9
 t22:=Tryz.underlying44
 a22:=Tryz.isAgg44
 z22:=Tryz.sizeOf44
 v22:=Tryz.zeroValue44
 t25:=Tryz.underlying144
 a25:=Tryz.isAgg144
 z25:=Tryz.sizeOf144
 v25:=Tryz.zeroValue144
 t39:=Tryz.underlying226
 a39:=Tryz.isAgg226
 z39:=Tryz.sizeOf226
 v39:=Tryz.zeroValue226
 t45:=Tryz.underlying253
 a45:=Tryz.isAgg253
 z45:=Tryz.sizeOf253
 v45:=Tryz.zeroValue253
 t46:=Tryz.underlying254
 a46:=Tryz.isAgg254
 z46:=Tryz.sizeOf254
 v46:=Tryz.zeroValue254
 t50:=Tryz.underlying259
 a50:=Tryz.isAgg259
 z50:=Tryz.sizeOf259
 v50:=Tryz.zeroValue259
 t53:=Tryz.underlying262
 a53:=Tryz.isAgg262
 z53:=Tryz.sizeOf262
 v53:=Tryz.zeroValue262
 t55:=Tryz.underlying32
 a55:=Tryz.isAgg32
 z55:=Tryz.sizeOf32
 v55:=Tryz.zeroValue32
 t66:=Tryz.underlying294
 a66:=Tryz.isAgg294
 z66:=Tryz.sizeOf294
 v66:=Tryz.zeroValue294
 t70:=Tryz.underlying297
 a70:=Tryz.isAgg297
 z70:=Tryz.sizeOf297
 v70:=Tryz.zeroValue297
 t76:=Tryz.underlying317
 a76:=Tryz.isAgg317
 z76:=Tryz.sizeOf317
 v76:=Tryz.zeroValue317
 t77:=Tryz.underlying288
 a77:=Tryz.isAgg288
 z77:=Tryz.sizeOf288
 v77:=Tryz.zeroValue288 }
end Go.Proofs
