import Derived.Test.YtnhnpnafchkhiaaGreatDoorQwA
import Derived.Test.YtnhnpnafchkhiaaGreatDoorQw0
import Derived.Test.YtnhnpnafchkhiaaGreatDoorQw14
import Derived.DeepKeys4
import Derived.KernelRfl
import Derived.Lib.Bytealg
import Derived.Sort.Statements
import Derived.RangeFuncNested
import Derived.RangeFuncBound
import Derived.RangeFuncCalls
import Derived.RangeFuncLeaves
import Derived.Shelf.Abstract
import Derived.Shelf.AbstractIn
import Derived.Shelf.RegionOpen
import Derived.Sort.MapsRangeIn
import Derived.Sort.KeysCollected
import Derived.WalkKit
import Derived.OwnWalkIn
import Derived.TacticsInMore
import Derived.RegionIn
import Derived.LoopNIn
import Derived.LoopIn
import Derived.Test.YtnhnpnafchkhiaaGreatDoorQw2
import Derived.Shelf.SlSortCmp.WholeK
import Derived.Shelf.SlSortCmp.NoneTotal
import Derived.Deep.RegionHeld3
set_option maxHeartbeats 4000000
set_option maxRecDepth 100000
namespace Go.Proofs.YtnhnpnafchkhiaaGreatDoor.K
end Go.Proofs.YtnhnpnafchkhiaaGreatDoor.K
namespace Go.Proofs.YtnhnpnafchkhiaaGreatDoor.B
open Go.Proofs.YtnhnpnafchkhiaaGreatDoor.K
open Go.RowKit Go.Maps
structure Ex where
 name:ByteArray
 kind:Int
 fed:Bool
 deriving DecidableEq
structure Bd where
 ex:ByteArray
 que:ByteArray
 pat:ByteArray
 deriving DecidableEq
def xcells (x:Ex):List Value:=[.string x.name,.int .i64 x.kind,.bool x.fed]
def bcells (b:Bd):List Value:=[.string b.ex,.string b.que,.string b.pat]
abbrev xv (x:Ex):Value:=.agg #[.string x.name,.int .i64 x.kind,.bool x.fed]
abbrev bv (b:Bd):Value:=.agg #[.string b.ex,.string b.que,.string b.pat]
instance:Enc xcells 3:=⟨fun _=>rfl,fun m u hu=>by simp [xcells] at hu; rcases hu with rfl | rfl | rfl <;> rfl,by decide⟩
instance:Enc bcells 3:=⟨fun _=>rfl,fun m u hu=>by simp [bcells] at hu; rcases hu with rfl | rfl | rfl <;> rfl,by decide⟩
def zeroEx:Ex:=⟨⟨#[]⟩,0,false⟩
def zeroBd:Bd:=⟨⟨#[]⟩,⟨#[]⟩,⟨#[]⟩⟩
theorem xInfo : ∃ i,Tryz.prog.info? 34=some i/\i.zero=some (xv zeroEx)/\i.size=3/\i.bytes=32:=by
 refine ⟨_,rfl,?_,?_,?_⟩ <;> rfl
theorem bInfo : ∃ i,Tryz.prog.info? 36=some i/\i.zero=some (bv zeroBd)/\i.size=3/\i.bytes=48:=by
 refine ⟨_,rfl,?_,?_,?_⟩ <;> rfl
theorem xInfo3:(Tryz.prog.info? 34).map (·.size)=some 3:=by
 obtain ⟨i,h1,_,h2,_⟩:=xInfo
 rw [h1]; simp [h2]
def rdEx (v:Value):Option (DataW Ex × List MemPlace):=match v with
 | .agg cs=>match cs.toList with
  |[.string n,.int .i64 k,.bool f]=>some (.held ⟨n,k,f⟩,[])
  |_=>none
 |_=>none
theorem rdEx_xv (x:Ex):rdEx (xv x)=some (.held x,[]):=by simp [rdEx]
theorem rdEx_inv {v:Value} {z:DataW Ex × List MemPlace} (h:rdEx v=some z) : ∃ x,v=xv x/\z=(.held x,[]):=by
 unfold rdEx at h
 split at h
 ·rename_i cs
  split at h
  ·rename_i n k f hcs
   injection h with h
   refine ⟨⟨n,k,f⟩,?_,h.symm⟩
   have:cs = #[.string n,.int .i64 k,.bool f]:=by apply Array.ext'; simpa using hcs
   rw [this]
  ·cases h
 ·cases h
def xkl (x:Ex):Lit:=.string x.name.data.toList
theorem xKeyed:Keyed Tryz.prog 9:=string_keyed Tryz.underlying9
theorem keyOf_str {s:ByteArray} (h:s.size<=maxLen):keyOf Tryz.prog 9 (.string s)=some (.string s.data.toList):=by
 have hu:=Tryz.underlying9
 simp [keyOf,hu,mapKey,h]
theorem str_inj {a b:ByteArray} (h:Lit.string a.data.toList=.string b.data.toList):a=b:=by
 injection h with h
 cases a with
 |mk a=>cases b with
  |mk b =>
   congr 1
   simp only at h
   rw [<- Array.toList_inj]
   exact h
def bkl (b:Bd):Lit:=.string (keyBytes [.string b.ex.data.toList,.string b.que.data.toList,.string b.pat.data.toList])
theorem laidOutQ:laidOutB Tryz.prog=true:=by kernel_rfl
theorem bWide:(match Tryz.prog.underlying 36 with | some (.array _ _) | some (.struct _)=>true | _=>false)=true:=by kernel_rfl
theorem bRow:(36:TypeId)<Tryz.prog.types.size:=of_decide_eq_true (by kernel_rfl)
theorem bKeyed:Keyed Tryz.prog 36:=Keyed.of_law (deep_law_laid laidOutQ (m:=3) (by omega) bRow (by kernel_rfl) bWide)
def Bd.Fit (b:Bd):Prop:=b.ex.size<=maxLen/\b.que.size<=maxLen/\b.pat.size<=maxLen
theorem bCells:Tryz.prog.cellsOf 36=3:=by kernel_rfl
theorem sCells:Tryz.prog.cellsOf 9=1:=by kernel_rfl
theorem bKeyType:Tryz.prog.keyType 36=true:=by kernel_rfl
theorem bLits (n:Nat) (b:Bd) (h:b.Fit):Tryz.prog.keyLits (n+2) 36 [.string b.ex,.string b.que,.string b.pat]=some [.string b.ex.data.toList,.string b.que.data.toList,.string b.pat.data.toList]:=by
 obtain ⟨h1,h2,h3⟩:=h
 have hu:=Tryz.underlying36
 have hs:=Tryz.underlying9
 simp [Program.keyLits,hu,hs,bCells,sCells,h1,h2,h3]
theorem keyOf_bd {b:Bd} (h:b.Fit):keyOf Tryz.prog 36 (bv b)=some (bkl b):=by
 obtain ⟨n,hn⟩ : ∃ n,Tryz.prog.types.size+1=n+2:=⟨Tryz.prog.types.size-1,by have h:(36:Nat)<Tryz.prog.types.size:=bRow; omega⟩
 have hu:=Tryz.underlying36
 have hl:=bLits n b h
 have hf:(bv b).formed Tryz.prog 36=true:=by simp [Value.formed,hu,bCells]
 unfold keyOf
 rw [hu]
 simp only [bKeyType,hf,Bool.and_self,if_true,hn]
 show Option.map _ (Tryz.prog.keyLits (n+2) 36 [.string b.ex,.string b.que,.string b.pat])=_
 rw [hl]
 rfl
theorem bkl_inj {a b:Bd} (ha:a.Fit) (hb:b.Fit) (h:bkl a=bkl b):a=b:=by
 have:=bKeyed.inj (keyOf_bd ha) (by rw [h]; exact keyOf_bd hb)
 cases a; cases b
 simp at this
 simp [this]
theorem bLits_eq (n:Nat) (a b c:Value):Tryz.prog.keyLits (n+2) 36 [a,b,c]=((Tryz.prog.keyLits (n+1) 9 [a]).bind fun x=>(Tryz.prog.keyLits (n+1) 9 [b]).bind fun y=>(Tryz.prog.keyLits (n+1) 9 [c]).map fun z=>x++(y++z)):=by
 have hu:=Tryz.underlying36
 rw [show n+2=(n+1)+1 from rfl]
 conv=>lhs; unfold Program.keyLits
 rw [hu]
 simp only [bCells,List.length_cons,List.length_nil]
 generalize hf:Tryz.prog.keyLits (n+1) 9=f
 simp [hf,sCells]
 cases f [a] <;> cases f [b] <;> cases f [c] <;> simp
theorem sLits_inv {n:Nat} {v:Value} {l:List Lit} (h:Tryz.prog.keyLits (n+1) 9 [v]=some l) : ∃ s:ByteArray,s.size<=maxLen/\v=.string s/\l=[.string s.data.toList]:=by
 have hs:=Tryz.underlying9
 unfold Program.keyLits at h
 rw [hs] at h
 cases v with
 |string s =>
  simp only at h
  split at h
  ·rename_i hl
   injection h with h
   exact ⟨s,hl,rfl,h.symm⟩
  ·cases h
 |_=>cases h
theorem bkey_inv {key:Value} {z:Lit} (h:keyOf Tryz.prog 36 key=some z) : ∃ b:Bd,b.Fit/\key=bv b/\z=bkl b:=by
 obtain ⟨n,hn⟩ : ∃ n,Tryz.prog.types.size+1=n+2:=⟨Tryz.prog.types.size-1,by have h:(36:Nat)<Tryz.prog.types.size:=bRow; omega⟩
 have hu:=Tryz.underlying36
 unfold keyOf at h
 rw [hu] at h
 simp only [bKeyType,hn,Bool.true_and] at h
 split at h
 ·rename_i hf
  obtain ⟨cs,rfl,hsz⟩ : ∃ cs,key=.agg cs/\cs.size=3:=by
   unfold Value.formed at hf
   rw [hu] at hf
   cases key with
   |agg cs=>exact ⟨cs,rfl,by simpa [bCells] using hf⟩
   |_=>simp at hf
  obtain ⟨a,b,c,rfl⟩ : ∃ a b c,cs = #[a,b,c]:=by
   cases cs with
   |mk l =>
    match l,hsz with
    |[a,b,c],_=>exact ⟨a,b,c,rfl⟩
  have hc:(Value.agg #[a,b,c]).cells.toList=[a,b,c]:=rfl
  rw [hc,bLits_eq] at h
  cases h1:Tryz.prog.keyLits (n+1) 9 [a] with
  |none=>rw [h1] at h; simp at h
  |some la =>
   cases h2:Tryz.prog.keyLits (n+1) 9 [b] with
   |none=>rw [h1,h2] at h; simp at h
   |some lb =>
    cases h3:Tryz.prog.keyLits (n+1) 9 [c] with
    |none=>rw [h1,h2,h3] at h; simp at h
    |some lc =>
     rw [h1,h2,h3] at h
     obtain ⟨s1,f1,rfl,rfl⟩:=sLits_inv h1
     obtain ⟨s2,f2,rfl,rfl⟩:=sLits_inv h2
     obtain ⟨s3,f3,rfl,rfl⟩:=sLits_inv h3
     simp at h
     exact ⟨⟨s1,s2,s3⟩,⟨f1,f2,f3⟩,rfl,h.symm⟩
 ·cases h
theorem xkey_inv {key:Value} {z:Lit} (h:keyOf Tryz.prog 9 key=some z) : ∃ s:ByteArray,key=.string s/\z=.string s.data.toList:=by
 have hu:=Tryz.underlying9
 simp only [keyOf,hu,mapKey] at h
 cases key <;> simp at h
 rename_i s
 exact ⟨s,rfl,h.2.symm⟩
end Go.Proofs.YtnhnpnafchkhiaaGreatDoor.B
namespace Go.Proofs.YtnhnpnafchkhiaaGreatDoor.B
open Go.Proofs.YtnhnpnafchkhiaaGreatDoor.K
open Go.RowKit Go.Sort
structure Cmp3 {α:Type} (c:α->α->Int):Prop where
 neg : ∀ a b,c b a = - c a b
 trans : ∀ a b d,c a b<0->c b d<0->c a d<0
 sub : ∀ a b,c a b=0 -> ∀ d,c a d=c b d
theorem Cmp3.self {α:Type} {c:α->α->Int} (h:Cmp3 c) (a:α):c a a=0:=by have:=h.neg a a; omega
theorem Cmp3.sub' {α:Type} {c:α->α->Int} (h:Cmp3 c) {a b:α} (e:c a b=0) (d:α):c d a=c d b:=by
 have h1:=h.sub a b e d; have h2:=h.neg a d; have h3:=h.neg b d; omega
theorem Cmp3.swo {α:Type} {c:α->α->Int} (h:Cmp3 c):SWO (fun x y=>decide (c x y<0)) where
 irrefl x:=by have:=h.self x; simp; omega
 trans x y z h1 h2:=by simp at *; exact h.trans x y z h1 h2
 ntrans x y z h1 h2:=by
  simp only [decide_eq_false_iff_not] at *
  intro h3
  have n1:=h.neg x y
  have n2:=h.neg y z
  by_cases e1:c x y=0
  ·have:=h.sub x y e1 z; omega
  ·by_cases e2:c y z=0
   ·have:=h.sub' e2 x; omega
   ·have h4:=h.trans z y x (by omega) (by omega)
    have n3:=h.neg x z; omega
def cor {α:Type} (c1 c2:α->α->Int) (a b:α):Int:=if c1 a b=0 then c2 a b else c1 a b
theorem Cmp3.or {α:Type} {c1 c2:α->α->Int} (h1:Cmp3 c1) (h2:Cmp3 c2):Cmp3 (cor c1 c2) where
 neg a b:=by
  unfold cor
  have n1:=h1.neg a b
  by_cases e:c1 a b=0
  ·rw [if_pos e,if_pos (by omega)]; exact h2.neg a b
  ·rw [if_neg e,if_neg (by omega)]; exact n1
 trans a b d:=by
  unfold cor
  intro k1 k2
  by_cases e1:c1 a b=0
  ·rw [if_pos e1] at k1
   have s:=h1.sub a b e1 d
   by_cases e2:c1 b d=0
   ·rw [if_pos e2] at k2
    rw [if_pos (by omega)]
    exact h2.trans a b d k1 k2
   ·rw [if_neg e2] at k2
    rw [if_neg (by omega)]; omega
  ·rw [if_neg e1] at k1
   by_cases e2:c1 b d=0
   ·have s:=h1.sub' e2 a
    rw [if_neg (by omega)]; omega
   ·rw [if_neg e2] at k2
    have:=h1.trans a b d k1 k2
    rw [if_neg (by omega)]; exact this
 sub a b:=by
  unfold cor
  intro k d
  by_cases e1:c1 a b=0
  ·rw [if_pos e1] at k
   rw [h1.sub a b e1 d,h2.sub a b k d]
  ·rw [if_neg e1] at k; exact absurd k e1
theorem Cmp3.on {α β:Type} {c:α->α->Int} (h:Cmp3 c) (f:β->α):Cmp3 (fun a b=>c (f a) (f b)) where
 neg _ _:=h.neg _ _
 trans _ _ _:=h.trans _ _ _
 sub _ _ e _:=h.sub _ _ e _
theorem cb_eq : ∀ (a b:List UInt8),Lib.compareBytes a b=0->a=b
 |[],[],_=>rfl
 |[],_::_,h=>by simp [Lib.compareBytes] at h
 |_::_,[],h=>by simp [Lib.compareBytes] at h
 |x::a,y::b,h=>by
  unfold Lib.compareBytes at h
  by_cases h1:x<y
  ·rw [if_pos h1] at h; cases h
  ·rw [if_neg h1] at h
   by_cases h2:y<x
   ·rw [if_pos h2] at h; cases h
   ·rw [if_neg h2] at h
    have e:x=y:=UInt8.toNat_inj.1 (by rw [UInt8.lt_iff_toNat_lt] at h1 h2; omega)
    rw [e,cb_eq a b h]
theorem cb_neg : ∀ (a b:List UInt8),Lib.compareBytes b a = - Lib.compareBytes a b
 |[],[]=>rfl
 |[],_::_=>rfl
 |_::_,[]=>rfl
 |x::a,y::b=>by
  unfold Lib.compareBytes
  by_cases h1:x<y
  ·have h2 : ¬ y<x:=by rw [UInt8.lt_iff_toNat_lt] at h1 ⊢; omega
   simp [h1,h2]
  ·by_cases h2:y<x
   ·simp [h1,h2]
   ·simp [h1,h2]; exact cb_neg a b
theorem cb_trans : ∀ (a b d:List UInt8),Lib.compareBytes a b<0->Lib.compareBytes b d<0->Lib.compareBytes a d<0
 |[],[],d,h,_=>by simp [Lib.compareBytes] at h
 |[],_::_,[],_,h=>by simp [Lib.compareBytes] at h
 |[],_::_,_::_,_,_=>by simp [Lib.compareBytes]
 |_::_,[],_,h,_=>by simp [Lib.compareBytes] at h
 |_::_,_::_,[],_,h=>by simp [Lib.compareBytes] at h
 |x::a,y::b,z::d,h1,h2=>by
  unfold Lib.compareBytes at h1 h2 ⊢
  simp only [UInt8.lt_iff_toNat_lt] at h1 h2 ⊢
  by_cases k1:x.toNat<y.toNat
  ·by_cases k3:z.toNat<y.toNat
   ·rw [if_neg (by omega),if_pos k3] at h2; simp at h2
   ·rw [if_pos (by omega)]; decide
  ·rw [if_neg k1] at h1
   by_cases k2:y.toNat<x.toNat
   ·rw [if_pos k2] at h1; simp at h1
   ·rw [if_neg k2] at h1
    by_cases k3:y.toNat<z.toNat
    ·rw [if_pos (by omega)]; decide
    ·rw [if_neg k3] at h2
     by_cases k4:z.toNat<y.toNat
     ·rw [if_pos k4] at h2; simp at h2
     ·rw [if_neg k4] at h2
      rw [if_neg (by omega),if_neg (by omega)]
      exact cb_trans a b d h1 h2
def cmpS (a b:ByteArray):Int:=Lib.compareBytes a.data.toList b.data.toList
theorem arr_inj {a b:ByteArray} (h:a.data.toList=b.data.toList):a=b:=str_inj (by rw [h])
theorem cmpS_eq {a b:ByteArray} (h:cmpS a b=0):a=b:=arr_inj (cb_eq _ _ h)
theorem cmpS3:Cmp3 cmpS where
 neg _ _:=cb_neg _ _
 trans _ _ _:=cb_trans _ _ _
 sub _ _ h _:=by rw [cmpS_eq h]
def cmpX (a b:Ex):Int:=cmpS a.name b.name
theorem cmpX3:Cmp3 cmpX:=cmpS3.on Ex.name
def cmpB:Bd->Bd->Int:=cor (fun a b=>cmpS a.ex b.ex) (cor (fun a b=>cmpS a.que b.que) (fun a b=>cmpS a.pat b.pat))
theorem cmpB3:Cmp3 cmpB:=(cmpS3.on Bd.ex).or ((cmpS3.on Bd.que).or (cmpS3.on Bd.pat))
theorem cmpB_eq {a b:Bd} (h:cmpB a b=0):a=b:=by
 unfold cmpB cor at h
 simp only at h
 by_cases h1:cmpS a.ex b.ex=0
 ·rw [if_pos h1] at h
  by_cases h2:cmpS a.que b.que=0
  ·rw [if_pos h2] at h
   cases a; cases b
   simp only at h h1 h2
   rw [cmpS_eq h,cmpS_eq h1,cmpS_eq h2]
  ·rw [if_neg h2] at h; exact absurd h h2
 ·rw [if_neg h1] at h; exact absurd h h1
section
variable {α:Type} {c:α->α->Int}
def Ord (c:α->α->Int) (l:List α):Prop:=l.Pairwise fun a b=>c a b<0
def insC (c:α->α->Int) (x:α):List α->List α
 |[]=>[x]
 |y::r=>if c y x<0 then y::insC c x r else x::y::r
theorem insC_perm (x:α) : ∀ l:List α,(insC c x l).Perm (x::l)
 |[]=>List.Perm.refl _
 |y::r=>by
  unfold insC
  split
  ·exact ((insC_perm x r).cons y).trans (List.Perm.swap x y r)
  ·exact List.Perm.refl _
theorem insC_ord (h:Cmp3 c) {x:α} : ∀ {l:List α},Ord c l->(∀ y∈l,c y x≠0)->Ord c (insC c x l)
 |[],_,_=>List.pairwise_singleton _ _
 |y::r,hl,hn=>by
  obtain ⟨h1,h2⟩:=List.pairwise_cons.1 hl
  unfold insC
  split
  ·rename_i hlt
   refine List.pairwise_cons.2 ⟨fun z hz=>?_,insC_ord h h2 (fun z hz=>hn z (by simp [hz]))⟩
   rcases List.mem_cons.1 ((insC_perm x r).mem_iff.1 hz) with rfl | hz
   ·exact hlt
   ·exact h1 z hz
  ·rename_i hge
   have hxy:c x y<0:=by
    have:=hn y (by simp); have:=h.neg x y; omega
   refine List.pairwise_cons.2 ⟨fun z hz=>?_,hl⟩
   rcases List.mem_cons.1 hz with rfl | hz
   ·exact hxy
   ·exact h.trans x y z hxy (h1 z hz)
theorem Ord.uniq (h:Cmp3 c) {l l':List α} (hl:Ord c l) (hp:l'.Perm l) (hs:l'.Pairwise fun a b => ¬ c b a<0):l'=l:=by
 have hnd : ∀ a∈l,∀ b∈l,c a b=0->a=b:=by
  clear hp hs
  induction l with
  |nil=>intro a ha; cases ha
  |cons x r ih =>
   obtain ⟨h1,h2⟩:=List.pairwise_cons.1 hl
   intro a ha b hb e
   rcases List.mem_cons.1 ha with rfl | ha' <;> rcases List.mem_cons.1 hb with rfl | hb'
   ·rfl
   ·have:=h1 b hb'; omega
   ·have:=h1 a ha'; have:=h.neg a b; omega
   ·exact ih h2 a ha' b hb' e
 exact List.Perm.eq_of_pairwise (le:=fun a b:α => ¬ c b a<0) (fun a b ha hb h1 h2=>hnd a (hp.mem_iff.1 ha) b hb (by have:=h.neg a b; omega)) hs (hl.imp (fun {a b} hlt=>by have:=h.neg a b; omega)) hp
theorem Ord.filter (p:α->Bool) {l:List α} (h:Ord c l):Ord c (l.filter p):=List.Pairwise.filter p h
end
end Go.Proofs.YtnhnpnafchkhiaaGreatDoor.B
namespace Go.Proofs.YtnhnpnafchkhiaaGreatDoor.B
open Go.Proofs.YtnhnpnafchkhiaaGreatDoor.K
open Go.RowKit Go.Maps Go.Sort
def xd (x:Ex):DataW Ex:=.held x
def bd (_:Bd):DataW Ex:=.agg []
structure XL (l:List Ex):Prop where
 diff:Diff xkl l
 fit : ∀ x∈l,x.name.size<=maxLen
structure BL (l:List Bd):Prop where
 diff:Diff bkl l
 fit : ∀ x∈l,x.Fit
def XAt (w:World) (b:Nat) (l:List Ex):Prop:=w.ownsMap Tryz.prog 9 rdEx b l.length (DofG xkl xd l)
def BAt (w:World) (b:Nat) (l:List Bd):Prop:=w.ownsMap Tryz.prog 36 unitElem b l.length (DofG bkl bd l)
theorem XL.keys {l:List Ex} (h:XL l) : ∀ x∈l,KeysOf Tryz.prog 9 (xkl x):=fun x hx=>⟨_,keyOf_str (h.fit x hx)⟩
theorem BL.keys {l:List Bd} (h:BL l) : ∀ x∈l,KeysOf Tryz.prog 36 (bkl x):=fun x hx=>⟨_,keyOf_bd (h.fit x hx)⟩
theorem x_entry {l:List Ex} (h:XL l) {s:ByteArray} {c:Ex} {z:Lit} {yd:DataW Ex} {yp:List MemPlace} (hk:keyOf Tryz.prog 9 (.string s)=some z) (hv:rdEx (xv c)=some (yd,yp)) (hat : ∀ zd,(DofG xkl xd l).atKey z zd=yd):c∈l/\xkl c=z:=by
 rw [rdEx_xv] at hv
 simp at hv
 obtain ⟨rfl,rfl⟩:=hv
 by_cases hn : ∃ y∈l,xkl y=z
 ·obtain ⟨y,hy,rfl⟩:=hn
  have h1:=hat .nil
  rw [atKey_mem xKeyed.one h.keys h.diff hy] at h1
  injection h1 with h1
  rw [<- h1]
  exact ⟨hy,rfl⟩
 ·have h1:=hat .nil
  rw [atKey_none (fun y hy e=>hn ⟨y,hy,e⟩)] at h1
  cases h1
theorem b_entry {l:List Bd} (h:BL l) {c:Bd} {z:Lit} {yd:DataW Ex} {v:Value} {yp:List MemPlace} (hk:keyOf Tryz.prog 36 (bv c)=some z) (hv:unitElem v=some (yd,yp)) (hat : ∀ zd,(DofG bkl bd l).atKey z zd=yd):c∈l/\bkl c=z:=by
 obtain ⟨rfl,hz⟩:=unitElem_inv hv
 simp at hz
 obtain ⟨rfl,rfl⟩:=hz
 by_cases hn : ∃ y∈l,bkl y=z
 ·obtain ⟨y,hy,rfl⟩:=hn
  have:=bKeyed.inj hk (keyOf_bd (h.fit y hy))
  have e:c=y:=by
   cases c; cases y
   simp at this
   simp [this]
  rw [e]
  exact ⟨hy,rfl⟩
 ·have h1:=hat .nil
  rw [atKey_none (fun y hy e=>hn ⟨y,hy,e⟩)] at h1
  cases h1
theorem XAt.same {w w':World} {b:Nat} {l:List Ex} (h:XAt w b l) (hs:w'.heap[b]? = w.heap[b]?):XAt w' b l:=by
 obtain ⟨es,clock,hb,r⟩:=h
 exact ⟨es,clock,by rw [hs]; exact hb,r⟩
theorem BAt.same {w w':World} {b:Nat} {l:List Bd} (h:BAt w b l) (hs:w'.heap[b]? = w.heap[b]?):BAt w' b l:=by
 obtain ⟨es,clock,hb,r⟩:=h
 exact ⟨es,clock,by rw [hs]; exact hb,r⟩
theorem XAt.lt {w:World} {b:Nat} {l:List Ex} (h:XAt w b l):b<w.heap.size:=World.ownsMap.lt h
theorem BAt.lt {w:World} {b:Nat} {l:List Bd} (h:BAt w b l):b<w.heap.size:=World.ownsMap.lt h
theorem xAt_new (w:World):XAt (w.alloc (.map #[] 0)) w.heap.size []:=World.ownsMap_made w _ _ _
theorem bAt_new (w:World):BAt (w.alloc (.map #[] 0)) w.heap.size []:=World.ownsMap_made w _ _ _
abbrev OwnX (w:World) (base:Nat) (v:Value) (l:List Ex):Prop:=OwnOf xcells 3 34 w base v l
abbrev OwnB (w:World) (base:Nat) (v:Value) (l:List Bd):Prop:=OwnOf bcells 3 36 w base v l
end Go.Proofs.YtnhnpnafchkhiaaGreatDoor.B
namespace Go.Proofs.YtnhnpnafchkhiaaGreatDoor.B
open Go.Proofs.YtnhnpnafchkhiaaGreatDoor.K
open Go.RowKit Go.Maps Go.Sort Go.Shelf
attribute [local go_sem] Oper.semAt_some
instance:Inhabited Ex:=⟨zeroEx⟩
theorem values1_inEx (F:Fence) (n:Nat) (h58:F.fn 109) (hro:F.round=none) (hn:1<=n) (l Bm b:Nat) (out:List Ex) (hr:XL out) (J Jx:List Ex->World->Prop)
  (hY : ∀ pre x W,J pre W->pre.length<out.length->YieldAt F (n-1) Tryz.prog l #[xv x] W fun e W' =>
   (e=.returned (.bool true)/\J (pre++[x]) W'/\KeepsWalks W W')\/(e=.returned (.bool false)/\Jx (pre++[x]) W'))
  (W:World) (hJ:AbidesFrom W.heap.size J) (hm:W.cell? ⟨Bm,0,none⟩=some (.map (some b))) (hown:XAt W b out) (h0:J [] W) :
  CallsIn F n Tryz.prog 109 #[.func (.yield l) #[] #[],.pointer (some ⟨Bm,0,none⟩)] W fun e W'=>(∃ v,e=.returned v) /\
   ((∃ xs,xs.Perm out/\J xs W')\/(∃ pre,True/\Jx pre W')):=by
 refine callsIn_of_wp Tryz.func109 rfl h58 ?_ hro
 simp only [Tryz.ntmps109,List.size_toArray,List.length_cons,List.length_nil,Nat.reduceAdd,Nat.reduceSub,Array.replicate_succ,Array.replicate_zero,List.push_toArray,List.append_toArray,List.nil_append,List.cons_append]
 have hD:Maps.size (DofG xkl xd out)=out.length:=size_DofG out
 gi_wp2_with (first
  |(gi_at_range; refine wpListIn_range_own _ rfl _ 124 rfl 9 34 xKeyed Tryz.underlying124 rdEx b out.length (DofG xkl xd out) rfl hown ?_; intro w0 hrg0 hg0 hs0)
  |gi_in)
 go_frame
 gi_loopw [4] (fun _ wr => ∃ (left:Lit->Bool) (cnt:Nat) (ps:List Ex),wr.ranges Tryz.prog 9 rdEx b W.heap.size out.length (DofG xkl xd out) left cnt/\ps.length+cnt<=out.length/\ComeG xkl out left ps/\J ps wr)
  (fun _ wr=>wr.rangeLeft b W.heap.size)
 case atStart =>
  exact ⟨_,_,[],hrg0,by rw [hD]; simp,ComeG.start xKeyed.one hr.keys,hJ [] W w0 none h0 hg0 (fun r e=>by cases e)⟩
 case round =>
  obtain ⟨left,cnt,ps,hrg,hcs,hC,hJs⟩:=hrel
  gi_wp2_with (first
   |(gi_at_next; refine wpListIn_next_ranges _ rfl _ rfl 9 xKeyed rdEx (fun s:ByteArray=>Value.string s) xv (fun key kl hk=>by obtain ⟨s,hs,_⟩:=xkey_inv hk; exact ⟨s,hs⟩) (fun v y hv=>by obtain ⟨c,hc,_⟩:=rdEx_inv hv; exact ⟨c,hc⟩) b W.heap.size out.length _ _ _ rfl hrg ?_ ?_)
   |gi_in)
  ·intro hc0 hl0
   gi_wp2
   go_end0
   exact ⟨⟨_,rfl⟩,.inl ⟨ps,hC.perm hr.diff hl0,hJs⟩⟩
  ·intro s c kl yd yp w2 cnt2 hkey hlk hv hat hrg2 hlt hg2 hs2 hen
   obtain ⟨hc,rfl⟩:=x_entry hr hkey hv hat
   have hJ2:J ps w2:=hJ ps wr w2 (some W.heap.size) hJs hg2 (fun r e=>by cases e; exact ⟨yyH _,hrg.iter_walk⟩)
   obtain ⟨w3,fold⟩ : ∃ w3,w2.alloc (.cells #[.string c.name,.int .i64 c.kind,.bool c.fed] 34)=w3:=⟨_,rfl⟩
   have hJ3:J ps w3:=hJ ps w2 w3 none hJ2 (by rw [<- fold]; exact World.grownBy_alloc _ _ _) (fun r e=>by cases e)
   have hrg3:=hrg2.alloc (.cells #[.string c.name,.int .i64 c.kind,.bool c.fed] 34)
   rw [fold] at hrg3
   have x0:w3.cell? ⟨w2.heap.size,0,none⟩=(xcells c)[0]? := by rw [<- fold]; simp [World.cell?_alloc_at,xcells]
   have x1:w3.cell? ⟨w2.heap.size,1,none⟩=(xcells c)[1]? := by rw [<- fold]; simp [World.cell?_alloc_at,xcells]
   have x2:w3.cell? ⟨w2.heap.size,2,none⟩=(xcells c)[2]? := by rw [<- fold]; simp [World.cell?_alloc_at,xcells]
   simp only [xcells,yyE,yyF] at x0 x1 x2
   obtain ⟨fn,tmps,assign,body,hy,hR⟩:=hY ps c w3 hJ3 (by omega)
   clear hs2 hkey hv hat
   gi_wp2
   refine hR.mono ?_
   have hC2:=hC.step xKeyed.one hr.keys hr.diff hc hlk
   rintro e W3 (⟨rfl,hJ4,hk4⟩ | ⟨rfl,hJx4⟩)
   ·gi_wp2
    have hrg4:=hrg3.of_walks hk4
    go_roundw
    case rel=>exact ⟨_,cnt2,ps++[c],hrg4,by simp; omega,hC2,hJ4⟩
    case measure=>rw [hrg4.left_eq,hrg.left_eq]; exact hlt
   ·gi_wp2
    refine bodyPost_ret (results_none rfl _ _ _) rfl ?_
    exact ⟨⟨_,rfl⟩,.inr ⟨ps++[c],trivial,hJx4⟩⟩
theorem values1_nilEx (F:Fence) (n:Nat) (h58:F.fn 109) (hro:F.round=none) (l Bm:Nat) (J:List Ex->World->Prop) (W:World) (hJ:AbidesFrom W.heap.size J) (hm:W.cell? ⟨Bm,0,none⟩=some (.map none)) (h0:J [] W) :
  CallsIn F n Tryz.prog 109 #[.func (.yield l) #[] #[],.pointer (some ⟨Bm,0,none⟩)] W fun e W'=>(∃ v,e=.returned v)/\J [] W':=by
 refine callsIn_of_wp Tryz.func109 rfl h58 ?_ hro
 simp only [Tryz.ntmps109,List.size_toArray,List.length_cons,List.length_nil,Nat.reduceAdd,Nat.reduceSub,Array.replicate_succ,Array.replicate_zero,List.push_toArray,List.append_toArray,List.nil_append,List.cons_append]
 have hrg:=run_range_nilMap (P:=Tryz.prog) W 124 9 34 Tryz.underlying124
 have hnx : ∀ ty,(Instr.next (.pointer (some ⟨W.heap.size,0,none⟩)) false ty).run Tryz.prog (W.alloc (.mapIter none 0 #[] 0))=_:=fun ty=>run_next_nilMap _ ty 0 0 #[]
 gi_wp2
 refine wpIn_loop_rounds 1 ?_
 rw [roundsIn_succ]
 gi_wp2
 go_end0
 exact ⟨⟨_,rfl⟩,hJ [] W _ none h0 (World.grownBy_alloc W _ none) (fun r e=>by cases e)⟩
def MapAtEx (w:World) (mb:Option Nat) (out:List Ex):Prop:=(mb=none/\out=[]) \/ ∃ b,mb=some b/\XAt w b out
theorem MapAtEx.below {w w':World} {mb:Option Nat} {out:List Ex} (h:MapAtEx w mb out) (hb:Below w.heap.size w w'):MapAtEx w' mb out:=by
 rcases h with h | ⟨b,rfl,ho⟩
 ·exact .inl h
 ·exact .inr ⟨b,rfl,ho.same (hb.block b ho.lt)⟩
theorem values_stopsEx (Bm:Nat) (mb:Option Nat) (out:List Ex) (hr:XL out) (n:Nat) (hn:1<=n) (w:World) (hBm:w.cell? ⟨Bm,0,none⟩=some (.map mb)) (hown:MapAtEx w mb out) :
  SeqStopsK Fence.wide n Tryz.prog 109 #[.pointer (some ⟨Bm,0,none⟩)] (fun x:Ex => #[xv x]) KeepsWalks (fun xs=>xs.Perm out) (fun _=>True) out.length w:=fun l J Jx W hW hJ _ hY h0=>by
 have hm:W.cell? ⟨Bm,0,none⟩=some (.map mb):=(hW.cell (p:=⟨Bm,0,none⟩) (World.block_lt_of_cell? _ _ hBm)).trans hBm
 rcases hown.below hW with ⟨rfl,rfl⟩ | ⟨b,rfl,ho⟩
 ·exact (values1_nilEx Fence.wide n trivial rfl l Bm J W hJ hm h0).mono fun _ _ ⟨he,hj⟩=>⟨he,.inl ⟨[],List.Perm.refl _,hj⟩⟩
 ·exact values1_inEx Fence.wide n trivial rfl hn l Bm b out hr J Jx hY W hJ hm ho h0
theorem item_newsEx (W:World) (x:Ex) : ∀ j u,(xcells x)[j]? = some u->(W.alloc (.cells #[.string x.name,.int .i64 x.kind,.bool x.fed] 34)).cell? ((⟨W.heap.size,0,none⟩:Addr).add j)=some u:=by
 intro j u hj
 rw [Addr.add_lit,Nat.zero_add]
 have:=cell_of_list (C:=xcells x) (w:=W.alloc (.cells (xcells x).toArray 34)) (g:=W.heap.size) (t:=34) (heap_alloc_new W _) j
 exact this.trans hj
theorem appendSeq_inEx (Bm:Nat) (mb:Option Nat) (out:List Ex) (hr:XL out) (hlen:out.length<=1000000) (w:World) (hBm:w.cell? ⟨Bm,0,none⟩=some (.map mb)) (hown:MapAtEx w mb out) :
  CallsIn Fence.wide 5 Tryz.prog 168 #[.slice none 0 0,.func (.func 109) #[] #[.pointer (some ⟨Bm,0,none⟩)]] w fun e W' => ∃ v xs,e=.returned v/\xs.Perm out/\OwnX W' w.heap.size v xs/\Below w.heap.size w W':=by
 refine callsIn_of_wp_marks Tryz.func168 rfl trivial ?_ rfl
 simp only [Tryz.ntmps168,List.size_toArray,List.length_cons,List.length_nil,Nat.reduceAdd,Nat.reduceSub,Array.replicate_succ,Array.replicate_zero,List.push_toArray,List.append_toArray,List.nil_append,List.cons_append]
 gi_wp2
 obtain ⟨W0,hW0⟩ : ∃ W0,w.alloc (.cells #[.slice none 0 0] 43)=W0:=⟨_,rfl⟩
 have bS:Boxed W0 w.heap.size 43 (.slice none 0 0):=by rw [<- hW0]; exact Boxed.new w _ _
 have hB0:Below w.heap.size w W0:=by rw [<- hW0]; exact (Below.refl _ w).alloc (yyH _) _
 have hsz:W0.heap.size=w.heap.size+1:=by rw [<- hW0]; simp
 rw [hW0]
 clear hW0
 obtain ⟨i0,hi0,hz0,hzs,hzb⟩:=xInfo
 refine wpIn_rangeFunc_ownH rfl (by decide) (gf:=109) (lb := #[.pointer (some ⟨Bm,0,none⟩)]) rfl trivial (enters_of Tryz.func109 (by kernel_rfl) rfl)
  (values_stopsEx Bm mb out hr (5-1) (by decide) w hBm hown) walksK_t walksK_b hB0 (fun _=>rfl)
  (fun pre W=>(∃ v,Boxed W w.heap.size 43 v/\W.ownsRow w.heap.size 34 3 v pre.length (cellsOf xcells pre)/\True)/\Below w.heap.size w W)
  (fun _ _ _=>False)
  (OwnFrom.and (Own.from (holdsRow_own w.heap.size w.heap.size 43 34 3 (fun pre:List Ex=>pre.length) (fun pre=>cellsOf xcells pre) (fun _ _=>True)) _) (ownFrom_below (yyH _) (by omega)))
  (fun _ _ _ _ _ hs _ _=>hs)
  ⟨⟨_,bS,World.ownsRow_nil _ _ _ _,trivial⟩,hB0⟩
  (fun x a' W => ∃ Bx,w.heap.size<Bx/\W.heap[Bx]? = some (.cells (xcells x).toArray 34 (0,0))/\a'={ tmps := #[.slice none 0 0,.func (.func 109) #[] #[.pointer (some ⟨Bm,0,none⟩)],.pointer (some ⟨w.heap.size,0,none⟩),undef,.slice none 0 0,.pointer (some ⟨Bx,0,none⟩),.func (.func 109) #[] #[.pointer (some ⟨Bm,0,none⟩)],xv x,undef,undef,undef,undef,undef],defers:=[] })
  (fun x a' _ X Y row hs hg hr=>by
   obtain ⟨Bx,h1,h2,h3⟩:=hs
   refine ⟨Bx,h1,(hg.block Bx (yyD h2).1 (fun e=>?_)).trans h2,h3⟩
   obtain ⟨_,o,ho,hc⟩:=hr Bx e.symm
   rw [h2] at ho; cases ho; cases hc)
  ?assign ?body ?done ?stop
 case assign =>
  rintro l pre x W K ⟨⟨v,bS1,hrow,_⟩,hB1⟩ hK
  gi_wp2
  exact hK _ _ ((KeepsOthers.alloc _ _).from _) (KeepsWalks.alloc _ _) ⟨⟨v,bS1.alloc _,hrow.alloc _,trivial⟩,hB1.alloc hB1.size _⟩ ⟨W.heap.size,bS1.lt,heap_alloc_new W _,rfl⟩
 case body =>
  rintro l pre x a' W hl ⟨r,hr'⟩ ⟨⟨v,bS1,hrow,_⟩,hB1⟩ ⟨Bx,hBx,hX,rfl⟩ hlt
  have cS:=bS1.cell
  have fS:=bS1.frozen
  have x0:W.cell? ⟨Bx,0,none⟩=(xcells x)[0]? := by simp [World.cell?,hX,xcells]
  have x1:W.cell? ⟨Bx,1,none⟩=(xcells x)[1]? := by simp [World.cell?,hX,xcells]
  have x2:W.cell? ⟨Bx,2,none⟩=(xcells x)[2]? := by simp [World.cell?,hX,xcells]
  simp only [xcells,yyE,yyF] at x0 x1 x2
  have hBl:=bS1.lt
  gi_wp2_with (first
   |(gi_at_builtin; refine wpListIn_append_own _ rfl _ _ 43 rfl w.heap.size 34 i0 _ 3 32 Tryz.underlying43 hi0 hz0 hzs hzb rfl (by decide) v pre.length (cellsOf xcells pre) rfl (hrow.alloc _) ⟨W.heap.size,0,none⟩ 1 1 (xcells x) rfl rfl (item_newsEx W x) (Enc.one x) (by unfold maxLen; omega) (by omega) (by have:=hB1.size; simp; omega) ?_; intro v' w1 hown' hgrow _; obtain ⟨g',cap',rfl⟩:=ownsRow_succ hown'; obtain ⟨hv1,hv2,hr2,hk2,hb2⟩:=bS1.appended (by decide) hrow hB1.size (yyH _) hown' hgrow; have hc1:=hv1.cell; have hf1:=hv1.frozen)
   |gi_in)
  refine ⟨hk2.from _,hk2.walks,⟨_,hv2,?_,trivial⟩,hB1.trans hb2⟩
  rw [cellsOf_append,List.length_append]
  simpa [cellsOf_cons,cellsOf_nil] using hr2
 case done =>
  rintro D xs W hD hperm ⟨⟨v,bS1,hrow,_⟩,hB1⟩ hK
  have cS:=bS1.cell
  obtain ⟨va,vc,rfl⟩:=(show OwnX W w.heap.size v xs from hrow).rng.slice
  gi_wp2
  refine ⟨by simp,.inl ⟨_,_,rfl,run_takeDeferred hK,?_⟩⟩
  exact ⟨_,results_tmp (t:=4) rfl _ _ _,.slice va xs.length vc,xs,rfl,hperm,ownsRow_putObj hrow _ hK rfl,hB1.trans (belowK_b (w:=w) (yyH _) W D _ _ (by omega) hK rfl rfl)⟩
 case stop =>
  rintro D c pre W _ _ h _
  exact h.elim
theorem collect_anyEx (Bm:Nat) (mb:Option Nat) (out:List Ex) (hr:XL out) (hlen:out.length<=1000000) (w:World) (hBm:w.cell? ⟨Bm,0,none⟩=some (.map mb)) (hown:MapAtEx w mb out) :
  Calls Tryz.prog 107 #[.func (.func 109) #[] #[.pointer (some ⟨Bm,0,none⟩)]] w fun e W' => ∃ v xs,e=.returned v/\xs.Perm out/\OwnX W' w.heap.size v xs/\Below w.heap.size w W':=by
 have hA:=callsIn_wide.1 (appendSeq_inEx Bm mb out hr hlen w hBm hown)
 go_enter Tryz.func107,Tryz.ntmps107
 go_wp2_with fail
 refine hA.mono ?_
 rintro e w1 ⟨v,xs,rfl,hp,own,b⟩
 obtain ⟨va,vc,rfl⟩:=own.rng.slice
 go_wp2
 go_ret
 exact ⟨_,xs,rfl,hp,own,b⟩
theorem values_anyEx (mb:Option Nat) (w:World) :
  Calls Tryz.prog 58 #[.map mb] w fun e w'=>e=.returned (.func (.func 109) #[] #[.pointer (some ⟨w.heap.size,0,none⟩)])/\w'=w.alloc (.cells #[.map mb] 124):=by
 go_enter Tryz.func58,Tryz.ntmps58
 go_wp2
 go_ret
 exact ⟨rfl,rfl⟩
theorem ltEx (x y:Ex):ltOf cmpX x y=decide (cmpX x y<0):=rfl
theorem swoEx:SWO (ltOf cmpX):=cmpX3.swo
theorem cmpEx_any (x y:Ex) (W:World):Calls Tryz.prog 59 #[xv x,xv y] W fun e w'=>e=.returned (.int .i64 (cmpX x y)) /\ ∃ q os',w'=grow (W.drewN q) os':=by
 have hcon : ∀ W',Calls Tryz.prog 60 #[.string x.name,.string y.name] W' fun e w'=>e=.returned (.int .i64 (cmpX x y))/\w'=W':=fun W'=>Any.strings_Compare Tryz.lays106 x.name y.name W'
 generalize cmpX x y=r at hcon ⊢
 go_enter Tryz.func59,Tryz.ntmps59
 go_wp2_with (go_at_call 60; refine (hcon _).mono ?_; rintro e w' ⟨rfl,rfl⟩)
 go_ret
 exact ⟨rfl,0,_,by rw [alloc_eq_grow,alloc_eq_grow,grow_grow]; rfl⟩
theorem flatREx (l:List Ex):flatK xcells 3 l.toArray=(cellsOf xcells l).toArray:=by
 have hll:=cellsOf_length (enc:=xcells) l
 refine ext_get! (by simp [hll]) fun t ht=>?_
 have ht':t<l.length*3:=by simpa using ht
 rw [get_flatK _ _ _ _ (by simpa using ht')]
 have hil:t / 3<l.length:=by omega
 have hj:t % 3<3:=Nat.mod_lt _ (by decide)
 have hg:=cellsOf_get (enc:=xcells) l (t / 3) (t % 3) hil hj
 rw [show t / 3*3+t % 3=t by omega] at hg
 have e:l.toArray[t / 3]! = l[t / 3]:=by simp [hil]
 have hb:t<(cellsOf xcells l).length:=by rw [hll]; exact ht'
 have hr:(cellsOf xcells l).toArray[t]! = (cellsOf xcells l)[t]:=by rw [getElem!_pos _ t (by simpa using hb)]; simp
 rw [hr,e]
 rw [List.getElem?_eq_getElem hb] at hg
 have hc:t % 3<(xcells l[t / 3]).length:=hj
 rw [List.getElem?_eq_getElem hc] at hg
 injection hg with hg
 rw [hg]
 first
  |rw [getElem!_pos _ _ hc]
  |simp [hc]
theorem holdsREx {w:World} {g:Nat} {l:List Ex} {T:List Value} (hg:w.heap[g]? = some (.cells (cellsOf xcells l++T).toArray 34 (0,0))):HoldsK xcells 3 w g 0 l.toArray:=by
 intro j hj
 rw [flatREx] at hj ⊢
 have hj':j<(cellsOf xcells l).length:=by simpa using hj
 refine ⟨?_,frozen_of_list hg _⟩
 rw [Nat.zero_add,cell_of_list hg,List.getElem?_append_left hj',List.getElem?_eq_getElem hj',getElem!_pos _ j (by simpa using hj')]
 simp
theorem sortedWorldEx {w:World} {g n:Nat} {l l':List Ex} {T:List Value} {os:Array Obj} (hg:w.heap[g]? = some (.cells (cellsOf xcells l++T).toArray 34 (0,0))) (hl:l'.length=l.length) :
  (sortWorldK xcells 3 w g 0 n l'.toArray os).heap[g]? = some (.cells (cellsOf xcells l'++T).toArray 34 (0,0))/\w.grownBy (sortWorldK xcells 3 w g 0 n l'.toArray os) (some g):=by
 have hlt:=(yyD hg).1
 have hsz:(putRowK xcells 3 (Sort.ahead w n) g 0 l'.toArray).heap.size=w.heap.size:=by unfold putRowK; simp
 have hgb:(putRowK xcells 3 (Sort.ahead w n) g 0 l'.toArray).heap[g]? = some (.cells (cellsOf xcells l'++T).toArray 34 (0,0)):=by
  unfold putRowK putRow mapBlock
  show (w.heap.modify g _)[g]? = _
  rw [Array.getElem?_modify,if_pos rfl,hg]
  simp only [Option.map_some,onCells,flatREx]
  congr 2
  apply Array.ext'
  apply List.ext_getElem?
  intro k
  have e1:=cellsOf_length (enc:=xcells) l
  have e2:=cellsOf_length (enc:=xcells) l'
  unfold putCells
  simp only [Array.toList_mapIdx,List.getElem?_mapIdx,Nat.zero_le,true_and,Nat.zero_add,Nat.sub_zero,List.size_toArray,id]
  by_cases hk:k<(cellsOf xcells l').length
  ·have hk2:k<(cellsOf xcells l).length:=by omega
   rw [List.getElem?_append_left hk2,List.getElem?_append_left hk,List.getElem?_eq_getElem hk2,List.getElem?_eq_getElem hk]
   simp [hk]
  ·rw [List.getElem?_append_right (by omega),List.getElem?_append_right (by omega),e1,e2,hl]
   have hk3 : ¬ k<l.length*3:=by omega
   cases T[k-l.length*3]? with
   |none=>rfl
   |some x=>simp [hk3]
 refine ⟨?_,?_⟩
 ·unfold sortWorldK
  rw [heap_grow_old _ _ (by rw [hsz]; exact hlt)]
  exact hgb
 ·refine ⟨rfl,rfl,rfl,?_,fun k hk hne=>?_⟩
  ·unfold sortWorldK
   rw [size_grow,hsz]; omega
  ·unfold sortWorldK
   rw [heap_grow_old _ _ (by rw [hsz]; exact hk)]
   unfold putRowK putRow mapBlock
   show (w.heap.modify g _)[k]? = _
   rw [Array.getElem?_modify,if_neg (fun he=>hne (by rw [he]))]
theorem sort_anyEx (base:Nat) (v:Value) (l:List Ex) (w:World) (hown:OwnX w base v l) (hlen:l.length<=1000000) :
  Calls Tryz.prog 108 #[v,.func (.func 59) #[] #[]] w fun e w'=>e=.returned (.tuple #[]) /\ ∃ l',l'.Perm l/\(∀ i j (hi:i<l'.length) (hj:j<l'.length),i<j -> ¬ cmpX l'[j] l'[i]<0)/\OwnX w' base v l'/\w.grownBy w' v.ownBlock:=by
 by_cases hp:0<l.length
 ·rcases hown.split with ⟨rfl,rfl⟩ | ⟨g,c,T,rfl,hbg,hg,h1,h2,hT⟩
  ·simp at hp
  ·have eg : ∀ args w,(callFunc 59 args).run Tryz.prog w=.ok (.enter 59 args) w:=enters_of Tryz.func59 (by kernel_rfl) rfl
   have hcon:=AnyQ.slices_SortFunc Tryz.sortX 3 Tryz.isAgg34 Tryz.sizeOf34 xcells (fun _=>rfl) (fun x v hv=>Enc.one x v hv) cmpX swoEx 59 #[] g 0 c l.toArray w eg
    (fun _ _ _ _ x y=>cmpEx_any x y _) (holdsREx hg) (yyD hg).1 (by simp; omega)
   change Calls Tryz.prog 108 _ _ _ at hcon
   refine hcon.mono ?_
   rintro e w' ⟨rfl,d',n,os,hperm,hsort,rfl⟩
   have hd:d'=d'.toList.toArray:=by simp
   have hs:d'.toList.length=l.length:=by simpa using hperm.1
   obtain ⟨hw1,hw2⟩:=sortedWorldEx (n:=n) (l':=d'.toList) (os:=os) hg hs
   rw [<- hd] at hw1 hw2
   refine ⟨rfl,d'.toList,?_,fun i j hi hj hij=>?_,ownOf_mk hbg hw1 hs.symm (by omega) h2 (by rw [hs]; exact hT),hw2⟩
   ·have h3:=hperm.2.2
    have e1:d'.extract 0 l.toArray.size=d':=by rw [<- hperm.1]; simp
    rw [e1] at h3
    simpa using h3
   ·have h4:=hsort i j (Nat.zero_le _) hij (by rw [hs] at hj; simpa using hj)
    rw [ltEx] at h4
    have a1:d'[i]! = d'.toList[i]:=by rw [getElem!_pos _ i (by simpa using hi)]; simp
    have a2:d'[j]! = d'.toList[j]:=by rw [getElem!_pos _ j (by simpa using hj)]; simp
    rw [a1,a2] at h4
    simpa using h4
 ·obtain rfl:l=[]:=List.eq_nil_of_length_eq_zero (by omega)
  obtain ⟨a,cap,rfl⟩:=hown.rng.slice
  have hcon:=AnyF.slices_SortFunc_none Tryz.sortX a cap (.func (.func 59) #[] #[]) w
  change Calls Tryz.prog 108 _ _ _ at hcon
  refine hcon.mono ?_
  rintro e w' ⟨rfl,rfl⟩
  exact ⟨rfl,[],List.Perm.refl _,fun i j hi=>by simp at hi,hown,⟨rfl,rfl,rfl,yyH _,fun _ _ _=>rfl⟩⟩
theorem sortedFunc_anyEx (Bm:Nat) (mb:Option Nat) (out:List Ex) (hr:XL out) (ho:Ord cmpX out) (hlen:out.length<=1000000) (w:World) (hBm:w.cell? ⟨Bm,0,none⟩=some (.map mb)) (hown:MapAtEx w mb out) :
  Calls Tryz.prog 57 #[.func (.func 109) #[] #[.pointer (some ⟨Bm,0,none⟩)],.func (.func 59) #[] #[]] w fun e W' => ∃ v,e=.returned v/\OwnX W' w.heap.size v out/\Below w.heap.size w W':=by
 have hC:=collect_anyEx Bm mb out hr hlen w hBm hown
 go_enter Tryz.func57,Tryz.ntmps57
 go_wp2_with fail
 refine hC.mono ?_
 rintro e w1 ⟨v,xs,rfl,hp,own,b⟩
 have hl:xs.length<=1000000:=by rw [hp.length_eq]; exact hlen
 have hS:=sort_anyEx w.heap.size v xs w1 own hl
 obtain ⟨va,vc,hva⟩:=own.rng.slice
 subst hva
 go_wp2_with fail
 refine hS.mono ?_
 rintro e w2 ⟨rfl,l2,hp2,hs2,own2,gr2⟩
 obtain rfl:=ho.uniq cmpX3 (hp2.trans hp) (List.pairwise_iff_getElem.2 fun i j hi hj h=>by have:=hs2 i j hi hj h; omega)
 have bel:Below w.heap.size w w2:=own.below gr2 b b.size (yyH _)
 go_wp2
 go_ret
 exact ⟨_,rfl,own2,bel⟩
end Go.Proofs.YtnhnpnafchkhiaaGreatDoor.B
