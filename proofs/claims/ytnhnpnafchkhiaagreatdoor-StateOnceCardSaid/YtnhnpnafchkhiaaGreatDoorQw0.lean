import Derived.Test.YtnhnpnafchkhiaaGreatDoorQwA
import Derived.Test.YtnhnpnafchkhiaaGreatDoorCards
import Derived.Test.YtnhnpnafchkhiaaGreatDoorTie
import Derived.JoinedCond
import Derived.SevenTiedAt
import Derived.Maps.OwnSet
import Derived.Maps.OwnIn
import Derived.Lib.SlMapFilter
import Derived.Test.YtnhnpnafchkhiaaGreatDoorProg
import Derived.WalkKit
import Derived.WalkLawsBesides
import Derived.Handy
import Derived.Laws.AppendOwnNone
import Derived.Laws.MakeOwn
import Derived.Laws.RangeAny
import Derived.Deep.Light
namespace Go.Proofs.YtnhnpnafchkhiaaGreatDoor.stateOnce
open Go.ChangeShapes Go.WideShapes Go.ChangeAt
theorem kInPlace:(Rows.stateOnceRow.inPlace==Tryz.pinned.checked.prog.inPlace 3)=true:=by kernel_rfl
theorem kUnfollowed:(Rows.stateOnceRow.unfollowed==Tryz.pinned.checked.prog.unfollowed 3)=true:=by kernel_rfl
theorem kRecurses:(Rows.stateOnceRow.recurses==Tryz.pinned.checked.prog.recurses 3)=true:=by kernel_rfl
theorem kNamed:(Rows.stateOnceRow.named==Tryz.pinned.checked.prog.varsNamed 3)=true:=by kernel_rfl
theorem closed:joinedFacts Tryz.pinned.checked.prog 3 Tryz.f3 (OpenSpec.ofChange Rows.stateOnceSpec).bare Rows.stateOnceRow=true:=by
 unfold joinedFacts
 rw [kInPlace,kUnfollowed,kRecurses,kNamed]
 kernel_rfl
theorem kWf:Rows.stateOnceRow.wfByText (OpenSpec.ofChange Rows.stateOnceSpec)=true:=by kernel_rfl
theorem kGoes:false=Rows.stateOnceRow.goesBy Tryz.pinned.checked.prog:=by kernel_rfl
theorem plain (f:FuncId) (fn:Func) (hf:Tryz.pinned.checked.prog.funcNamed "staith/staithlaw14.StateOnce"=some f) (hfn:Tryz.pinned.checked.prog.funcs[f]? = some fn) :
  true=Tryz.pinned.checked.prog.looks [] /\ ∀ (j:Nat) t,fn.params[j]? = some t->Tryz.pinned.checked.prog.wantsStandIn t=false:=by
 obtain rfl:f=3:=Option.some.inj ((show Tryz.prog.funcNamed "staith/staithlaw14.StateOnce"=some 3 by kernel_rfl).symm.trans hf) |>.symm
 obtain rfl:fn=Tryz.f3:=(Option.some.inj (Tryz.func3.symm.trans hfn)).symm
 refine ⟨by kernel_rfl,fun j t ht=>?_⟩
 rw [Tryz.params3] at ht
 have hm:=Array.mem_of_getElem? ht
 have hm':t=24\/t=25:=by simpa using hm
 rcases hm' with rfl | rfl
 ·exact (show Tryz.prog.wantsStandIn 24=false by kernel_rfl)
 ·exact (show Tryz.prog.wantsStandIn 25=false by kernel_rfl)
end Go.Proofs.YtnhnpnafchkhiaaGreatDoor.stateOnce
namespace Go.Proofs.YtnhnpnafchkhiaaGreatDoor
open Go.RowKit Go.Maps Go.WideShapes
open Go.ChangeMaps (notKey putKey delKey mem_insert_iff eq_of_perm_sorted)
section
variable {α H:Type} (kl:α->Lit) (d:α->DataW H)
def entsG (l:List α):List (Lit × DataW H):=l.map fun x=>(kl x,d x)
def DofG (l:List α):DataW H:=.map ((entsG kl d l).foldr DataW.insert [])
def Diff (l:List α):Prop:=l.Pairwise fun a b=>kl a≠kl b
end
section
variable {α H:Type} {kl:α->Lit} {d:α->DataW H} {Kd:Lit->Prop} (O:OneKind Kd)
theorem ents_apart {l:List α} (h:Diff kl l):(entsG kl d l).Pairwise fun p q=>p.1≠q.1:=by
 unfold entsG; rw [List.pairwise_map]; exact h
theorem ents_keys {l:List α} (h : ∀ x∈l,Kd (kl x)):Keys Kd (entsG kl d l):=by
 intro p hp
 obtain ⟨x,hx,rfl⟩:=List.mem_map.1 hp
 exact h x hx
include O in
theorem sameKey_iff {a b:Lit} (ha:Kd b):a.sameKey b=true↔a=b:=⟨WideAt.sameKey_eq,fun e=>by rw [e]; exact WideAt.sameKey_self (O.key ha)⟩
theorem sameKey_false {a b:Lit} (h:a≠b):a.sameKey b=false:=by
 cases e:a.sameKey b
 ·rfl
 ·exact absurd (WideAt.sameKey_eq e) h
include O in
theorem DofG_perm {l l':List α} (hk : ∀ x∈l,Kd (kl x)) (hd:Diff kl l) (hp:l'.Perm l):DofG kl d l'=DofG kl d l:=by
 have hk' : ∀ x∈l',Kd (kl x):=fun x hx=>hk x (hp.mem_iff.1 hx)
 have hd':Diff kl l':=(hp.pairwise_iff (fun {a b} (h:kl a≠kl b)=>h.symm)).2 hd
 unfold DofG
 congr 1
 exact eq_of_perm_sorted ((sorted_perm _).trans ((hp.map _).trans (sorted_perm _).symm)) (sorted_sorted O _ (ents_keys hk') (ents_apart hd')) (sorted_sorted O _ (ents_keys hk) (ents_apart hd))
theorem size_DofG (l:List α):Maps.size (DofG kl d l)=l.length:=by simp [DofG,entsG,Maps.size,length_sorted]
include O in
theorem has_DofG {l:List α} {z:Lit} (hz:Kd z):Maps.has (DofG kl d l) z=true ↔ ∃ y∈l,kl y=z:=by
 show ((entsG kl d l).foldr DataW.insert []).any (fun p=>p.1.sameKey z)=true↔_
 rw [List.any_eq_true]
 constructor
 ·rintro ⟨p,hp,hs⟩
  obtain ⟨y,hy,rfl⟩:=List.mem_map.1 (mem_sorted.1 hp)
  exact ⟨y,hy,(sameKey_iff O hz).1 hs⟩
 ·rintro ⟨y,hy,e⟩
  exact ⟨(kl y,d y),mem_sorted.2 (List.mem_map.2 ⟨y,hy,rfl⟩),(sameKey_iff O hz).2 e⟩
include O in
theorem has_DofG_false {l:List α} {z:Lit} (hz:Kd z) (h : ∀ y∈l,kl y≠z):Maps.has (DofG kl d l) z=false:=by
 cases e:Maps.has (DofG kl d l) z
 ·rfl
 ·obtain ⟨y,hy,he⟩:=(has_DofG O hz).1 e
  exact absurd he (h y hy)
include O in
theorem atKey_mem {l:List α} (hk : ∀ x∈l,Kd (kl x)) (hd:Diff kl l) {x:α} (hx:x∈l) (zd:DataW H):(DofG kl d l).atKey (kl x) zd=d x:=by
 refine WideAt.atKey_mem zd (O.key (hk x hx)) ?_ (mem_sorted.2 (List.mem_map.2 ⟨x,hx,rfl⟩))
 exact ((sorted_perm (entsG kl d l)).pairwise_iff (fun {a b} (h:a.1≠b.1)=>h.symm)).2 (ents_apart hd)
theorem atKey_none {l:List α} {z:Lit} (h : ∀ y∈l,kl y≠z) (zd:DataW H):(DofG kl d l).atKey z zd=zd:=by
 unfold DofG DataW.atKey
 have:((entsG kl d l).foldr DataW.insert []).find? (fun p=>p.1.sameKey z)=none:=by
  rw [List.find?_eq_none]
  intro p hp
  obtain ⟨y,hy,rfl⟩:=List.mem_map.1 (mem_sorted.1 hp)
  rw [sameKey_false (h y hy)]; simp
 simp only [this]
include O in
theorem del_DofG {l:List α} (hk : ∀ x∈l,Kd (kl x)) (hd:Diff kl l) (z:Lit):(DofG kl d l).del z=DofG kl d (l.filter fun y => !(kl y).sameKey z):=by
 have h:=sorted_del O (k:=z) (E:=entsG kl d l) (E':=entsG kl d (l.filter fun y => !(kl y).sameKey z)) (ents_keys hk) (ents_apart hd) (by
  unfold entsG
  rw [List.filter_map]
  exact List.Perm.refl _)
 unfold DofG
 rw [DataW.del_eq,h]
include O in
theorem put_DofG {l:List α} (hk : ∀ x∈l,Kd (kl x)) (hd:Diff kl l) {x:α} (hx:Kd (kl x)):(DofG kl d l).put (kl x) (d x)=DofG kl d (x::l.filter fun y => !(kl y).sameKey (kl x)):=by
 have h:=sorted_put O (k:=kl x) (d:=d x) (E:=entsG kl d l) (E':=entsG kl d (x::l.filter fun y => !(kl y).sameKey (kl x))) hx (ents_keys hk) (ents_apart hd) (by
  unfold entsG
  rw [List.map_cons,List.filter_map]
  exact List.Perm.refl _)
 unfold DofG
 rw [DataW.put_eq,h]
include O in
theorem put_new {l:List α} (hk : ∀ x∈l,Kd (kl x)) (hd:Diff kl l) {x:α} (hx:Kd (kl x)) (hn : ∀ y∈l,kl y≠kl x):(DofG kl d l).put (kl x) (d x)=DofG kl d (x::l):=by
 rw [put_DofG O hk hd hx]
 congr 2
 rw [List.filter_eq_self]
 intro y hy
 rw [sameKey_false (hn y hy)]; rfl
theorem Diff.unique {l:List α} (h:Diff kl l) {x y:α} (hx:x∈l) (hy:y∈l) (e:kl x=kl y):x=y:=by
 induction l with
 |nil=>cases hx
 |cons z r ih =>
  obtain ⟨h1,h2⟩:=List.pairwise_cons.1 h
  rcases List.mem_cons.1 hx with hxz | hxr
  ·rcases List.mem_cons.1 hy with hyz | hyr
   ·rw [hxz,hyz]
   ·exact absurd (by rw [<- hxz]; exact e) (h1 y hyr)
  ·rcases List.mem_cons.1 hy with hyz | hyr
   ·exact absurd (by rw [<- hyz]; exact e.symm) (h1 x hxr)
   ·exact ih h2 hxr hyr
theorem Diff.nodup {l:List α} (h:Diff kl l):l.Nodup:=h.imp fun h e=>h (by rw [e])
theorem Diff.perm {l l':List α} (h:Diff kl l) (hp:l'.Perm l):Diff kl l':=(hp.pairwise_iff (fun {a b} (h:kl a≠kl b)=>h.symm)).2 h
include O in
theorem put_old {l:List α} (hk : ∀ x∈l,Kd (kl x)) (hd:Diff kl l) {x:α} (hx:x∈l):(DofG kl d l).put (kl x) (d x)=DofG kl d l:=by
 rw [put_DofG O hk hd (hk x hx)]
 refine DofG_perm O hk hd ?_
 have hself:(kl x).sameKey (kl x)=true:=(sameKey_iff O (hk x hx)).2 rfl
 have hnx:x∉l.filter fun y => !(kl y).sameKey (kl x):=fun h=>by
  have:=(List.mem_filter.1 h).2
  rw [hself] at this
  cases this
 have hnd:(x::l.filter fun y => !(kl y).sameKey (kl x)).Nodup:=List.nodup_cons.2 ⟨hnx,hd.nodup.filter _⟩
 rw [List.perm_ext_iff_of_nodup hnd hd.nodup]
 intro y
 rw [List.mem_cons,List.mem_filter]
 constructor
 ·rintro (rfl | ⟨h,_⟩)
  ·exact hx
  ·exact h
 ·intro hy
  by_cases e:kl y=kl x
  ·exact .inl (hd.unique hy hx e)
  ·exact .inr ⟨hy,by rw [sameKey_false e]; rfl⟩
include O in
theorem deleteFunc_DofG {l:List α} (hk : ∀ x∈l,Kd (kl x)) (hd:Diff kl l) (pd:Lit->DataW H->Bool):Lib.deleteFuncD pd (DofG kl d l)=DofG kl d (l.filter fun y => !pd (kl y) (d y)):=by
 unfold DofG Lib.deleteFuncD
 simp only
 congr 1
 have hk' : ∀ x∈l.filter (fun y => !pd (kl y) (d y)),Kd (kl x):=fun x hx=>hk x (List.mem_filter.1 hx).1
 have hd':Diff kl (l.filter (fun y => !pd (kl y) (d y))):=hd.filter _
 refine eq_of_perm_sorted ?_ ((sorted_sorted O _ (ents_keys hk) (ents_apart hd)).filter _) (sorted_sorted O _ (ents_keys hk') (ents_apart hd'))
 refine ((sorted_perm (entsG kl d l)).filter _).trans (List.Perm.trans ?_ (sorted_perm _).symm)
 unfold entsG
 rw [List.filter_map]
 exact List.Perm.refl _
def ComeG (kl:α->Lit) (l:List α) (left:Lit->Bool) (ps:List α):Prop:=ps.Nodup/\(∀ x∈ps,x∈l) /\ ∀ x∈l,x∈ps↔left (kl x)=false
include O in
theorem ComeG.start {l:List α} (hk : ∀ x∈l,Kd (kl x)):ComeG kl l (Maps.has (DofG kl d l)) []:=by
 refine ⟨List.nodup_nil,by simp,fun x hx=>?_⟩
 rw [(has_DofG (d:=d) O (hk x hx)).2 ⟨x,hx,rfl⟩]; simp
include O in
theorem ComeG.step {l:List α} (hk : ∀ x∈l,Kd (kl x)) (hd:Diff kl l) {left:Lit->Bool} {ps:List α} (h:ComeG kl l left ps) {c:α} (hc:c∈l) (hl:left (kl c)=true):ComeG kl l (fun z=>left z && !z.sameKey (kl c)) (ps++[c]):=by
 obtain ⟨h1,h2,h3⟩:=h
 have hn:c∉ps:=fun hm=>by have:=(h3 c hc).1 hm; rw [hl] at this; cases this
 refine ⟨?_,?_,?_⟩
 ·rw [List.nodup_append]
  refine ⟨h1,by simp,fun a ha b hb e=>?_⟩
  rw [List.mem_singleton.1 hb] at e
  exact hn (e ▸ ha)
 ·intro x hx
  rcases List.mem_append.1 hx with hx | hx
  ·exact h2 x hx
  ·rw [List.mem_singleton.1 hx]; exact hc
 ·intro x hx
  rw [List.mem_append,h3 x hx,List.mem_singleton]
  by_cases e:kl x=kl c
  ·have:=hd.unique hx hc e
   subst this
   simp only [(sameKey_iff O (hk x hx)).2 rfl]; simp
  ·have:x≠c:=fun h=>e (by rw [h])
   simp only [sameKey_false e]
   simp [this]
theorem ComeG.perm {l:List α} (hd:Diff kl l) {left:Lit->Bool} {ps:List α} (h:ComeG kl l left ps) (hl : ∀ z,left z=false):ps.Perm l:=by
 obtain ⟨h1,h2,h3⟩:=h
 rw [List.perm_ext_iff_of_nodup h1 hd.nodup]
 exact fun x=>⟨h2 x,fun hx=>(h3 x hx).2 (hl _)⟩
theorem ownsMapG_fit {P:Program} {k:TypeId} {R:Value->Option (DataW H × List MemPlace)} {w:World} {b n:Nat} {l:List α} (h:w.ownsMap P k R b n (DofG kl d l)):w.ownsMap P k R b l.length (DofG kl d l):=by
 obtain ⟨es,clock,hb,F,hs,hD⟩:=h
 refine ⟨es,clock,hb,F,?_,hD⟩
 have:=size_DofG (kl:=kl) (d:=d) l
 rw [hD] at this
 simp only [Maps.size,length_sorted,List.length_map] at this
 simpa using Nat.le_of_eq this
end
end Go.Proofs.YtnhnpnafchkhiaaGreatDoor
namespace Go.Proofs.YtnhnpnafchkhiaaGreatDoor
abbrev Txt:=List UInt8
def signB (b:UInt8):Bool:=(97<=b.toNat && b.toNat<=122) || (48<=b.toNat && b.toNat<=57) || b.toNat==45 || b.toNat==95
def lettersB (l:Txt):Bool:=l.all signB && !l.isEmpty
def pieces:Txt->List Txt
 |[]=>[[]]
 |b::l=>if b=46 then []::pieces l else
  match pieces l with
  |[]=>[[b]]
  |p::ps=>(b::p)::ps
def wordsL (l:Txt):List Txt:=if l.isEmpty then [] else pieces l
theorem pieces_ne (l:Txt):pieces l≠[]:=by
 cases l with
 |nil=>simp [pieces]
 |cons b l =>
  unfold pieces
  split
  ·simp
  ·split <;> simp
def dotted:List Txt->Txt
 |[]=>[]
 |[p]=>p
 |p::q::ps=>p++46::dotted (q::ps)
theorem pieces_dot (p l:Txt) (hp : ∀ b∈p,b≠46):pieces (p++46::l)=p::pieces l:=by
 induction p with
 |nil=>simp [pieces]
 |cons b p ih =>
  have hb:b≠46:=hp b (by simp)
  have h:=ih (fun c hc=>hp c (by simp [hc]))
  rw [List.cons_append,pieces,if_neg hb,h]
theorem pieces_none (p:Txt) (hp : ∀ b∈p,b≠46):pieces p=[p]:=by
 induction p with
 |nil=>rfl
 |cons b p ih =>
  have hb:b≠46:=hp b (by simp)
  rw [pieces,if_neg hb,ih (fun c hc=>hp c (by simp [hc]))]
theorem pieces_count (l:Txt):(pieces l).length=l.count 46+1:=by
 induction l with
 |nil=>rfl
 |cons b l ih =>
  obtain ⟨p,ps,e⟩ : ∃ p ps,pieces l=p::ps:=by
   cases h:pieces l with
   |nil=>exact absurd h (pieces_ne l)
   |cons p ps=>exact ⟨p,ps,rfl⟩
  rw [e] at ih
  unfold pieces
  rw [e]
  split
  ·rename_i hb
   subst hb
   simp at ih ⊢
   omega
  ·rename_i hb
   rw [List.count_cons_of_ne hb]
   simpa using ih
theorem wordsL_le (l:Txt):(wordsL l).length<=l.length+1:=by
 unfold wordsL
 split
 ·simp
 ·rw [pieces_count]
  have:=List.count_le_length (a:=(46:UInt8)) (l:=l)
  omega
theorem pieces_len (l:Txt) : ∀ p∈pieces l,p.length<=l.length:=by
 induction l with
 |nil=>simp [pieces]
 |cons b l ih =>
  obtain ⟨q,qs,e⟩ : ∃ p ps,pieces l=p::ps:=by
   cases h:pieces l with
   |nil=>exact absurd h (pieces_ne l)
   |cons p ps=>exact ⟨p,ps,rfl⟩
  unfold pieces
  rw [e] at ih ⊢
  intro p hp
  split at hp
  ·rcases List.mem_cons.1 hp with rfl | hp
   ·simp
   ·have:=ih p hp; simp; omega
  ·rcases List.mem_cons.1 hp with rfl | hp
   ·have:=ih q (by simp); simp; omega
   ·have:=ih p (by simp [hp]); simp; omega
theorem wordsL_len (l:Txt) : ∀ p∈wordsL l,p.length<=l.length:=by
 unfold wordsL
 split
 ·simp
 ·exact pieces_len l
def ofB (may:Txt->Bool) (s:Txt):Bool:=decide (s.length<=60) && (wordsL s).all may && decide ((wordsL s).length<=12)
def wildB (w:Txt):Bool:=w==[42] || w==[35]
def keyB (s:Txt):Bool:=ofB lettersB s
def patB (s:Txt):Bool:=ofB (fun w=>lettersB w || wildB w) s
def nameB (s:Txt):Bool:=decide (s.length<=20) && lettersB s
def sfB (w p:Txt):Bool:=w==p || (p==[42] && w != [35])
def fitsL:List Txt->List Txt->Bool
 |[],k=>k.isEmpty
 |p::ps,k=>if p=[35] then (List.range (k.length+1)).any fun i=>fitsL ps (k.drop i) else
  match k with
  |[]=>false
  |w::k'=>sfB w p && fitsL ps k'
theorem fits_many (ps k:List Txt):fitsL ([35]::ps) k=true ↔ ∃ i,i<=k.length/\fitsL ps (k.drop i)=true:=by
 rw [show fitsL ([35]::ps) k=(List.range (k.length+1)).any fun i=>fitsL ps (k.drop i) from by rw [fitsL.eq_def]; exact if_pos rfl,List.any_eq_true]
 constructor
 ·rintro ⟨i,hi,h⟩
  exact ⟨i,by have:=List.mem_range.1 hi; omega,h⟩
 ·rintro ⟨i,hi,h⟩
  exact ⟨i,List.mem_range.2 (by omega),h⟩
theorem fits_one {p:Txt} (hp:p≠[35]) (ps:List Txt) (w:Txt) (k:List Txt):fitsL (p::ps) (w::k)=(sfB w p && fitsL ps k):=by
 rw [fitsL,if_neg hp]
theorem fits_none {p:Txt} (hp:p≠[35]) (ps:List Txt):fitsL (p::ps) []=false:=by
 rw [fitsL,if_neg hp]
theorem fits_append (ps qs k:List Txt):fitsL (ps++qs) k=true ↔ ∃ m,m<=k.length/\fitsL ps (k.take m)=true/\fitsL qs (k.drop m)=true:=by
 induction ps generalizing k with
 |nil =>
  constructor
  ·intro h
   exact ⟨0,Nat.zero_le _,rfl,by simpa using h⟩
  ·rintro ⟨m,hm,h1,h2⟩
   have:m=0:=by
    simp only [fitsL,List.isEmpty_iff,List.take_eq_nil_iff] at h1
    rcases h1 with h1 | h1
    ·exact h1
    ·subst h1; simpa using hm
   subst this
   simpa using h2
 |cons p ps ih =>
  by_cases hp:p=[35]
  ·subst hp
   rw [List.cons_append,fits_many]
   constructor
   ·rintro ⟨i,hi,h⟩
    obtain ⟨m,hm,h1,h2⟩:=(ih _).1 h
    rw [List.length_drop] at hm
    refine ⟨i+m,by omega,(fits_many _ _).2 ⟨i,by rw [List.length_take]; omega,?_⟩,by rw [List.drop_drop] at h2; exact h2⟩
    rw [List.take_drop] at h1
    exact h1
   ·rintro ⟨M,hM,h1,h2⟩
    obtain ⟨i,hi,h⟩:=(fits_many _ _).1 h1
    rw [List.length_take] at hi
    refine ⟨i,by omega,(ih _).2 ⟨M-i,by rw [List.length_drop]; omega,?_,?_⟩⟩
    ·rw [List.take_drop,show i+(M-i)=M by omega]; exact h
    ·rw [List.drop_drop,show i+(M-i)=M by omega]; exact h2
  ·cases k with
   |nil =>
    rw [List.cons_append,fits_none hp]
    constructor
    ·intro h; cases h
    ·rintro ⟨m,hm,h1,_⟩
     rw [List.take_nil,fits_none hp] at h1
     exact h1
   |cons w k =>
    rw [List.cons_append,fits_one hp,Bool.and_eq_true,ih]
    constructor
    ·rintro ⟨hs,m,hm,h1,h2⟩
     exact ⟨m+1,by simp; omega,by rw [List.take_succ_cons,fits_one hp,hs,h1]; rfl,h2⟩
    ·rintro ⟨m,hm,h1,h2⟩
     cases m with
     |zero=>rw [List.take_zero,fits_none hp] at h1; cases h1
     |succ m =>
      rw [List.take_succ_cons,fits_one hp,Bool.and_eq_true] at h1
      exact ⟨h1.1,m,by simpa using hm,h1.2,h2⟩
theorem fits_snoc_many (ps K:List Txt) (n:Nat) (hn:n<=K.length) :
  fitsL (ps++[[35]]) (K.take n)=(fitsL ps (K.take n) || (decide (0<n) && fitsL (ps++[[35]]) (K.take (n-1)))):=by
 rw [Bool.eq_iff_iff,Bool.or_eq_true,Bool.and_eq_true,fits_append,fits_append,decide_eq_true_eq]
 have hall : ∀ l:List Txt,fitsL [[35]] l=true:=fun l=>(fits_many _ _).2 ⟨l.length,yyH _,by simp [fitsL]⟩
 simp only [hall,and_true,List.take_take,List.length_take]
 constructor
 ·rintro ⟨m,hm,h⟩
  by_cases e:m=n
  ·left; subst e; simpa using h
  ·right
   exact ⟨by omega,m,by omega,by rw [Nat.min_eq_left (by omega)] at h ⊢; exact h⟩
 ·rintro (h | ⟨h0,m,hm,h⟩)
  ·exact ⟨n,by omega,by simpa using h⟩
  ·exact ⟨m,by omega,by rw [Nat.min_eq_left (by omega)] at h ⊢; exact h⟩
theorem fits_snoc_one (ps K:List Txt) (p:Txt) (hp:p≠[35]) (n:Nat) (hn:n<=K.length) :
  fitsL (ps++[p]) (K.take n)=(decide (0<n) && fitsL ps (K.take (n-1)) && sfB (K.getD (n-1) []) p):=by
 rw [Bool.eq_iff_iff,Bool.and_eq_true,Bool.and_eq_true,fits_append,decide_eq_true_eq]
 simp only [List.take_take,List.length_take]
 constructor
 ·rintro ⟨m,hm,h1,h2⟩
  have hl:((K.take n).drop m).length=n-m:=by simp; omega
  cases hd:(K.take n).drop m with
  |nil=>rw [hd,fits_none hp] at h2; cases h2
  |cons w r =>
   rw [hd,fits_one hp,Bool.and_eq_true] at h2
   have hr:r=[]:=by simpa [fitsL] using h2.2
   subst hr
   rw [hd] at hl
   have hmn:m=n-1:=by simp at hl; omega
   have h0:0<n:=by simp at hl; omega
   subst hmn
   refine ⟨⟨h0,by rw [Nat.min_eq_left (by omega)] at h1; exact h1⟩,?_⟩
   have hw:K.getD (n-1) []=w:=by
    have:=congrArg (fun l:List Txt=>l[0]?) hd
    simp only [List.getElem?_drop,List.getElem?_take,yyE,Nat.add_zero] at this
    rw [if_pos (by omega)] at this
    simp [List.getD,this]
   rw [hw]
   exact h2.1
 ·rintro ⟨⟨h0,h1⟩,h2⟩
  refine ⟨n-1,by omega,by rw [Nat.min_eq_left (by omega)]; exact h1,?_⟩
  have hd:(K.take n).drop (n-1)=[K.getD (n-1) []]:=by
   rw [List.drop_take,show n-(n-1)=1 by omega,List.drop_eq_getElem_cons (show n-1<K.length by omega),List.take_succ_cons,List.take_zero]
   simp [List.getD,List.getElem?_eq_getElem (show n-1<K.length by omega)]
  rw [hd,fits_one hp,h2]
  rfl
def matchB (p k:Txt):Bool:=patB p && keyB k && fitsL (wordsL p) (wordsL k)
def overB (a b:Txt):Bool:=patB a && patB b && fitsL (wordsL a) (wordsL b)
def rfits (over:Bool):List Txt->List Txt->Bool
 |[],k=>k.isEmpty
 |p::ps,k=>if p=[35] then (List.range (k.length+1)).any fun i=>rfits over ps (k.drop i) else
  match k with
  |[]=>false
  |w::k'=>if (over && w==[35])=true then false else (p==[42] || p==w) && rfits over ps k'
open Go.RowKit
def Row (w:World) (v:Value) (cs:List Value):Prop :=
 (v=.slice none 0 0/\cs=[]) \/
 ∃ a cap,v=.slice (some a) cs.length cap/\cs.length<=cap/\cap<=maxLen /\ ∀ j u,cs[j]? = some u->w.cell? (a.add j)=some u
theorem Row.below {B:Nat} {w w':World} {v:Value} {cs:List Value} (h:Row w v cs) (hb:Below B w w') (hB:w.heap.size<=B):Row w' v cs:=by
 rcases h with h | ⟨a,cap,hv,h1,h2,h3⟩
 ·exact .inl h
 ·refine .inr ⟨a,cap,hv,h1,h2,fun j u hj=>?_⟩
  have hc:=h3 j u hj
  have hlt:=World.block_lt_of_cell? w _ hc
  rw [hb.cell (p:=a.add j) (by omega)]
  exact hc
theorem row_of_owns {w:World} {base:Nat} {e:TypeId} {v:Value} {cs:List Value} (h:w.ownsRow base e 1 v cs.length cs):Row w v cs:=by
 have h':=h
 rcases h.2 with ⟨rfl,hn⟩ | ⟨g,cap,cur,rfl,_,_,hnc,hcm,_,_⟩
 ·exact .inl ⟨rfl,List.eq_nil_of_length_eq_zero hn⟩
 ·exact .inr ⟨⟨g,0,none⟩,cap,rfl,hnc,hcm,fun j u hj=>h'.cells (g:=g) rfl j u hj⟩
theorem Row.slice {w:World} {v:Value} {cs:List Value} (h:Row w v cs) : ∃ a cap,v=.slice a cs.length cap:=by
 rcases h with ⟨rfl,rfl⟩ | ⟨a,cap,rfl,_⟩
 ·exact ⟨_,_,rfl⟩
 ·exact ⟨_,_,rfl⟩
theorem Row.at {w:World} {v:Value} {cs:List Value} (h:Row w v cs) (hp:0<cs.length) :
  ∃ b off cap,v=.slice (some ⟨b,off,none⟩) cs.length cap/\cs.length<=cap/\cap<=maxLen /\ ∀ j (hj:j<cs.length),w.cell? ⟨b,off+j,none⟩=some cs[j]:=by
 rcases h with ⟨rfl,rfl⟩ | ⟨a,cap,rfl,h1,h2,h3⟩
 ·simp at hp
 ·obtain ⟨b,off,spot⟩:=a
  have h0:=h3 0 cs[0] (by simp [hp])
  have hspot:spot=none:=by simpa [Addr.add] using World.cell?_spot h0
  subst hspot
  refine ⟨b,off,cap,rfl,h1,h2,fun j hj=>?_⟩
  rw [<- Go.WideShapes.add_plain]
  exact h3 j _ (by simp [hj])
structure Elem (P:Program) (t e:TypeId) (z:Value) (bytes:Nat):Prop where
 ht:P.underlying t=some (.slice e)
 info : ∃ i,P.info? e=some i/\i.zero=some z/\i.size=1/\i.bytes=bytes
 one:z.cells.size=1
def Own1 (w:World) (base:Nat) (e:TypeId) (v:Value) (cs:List Value):Prop:=w.ownsRow base e 1 v cs.length cs
theorem Own1.row {w:World} {base:Nat} {e:TypeId} {v:Value} {cs:List Value} (h:Own1 w base e v cs):Row w v cs:=row_of_owns h
theorem own1_nil (w:World) (base:Nat) (e:TypeId):Own1 w base e (.slice none 0 0) []:=World.ownsRow_nil _ _ _ _
theorem Own1.belowGrown {w w' w0:World} {base:Nat} {e:TypeId} {v:Value} {cs:List Value} (h:Own1 w base e v cs) (hg:w.grownBy w' v.ownBlock) (h0:Below base w0 w) (hb:base<=w.heap.size):Below base w0 w' :=
 h0.grown hg hb (fun k hk=>(h.lt k hk).1)
theorem own1_new (w:World) (base:Nat) (e:TypeId) (cs:List Value) (hb:base<=w.heap.size) (hc:cs.length<=maxLen) :
  Own1 (w.alloc (.cells cs.toArray e)) base e (.slice (some ⟨w.heap.size,0,none⟩) cs.length cs.length) cs :=
 ⟨by simp,.inr ⟨w.heap.size,cs.length,_,rfl,hb,heap_alloc_new w _,yyH _,hc,by simp,List.take_of_length_le (by simp)⟩⟩
theorem wpList_append_row {P:Program} {w:World} {ops:Array Oper} {rest:List Oper} {o:Oper} {a:Act} {Q:Exit->Act->World->Prop} (hgd:o.guard=none) (s x:Operand) (t e:TypeId) (z:Value) (by':Nat) (U:Elem P t e z by')
  (ho:o.op=.call { callee:=.builtin .append,args := #[s,x],argTypes := #[t,t] }) (base:Nat) (v src:Value) (xs ys:List Value) (hs:a.eval s=v) (hx:a.eval x=src)
  (hown:Own1 w base e v xs) (hy:Row w src ys) (h1 : ∀ u∈ys,u.oneCell'=true) (hlen:xs.length+ys.length<=140737488355328) (hlen':(xs.length+ys.length)*by'<=140737488355328) (hbase:base<=w.heap.size)
  (h : ∀ v' w',Own1 w' base e v' (xs++ys)->Below base w w'->base<=w'.heap.size->wpList P ops Q rest (a.put o.dst v') w'):wpList P ops Q (o::rest) a w:=by
 obtain ⟨i,hi,hz,hsz,hby⟩:=U.info
 rcases hy with ⟨rfl,rfl⟩ | ⟨ad,cap,rfl,h2,h3,h4⟩
 ·refine wpList_append_own_none hgd s x t ho base e i 1 U.ht hi v xs.length xs hs hown hx ?_
  exact h v w (by simpa [Own1] using hown) (Below.refl _ _) hbase
 ·refine wpList_append_own w hgd s x t ho base e i z 1 by' U.ht hi hz hsz hby U.one (by decide) v xs.length xs hs hown ad ys.length cap ys hx (by simp) h4 h1
   (by unfold maxLen; omega) hlen' hbase ?_
  intro v' w' ho' hg _
  refine h v' w' ?_ (Own1.belowGrown hown hg (Below.refl _ _) hbase) (Nat.le_trans hbase hg.size)
  unfold Own1
  rw [List.length_append]
  exact ho'
theorem ret_bool {a b:Bool} (h:a=b):Ending.returned (.bool a)=.returned (.bool b):=by rw [h]
theorem ret_int {k:IntKind} {a b:Int} (h:a=b):Ending.returned (.int k a)=.returned (.int k b):=by rw [h]
def icells (l:List Int):List Value:=l.map (Value.int .i64)
theorem icells_length (l:List Int):(icells l).length=l.length:=by simp [icells]
theorem icells_append (a b:List Int):icells (a++b)=icells a++icells b:=by simp [icells]
theorem Row.atInts {w:World} {v:Value} {l:List Int} (h:Row w v (icells l)) (hp:0<l.length) :
  ∃ b off cap,v=.slice (some ⟨b,off,none⟩) l.length cap/\l.length<=cap/\cap<=maxLen /\ ∀ j (hj:j<l.length),w.cell? ⟨b,off+j,none⟩=some (.int .i64 l[j]):=by
 obtain ⟨b,off,cap,hv,h1,h2,h3⟩:=h.at (by rw [icells_length]; exact hp)
 rw [icells_length] at hv h1
 refine ⟨b,off,cap,hv,h1,h2,fun j hj=>?_⟩
 rw [h3 j (by rw [icells_length]; exact hj)]
 simp [icells]
theorem Row.sliceInts {w:World} {v:Value} {l:List Int} (h:Row w v (icells l)) : ∃ a cap,v=.slice a l.length cap:=by
 obtain ⟨a,cap,hv⟩:=h.slice
 rw [icells_length] at hv
 exact ⟨a,cap,hv⟩
theorem row_one (w:World) (e:TypeId) (u:Value):Row (w.alloc (.cells #[u] e)) (.slice (some ⟨w.heap.size,0,none⟩) 1 1) [u] :=
 (own1_new w w.heap.size e [u] (yyH _) (by simp [maxLen])).row
def txt (s:ByteArray):Txt:=s.data.toList
theorem txt_length (s:ByteArray):(txt s).length=s.size:=by simp [txt]
theorem txt_inj {s t:ByteArray} (h:txt s=txt t):s=t:=by
 cases s; cases t
 simpa [txt] using h
theorem txt_snoc (s:ByteArray) (k:Nat) (h:k<s.size):(txt s).take (k+1)=(txt s).take k++[s[k]]:=by
 unfold txt
 rw [List.take_succ_eq_append_getElem (by simpa using h)]; rfl
theorem txt_mem (s:ByteArray) (k:Nat) (h:k<s.size):s[k]∈txt s:=by
 have:(txt s)[k]'(by rw [txt_length]; exact h)=s[k]:=rfl
 rw [<- this]
 exact List.getElem_mem _
def signI (r:Int):Bool:=decide (97<=r/\r<=122) || decide (48<=r/\r<=57) || r==45 || r==95
theorem signI_byte (b:UInt8):signI (b.toNat:Int)=signB b:=by
 unfold signI signB
 rw [Bool.eq_iff_iff]
 simp
 omega
theorem signI_high {r:Int} (h:128<=r):signI r=false:=by
 unfold signI
 rw [Bool.eq_false_iff]
 simp
 omega
theorem sign_any (r:Int) (w:World) :
  Calls Tryz.prog 239 #[.int .i32 r] w fun e w'=>e=.returned (.bool (signI r))/\w'=w:=by
 go_enter Tryz.func239,Tryz.ntmps239
 go_wp2
 all_goals go_ret
 all_goals refine ⟨ret_bool ?_,rfl⟩
 all_goals go_light
 all_goals unfold signI
 all_goals rw [Bool.eq_iff_iff]
 all_goals simp only [Bool.or_eq_true,decide_eq_true_eq,beq_iff_eq,true_iff]
 all_goals first | omega | simp
theorem letters_take (s:ByteArray) (k:Nat) (h:k<s.size):((txt s).take (k+1)).all signB=(((txt s).take k).all signB && signB s[k]):=by
 rw [txt_snoc s k h,List.all_append]
 simp
theorem letters_bad (s:ByteArray) (k:Nat) (h:k<s.size) (hb:signB s[k]=false):lettersB (txt s)=false:=by
 unfold lettersB
 have:(txt s).all signB=false:=by
  rw [Bool.eq_false_iff]
  intro ha
  rw [List.all_eq_true] at ha
  rw [ha _ (txt_mem s k h)] at hb
  cases hb
 rw [this]; rfl
theorem letters_good (s:ByteArray) (k:Nat) (h : ¬ k<s.size) (ha:((txt s).take k).all signB=true):lettersB (txt s) = !(txt s).isEmpty:=by
 rw [List.take_of_length_le (by rw [txt_length]; omega)] at ha
 unfold lettersB
 rw [ha]; rfl
theorem plain_any (s:ByteArray) (w:World) :
  Calls Tryz.prog 176 #[.string s] w fun e w'=>e=.returned (.bool (lettersB (txt s)))/\Below w.heap.size w w':=by
 go_enter Tryz.func176,Tryz.ntmps176
 go_wp2
 go_loopw [] (fun w' => ∃ pos:Nat,w'=w.iter s pos/\((txt s).take pos).all signB=true) (fun w'=>s.size-w'.iterPos w.heap.size)
 case atStart=>exact ⟨0,rfl,rfl⟩
 case round =>
  obtain ⟨pos,rfl,ha⟩:=hrel
  have hbel:Below w.heap.size w (w.iter s pos):=(Below.refl _ w).alloc (yyH _) _
  have HA:Hid _:=ha
  clear ha
  by_cases hp:pos<s.size
  ·by_cases hr:signB s[pos]=true
   ·have h128:(s[pos]'hp).toNat<128:=by
     unfold signB at hr
     simp at hr
     omega
    have hsg:signI ((s[pos]'hp).toNat:Int)=true:=by rw [signI_byte]; exact hr
    have hnx : ∀ ty,(Instr.next (.pointer (some ⟨w.heap.size,0,none⟩)) true ty).run Tryz.prog (w.iter s pos)=_:=fun ty=>run_next_ascii w s pos ty hp h128
    go_wp2_with (go_at_call 239; refine (sign_any _ _).mono ?_; rintro e w' ⟨rfl,rfl⟩)
    go_roundw
    case rel=>exact ⟨pos+1,rfl,by rw [letters_take s pos hp,HA.out,hr]; rfl⟩
    case measure=>simp; omega
   ·have hr':signB s[pos]=false:=by simpa using hr
    have hbad:=letters_bad s pos hp hr'
    have hdec:signI ((Utf8.decode s pos).1:Int)=false:=by
     by_cases h128:(s[pos]'hp).toNat<128
     ·rw [decode_ascii s pos hp h128,signI_byte]; exact hr'
     ·exact signI_high (by have:=(decode_high s pos hp (by omega)).1; omega)
    have hnx : ∀ ty,(Instr.next (.pointer (some ⟨w.heap.size,0,none⟩)) true ty).run Tryz.prog (w.iter s pos)=_:=fun ty=>run_next_any w s pos ty hp
    go_wp2_with (go_at_call 239; refine (sign_any _ _).mono ?_; rintro e w' ⟨rfl,rfl⟩)
    go_ret
    exact ⟨ret_bool hbad.symm,(Below.refl _ w).alloc (yyH _) _⟩
  ·have hnx : ∀ ty,(Instr.next (.pointer (some ⟨w.heap.size,0,none⟩)) true ty).run Tryz.prog (w.iter s pos)=_:=fun ty=>run_next_end w s pos ty hp
   go_wp2
   go_ret
   refine ⟨ret_bool ?_,hbel⟩
   rw [letters_good s pos hp HA.out,ByteArray.toList_eq]
   rfl
theorem letters_any (s:ByteArray) (w:World) (hs:s.size<=maxLen) :
  Calls Tryz.prog 211 #[.string s] w fun e w'=>e=.returned (.bool (lettersB (txt s)))/\w'=w:=by
 unfold maxLen at hs
 go_enter Tryz.func211,Tryz.ntmps211
 go_wp2
 go_loop [3] (fun i => ∃ k:Nat,k<=s.size/\i=.int .i64 k/\((txt s).take k).all signB=true) (fun i=>s.size-(intOf i).toNat)
 case atStart=>exact ⟨0,Nat.zero_le _,rfl,rfl⟩
 case round =>
  obtain ⟨k,hk,rfl,ha⟩:=hrel
  have HA:Hid _:=ha
  clear ha
  by_cases hlt:k<s.size
  ·have HB:Hid (signB s[k]=signI (s[k].toNat:Int)):=(signI_byte _).symm
   go_wp2
   all_goals first
    |(go_round
      case rel =>
       refine ⟨k+1,by omega,by go_num,?_⟩
       rw [letters_take s k hlt,HA.out,HB.out]
       go_light
       simp only [Bool.not_eq_false',decide_eq_true_eq,beq_iff_eq] at *
       simp only [signI,Bool.true_and,Bool.or_eq_true,decide_eq_true_eq,beq_iff_eq]
       omega
      case measure=>simp [intOf]; omega)
    |(go_ret
      refine ⟨ret_bool (letters_bad s k hlt ?_).symm,rfl⟩
      rw [HB.out]
      go_light
      simp only [Bool.not_eq_true',decide_eq_false_iff_not,beq_eq_false_iff_ne,ne_eq] at *
      rw [Bool.eq_false_iff]
      simp only [signI,ne_eq,Bool.or_eq_true,decide_eq_true_eq,beq_iff_eq]
      omega)
  ·go_wp2
   all_goals go_ret
   all_goals refine ⟨ret_bool ?_,rfl⟩
   all_goals rw [letters_good s k hlt HA.out]
   all_goals rw [show (txt s).isEmpty=decide (s.size=0) from by rw [<- txt_length]; cases txt s <;> simp]
   all_goals go_light
   all_goals rw [Bool.eq_iff_iff]
   all_goals simp only [decide_eq_true_eq,Bool.not_eq_true',decide_eq_false_iff_not]
   all_goals omega
theorem name_any (s:ByteArray) (w:World) (hs:s.size<=maxLen) :
  Calls Tryz.prog 126 #[.string s] w fun e w'=>e=.returned (.bool (nameB (txt s)))/\Below w.heap.size w w':=by
 unfold maxLen at hs
 have hn:nameB (txt s)=(decide (s.size<=20) && lettersB (txt s)):=by unfold nameB; rw [txt_length]
 rw [hn]
 by_cases h20:s.size<=20
 all_goals go_enter Tryz.func126,Tryz.ntmps126
 all_goals go_wp2_with (go_at_call 176; refine (plain_any s _).mono ?_; rintro e w' ⟨rfl,hb⟩)
 all_goals go_ret
 ·exact ⟨ret_bool (by rw [decide_eq_true h20]; rfl),by assumption⟩
 ·exact ⟨rfl,Below.refl _ _⟩
end Go.Proofs.YtnhnpnafchkhiaaGreatDoor
