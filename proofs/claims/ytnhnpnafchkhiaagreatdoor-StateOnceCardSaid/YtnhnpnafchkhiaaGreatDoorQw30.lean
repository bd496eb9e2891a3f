import Derived.Test.YtnhnpnafchkhiaaGreatDoorQwA
import Derived.Test.YtnhnpnafchkhiaaGreatDoorQw29
import Derived.Test.YtnhnpnafchkhiaaGreatDoorQw5
import Derived.Test.YtnhnpnafchkhiaaGreatDoorQw19
import Derived.Test.YtnhnpnafchkhiaaGreatDoorQw21
set_option maxHeartbeats 2000000
set_option maxRecDepth 20000
namespace Go.Proofs.YtnhnpnafchkhiaaGreatDoor
open Go.RowKit
def hasM (s:Sm) (o n:Int):Bool:=S.memB (S.ofF s.bk o) n.toNat
def admitM (s:Sm) (m:Ms):List Int × Int :=
 if m.origin=s.site then ownM s m else if hasM s m.origin m.seq then ([],4) else if m.hop≠O.farT s.S s.E s.H m.origin s.site then ([],2) else if s.H<O.farT s.S s.E s.H m.origin s.site then ([],2) else (O.onwardT s.S s.E s.H m.origin s.site,0)
structure Sm.Bk (s:Sm):Prop where
 fine:S.FineF s.bk
 len:S.LenF 100000 s.bk
theorem Sm.Bk.at {s:Sm} (h:s.Bk) (o:Int):S.Apart 1 (S.ofF s.bk o)/\(S.ofF s.bk o).length<=1000000:=by
 unfold S.ofF
 split
 ·rename_i ho
  have hi:(o-1).toNat<8:=by omega
  exact ⟨(h.fine _ hi).1,Nat.le_trans (h.len _ hi) (by decide)⟩
 ·exact ⟨trivial,Nat.zero_le _⟩
theorem admit_any (p:Nat) (G:Nat->Prop) (s:Sm) (m:Ms) (w:World) (h:SS w p G s) (ok:s.tb.Ok) (bk:s.Bk) (hsq:s.seq<18446744073709551616) (hx:m.ex.size<=maxLen) (hm:0<=m.seq/\m.seq<18446744073709551616) :
  Calls Tryz.prog 137 #[.pointer (some ⟨p,0,none⟩),mv m] w (AdmPost w (admitM s m).1 (admitM s m).2):=by
 obtain ⟨W,fold⟩ : ∃ W,w.alloc (.cells #[.int .i64 m.origin,.int .u64 m.seq,.int .i64 m.hop,.string m.ex,.string m.key,.string m.body] 40)=W:=⟨_,rfl⟩
 have hB:BoxM w W m:=by rw [<- fold]; exact boxM_new w m
 have hW:=h.kept hB.bel
 have HS:Hid (SS W p G s/\BoxM w W m):=⟨hW,hB⟩
 obtain ⟨ft,d,hs',hF⟩:=hW
 obtain ⟨c0,c1,c2,c3,c4,c5,c6,c7,c8,c9⟩:=cells10 hs'.blk
 obtain ⟨x0,x1,x2,x3,x4,x5⟩:=cellsM hB.box
 obtain ⟨ea,ec,hev⟩:=hs'.edges.rng.slice
 obtain ⟨n,hn⟩ : ∃ z,s.E.length=z:=⟨_,rfl⟩
 rw [hn] at hev
 rw [hev] at c2
 obtain ⟨⟨l,er⟩,hr⟩ : ∃ r,admitM s m=r:=⟨_,rfl⟩
 rw [hr]
 have HR:Hid (admitM s m=(l,er)):=hr
 show Calls _ _ _ _ (AdmPost w l er)
 by_cases ho:m.origin=s.site
 ·have hO:Hid (∀ k,Calls Tryz.prog 183 #[.pointer (some ⟨p,0,none⟩),mv m] (W.drewN k) (AdmPost (W.drewN k) l er)):=fun k=>by
   have e:ownM s m=(l,er):=by rw [<- hr]; unfold admitM; rw [if_pos ho]
   have:=admitOwn_any p G s m (W.drewN k) (HS.out.1.kept (drewN_below W k)) ok hsq hx
   rw [e] at this
   exact this
  have hob:(m.origin==s.site)=true:=by simpa using ho
  have hod:decide (m.origin=s.site)=true:=decide_eq_true ho
  clear ho hs' hF hB h hr hn hev HR c1 c2 c3 c4 c5 c6 c7 c8 c9
  go_enter Tryz.func137,Tryz.ntmps137
  go_wp2
  try rw [fold]
  go_quiet (fail)
  go_wp2_with fail
  refine (hO.out _).mono ?_
  rintro e w2 ⟨v2,rfl,r2,b2⟩
  obtain ⟨va,vc,rfl⟩:=r2.slice
  have HE:Hid (O.RowI w2 w.heap.size (.slice va l.length vc) l/\Below w.heap.size w w2):=⟨r2.mono HS.out.2.bel.size,keptW (keptW HS.out.2.bel (drewN_below W _)) b2⟩
  clear r2 b2 hO
  go_wp2
  go_ret2
  exact ⟨_,rfl,HE.out⟩
 ·have hob:(m.origin==s.site)=false:=by simpa using ho
  have hod:decide (m.origin=s.site)=false:=decide_eq_false ho
  obtain ⟨far,hfar⟩ : ∃ z,O.farT s.S s.E s.H m.origin s.site=z:=⟨_,rfl⟩
  obtain ⟨has,hhas⟩ : ∃ z,hasM s m.origin m.seq=z:=⟨_,rfl⟩
  have HM:Hid ((if has then (([]:List Int),(4:Int)) else if m.hop≠far then ([],2) else if s.H<far then ([],2) else (O.onwardT s.S s.E s.H m.origin s.site,0))=(l,er)):=by
   have:=HR.out
   unfold admitM at this
   rw [if_neg ho,hfar,hhas] at this
   exact this
  have HF:Hid (∀ V,Below W.heap.size W V->Calls Tryz.prog 43 #[O.tv s.S (.slice ea n ec) s.H,.int .i64 m.origin,.int .i64 s.site] V fun e w'=>e=.returned (.int .i64 far)/\Below V.heap.size V w'):=fun V b=>by
   have:=O.far_any s.S s.H m.origin s.site (.slice ea n ec) s.E V (by rw [<- hev]; exact hs'.edges.rng.below b (yyH _))
   rw [hfar] at this
   exact this
  have HH:Hid (∀ V,Below W.heap.size W V->Calls Tryz.prog 47 #[.pointer (some ⟨d.bp,0,none⟩),.agg #[.int .i64 m.origin,.int .u64 m.seq]] V fun e w'=>e=.returned (.bool has)/\Below V.heap.size V w'):=fun V b=>by
   have:=S.bhas_any (S.ptrS d.bp) s.bk m.origin m.seq.toNat V (hs'.book.kept b).told (bk.at m.origin).1 (bk.at m.origin).2
   rw [show ((m.seq.toNat:Nat):Int)=m.seq by omega] at this
   unfold hasM at hhas
   rw [hhas] at this
   exact this
  have HO:Hid (∀ V,Below W.heap.size W V->Calls Tryz.prog 184 #[.pointer (some ⟨p,0,none⟩),mv m] V fun e w' => ∃ v',e=.returned v'/\O.RowI w' V.heap.size v' (O.onwardT s.S s.E s.H m.origin s.site)/\Below V.heap.size V w'):=fun V b=>onward14_any p G s m V (HS.out.1.kept b)
  have HK:Hid (∀ V,Below W.heap.size W V->(V.cell? ⟨p,0,none⟩=some (.int .i64 s.site)/\V.cell? ⟨p,1,none⟩=some (.int .i64 s.S)/\V.cell? ⟨p,2,none⟩=some (.slice ea n ec)/\V.cell? ⟨p,3,none⟩=some (.int .i64 s.H)/\V.cell? ⟨p,8,none⟩=some (.pointer (some ⟨d.bp,0,none⟩)))/\V.cell? ⟨w.heap.size,0,none⟩=some (.int .i64 m.origin)/\V.cell? ⟨w.heap.size,1,none⟩=some (.int .u64 m.seq)/\V.cell? ⟨w.heap.size,2,none⟩=some (.int .i64 m.hop)/\V.cell? ⟨w.heap.size,3,none⟩=some (.string m.ex)/\V.cell? ⟨w.heap.size,4,none⟩=some (.string m.key)/\V.cell? ⟨w.heap.size,5,none⟩=some (.string m.body)):=fun V b=>⟨⟨cell_on b c0,cell_on b c1,cell_on b c2,cell_on b c3,cell_on b c8⟩,cell_on b x0,cell_on b x1,cell_on b x2,cell_on b x3,cell_on b x4,cell_on b x5⟩
  clear hs' hF hB h hr hn hev HR c1 c2 c3 c4 c5 c6 c7 c8 c9 hfar hhas ho ok bk hm hx hsq
  go_enter Tryz.func137,Tryz.ntmps137
  go_wp2
  try rw [fold]
  go_quiet (fail)
  clear c0 x0 x1 x2 x3 x4 x5
  obtain ⟨W1,f1⟩ : ∃ X,W.drewN nq=X:=⟨_,rfl⟩
  have B1:Hid (Below W.heap.size W W1):=by show Below _ _ _; rw [<- f1]; exact drewN_below W nq
  rw [f1]
  clear f1
  have BD:Hid (Below W.heap.size W W1.drew):=keptW B1.out (drew_below W1)
  obtain ⟨⟨c0,c1,c2,c3,c8⟩,x0,x1,x2,x3,x4,x5⟩:=HK.out W1 B1.out
  go_wp2
  (go_region_held3 (fun w'=>w'.cell? ⟨p,0,none⟩=some (.int .i64 s.site)/\w'.cell? ⟨p,1,none⟩=some (.int .i64 s.S)/\w'.cell? ⟨p,2,none⟩=some (.slice ea n ec)/\w'.cell? ⟨p,3,none⟩=some (.int .i64 s.H)/\w'.cell? ⟨w.heap.size,0,none⟩=some (.int .i64 m.origin)) (first | exact ⟨c0,c1,c2,c3,x0⟩ | go_keep) (first
   |(go_at_call 43; refine (HF.out W1.drew BD.out).mono ?_; rintro e W2 ⟨rfl,b2⟩; have B2:Hid (Below W.heap.size W W2):=keptW BD.out b2; obtain ⟨⟨d0,d1,d2,d3,d8⟩,y0,y1,y2,y3,y4,y5⟩:=HK.out W2 B2.out; clear b2)))
  have BD2:Hid (Below W.heap.size W W2.drew):=keptW B2.out (drew_below W2)
  clear c0 c1 c2 c3 c8 x0 x1 x2 x3 x4 x5 HF
  go_wp2
  (go_region_held3 (fun w'=>w'.cell? ⟨p,8,none⟩=some (.pointer (some ⟨d.bp,0,none⟩))/\w'.cell? ⟨w.heap.size,0,none⟩=some (.int .i64 m.origin)/\w'.cell? ⟨w.heap.size,1,none⟩=some (.int .u64 m.seq)) (first | exact ⟨d8,y0,y1⟩ | go_keep) (first
   |(go_at_call 47; refine (HH.out W2.drew BD2.out).mono ?_; rintro e W3 ⟨rfl,b3⟩; have B3:Hid (Below W.heap.size W W3):=keptW BD2.out b3; obtain ⟨⟨e0,e1,e2,e3,e8⟩,z0,z1,z2,z3,z4,z5⟩:=HK.out W3 B3.out; clear b3)))
  clear d0 d1 d2 d3 d8 y0 y1 y2 y3 y4 y5 HH
  cases has
  rotate_left
  ·obtain ⟨rfl,rfl⟩:[]=l/\4=er:=Prod.mk.inj HM.out
   go_wp2
   go_ret2
   exact adm_none (keptW HS.out.2.bel B3.out) 4
  by_cases hhop:m.hop=far
  ·by_cases hH:s.H<far
   ·obtain ⟨rfl,rfl⟩:[]=l/\2=er:=by have:=HM.out; rw [if_neg (by simp),if_neg (by simpa using hhop),if_pos hH] at this; exact Prod.mk.inj this
    rw [hhop] at z2
    clear hhop
    go_wp2
    go_ret2
    exact adm_none (keptW HS.out.2.bel B3.out) 2
   ·obtain ⟨hl,rfl⟩:O.onwardT s.S s.E s.H m.origin s.site=l/\0=er:=by have:=HM.out; rw [if_neg (by simp),if_neg (by simpa using hhop),if_neg hH] at this; exact Prod.mk.inj this
    have hO:=HO.out W3 B3.out
    rw [hl] at hO
    clear HO hl HM
    subst hhop
    go_wp2_with fail
    refine hO.mono ?_
    rintro e w3 ⟨v3,rfl,r3,b3⟩
    obtain ⟨va,vc,rfl⟩:=r3.slice
    have HE:Hid (O.RowI w3 w.heap.size (.slice va l.length vc) l/\Below w.heap.size w w3):=⟨r3.mono (keptW HS.out.2.bel B3.out).size,keptW (keptW HS.out.2.bel B3.out) b3⟩
    clear r3 b3 hO
    go_wp2
    go_ret2
    exact ⟨_,rfl,HE.out⟩
  ·obtain ⟨rfl,rfl⟩:[]=l/\2=er:=by have:=HM.out; rw [if_neg (by simp),if_pos (by simpa using hhop)] at this; exact Prod.mk.inj this
   go_wp2
   go_ret2
   exact adm_none (keptW HS.out.2.bel B3.out) 2
end Go.Proofs.YtnhnpnafchkhiaaGreatDoor
namespace Go.Proofs.YtnhnpnafchkhiaaGreatDoor
open Go.RowKit Go.Sort Go.Shelf
def goneQ (s:Sm) (n:ByteArray):Bool:=(findQ s.qs n).isNone
def intoM (s:Sm) (m:Ms):List ByteArray:=(B.queuesT s.tb m.ex m.key).filter fun n => !goneQ s n
theorem into1_any (g p:Nat) (G:Nat->Prop) (s:Sm) (n:ByteArray) (W:World) (h:SS W p G s) (fit:s.Fit) (hn:n.size<=maxLen) (hc:W.cell? ⟨g,0,none⟩=some (.pointer (some ⟨p,0,none⟩))) :
  FnGives Tryz.prog 95 #[.pointer (some ⟨g,0,none⟩)] #[.string n] (.bool (goneQ s n)) W:=by
 obtain ⟨ft,d,hs,_⟩:=h
 have c7:=(cells10 hs.blk).2.2.2.2.2.2.2.1
 have hl:=hs.qmap.look (hs.dl fit) hn
 rcases hs.queueAt fit n with ⟨q1,q2⟩ | ⟨q',b,q1,q2,q3,q4⟩
 ·rw [q2] at hl
  replace hl:(Instr.lookup 83 (.map (some d.qm)) (.string n) false).run Tryz.prog W=.ok (.pointer none) W:=hl
  rw [show goneQ s n=true by unfold goneQ; rw [q1]; rfl]
  clear hs q1 q2
  show Calls Tryz.prog 95 #[.string n,.pointer (some ⟨g,0,none⟩)] W _
  go_enter Tryz.func95,Tryz.ntmps95
  go_wp2
  all_goals (go_ret; exact ⟨rfl,0,rfl⟩)
 ·rw [q2] at hl
  replace hl:(Instr.lookup 83 (.map (some d.qm)) (.string n) false).run Tryz.prog W=.ok (.pointer (some ⟨b,0,none⟩)) W:=hl
  rw [show goneQ s n=false by unfold goneQ; rw [q1]; rfl]
  clear hs q1 q2 q3 q4
  show Calls Tryz.prog 95 #[.string n,.pointer (some ⟨g,0,none⟩)] W _
  go_enter Tryz.func95,Tryz.ntmps95
  go_wp2
  all_goals (go_ret; exact ⟨rfl,0,rfl⟩)
abbrev Sn:={ n:ByteArray // n.size<=maxLen }
instance:Inhabited Sn:=⟨⟨⟨#[]⟩,Nat.zero_le _⟩⟩
def encN (x:Sn):Value:=.string x.1
def Newer (base:Nat) (v:Value) (n:Nat):Prop:=n=0 \/ ∃ g cap,v=.slice (some ⟨g,0,none⟩) n cap/\base<=g
theorem Newer.mono {b c n:Nat} {v:Value} (h:Newer b v n) (hc:c<=b):Newer c v n:=h.imp id fun ⟨g,cap,h1,h2⟩=>⟨g,cap,h1,Nat.le_trans hc h2⟩
theorem below_putRowG {α:Type} [Inhabited α] (enc:α->Value) (w:World) (n g off B:Nat) (d:Array α) (os:Array Obj) (hB:B<=g) (hs:B<=w.heap.size):Below B w (grow (putRow enc (Sort.ahead w n) g off d) os):=by
 refine ⟨rfl,rfl,rfl,?_,fun k hk=>?_⟩
 ·show w.heap.size<=((putRow enc (Sort.ahead w n) g off d).heap++os).size
  rw [Array.size_append,size_putRow]; exact Nat.le_add_right _ _
 ·rw [heap_grow_old _ _ (by rw [size_putRow]; show k<w.heap.size; omega)]
  simp only [putRow,mapBlock,Array.getElem?_modify]
  rw [if_neg (by omega)]
  rfl
theorem lift_list {l:List ByteArray} (h : ∀ n∈l,n.size<=maxLen) : ∃ k:List Sn,k.map Subtype.val=l:=by
 induction l with
 |nil=>exact ⟨[],rfl⟩
 |cons a t ih =>
  obtain ⟨k,hk⟩:=ih fun n hn=>h n (List.mem_cons_of_mem _ hn)
  exact ⟨⟨a,h a List.mem_cons_self⟩::k,by simp [hk]⟩
theorem filter_lift {k:List Sn} (p:ByteArray->Bool):(k.filter fun x=>p x.1).map Subtype.val=(k.map Subtype.val).filter p:=by
 rw [List.filter_map]
 rfl
theorem delS_any (w:World) (base:Nat) (v:Value) (l:List ByteArray) (g p:Nat) (G:Nat->Prop) (s:Sm) (hr:B.NewS w base v l) (hbs:base<=w.heap.size) (hS:SS w p G s) (fit:s.Fit) (hg:g<base) (hG : ∀ k,G k->k<base) (hc:w.cell? ⟨g,0,none⟩=some (.pointer (some ⟨p,0,none⟩))) (hsz : ∀ n∈l,n.size<=maxLen) :
  Calls Tryz.prog 93 #[v,.func (.func 95) #[] #[.pointer (some ⟨g,0,none⟩)]] w fun e w' => ∃ v',e=.returned v'/\(Row w' v' (scells (l.filter fun n => !goneQ s n))/\Newer base v' (l.filter fun n => !goneQ s n).length)/\Below base w w':=by
 have eg : ∀ args w,(callFunc 95 args).run Tryz.prog w=.ok (.enter 95 args) w:=enters_of Tryz.func95 (by kernel_rfl) rfl
 obtain ⟨hrow,h2⟩:=hr
 by_cases h0:l=[]
 ·subst h0
  obtain ⟨a,cap,rfl⟩:=hrow.sliceStrs
  have hI:=AnyE.slices_IndexFunc_empty (P:=Tryz.prog) { Tryz.delS with } a cap (.func (.func 95) #[] #[.pointer (some ⟨g,0,none⟩)]) w
  change Calls Tryz.prog 150 _ _ _ at hI
  have HR:Hid (Row w (.slice a 0 cap) (scells [])):=hrow
  clear hrow h2
  show Calls _ _ #[.slice a 0 cap,_] _ _
  go_enter Tryz.func93,Tryz.ntmps93
  go_wp2_with (go_at_call 150; refine hI.mono ?_; rintro e w' ⟨rfl,rfl⟩)
  go_ret
  exact ⟨_,rfl,⟨HR.out,.inl rfl⟩,Below.refl _ _⟩
 ·rcases h2 with h2 | ⟨b,cap,rfl,h3,h4,h5,h6,h7⟩
  ·exact absurd h2 h0
  obtain ⟨k,hk⟩:=lift_list hsz
  have hkl:k.length=l.length:=by rw [<- hk,List.length_map]
  have hH:Go.Sort.Holds encN w b 0 k.toArray:=fun j hj=>by
   have hj':j<k.length:=by simpa using hj
   have hjl:j<l.length:=by omega
   refine ⟨?_,by rw [Nat.zero_add]; exact h7 j hjl⟩
   have hcell:w.cell? ((⟨b,0,none⟩:Addr).add j)=some (.string l[j]):=by
    rcases hrow with ⟨e,_⟩ | ⟨ad,cap',e,_,_,hcs⟩
    ·cases e
    ·simp only [Value.slice.injEq,Option.some.injEq] at e
     obtain ⟨rfl,_⟩:=e
     exact hcs j _ (by simp [scells,hjl])
   rw [getElem!_pos k.toArray j hj]
   have hval:(k.toArray[j]'hj).1=l[j]:=by
    have h8:=congrArg (fun z=>z[j]?) hk
    simp [hj',hjl] at h8
    simpa using h8
   unfold encN
   rw [hval]
   rw [Go.WideShapes.add_plain] at hcell
   exact hcell
  have hcon:=AnyE.slices_DeleteFunc Tryz.delS encN (fun _=>rfl) (fun x=>goneQ s x.1) 95 #[.pointer (some ⟨g,0,none⟩)] eg ⟨⟨#[]⟩,Nat.zero_le _⟩ Tryz.zeroValue9 b 0 cap k.toArray w
   (fun W x hb=>into1_any g p G s x.1 W (hS.kept hb) fit x.2 ((hb.cell (p:=⟨g,0,none⟩) (Nat.lt_of_lt_of_le hg hbs)).trans hc))
   (fun n os dk x _=>into1_any g p G s x.1 _ (hS.same fun j hj=>(below_putRowG encN w n b 0 base dk os h3 hbs).block j (hG j hj)) fit x.2 (((below_putRowG encN w n b 0 base dk os h3 hbs).cell (p:=⟨g,0,none⟩) hg).trans hc)) hH (by unfold maxLen at h6; simp; omega) (by simp; omega)
  have hlen:k.toArray.size=l.length:=by simpa using hkl
  rw [hlen] at hcon
  refine hcon.mono ?_
  rintro e w' ⟨rfl,q,rfl⟩
  have hfl:((k.toArray.toList.filter fun x:Sn => !goneQ s x.1).map Subtype.val)=l.filter fun n => !goneQ s n:=by
   rw [<- hk,<- filter_lift]
  have hfn:(k.toArray.toList.filter fun x:Sn => !goneQ s x.1).length=(l.filter fun n => !goneQ s n).length:=by rw [<- hfl,List.length_map]
  have hle:=List.length_filter_le (fun n => !goneQ s n) l
  refine ⟨_,rfl,⟨.inr ⟨⟨b,0,none⟩,cap,by rw [hfn,scells_length],by rw [scells_length]; omega,h6,fun j u hj=>?_⟩,.inr ⟨b,cap,by rw [hfn],h3⟩⟩,?_⟩
  ·have hj':j<(l.filter fun n => !goneQ s n).length:=by
    have:=(List.getElem?_eq_some_iff.1 hj).1
    rwa [scells_length] at this
   have hh:=holds_putRow encN (Sort.ahead w q) b 0 k.toArray ((k.toArray.toList.filter fun x:Sn => !goneQ s x.1)++List.replicate (l.length-(k.toArray.toList.filter fun x:Sn => !goneQ s x.1).length) (⟨⟨#[]⟩,Nat.zero_le _⟩:Sn)).toArray (holds_ahead _ w q b 0 _ hH) (by simp; have:=hfn; simp at this; omega)
   have h:=hh j (by rw [List.size_toArray,List.length_append]; omega)
   rw [Go.WideShapes.add_plain,h.1,getElem!_pos _ j (by rw [List.size_toArray,List.length_append]; omega)]
   have hu:u=.string (l.filter fun n => !goneQ s n)[j]:=by
    simp only [scells,List.getElem?_map,List.getElem?_eq_getElem hj',Option.map_some,Option.some.injEq] at hj
    exact hj.symm
   rw [hu]
   unfold encN
   congr 2
   rw [List.getElem_toArray,List.getElem_append_left (by omega)]
   have h8:=congrArg (fun z=>z[j]?) hfl
   simp only [List.getElem?_map,List.getElem?_eq_getElem hj',List.getElem?_eq_getElem (show j<(k.toArray.toList.filter fun x:Sn => !goneQ s x.1).length by omega),Option.map_some,Option.some.injEq] at h8
   exact h8
  ·have:=below_putRowG encN w q b 0 base ((k.toArray.toList.filter fun x:Sn => !goneQ s x.1)++List.replicate (l.length-(k.toArray.toList.filter fun x:Sn => !goneQ s x.1).length) (⟨⟨#[]⟩,Nat.zero_le _⟩:Sn)).toArray #[] h3 hbs
   rwa [grow_empty] at this
theorem queuesT_fit {s:B.Tb} (ok:s.Ok) (e key:ByteArray) : ∀ n∈B.queuesT s e key,n.size<=maxLen:=by
 intro n hn
 unfold B.queuesT at hn
 cases hf:B.findX s.xs e with
 |none=>rw [hf] at hn; cases hn
 |some x =>
  rw [hf] at hn
  obtain ⟨b,hb,rfl⟩:=List.mem_map.1 ((B.mem_mkS _ _).1 hn)
  exact (ok.fit b (List.mem_filter.1 hb).1).2.1
theorem into_any (p:Nat) (G:Nat->Prop) (s:Sm) (m:Ms) (w:World) (h:SS w p G s) (fit:s.Fit) (ok:s.tb.Ok) (hx:m.ex.size<=maxLen) (hk:m.key.size<=maxLen) :
  Calls Tryz.prog 38 #[.pointer (some ⟨p,0,none⟩),mv m] w fun e w' => ∃ v',e=.returned v'/\(Row w' v' (scells (intoM s m))/\Newer w.heap.size v' (intoM s m).length)/\Below w.heap.size w w':=by
 obtain ⟨W0,fold0⟩ : ∃ W,w.alloc (.cells #[.pointer (some ⟨p,0,none⟩)] 28)=W:=⟨_,rfl⟩
 have b0:Below w.heap.size w W0:=by rw [<- fold0]; exact box_below w _
 have k0:W0.heap[w.heap.size]? = some (.cells #[.pointer (some ⟨p,0,none⟩)] 28 (0,0)):=by rw [<- fold0]; exact heap_alloc_new w _
 obtain ⟨W,fold⟩ : ∃ W,W0.alloc (.cells #[.int .i64 m.origin,.int .u64 m.seq,.int .i64 m.hop,.string m.ex,.string m.key,.string m.body] 40)=W:=⟨_,rfl⟩
 have hB:BoxM W0 W m:=by rw [<- fold]; exact boxM_new W0 m
 have b1:=keptW b0 hB.bel
 have k1:W.heap[w.heap.size]? = some (.cells #[.pointer (some ⟨p,0,none⟩)] 28 (0,0)):=(hB.bel.block _ (yyD k0).1).trans k0
 have y0:W.cell? ⟨w.heap.size,0,none⟩=some (.pointer (some ⟨p,0,none⟩)):=by simp only [World.cell?]; rw [k1]; rfl
 have hW:=(h.kept b1).kept (drew_below W)
 have hlt:=h.lts
 have HS:Hid (SS W.drew p G s/\Below w.heap.size w W/\(∀ k,G k->k<w.heap.size)/\w.heap.size<W.heap.size/\s.Fit/\s.tb.Ok):=⟨hW,b1,hlt,(yyD k1).1,fit,ok⟩
 obtain ⟨ft,d,hs',hF⟩:=hW
 have hQ:=B.queuesO_any d.tp (ft .table) s.tb m.ex m.key W.drew hs'.table ok hx hk
 obtain ⟨c0,c1,c2,c3,c4,c5,c6,c7,c8,c9⟩:=cells10 hs'.blk
 obtain ⟨x0,x1,x2,x3,x4,x5⟩:=cellsM hB.box
 have c6':W.cell? ⟨p,6,none⟩=some (.pointer (some ⟨d.tp,0,none⟩)):=c6
 have HK:Hid (∀ V,Below W.drew.heap.size W.drew V->V.cell? ⟨w.heap.size,0,none⟩=some (.pointer (some ⟨p,0,none⟩))/\V.cell? ⟨p,6,none⟩=some (.pointer (some ⟨d.tp,0,none⟩))/\V.cell? ⟨W0.heap.size,3,none⟩=some (.string m.ex)/\V.cell? ⟨W0.heap.size,4,none⟩=some (.string m.key)):=fun V b=>⟨cell_on b y0,cell_on b c6',cell_on b x3,cell_on b x4⟩
 clear hs' hF hB c0 c1 c2 c3 c4 c5 c6 c7 c8 c9 x0 x1 x2 x5 h k0 k1 b0 b1 fit ok hx hk hlt
 go_enter Tryz.func38,Tryz.ntmps38
 go_wp2
 try rw [fold0]
 try rw [fold]
 (go_region_held3 (fun w'=>w'.cell? ⟨w.heap.size,0,none⟩=some (.pointer (some ⟨p,0,none⟩))/\w'.cell? ⟨p,6,none⟩=some (.pointer (some ⟨d.tp,0,none⟩))/\w'.cell? ⟨W0.heap.size,3,none⟩=some (.string m.ex)/\w'.cell? ⟨W0.heap.size,4,none⟩=some (.string m.key)) (first | exact ⟨y0,c6',x3,x4⟩ | go_keep) (first
  |(go_at_call 94; refine hQ.mono ?_; rintro e w2 ⟨v2,rfl,r2,b2⟩; have H2:Hid (B.NewS w2 W.drew.heap.size v2 (B.queuesT s.tb m.ex m.key)/\Below W.drew.heap.size W.drew w2):=⟨r2,b2⟩; obtain ⟨f0,f1,f2,f3⟩:=HK.out w2 b2; clear r2 b2 hQ)
  |(go_at_call 93; refine (delS_any w2 W.drew.heap.size v2 (B.queuesT s.tb m.ex m.key) w.heap.size p G s H2.out.1 H2.out.2.size (HS.out.1.kept H2.out.2) HS.out.2.2.2.2.1 HS.out.2.2.2.1 (fun k hk=>Nat.lt_of_lt_of_le (HS.out.2.2.1 k hk) HS.out.2.1.size) f0 (queuesT_fit HS.out.2.2.2.2.2 m.ex m.key)).mono ?_; rintro e w3 ⟨v3,rfl,r3,b3⟩; have B3:Hid (Below W.drew.heap.size W.drew w3):=H2.out.2.trans b3; have R3:Hid (Row w3 v3 (scells (intoM s m))/\Newer w.heap.size v3 (intoM s m).length):=⟨r3.1,r3.2.mono HS.out.2.1.size⟩; obtain ⟨g0,g1,g2,g3⟩:=HK.out w3 B3.out; clear r3 b3)))
 all_goals go_wp2
 all_goals go_ret
 all_goals exact ⟨_,rfl,R3.out,keptW (keptW HS.out.2.1 (drew_below W)) B3.out⟩
end Go.Proofs.YtnhnpnafchkhiaaGreatDoor
namespace Go.Proofs.YtnhnpnafchkhiaaGreatDoor
open Go.RowKit Go.Sort
def fullN (s:Sm) (n:ByteArray):Bool:=match findQ s.qs n with
 |some q=>fullQ q
 |none=>false
theorem fullN_some {s:Sm} {n:ByteArray} {q:F.St} (h:findQ s.qs n=some q):fullN s n=fullQ q:=by unfold fullN; rw [h]
theorem any_take {α:Type} {p:α->Bool} {l:List α} {n:Nat} (h:(l.take n).any p=true):l.any p=true:=by
 obtain ⟨x,hx,hp⟩:=List.any_eq_true.1 h
 exact List.any_eq_true.2 ⟨x,List.mem_of_mem_take hx,hp⟩
theorem idxS_any (p:Nat) (G:Nat->Prop) (s:Sm) (v:Value) (l:List ByteArray) (w:World) (h:SS w p G s) (fit:s.Fit) (hr:Row w v (scells l)) (hq : ∀ n∈l,n.size<=maxLen /\ ∃ q,findQ s.qs n=some q/\q.Ok) :
  Calls Tryz.prog 150 #[v,.func (.func 139) #[.pointer (some ⟨p,0,none⟩)] #[]] w fun e w' => ∃ z:Int,e=.returned (.int .i64 z)/\(0<=z↔l.any (fullN s)=true) /\ ∃ k,w'=w.drewN k:=by
 obtain ⟨a,cap,rfl⟩:=hr.sliceStrs
 obtain ⟨n,hn⟩ : ∃ z,l.length=z:=⟨_,rfl⟩
 rw [hn] at hr ⊢
 have H0:Hid (SS w p G s/\s.Fit/\Row w (.slice a n cap) (scells l)/\(∀ n∈l,n.size<=maxLen /\ ∃ q,findQ s.qs n=some q/\q.Ok)/\l.length=n):=⟨h,fit,hr,hq,hn⟩
 obtain ⟨r,hR⟩ : ∃ r,l.any (fullN s)=r:=⟨_,rfl⟩
 rw [hR]
 have HR:Hid (l.any (fullN s)=r):=hR
 clear h fit hr hq hn hR
 go_enter Tryz.func150,Tryz.ntmps150
 go_wp2
 go_loopg [5,8] n (fun g u5 u8 wr => ∃ i:Nat,u8=.int .i64 (i:Int)/\i<=n/\g=n-i/\Hid ((l.take i).any (fullN s)=false) /\ ∃ k,wr=w.drewN k)
 case atStart=>exact ⟨0,rfl,Nat.zero_le _,rfl,rfl,0,rfl⟩
 case round =>
  obtain ⟨i,rfl,hi,rfl,HI,k,rfl⟩:=hrel
  by_cases hlt:i<n
  ·have hlt':(i:Int)<(n:Int):=by omega
   have hil:i<l.length:=by rw [H0.out.2.2.2.2]; exact hlt
   obtain ⟨x,hx⟩ : ∃ x,l[i]=x:=⟨_,rfl⟩
   obtain ⟨b,off,cap',hv,hc1,hc2,hcs⟩:=H0.out.2.2.1.atStrs (by omega)
   have hc:=hcs i hil
   rw [hx] at hc
   rw [H0.out.2.2.2.2] at hv hc1
   injection hv with hv1 _ hv2
   subst hv1 hv2
   have hi7:i<9223372036854775807:=by unfold maxLen at hc2; omega
   obtain ⟨hxs,q,hq,qok⟩:=H0.out.2.2.2.1 x (by rw [<- hx]; exact List.getElem_mem hil)
   have hC:=queueFull_any p G s x q (w.drewN k) (H0.out.1.kept (drewN_below w k)) H0.out.2.1 hxs hq qok
   have HX:Hid (fullN s x=fullQ q/\(l.take (i+1)).any (fullN s)=fullQ q/\i<9223372036854775807):=⟨fullN_some hq,by rw [List.take_succ_eq_append_getElem hil,List.any_append,HI.out,hx]; simp [fullN_some hq],hi7⟩
   generalize fullQ q=fq at hC HX
   clear hxs hq qok hx hcs hc1 hc2 hi7
   go_wp2_with fail
   refine hC.mono ?_
   rintro e w2 ⟨rfl,k2,rfl⟩
   clear hC
   cases fq
   ·go_wp2
    go_roundg (n-(i+1))
    case measure=>omega
    case rel=>exact ⟨i+1,congrArg (Value.int IntKind.i64) (by have:=HX.out; unfold wrap64; omega),by omega,rfl,HX.out.2.1,_,rfl⟩
   ·go_wp2
    go_ret
    obtain rfl:true=r:=(any_take HX.out.2.1).symm.trans HR.out
    exact ⟨_,rfl,⟨fun _=>rfl,fun _=>by omega⟩,_,rfl⟩
  ·have hlt' : ¬ (i:Int)<(n:Int):=by omega
   obtain rfl:i=n:=by omega
   have HF:Hid (l.any (fullN s)=false):=by
    have:=HI.out
    rw [List.take_of_length_le (by rw [H0.out.2.2.2.2]; exact yyH _)] at this
    exact this
   obtain rfl:false=r:=HF.out.symm.trans HR.out
   go_wp2
   go_ret
   exact ⟨_,rfl,by simp,_,rfl⟩
theorem conS_any (p:Nat) (G:Nat->Prop) (s:Sm) (v:Value) (l:List ByteArray) (w:World) (h:SS w p G s) (fit:s.Fit) (hr:Row w v (scells l)) (hq : ∀ n∈l,n.size<=maxLen /\ ∃ q,findQ s.qs n=some q/\q.Ok) :
  Calls Tryz.prog 138 #[v,.func (.func 139) #[.pointer (some ⟨p,0,none⟩)] #[]] w fun e w'=>e=.returned (.bool (l.any (fullN s))) /\ ∃ k,w'=w.drewN k:=by
 have hI:=idxS_any p G s v l w h fit hr hq
 obtain ⟨a,cap,rfl⟩:=hr.sliceStrs
 generalize l.any (fullN s)=r at hI ⊢
 generalize l.length=n at hI ⊢
 clear h fit hr hq
 go_enter Tryz.func138,Tryz.ntmps138
 go_wp2_with fail
 refine hI.mono ?_
 rintro e w2 ⟨z,rfl,hz,k,rfl⟩
 clear hI
 cases r
 ·have hz' : ¬ 0<=z:=fun h=>absurd (hz.1 h) (by decide)
  clear hz
  go_wp2
  go_ret
  exact ⟨by simp [hz'],k,rfl⟩
 ·have hz':0<=z:=hz.2 rfl
  clear hz
  go_wp2
  go_ret
  exact ⟨by simp,k,rfl⟩
def fullT (s:Sm) (t:Int):Bool:=decide (200<=(linkOf s.lk t).length)
theorem idxI_any (p:Nat) (G:Nat->Prop) (s:Sm) (v:Value) (l:List Int) (w:World) (h:SS w p G s) (fit:s.Fit) (hr:Row w v (icells l)) (hq : ∀ t∈l,I64 t) :
  Calls Tryz.prog 97 #[v,.func (.func 141) #[.pointer (some ⟨p,0,none⟩)] #[]] w fun e w' => ∃ z:Int,e=.returned (.int .i64 z)/\(0<=z↔l.any (fullT s)=true) /\ ∃ k,w'=w.drewN k:=by
 obtain ⟨a,cap,hv⟩:=hr.slice
 rw [icells_length] at hv
 subst hv
 obtain ⟨n,hn⟩ : ∃ z,l.length=z:=⟨_,rfl⟩
 rw [hn] at hr ⊢
 have H0:Hid (SS w p G s/\s.Fit/\Row w (.slice a n cap) (icells l)/\(∀ t∈l,I64 t)/\l.length=n):=⟨h,fit,hr,hq,hn⟩
 obtain ⟨r,hR⟩ : ∃ r,l.any (fullT s)=r:=⟨_,rfl⟩
 rw [hR]
 have HR:Hid (l.any (fullT s)=r):=hR
 clear h fit hr hq hn hR
 go_enter Tryz.func97,Tryz.ntmps97
 go_wp2
 go_loopg [5,8] n (fun g u5 u8 wr => ∃ i:Nat,u8=.int .i64 (i:Int)/\i<=n/\g=n-i/\Hid ((l.take i).any (fullT s)=false) /\ ∃ k,wr=w.drewN k)
 case atStart=>exact ⟨0,rfl,Nat.zero_le _,rfl,rfl,0,rfl⟩
 case round =>
  obtain ⟨i,rfl,hi,rfl,HI,k,rfl⟩:=hrel
  by_cases hlt:i<n
  ·have hlt':(i:Int)<(n:Int):=by omega
   have hil:i<l.length:=by rw [H0.out.2.2.2.2]; exact hlt
   obtain ⟨x,hx⟩ : ∃ x,l[i]=x:=⟨_,rfl⟩
   obtain ⟨b,off,cap',hv,hc1,hc2,hcs⟩:=H0.out.2.2.1.at (by rw [icells_length]; omega)
   have hc:w.cell? ⟨b,off+i,none⟩=some (.int .i64 x):=by
    rw [hcs i (by rw [icells_length]; exact hil),<- hx]
    simp [icells]
   rw [icells_length,H0.out.2.2.2.2] at hv hc1
   injection hv with hv1 _ hv2
   subst hv1 hv2
   have hi7:i<9223372036854775807:=by unfold maxLen at hc2; omega
   have hxs:=H0.out.2.2.2.1 x (by rw [<- hx]; exact List.getElem_mem hil)
   have hC:Calls Tryz.prog 141 #[.pointer (some ⟨p,0,none⟩),.int .i64 x] (w.drewN k) fun e w'=>e=.returned (.bool (fullT s x))/\w'=w.drewN k:=linkFull_any p G s x (w.drewN k) (H0.out.1.kept (drewN_below w k)) H0.out.2.1 hxs
   have HX:Hid (fullT s x=fullT s x/\(l.take (i+1)).any (fullT s)=fullT s x/\i<9223372036854775807):=⟨rfl,by rw [List.take_succ_eq_append_getElem hil,List.any_append,HI.out,hx]; simp,hi7⟩
   generalize fullT s x=fq at hC HX
   clear hxs hx hcs hc1 hc2 hi7
   go_wp2_with fail
   refine hC.mono ?_
   rintro e w2 ⟨rfl,rfl⟩
   clear hC
   cases fq
   ·go_wp2
    go_roundg (n-(i+1))
    case measure=>omega
    case rel=>exact ⟨i+1,congrArg (Value.int IntKind.i64) (by have:=HX.out; unfold wrap64; omega),by omega,rfl,HX.out.2.1,_,rfl⟩
   ·go_wp2
    go_ret
    obtain rfl:true=r:=(any_take HX.out.2.1).symm.trans HR.out
    exact ⟨_,rfl,⟨fun _=>rfl,fun _=>by omega⟩,_,rfl⟩
  ·have hlt' : ¬ (i:Int)<(n:Int):=by omega
   obtain rfl:i=n:=by omega
   have HF:Hid (l.any (fullT s)=false):=by
    have:=HI.out
    rw [List.take_of_length_le (by rw [H0.out.2.2.2.2]; exact yyH _)] at this
    exact this
   obtain rfl:false=r:=HF.out.symm.trans HR.out
   go_wp2
   go_ret
   exact ⟨_,rfl,by simp,_,rfl⟩
theorem conI_any (p:Nat) (G:Nat->Prop) (s:Sm) (v:Value) (l:List Int) (w:World) (h:SS w p G s) (fit:s.Fit) (hr:Row w v (icells l)) (hq : ∀ t∈l,I64 t) :
  Calls Tryz.prog 140 #[v,.func (.func 141) #[.pointer (some ⟨p,0,none⟩)] #[]] w fun e w'=>e=.returned (.bool (l.any (fullT s))) /\ ∃ k,w'=w.drewN k:=by
 have hI:=idxI_any p G s v l w h fit hr hq
 obtain ⟨a,cap,hv⟩:=hr.slice
 rw [icells_length] at hv
 subst hv
 generalize l.any (fullT s)=r at hI ⊢
 generalize l.length=n at hI ⊢
 clear h fit hr hq
 go_enter Tryz.func140,Tryz.ntmps140
 go_wp2_with fail
 refine hI.mono ?_
 rintro e w2 ⟨z,rfl,hz,k,rfl⟩
 clear hI
 cases r
 ·have hz' : ¬ 0<=z:=fun h=>absurd (hz.1 h) (by decide)
  clear hz
  go_wp2
  go_ret
  exact ⟨by simp [hz'],k,rfl⟩
 ·have hz':0<=z:=hz.2 rfl
  clear hz
  go_wp2
  go_ret
  exact ⟨by simp,k,rfl⟩
end Go.Proofs.YtnhnpnafchkhiaaGreatDoor
namespace Go.Proofs.YtnhnpnafchkhiaaGreatDoor
open Go.RowKit
def insL {α:Type} (t:Int) (x:α):List (Int × α)->List (Int × α)
 |[]=>[(t,x)]
 |y::r=>if t<y.1 then (t,x)::y::r else if y.1=t then (t,x)::r else y::insL t x r
def Up {α:Type} (l:List (Int × α)):Prop:=(l.map Prod.fst).Pairwise (· < ·)
theorem Up.tail {α:Type} {y:Int × α} {r:List (Int × α)} (h:Up (y::r)):Up r:=(List.pairwise_cons.1 h).2
theorem Up.head {α:Type} {y:Int × α} {r:List (Int × α)} (h:Up (y::r)) : ∀ x∈r,y.1<x.1:=fun x hx=>(List.pairwise_cons.1 h).1 x.1 (List.mem_map.2 ⟨x,hx,rfl⟩)
theorem insL_perm {α:Type} (t:Int) (x:α) : ∀ l:List (Int × α),Up l->(insL t x l).Perm ((t,x)::l.filter fun y => !decide (y.1=t))
 |[],_=>List.Perm.refl _
 |y::r,h=>by
  have keep : ∀ q:List (Int × α),(∀ z∈q,t<z.1)->(q.filter fun z => !decide (z.1=t))=q:=fun q hq=>by
   rw [List.filter_eq_self]
   intro z hz
   have:=hq z hz
   have : ¬ z.1=t:=by omega
   simp [this]
  unfold insL
  split
  ·rename_i hlt
   rw [keep (y::r) (fun z hz=>by
    rcases List.mem_cons.1 hz with rfl | hz
    ·exact hlt
    ·have:=h.head z hz; omega)]
  ·split
   ·rename_i he
    have h2:((y::r).filter fun z => !decide (z.1=t))=r:=by
     rw [List.filter_cons_of_neg (by simp [he]),keep r (fun z hz=>by have:=h.head z hz; omega)]
    rw [h2]
   ·rename_i he
    rw [List.filter_cons_of_pos (by simp [he])]
    exact ((insL_perm t x r h.tail).cons y).trans (List.Perm.swap _ _ _)
theorem insL_keys {α β:Type} (t:Int) (x:α) (y:β) : ∀ (l:List (Int × α)) (k:List (Int × β)),l.map Prod.fst=k.map Prod.fst->(insL t x l).map Prod.fst=(insL t y k).map Prod.fst
 |[],[],_=>rfl
 |[],_::_,h=>by simp at h
 |_::_,[],h=>by simp at h
 |a::l,b::k,h=>by
  simp only [List.map_cons,List.cons.injEq] at h
  unfold insL
  rw [h.1]
  split
  ·simp [h.1,h.2]
  ·split
   ·simp [h.2]
   ·simp [h.1,insL_keys t x y l k h.2]
theorem insL_up {α:Type} (t:Int) (x:α) : ∀ l:List (Int × α),Up l->Up (insL t x l)
 |[],_=>List.pairwise_cons.2 ⟨by simp,List.Pairwise.nil⟩
 |y::r,h=>by
  have hm:=(insL_perm t x r h.tail)
  unfold insL
  split
  ·rename_i hlt
   refine List.pairwise_cons.2 ⟨fun z hz=>?_,h⟩
   obtain ⟨q,hq,rfl⟩:=List.mem_map.1 hz
   rcases List.mem_cons.1 hq with rfl | hq
   ·exact hlt
   ·have:=h.head q hq; omega
  ·split
   ·rename_i he
    refine List.pairwise_cons.2 ⟨fun z hz=>?_,h.tail⟩
    obtain ⟨q,hq,rfl⟩:=List.mem_map.1 hz
    have:=h.head q hq; omega
   ·rename_i h1 h2
    refine List.pairwise_cons.2 ⟨fun z hz=>?_,insL_up t x r h.tail⟩
    obtain ⟨q,hq,rfl⟩:=List.mem_map.1 hz
    rcases List.mem_cons.1 (hm.mem_iff.1 hq) with rfl | hq
    ·show y.1<t; omega
    ·exact h.head q (List.mem_filter.1 hq).1
theorem ll_put {l:List Le} (h:LL l) {t:Int} (ht:I64 t) (v:Value):LL ((t,v)::l.filter fun y => !decide (y.1=t)):=by
 refine ⟨List.pairwise_cons.2 ⟨fun y hy e=>?_,h.diff.filter _⟩,fun x hx=>?_⟩
 ·have h1 : ¬ y.1=t:=by simpa using (List.mem_filter.1 hy).2
  exact h1 (int_inj e).symm
 ·rcases List.mem_cons.1 hx with rfl | hx
  ·exact ht
  ·exact h.fit x (List.mem_filter.1 hx).1
section
variable {w w2 w3:World} {p:Nat} {ft:Ix->Nat->Prop} {d:Ad} {s:Sm}
abbrev linkV (d:Ad) (t:Int):Value:=((findL d.es t).map Prod.snd).getD (.slice none 0 0)
theorem SAt.linkFoot (h:SAt w p ft d s) (fit:s.Fit) (t:Int) : ∀ k,ft (.link t) k↔(linkV d t).ownBlock=some k:=by
 intro k
 by_cases hn:t∈s.lk.map Prod.fst
 ·obtain ⟨⟨t',l⟩,hm,rfl⟩:=List.mem_map.1 hn
  obtain ⟨v,h1,h2,h3⟩:=h.link t' l hm
  have hf:findL d.es t'=some (t',v):=by
   cases hg:findL d.es t' with
   |none=>exact absurd rfl (findL_none hg (t',v) h1)
   |some z =>
    obtain ⟨hz,e⟩:=findL_some hg
    obtain ⟨t'',v'⟩:=z
    obtain rfl:t''=t':=e
    obtain rfl:=nodup_pair (by rw [h.tos]; exact fit.tos) h1 hz
    rfl
  show ft (.link t') k↔_
  unfold linkV
  rw [hf]
  exact h3 k
 ·have hf:findL d.es t=none:=by
   unfold findL
   rw [List.find?_eq_none]
   intro x hx he
   refine hn ?_
   rw [<- h.tos]
   exact List.mem_map.2 ⟨x,hx,by simpa using he⟩
  unfold linkV
  rw [hf]
  exact ⟨fun hk=>absurd hk (h.nol t hn k),fun hk=>by simp [Value.ownBlock] at hk⟩
theorem SAt.putLink (h:SAt w p ft d s) (fit:s.Fit) (up:Up s.lk) {t:Int} (ht:I64 t) {v':Value} {l':List Ms} (g2:w.grownBy w2 (linkV d t).ownBlock) (o2:OwnM w2 0 v' l') (hnew:K.NewOr w (linkV d t) v') (hd:LAt w3 d.lm ((t,v')::d.es.filter fun y => !decide (y.1=t))) (g3:w2.grownBy w3 (some d.lm)) :
  SAt w3 p (upd ft (.link t) fun k=>v'.ownBlock=some k) { d with es:=insL t v' d.es } { s with lk:=insL t l' s.lk }/\Moved w w3 (fun k => ∃ a,ft a k) (fun k => ∃ a,upd ft (.link t) (fun k=>v'.ownBlock=some k) a k):=by
 have hfoot:=h.linkFoot fit t
 have m2:Moved w w2 (ft (.link t)) (fun k=>v'.ownBlock=some k):=by
  refine ⟨g2.os,g2.tape,g2.output,g2.size,fun k hk hn=>g2.block k hk fun e=>hn ((hfoot k).2 e.symm),fun k hk=>?_⟩
  rcases hnew with e | ⟨g,e,hg⟩
  ·exact .inl ((hfoot k).2 (e ▸ hk))
  ·rw [e] at hk
   injection hk with hk
   exact .inr (by omega)
 have hlm:d.lm<w.heap.size:=h.lmap.lt
 have upe:Up d.es:=by unfold Up; rw [h.tos]; exact up
 have pe:=insL_perm t v' d.es upe
 have pl:=insL_perm t l' s.lk up
 have nlm : ∀ a k,a≠.lmap->ft a k->k≠d.lm:=fun a k ha hk e=>ha (h.one a .lmap k hk ((h.fl k).2 e))
 have ho : ∀ a,a≠.link t->a≠.lmap -> ∀ k,ft a k->w3.heap[k]? = w.heap[k]? := fun a h1 h2 k hk =>
  (g3.block k (Nat.lt_of_lt_of_le (h.lts a k hk) g2.size) (by simpa using nlm a k h2 hk)).trans (h.others m2 a h1 k hk)
 refine ⟨⟨?_,?_,?_,?_,?_,?_,?_,?_,?_,?_,h.names,?_,?_,?_,?_,?_,h.oneUpd m2⟩,?_⟩
 ·rw [ho .main (by simp) (by simp) p ((h.fm p).2 rfl)]; exact h.blk
 ·rw [upd_other ft _ (by simp)]; exact h.fm
 ·exact h.edges.same fun g hg=>ho .edges (by simp) (by simp) g ((h.fe g).2 hg)
 ·rw [upd_other ft _ (by simp)]; exact h.fe
 ·rw [upd_other ft _ (by simp)]; exact h.table.same fun k hk=>ho .table (by simp) (by simp) k hk
 ·exact h.qmap.same (ho .qmap (by simp) (by simp) _ ((h.fq _).2 rfl))
 ·rw [upd_other ft _ (by simp)]; exact h.fq
 ·rw [upd_other ft _ (by simp)]; exact h.book.same fun k hk=>ho .book (by simp) (by simp) k hk
 ·exact hd.permTo ((ll_put (h.ll fit) ht v').perm pe) pe.symm
 ·rw [upd_other ft _ (by simp)]; exact h.fl
 ·intro n q hq
  rw [upd_other ft _ (by simp)]
  obtain ⟨b,h1,h2⟩:=h.queue n q hq
  exact ⟨b,h1,h2.same fun k hk=>ho _ (by simp) (by simp) k hk⟩
 ·intro n hn
  rw [upd_other ft _ (by simp)]
  exact h.noq n hn
 ·exact insL_keys t v' l' d.es s.lk h.tos
 ·intro t' l'' hl
  rcases List.mem_cons.1 (pl.mem_iff.1 hl) with e | hm
  ·injection e with e1 e2
   subst e1 e2
   rw [upd_same]
   refine ⟨v',pe.mem_iff.2 List.mem_cons_self,o2.same fun g hg=>g3.block g (o2.lt hg).2 ?_,fun k=>Iff.rfl⟩
   simp only [ne_eq,Option.some.injEq]
   intro e
   rcases m2.sub g hg with hk | hk
   ·exact nlm _ g (by simp) hk e
   ·omega
  ·obtain ⟨hm,hne⟩:=List.mem_filter.1 hm
   have hne:t'≠t:=by simpa using hne
   rw [upd_other ft _ (by simpa using hne)]
   obtain ⟨v,h1,h2,h3⟩:=h.link t' l'' hm
   exact ⟨v,pe.mem_iff.2 (List.mem_cons_of_mem _ (List.mem_filter.2 ⟨h1,by simpa using hne⟩)),h2.same fun g hg=>ho (.link t') (by simpa using hne) (by simp) g ((h3 g).2 hg),h3⟩
 ·intro t' ht'
  have ht2:t'∉(insL t l' s.lk).map Prod.fst:=ht'
  have hp:=pl.map Prod.fst
  have hne:t'≠t:=fun e=>ht2 (hp.mem_iff.2 (by rw [e]; exact List.mem_cons_self))
  rw [upd_other ft _ (by simpa using hne)]
  refine h.nol t' fun hm=>ht2 (hp.mem_iff.2 (List.mem_cons_of_mem _ ?_))
  obtain ⟨x,hx,e⟩:=List.mem_map.1 hm
  exact List.mem_map.2 ⟨x,List.mem_filter.2 ⟨hx,by rw [e]; simpa using hne⟩,e⟩
 ·have mu:=moved_upd m2
  refine ⟨g3.os.trans mu.os,g3.tape.trans mu.tape,g3.output.trans mu.output,Nat.le_trans mu.size g3.size,fun k hk hn=>?_,mu.sub⟩
  exact (g3.block k (Nat.lt_of_lt_of_le hk mu.size) (by simpa using fun e=>hn ⟨.lmap,(h.fl k).2 e⟩)).trans (mu.block k hk hn)
end
end Go.Proofs.YtnhnpnafchkhiaaGreatDoor
