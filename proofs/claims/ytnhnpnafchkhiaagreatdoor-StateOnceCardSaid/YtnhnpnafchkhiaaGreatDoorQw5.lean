import Derived.Test.YtnhnpnafchkhiaaGreatDoorQw4
import Derived.Deep.RegionLaw
import Derived.Deep.RegionWith
import Derived.Shelf.SlSortCmp.WholeK
import Derived.Shelf.SlSortCmp.NoneTotal
import Derived.Test.YtnhnpnafchkhiaaGreatDoorProg
import Derived.Shelf.SortM.Plain
import Derived.Shelf.SortM.SortNone
import Derived.Shelf.SlicesE.DeleteFunc
import Derived.Test.YtnhnpnafchkhiaaGreatDoorQw2
import Derived.Laws.OwnMore
import Derived.Deep.QuietTactic
import Derived.BigQuiet
set_option maxHeartbeats 4000000
set_option maxRecDepth 20000
namespace Go.Proofs.YtnhnpnafchkhiaaGreatDoor
open Go.RowKit
theorem lettersL_ascii {k:Int} {l:List UInt8} (h:lettersL k=some l) : ∀ c∈l,c.toNat<128:=by
 unfold lettersL at h
 have st : ∀ (i:Int) (x:List UInt8) (o:Option (List UInt8)),(∀ c∈x,c.toNat<128)->(if k=i then some x else o)=some l->(∀ c∈l,c.toNat<128)\/o=some l:=by
  intro i x o hx he
  by_cases hk:k=i
  ·rw [if_pos hk] at he
   obtain rfl:=Option.some.inj he
   exact .inl hx
  ·rw [if_neg hk] at he
   exact .inr he
 rcases st _ _ _ (by decide) h with h | h
 ·exact h
 rcases st _ _ _ (by decide) h with h | h
 ·exact h
 rcases st _ _ _ (by decide) h with h | h
 ·exact h
 rcases st _ _ _ (by decide) h with h | h
 ·exact h
 rcases st _ _ _ (by decide) h with h | h
 ·exact h
 rcases st _ _ _ (by decide) h with h | h
 ·exact h
 rcases st _ _ _ (by decide) h with h | h
 ·exact h
 rcases st _ _ _ (by decide) h with h | h
 ·exact h
 rcases st _ _ _ (by decide) h with h | h
 ·exact h
 rcases st _ _ _ (by decide) h with h | h
 ·exact h
 rcases st _ _ _ (by decide) h with h | h
 ·exact h
 rcases st _ _ _ (by decide) h with h | h
 ·exact h
 exact absurd h (by simp)
theorem lettersS_txt {k:Int} {l:List UInt8} (h:lettersL k=some l):txt (lettersS k)=l:=by
 unfold lettersS
 rw [h]
 simp [txt]
theorem cells17 {w:World} {p:Nat} {t:TypeId} {a:Ax} (h:w.heap[p]? = some (.cells (xcells a).toArray t (0,0))):w.cell? ⟨p,0,none⟩=some (.int .i64 a.kind)/\w.cell? ⟨p,1,none⟩=some (.string a.name)/\w.cell? ⟨p,2,none⟩=some (.int .i64 a.n)/\w.cell? ⟨p,3,none⟩=some (.int .u64 a.tag)/\w.cell? ⟨p,4,none⟩=some (.int .i64 a.to)/\w.cell? ⟨p,5,none⟩=some (.string a.xn)/\w.cell? ⟨p,6,none⟩=some (.int .i64 a.xk)/\w.cell? ⟨p,7,none⟩=some (.bool a.xf)/\w.cell? ⟨p,8,none⟩=some (.string a.be)/\w.cell? ⟨p,9,none⟩=some (.string a.bq)/\w.cell? ⟨p,10,none⟩=some (.string a.bp)/\w.cell? ⟨p,11,none⟩=some (.int .i64 a.m.origin)/\w.cell? ⟨p,12,none⟩=some (.int .u64 a.m.seq)/\w.cell? ⟨p,13,none⟩=some (.int .i64 a.m.hop)/\w.cell? ⟨p,14,none⟩=some (.string a.m.ex)/\w.cell? ⟨p,15,none⟩=some (.string a.m.key)/\w.cell? ⟨p,16,none⟩=some (.string a.m.body) :=
 ⟨box_at h rfl,box_at h rfl,box_at h rfl,box_at h rfl,box_at h rfl,box_at h rfl,box_at h rfl,box_at h rfl,box_at h rfl,box_at h rfl,box_at h rfl,box_at h rfl,box_at h rfl,box_at h rfl,box_at h rfl,box_at h rfl,box_at h rfl⟩
structure BoxIn (w wr:World) (p:Nat) (a:Ax) (s:ByteArray) (q pos:Nat):Prop where
 x:wr.heap[p]? = some (.cells (xcells a).toArray 42 (0,0))
 it:wr.heap[q]? = some (.stringIter s pos)
 bel:Below w.heap.size w wr
theorem box_iter {w V:World} {p:Nat} {a:Ax} (s:ByteArray) (hx:V.heap[p]? = some (.cells (xcells a).toArray 42 (0,0))) (hb:Below w.heap.size w V):BoxIn w (V.iter s 0) p a s V.heap.size 0:=by
 have hl:=(Array.getElem?_eq_some_iff.1 hx).1
 have b1:=box_below V (.stringIter s 0)
 exact ⟨(b1.block p hl).trans hx,heap_alloc_new V _,keptW hb b1⟩
theorem iterAt_other {w:World} {q:Nat} {s:ByteArray} {pos k:Nat} (hk:k≠q):(w.iterAt q s pos).heap[k]? = w.heap[k]? := by
 unfold World.iterAt
 simp only
 rw [Array.getElem?_setIfInBounds_ne (fun e=>hk e.symm)]
theorem iterAt_below {w0 w:World} {n q:Nat} {s:ByteArray} {pos:Nat} (hb:Below n w0 w) (hq:n<=q):Below n w0 (w.iterAt q s pos) :=
 ⟨hb.os,hb.tape,hb.output,by simp [World.iterAt]; exact hb.size,fun k hk=>(iterAt_other (by omega)).trans (hb.block k hk)⟩
theorem BoxIn.next {w wr:World} {p:Nat} {a:Ax} {s:ByteArray} {q pos:Nat} (h:BoxIn w wr p a s q pos) (hq:w.heap.size<=q):BoxIn w (wr.iterAt q s (pos+1)) p a s q (pos+1):=by
 have hne:p≠q:=by
  intro e
  have h1:=h.x
  rw [e,h.it] at h1
  cases h1
 exact ⟨(iterAt_other hne).trans h.x,Lib.iterAt_heap _ _ _ _ _ h.it,iterAt_below h.bel hq⟩
theorem BoxIn.kept {w wr V:World} {p:Nat} {a:Ax} {s:ByteArray} {q pos:Nat} (h:BoxIn w wr p a s q pos) (hb:Below wr.heap.size wr V):BoxIn w V p a s q pos :=
 ⟨(hb.block p (Array.getElem?_eq_some_iff.1 h.x).1).trans h.x,(hb.block q (Array.getElem?_eq_some_iff.1 h.it).1).trans h.it,keptW h.bel hb⟩
theorem goodA_any (a:Ax) (w:World) (hK:Kinds w) (ha:a.Fits):Calls Tryz.prog 36 #[av a] w fun e w'=>e=.returned (.bool (goodA a))/\Below w.heap.size w w':=by
 obtain ⟨W,fold⟩ : ∃ W,w.alloc (.cells #[.int .i64 a.kind,.string a.name,.int .i64 a.n,.int .u64 a.tag,.int .i64 a.to,.string a.xn,.int .i64 a.xk,.bool a.xf,.string a.be,.string a.bq,.string a.bp,.int .i64 a.m.origin,.int .u64 a.m.seq,.int .i64 a.m.hop,.string a.m.ex,.string a.m.key,.string a.m.body] 42)=W:=⟨_,rfl⟩
 have b0:Below w.heap.size w W:=by rw [<- fold]; exact box_below w _
 have x0:W.heap[w.heap.size]? = some (.cells (xcells a).toArray 42 (0,0)):=by rw [<- fold]; exact heap_alloc_new w _
 have y0:W.cell? ⟨w.heap.size,0,none⟩=some (.int .i64 a.kind):=box_at x0 rfl
 have hL:=lettersOf_any a.kind W (hK.below b0)
 have HA:Hid a.Fits:=ha
 clear ha hK
 go_enter Tryz.func36,Tryz.ntmps36
 go_wp2_with fail
 try rw [fold]
 refine hL.mono ?_
 rintro e V ⟨rfl,b1⟩
 clear hL
 have x1:=(b1.block _ (Array.getElem?_eq_some_iff.1 x0).1).trans x0
 have bV:Below w.heap.size w V:=keptW b0 b1
 clear y0 x0 b1 b0
 cases hl:lettersL a.kind with
 |none =>
  go_wp2
  go_ret
  exact ⟨by unfold goodA; rw [hl]; rfl,bV⟩
 |some l =>
  obtain ⟨s,hs⟩ : ∃ z,lettersS a.kind=z:=⟨_,rfl⟩
  have hst:txt s=l:=by rw [<- hs]; exact lettersS_txt hl
  have HL:Hid (goodA a=(l.all (fitsA a) && decide (a=onlyL a l))/\txt s=l /\ ∀ c∈l,c.toNat<128):=⟨by unfold goodA; rw [hl],hst,lettersL_ascii hl⟩
  have HI:Hid (BoxIn w (V.iter s 0) w.heap.size a s V.heap.size 0/\w.heap.size<=V.heap.size):=⟨box_iter s x1 bV,bV.size⟩
  rw [hs]
  clear hl hst x1 bV
  obtain ⟨q,hq⟩ : ∃ z,V.heap.size=z:=⟨_,rfl⟩
  rw [hq] at HI
  go_wp2
  try rw [hq]
  go_loopg [6] s.size (fun g u6 wr => ∃ pos:Nat,pos<=s.size/\g=s.size-pos/\Hid (BoxIn w wr w.heap.size a s q pos/\((txt s).take pos).all (fitsA a)=true))
  case atStart=>exact ⟨0,Nat.zero_le _,rfl,HI.out.1,rfl⟩
  case round =>
   obtain ⟨pos,hpos,rfl,HR⟩:=hrel
   have HQ:Hid (w.heap.size<=q):=HI.out.2
   clear HI
   by_cases hlt:pos<s.size
   ·have hlt2:pos<(txt s).length:=by rw [txt_length]; exact hlt
    obtain ⟨c,hc⟩ : ∃ z,s[pos]'hlt=z:=⟨_,rfl⟩
    have hget:(txt s)[pos]'hlt2=c:=by rw [<- hc]; exact Array.getElem_toList (xs:=s.data) hlt
    have hc8:(s[pos]'hlt).toNat<128:=by rw [hc,<- hget]; exact HL.out.2.2 _ (by rw [<- HL.out.2.1]; exact List.getElem_mem hlt2)
    have hnx:=fun ty=>Lib.run_next_ascii_at (P:=Tryz.prog) wr q s pos ty HR.out.1.it hlt hc8
    obtain ⟨W1,hW1⟩ : ∃ z,wr.iterAt q s (pos+1)=z:=⟨_,rfl⟩
    have H1:=HR.out.1.next HQ.out
    rw [hW1] at H1 hnx
    rw [hc] at hnx
    have HT:Hid (((txt s).take (pos+1)).all (fitsA a)=fitsA a c):=by
     show _=_
     rw [List.take_succ_eq_append_getElem hlt2,List.all_append,hget,HR.out.2]
     simp
    have HM:Hid (c∈txt s):=by rw [<- hget]; exact List.getElem_mem hlt2
    have hF:=fitsA_any a c W1 HA.out
    have HN:Hid (BoxIn w W1 w.heap.size a s q (pos+1)):=H1
    clear H1 HR hW1 hc hget hc8 hlt2
    go_wp2_with (refine wpList_load_row rfl 42 _ rfl w.heap.size rfl 42 (xcells a).toArray (0,0) _ HN.out.x Tryz.underlying42 rfl info17 ?_)
    refine hF.mono ?_
    rintro e V2 ⟨rfl,b2⟩
    have HB:Hid (BoxIn w V2 w.heap.size a s q (pos+1)):=HN.out.kept b2
    clear hF b2
    cases hf:fitsA a c
    ·have HF:Hid (goodA a=false):=by
      show goodA a=false
      rw [HL.out.1,<- HL.out.2.1]
      rw [Bool.and_eq_false_iff]
      exact .inl (by rw [List.all_eq_false]; exact ⟨c,HM.out,by rw [hf]; simp⟩)
     clear hf
     go_wp2
     go_ret
     exact ⟨by rw [HF.out]; rfl,HB.out.bel⟩
    ·have HF:Hid (fitsA a c=true):=hf
     clear hf
     go_wp2
     go_roundg (s.size-(pos+1))
     case measure=>omega
     case rel=>exact ⟨pos+1,by omega,rfl,HB.out,by rw [HT.out]; exact HF.out⟩
   ·have hnx:=fun ty=>Lib.run_next_end_at (P:=Tryz.prog) wr q s pos ty HR.out.1.it hlt
    have HF:Hid (goodA a=decide (a=onlyL a l)):=by
     show _=_
     have h1:=HR.out.2
     rw [List.take_of_length_le (by rw [txt_length]; omega),HL.out.2.1] at h1
     rw [HL.out.1,h1,Bool.true_and]
    have hO:=fun X=>only_any a s X (by rw [HL.out.2.1]; exact HL.out.2.2)
    rw [HL.out.2.1] at hO
    have HN:Hid (BoxIn w wr w.heap.size a s q pos):=HR.out.1
    clear HR
    have heqA:=fun X=>run_eqA a (onlyL a l) X
    have hgA:=eqGuardA
    go_wp2
    obtain ⟨y0,y1,y2,y3,y4,y5,y6,y7,y8,y9,y10,y11,y12,y13,y14,y15,y16⟩:=cells17 HN.out.x
    first
    |(go_region_law (rw [if_pos (by simp [Region.wanted])]; go_simp; refine Calls.mono (hO _) ?_; rintro e u ⟨rfl,bu⟩; have HV:Hid (BoxIn w u w.heap.size a s q pos):=HN.out.kept (Below.trans (by first | exact Below.refl _ _ | exact drew_below _ | exact drewN_below _ _) bu); obtain ⟨z0,z1,z2,z3,z4,z5,z6,z7,z8,z9,z10,z11,z12,z13,z14,z15,z16⟩:=cells17 HV.out.x; dsimp only))
    |fail
    all_goals go_wp2
    all_goals go_ret
    all_goals exact ⟨by rw [HF.out]; rfl,HV.out.bel⟩
end Go.Proofs.YtnhnpnafchkhiaaGreatDoor
namespace Go.Proofs
open Go.Shelf
def Tryz.sortR_ren:Go.Shelf.Ren:=⟨fun | 6=>165 | 15=>156 | 14=>213 | 28=>207 | 29=>208 | 20=>260 | 21=>261 | 22=>262 | 23=>263 | 24=>264 | 25=>265 | 26=>266 | 27=>267 | 46=>291 | 47=>255 | 48=>256 | 49=>292 | 50=>293 | 57=>305 | n=>n,fun | 22=>57 | 24=>74 | 25=>187 | 3=>3 | 39=>226 | 0=>0 | 53=>262 | 55=>32 | 4=>4 | 46=>254 | 45=>253 | 50=>259 | 5=>5 | 9=>9 | 66=>294 | 70=>297 | 76=>317 | 77=>288 | n=>n,fun | n=>n⟩
theorem Tryz.sortR:Go.Proofs.SlLaysF0.n6 Tryz.prog Tryz.sortR_ren:={
 mixed:=by kernel_rfl
 f6:=⟨Tryz.f165.name,by decide,Tryz.func165.trans (congrArg some (by kernel_rfl))⟩
 f14:=⟨Tryz.f213.name,by decide,Tryz.func213.trans (congrArg some (by kernel_rfl))⟩
 f15:=Tryz.func156.trans (congrArg some (by kernel_rfl))
 f20:=⟨Tryz.f260.name,by decide,Tryz.func260.trans (congrArg some (by kernel_rfl))⟩
 f21:=⟨Tryz.f261.name,by decide,Tryz.func261.trans (congrArg some (by kernel_rfl))⟩
 f22:=⟨Tryz.f262.name,by decide,Tryz.func262.trans (congrArg some (by kernel_rfl))⟩
 f23:=⟨Tryz.f263.name,by decide,Tryz.func263.trans (congrArg some (by kernel_rfl))⟩
 f24:=⟨Tryz.f264.name,by decide,Tryz.func264.trans (congrArg some (by kernel_rfl))⟩
 f25:=⟨Tryz.f265.name,by decide,Tryz.func265.trans (congrArg some (by kernel_rfl))⟩
 f26:=⟨Tryz.f266.name,by decide,Tryz.func266.trans (congrArg some (by kernel_rfl))⟩
 f27:=⟨Tryz.f267.name,by decide,Tryz.func267.trans (congrArg some (by kernel_rfl))⟩
 f28:=Tryz.func207.trans (congrArg some (by kernel_rfl))
 f29:=Tryz.func208.trans (congrArg some (by kernel_rfl))
 f46:=⟨Tryz.f291.name,by decide,Tryz.func291.trans (congrArg some (by kernel_rfl))⟩
 f47:=Tryz.func255.trans (congrArg some (by kernel_rfl))
 f48:=Tryz.func256.trans (congrArg some (by kernel_rfl))
 f49:=⟨Tryz.f292.name,by decide,Tryz.func292.trans (congrArg some (by kernel_rfl))⟩
 f50:=⟨Tryz.f293.name,by decide,Tryz.func293.trans (congrArg some (by kernel_rfl))⟩
 f57:=⟨Tryz.f305.name,by decide,Tryz.func305.trans (congrArg some (by kernel_rfl))⟩
 t0:=Tryz.underlying0
 a0:=Tryz.isAgg0
 z0:=Tryz.sizeOf0
 v0:=Tryz.zeroValue0
 t3:=Tryz.underlying3
 a3:=Tryz.isAgg3
 z3:=Tryz.sizeOf3
 v3:=Tryz.zeroValue3
 t4:=Tryz.underlying4
 a4:=Tryz.isAgg4
 z4:=Tryz.sizeOf4
 v4:=Tryz.zeroValue4
 t5:=Tryz.underlying5
 a5:=Tryz.isAgg5
 z5:=Tryz.sizeOf5
 v5:=Tryz.zeroValue5
 t9:=Tryz.underlying9
 a9:=Tryz.isAgg9
 z9:=Tryz.sizeOf9
 v9:=Tryz.zeroValue9
 t22:=Tryz.underlying57
 a22:=Tryz.isAgg57
 z22:=Tryz.sizeOf57
 v22:=Tryz.zeroValue57
 t25:=Tryz.underlying187
 a25:=Tryz.isAgg187
 z25:=Tryz.sizeOf187
 v25:=Tryz.zeroValue187
 t39:=Tryz.underlying226
 a39:=Tryz.isAgg226
 z39:=Tryz.sizeOf226
 v39:=Tryz.zeroValue226
 t45:=Tryz.underlying253
 a45:=Tryz.isAgg253
 z45:=Tryz.sizeOf253
 v45:=Tryz.zeroValue253
 t46:=Tryz.underlying254
 a46:=Tryz.isAgg254
 z46:=Tryz.sizeOf254
 v46:=Tryz.zeroValue254
 t50:=Tryz.underlying259
 a50:=Tryz.isAgg259
 z50:=Tryz.sizeOf259
 v50:=Tryz.zeroValue259
 t53:=Tryz.underlying262
 a53:=Tryz.isAgg262
 z53:=Tryz.sizeOf262
 v53:=Tryz.zeroValue262
 t55:=Tryz.underlying32
 a55:=Tryz.isAgg32
 z55:=Tryz.sizeOf32
 v55:=Tryz.zeroValue32
 t66:=Tryz.underlying294
 a66:=Tryz.isAgg294
 z66:=Tryz.sizeOf294
 v66:=Tryz.zeroValue294
 t70:=Tryz.underlying297
 a70:=Tryz.isAgg297
 z70:=Tryz.sizeOf297
 v70:=Tryz.zeroValue297
 t76:=Tryz.underlying317
 a76:=Tryz.isAgg317
 z76:=Tryz.sizeOf317
 v76:=Tryz.zeroValue317
 t77:=Tryz.underlying288
 a77:=Tryz.isAgg288
 z77:=Tryz.sizeOf288
 v77:=Tryz.zeroValue288 }
def Tryz.sortI_ren:Go.Shelf.Ren:=⟨fun | 5=>98 | 8=>156 | 7=>155 | 19=>207 | 20=>208 | 10=>198 | 11=>199 | 12=>200 | 13=>201 | 14=>202 | 15=>203 | 16=>204 | 17=>205 | 18=>206 | 30=>254 | 31=>255 | 32=>256 | 33=>257 | 34=>258 | 35=>259 | 40=>290 | n=>n,fun | 23=>60 | 25=>3 | 3=>3 | 32=>226 | 22=>60 | 0=>0 | 44=>262 | 46=>32 | 4=>4 | 36=>254 | 35=>253 | 41=>259 | 5=>5 | 9=>9 | 53=>294 | 57=>297 | 63=>317 | 64=>288 | n=>n,fun | n=>n⟩
theorem Tryz.sortI:Go.Proofs.SlLaysM.n5 Tryz.prog Tryz.sortI_ren:={
 mixed:=by kernel_rfl
 f5:=⟨Tryz.f98.name,by decide,Tryz.func98.trans (congrArg some (by kernel_rfl))⟩
 f7:=⟨Tryz.f155.name,by decide,Tryz.func155.trans (congrArg some (by kernel_rfl))⟩
 f8:=Tryz.func156.trans (congrArg some (by kernel_rfl))
 f10:=⟨Tryz.f198.name,by decide,Tryz.func198.trans (congrArg some (by kernel_rfl))⟩
 f11:=⟨Tryz.f199.name,by decide,Tryz.func199.trans (congrArg some (by kernel_rfl))⟩
 f12:=⟨Tryz.f200.name,by decide,Tryz.func200.trans (congrArg some (by kernel_rfl))⟩
 f13:=⟨Tryz.f201.name,by decide,Tryz.func201.trans (congrArg some (by kernel_rfl))⟩
 f14:=⟨Tryz.f202.name,by decide,Tryz.func202.trans (congrArg some (by kernel_rfl))⟩
 f15:=⟨Tryz.f203.name,by decide,Tryz.func203.trans (congrArg some (by kernel_rfl))⟩
 f16:=⟨Tryz.f204.name,by decide,Tryz.func204.trans (congrArg some (by kernel_rfl))⟩
 f17:=⟨Tryz.f205.name,by decide,Tryz.func205.trans (congrArg some (by kernel_rfl))⟩
 f18:=⟨Tryz.f206.name,by decide,Tryz.func206.trans (congrArg some (by kernel_rfl))⟩
 f19:=Tryz.func207.trans (congrArg some (by kernel_rfl))
 f20:=Tryz.func208.trans (congrArg some (by kernel_rfl))
 f30:=⟨Tryz.f254.name,by decide,Tryz.func254.trans (congrArg some (by kernel_rfl))⟩
 f31:=Tryz.func255.trans (congrArg some (by kernel_rfl))
 f32:=Tryz.func256.trans (congrArg some (by kernel_rfl))
 f33:=⟨Tryz.f257.name,by decide,Tryz.func257.trans (congrArg some (by kernel_rfl))⟩
 f34:=⟨Tryz.f258.name,by decide,Tryz.func258.trans (congrArg some (by kernel_rfl))⟩
 f35:=⟨Tryz.f259.name,by decide,Tryz.func259.trans (congrArg some (by kernel_rfl))⟩
 f40:=⟨Tryz.f290.name,by decide,Tryz.func290.trans (congrArg some (by kernel_rfl))⟩
 t0:=Tryz.underlying0
 a0:=Tryz.isAgg0
 z0:=Tryz.sizeOf0
 v0:=Tryz.zeroValue0
 t3:=Tryz.underlying3
 a3:=Tryz.isAgg3
 z3:=Tryz.sizeOf3
 v3:=Tryz.zeroValue3
 t4:=Tryz.underlying4
 a4:=Tryz.isAgg4
 z4:=Tryz.sizeOf4
 v4:=Tryz.zeroValue4
 t5:=Tryz.underlying5
 a5:=Tryz.isAgg5
 z5:=Tryz.sizeOf5
 v5:=Tryz.zeroValue5
 t9:=Tryz.underlying9
 a9:=Tryz.isAgg9
 z9:=Tryz.sizeOf9
 v9:=Tryz.zeroValue9
 t22:=Tryz.underlying60
 a22:=Tryz.isAgg60
 z22:=Tryz.sizeOf60
 v22:=Tryz.zeroValue60
 t23:=Tryz.underlying60
 a23:=Tryz.isAgg60
 z23:=Tryz.sizeOf60
 v23:=Tryz.zeroValue60
 t25:=Tryz.underlying3
 a25:=Tryz.isAgg3
 z25:=Tryz.sizeOf3
 v25:=Tryz.zeroValue3
 t32:=Tryz.underlying226
 a32:=Tryz.isAgg226
 z32:=Tryz.sizeOf226
 v32:=Tryz.zeroValue226
 t35:=Tryz.underlying253
 a35:=Tryz.isAgg253
 z35:=Tryz.sizeOf253
 v35:=Tryz.zeroValue253
 t36:=Tryz.underlying254
 a36:=Tryz.isAgg254
 z36:=Tryz.sizeOf254
 v36:=Tryz.zeroValue254
 t41:=Tryz.underlying259
 a41:=Tryz.isAgg259
 z41:=Tryz.sizeOf259
 v41:=Tryz.zeroValue259
 t44:=Tryz.underlying262
 a44:=Tryz.isAgg262
 z44:=Tryz.sizeOf262
 v44:=Tryz.zeroValue262
 t46:=Tryz.underlying32
 a46:=Tryz.isAgg32
 z46:=Tryz.sizeOf32
 v46:=Tryz.zeroValue32
 t53:=Tryz.underlying294
 a53:=Tryz.isAgg294
 z53:=Tryz.sizeOf294
 v53:=Tryz.zeroValue294
 t57:=Tryz.underlying297
 a57:=Tryz.isAgg297
 z57:=Tryz.sizeOf297
 v57:=Tryz.zeroValue297
 t63:=Tryz.underlying317
 a63:=Tryz.isAgg317
 z63:=Tryz.sizeOf317
 v63:=Tryz.zeroValue317
 t64:=Tryz.underlying288
 a64:=Tryz.isAgg288
 z64:=Tryz.sizeOf288
 v64:=Tryz.zeroValue288 }
def Tryz.delF_ren:Go.Shelf.Ren:=⟨fun | 10=>44 | 6=>97 | n=>n,fun | 22=>60 | 23=>3 | 25=>116 | 3=>3 | 4=>4 | 0=>0 | n=>n,fun | n=>n⟩
theorem Tryz.delF:Go.Proofs.SlLaysH.n10 Tryz.prog Tryz.delF_ren:={
 mixed:=by kernel_rfl
 f6:=⟨Tryz.f97.name,by decide,Tryz.func97.trans (congrArg some (by kernel_rfl))⟩
 f10:=⟨Tryz.f44.name,by decide,Tryz.func44.trans (congrArg some (by kernel_rfl))⟩
 t0:=Tryz.underlying0
 a0:=Tryz.isAgg0
 z0:=Tryz.sizeOf0
 v0:=Tryz.zeroValue0
 t3:=Tryz.underlying3
 a3:=Tryz.isAgg3
 z3:=Tryz.sizeOf3
 v3:=Tryz.zeroValue3
 t4:=Tryz.underlying4
 a4:=Tryz.isAgg4
 z4:=Tryz.sizeOf4
 v4:=Tryz.zeroValue4
 t22:=Tryz.underlying60
 a22:=Tryz.isAgg60
 z22:=Tryz.sizeOf60
 v22:=Tryz.zeroValue60
 a23:=Tryz.isAgg3
 z23:=Tryz.sizeOf3
 t25:=Tryz.underlying116
 a25:=Tryz.isAgg116
 z25:=Tryz.sizeOf116
 v25:=Tryz.zeroValue116 }
def Tryz.delS_ren:Go.Shelf.Ren:=⟨fun | 10=>93 | 6=>150 | n=>n,fun | 22=>52 | 23=>9 | 25=>172 | 3=>3 | 4=>4 | 0=>0 | n=>n,fun | n=>n⟩
theorem Tryz.delS:Go.Proofs.SlLaysH.n10 Tryz.prog Tryz.delS_ren:={
 mixed:=by kernel_rfl
 f6:=⟨Tryz.f150.name,by decide,Tryz.func150.trans (congrArg some (by kernel_rfl))⟩
 f10:=⟨Tryz.f93.name,by decide,Tryz.func93.trans (congrArg some (by kernel_rfl))⟩
 t0:=Tryz.underlying0
 a0:=Tryz.isAgg0
 z0:=Tryz.sizeOf0
 v0:=Tryz.zeroValue0
 t3:=Tryz.underlying3
 a3:=Tryz.isAgg3
 z3:=Tryz.sizeOf3
 v3:=Tryz.zeroValue3
 t4:=Tryz.underlying4
 a4:=Tryz.isAgg4
 z4:=Tryz.sizeOf4
 v4:=Tryz.zeroValue4
 t22:=Tryz.underlying52
 a22:=Tryz.isAgg52
 z22:=Tryz.sizeOf52
 v22:=Tryz.zeroValue52
 a23:=Tryz.isAgg9
 z23:=Tryz.sizeOf9
 t25:=Tryz.underlying172
 a25:=Tryz.isAgg172
 z25:=Tryz.sizeOf172
 v25:=Tryz.zeroValue172 }
end Go.Proofs
namespace Go.Proofs.YtnhnpnafchkhiaaGreatDoor
open Go.RowKit Go.Shelf
theorem standsFor_any (x p:ByteArray) (w:World) :
  Calls Tryz.prog 300 #[.string x,.string p] w fun e w'=>e=.returned (.bool (sfB (txt x) (txt p)))/\w'=w:=by
 have h1:(x.toList==p.toList)=(txt x==txt p):=by rw [ByteArray.toList_eq,ByteArray.toList_eq]; rfl
 have h2:(p.toList==[42])=(txt p==[42]):=by rw [ByteArray.toList_eq]; rfl
 have h3:(x.toList==[35])=(txt x==[35]):=by rw [ByteArray.toList_eq]; rfl
 have HS:Hid (sfB (txt x) (txt p)=((x.toList==p.toList) || ((p.toList==[42]) && !(x.toList==[35])))):=by
  show _=_
  rw [h1,h2,h3]; rfl
 clear h1 h2 h3
 cases h1:(x.toList==p.toList) <;> cases h2:(p.toList==[42]) <;> cases h3:(x.toList==[35])
 all_goals go_enter Tryz.func300,Tryz.ntmps300
 all_goals go_wp2
 all_goals go_ret
 all_goals exact ⟨ret_bool (by rw [HS.out,h1,h2,h3]; rfl),rfl⟩
structure Half (wr:World) (g L:Nat) (F:Nat->Bool) (k:Nat):Prop where
 done : ∀ j,j<k->wr.cell? ⟨g,j,none⟩=some (.bool (F j))
 is : ∀ j,j<L->(wr.cell? ⟨g,j,none⟩).isSome=true/\wr.frozen? ⟨g,j,none⟩=false
theorem Half.set {wr:World} {g L:Nat} {F:Nat->Bool} {k:Nat} (h:Half wr g L F k) (hk:k<L):Half (wr.setCell ⟨g,k,none⟩ (.bool (F k))) g L F (k+1):=by
 have hs:=World.cell?_setCell_same' wr ⟨g,k,none⟩ (.bool (F k)) (h.is k hk).1
 have ho : ∀ j,j≠k->(wr.setCell ⟨g,k,none⟩ (.bool (F k))).cell? ⟨g,j,none⟩=wr.cell? ⟨g,j,none⟩:=fun j hj=>by
  rw [World.cell?_setCell_other]; intro e; cases e; exact hj rfl
 refine ⟨fun j hj=>?_,fun j hj=>⟨?_,by rw [World.frozen?_setCell]; exact (h.is j hj).2⟩⟩
 ·by_cases e:j=k
  ·subst e; exact hs
  ·rw [ho j e]; exact h.done j (by omega)
 ·by_cases e:j=k
  ·subst e; rw [hs]; rfl
  ·rw [ho j e]; exact (h.is j hj).1
theorem Half.step {wr:World} {g L:Nat} {F:Nat->Bool} {k:Nat} (h:Half wr g L F k) (hk:k<L) (b:Bool) (hb:F k=b):Half (wr.setCell ⟨g,k,none⟩ (.bool b)) g L F (k+1):=by
 subst hb
 exact h.set hk
def Reach (w:World) (v:Value) (ps K:List Txt):Prop:=Row w v ((List.range (K.length+1)).map fun j=>.bool (fitsL ps (K.take j)))
theorem Reach.at {w:World} {v:Value} {ps K:List Txt} (h:Reach w v ps K) : ∃ b off cap,v=.slice (some ⟨b,off,none⟩) (K.length+1) cap/\cap<=maxLen /\ ∀ j,j<=K.length->w.cell? ⟨b,off+j,none⟩=some (.bool (fitsL ps (K.take j))):=by
 obtain ⟨b,off,cap,hv,_,h2,h3⟩:=Row.at h (by simp)
 simp only [List.length_map,List.length_range] at hv h3
 refine ⟨b,off,cap,hv,h2,fun j hj=>?_⟩
 rw [h3 j (by omega)]
 simp
theorem elemB:Elem Tryz.prog 314 4 (.bool false) 1 :=
 ⟨Tryz.underlying314,by
  have h:(Tryz.prog.info? 4).map (fun i=>(i.zero,i.size,i.bytes))=some (some (.bool false),1,1):=by kernel_rfl
  cases hi:Tryz.prog.info? 4 with
  |none=>rw [hi] at h; cases h
  |some i=>rw [hi] at h; simp at h; exact ⟨i,rfl,h.1,h.2.1,h.2.2⟩,rfl⟩
theorem half_new (w:World) (C:Array Value) (e:TypeId) (L:Nat) (F:Nat->Bool) (hC:C.size=L):Half (w.alloc (.cells C e)) w.heap.size L F 0:=by
 refine ⟨fun j hj=>by omega,fun j hj=>?_⟩
 have hh:(w.alloc (.cells C e)).heap[w.heap.size]? = some (.cells C e):=World.alloc_heap_new w _
 constructor
 ·simp only [World.cell?,hh]
  simp [hC,hj]
 ·simp only [World.frozen?,hh]
  simp
theorem further_any (w:World) (vr vw:Value) (ps:List Txt) (K:List ByteArray) (p:ByteArray) (hr:Reach w vr ps (K.map txt)) (hw:Row w vw (scells K)) (hK:K.length<=1000000) :
  Calls Tryz.prog 287 #[vr,vw,.string p] w fun e w' => ∃ v,e=.returned v/\Reach w' v (ps++[txt p]) (K.map txt)/\Below w.heap.size w w':=by
 obtain ⟨br,fr,cr,rfl,_,hcr⟩:=hr.at
 obtain ⟨aw,cw,rfl⟩:=hw.sliceStrs
 rw [List.length_map] at *
 obtain ⟨C,hmk,hC⟩:=run_make1 (P:=Tryz.prog) w 314 4 _ 1 elemB (K.length+1) (K.length+1) (Nat.le_refl _) (by omega) (by omega)
 have hmk':(Instr.makeSlice 314 (.int .i64 ((K.length:Int)+1)) (.int .i64 ((K.length:Int)+1))).run Tryz.prog w=.ok (.slice (some ⟨w.heap.size,0,none⟩) (K.length+1) (K.length+1)) (w.alloc (.cells C 4)):=by
  have e:((K.length:Int)+1)=((K.length+1:Nat):Int):=by omega
  rw [e]
  exact hmk
 have hH:=half_new w C 4 (K.length+1) (fun j=>fitsL (ps++[txt p]) ((K.map txt).take j)) hC
 have hB0:Below w.heap.size w (w.alloc (.cells C 4)):=(Below.refl _ w).alloc (Nat.le_refl _) _
 have hpe:(p.toList==[35])=(txt p==[35]):=by rw [ByteArray.toList_eq]; rfl
 go_enter Tryz.func287,Tryz.ntmps287
 go_wp2
 go_loopw [14] (fun i wr => ∃ k:Nat,k<=K.length+1/\i=.int .i64 k/\Half wr w.heap.size (K.length+1) (fun j=>fitsL (ps++[txt p]) ((K.map txt).take j)) k/\Below w.heap.size w wr) (fun i _=>K.length+1-(intOf i).toNat)
 case atStart=>exact ⟨0,Nat.zero_le _,rfl,hH,hB0⟩
 case round =>
  obtain ⟨k,hk,rfl,hh,hB⟩:=hrel
  by_cases hkl:k<K.length+1
  ·obtain ⟨u,hu⟩:=Option.isSome_iff_exists.1 (hh.is k hkl).1
   have hfz:=(hh.is k hkl).2
   have hrc : ∀ j,j<=K.length->wr.cell? ⟨br,fr+j,none⟩=some (.bool (fitsL ps ((K.map txt).take j))):=fun j hj=>by
    have:=hcr j hj
    rw [hB.cell (p:=⟨br,fr+j,none⟩) (World.block_lt_of_cell? w _ this)]
    exact this
   have hB2:=fun v=>hB.setCell (p:=⟨w.heap.size,k,none⟩) (Nat.le_refl _) v
   have hck:=hrc k (by omega)
   by_cases hp:txt p=[35]
   ·have hsn:=fits_snoc_many ps (K.map txt) k (by rw [List.length_map]; omega)
    rw [<- hp] at hsn
    rw [hp] at hpe
    have hpe':(p.toList==[35])=true:=hpe
    clear hpe hcr
    by_cases hk0:0<k
    ·obtain ⟨m,rfl⟩ : ∃ m,k=m+1:=⟨k-1,by omega⟩
     have hpv:=hh.done m (by omega)
     rw [show m+1-1=m by omega,decide_eq_true hk0,Bool.true_and] at hsn
     have HS:Hid _:=hsn
     clear hsn hrc
     cases hR:fitsL ps ((K.map txt).take (m+1)) <;> rw [hR] at hck <;> cases hN:fitsL (ps++[txt p]) ((K.map txt).take m) <;> rw [hN] at hpv
     all_goals go_wp2
     all_goals go_roundw
     all_goals first
      |exact ⟨m+1+1,by omega,by go_num,hh.step hkl _ (by rw [HS.out,hR,hN]; rfl),hB2 _⟩
      |(simp [intOf]; omega)
    ·have hk0' : ¬ ((0:Int)<(k:Int)):=by omega
     rw [decide_eq_false hk0,Bool.false_and,Bool.or_false] at hsn
     have HS:Hid _:=hsn
     clear hsn hrc
     cases hR:fitsL ps ((K.map txt).take k) <;> rw [hR] at hck
     all_goals go_wp2
     all_goals go_roundw
     all_goals first
      |exact ⟨k+1,by omega,by go_num,hh.step hkl _ (by rw [HS.out,hR]),hB2 _⟩
      |(simp [intOf]; omega)
   ·have hsn:=fits_snoc_one ps (K.map txt) (txt p) hp k (by rw [List.length_map]; omega)
    have hpe':(p.toList==[35])=false:=by rw [hpe]; simpa using hp
    clear hpe hcr hck
    by_cases hk0:0<k
    ·obtain ⟨m,rfl⟩ : ∃ m,k=m+1:=⟨k-1,by omega⟩
     have hck:=hrc m (by omega)
     obtain ⟨bw,ow,cw',hv,_,_,hcw⟩:=(hw.below hB (Nat.le_refl _)).atStrs (by omega)
     injection hv with hv1 _ hv3
     subst hv1 hv3
     have hcm:=hcw m (by omega)
     rw [show m+1-1=m by omega,decide_eq_true hk0,Bool.true_and,show (K.map txt).getD m []=txt (K[m]'(by omega)) from by simp [List.getD,show m<K.length by omega]] at hsn
     have HS:Hid _:=hsn
     clear hsn hrc hcw
     cases hR:fitsL ps ((K.map txt).take m) <;> rw [hR] at hck
     all_goals go_wp2_with (go_at_call 300; refine (standsFor_any _ _ _).mono ?_; rintro e w3 ⟨rfl,rfl⟩)
     all_goals go_roundw
     all_goals first
      |exact ⟨m+1+1,by omega,by go_num,hh.step hkl _ (by rw [HS.out,hR]; rfl),hB2 _⟩
      |(simp [intOf]; omega)
    ·have hk0' : ¬ ((0:Int)<(k:Int)):=by omega
     rw [decide_eq_false hk0,Bool.false_and,Bool.false_and] at hsn
     have HS:Hid _:=hsn
     clear hsn hrc
     go_wp2
     go_roundw
     case rel=>exact ⟨k+1,by omega,by go_num,hh.step hkl _ HS.out,hB2 _⟩
     case measure=>simp [intOf]; omega
  ·go_wp2
   go_ret
   refine ⟨_,rfl,.inr ⟨⟨w.heap.size,0,none⟩,K.length+1,by simp,by simp,by unfold maxLen; omega,fun j u hj=>?_⟩,hB⟩
   rw [List.length_map] at hj
   have hj':j<K.length+1:=by
    have:=(List.getElem?_eq_some_iff.1 hj).1
    simpa using this
   rw [Go.WideShapes.add_plain,Nat.zero_add,hh.done j (by omega),<- hj]
   simp [hj']
theorem run_make_bools (w:World) (n:Nat) (hn:n<=1000000000) :
  (Instr.makeSlice 314 (.int .i64 (n:Int)) (.int .i64 (n:Int))).run Tryz.prog w=.ok (.slice (some ⟨w.heap.size,0,none⟩) n n) (w.alloc (.cells (List.replicate n (Value.bool false)).toArray 4)):=by
 obtain ⟨i,hi,hz,hsz,hby⟩:=elemB.info
 have hr:=run_make (P:=Tryz.prog) w 314 4 i (.bool false) elemB.ht hi hz .i64 .i64 n n (by omega) (by omega) (by rw [hby]; omega) (by omega)
 simp only [Int.toNat_natCast,hsz,Nat.mul_one] at hr
 rw [hr]
 congr 3
 apply Array.toList_inj.1
 exact toList_madeCells_one (.bool false) n
theorem fits_nil_take (K:List Txt) (j:Nat) (hj:j<=K.length):fitsL [] (K.take j)=decide (j=0):=by
 simp only [fitsL]
 rw [Bool.eq_iff_iff,List.isEmpty_iff,List.take_eq_nil_iff,decide_eq_true_eq]
 constructor
 ·rintro (h | h)
  ·exact h
  ·subst h; simpa using hj
 ·exact .inl
theorem stand_any (w:World) (vw vp:Value) (K Q:List ByteArray) (hw:Row w vw (scells K)) (hp:Row w vp (scells Q)) (hK:K.length<=1000000) (hQ:Q.length<=1000000) :
  Calls Tryz.prog 252 #[vw,vp] w fun e w'=>e=.returned (.bool (fitsL (Q.map txt) (K.map txt)))/\Below w.heap.size w w':=by
 obtain ⟨aw,cw,rfl⟩:=hw.sliceStrs
 obtain ⟨ap,cp,rfl⟩:=hp.sliceStrs
 have hmk:=run_make_bools w (K.length+1) (by omega)
 have hmk':(Instr.makeSlice 314 (.int .i64 ((K.length:Int)+1)) (.int .i64 ((K.length:Int)+1))).run Tryz.prog w=.ok (.slice (some ⟨w.heap.size,0,none⟩) (K.length+1) (K.length+1)) (w.alloc (.cells (List.replicate (K.length+1) (Value.bool false)).toArray 4)):=by
  have e:((K.length:Int)+1)=((K.length+1:Nat):Int):=by omega
  rw [e]
  exact hmk
 obtain ⟨w0,hw0⟩ : ∃ w0,w.alloc (.cells (List.replicate (K.length+1) (Value.bool false)).toArray 4)=w0:=⟨_,rfl⟩
 rw [hw0] at hmk hmk'
 have hh:w0.heap[w.heap.size]? = some (.cells (List.replicate (K.length+1) (Value.bool false)).toArray 4):=by rw [<- hw0]; exact World.alloc_heap_new w _
 have hB0:Below w.heap.size w w0:=by rw [<- hw0]; exact (Below.refl _ w).alloc (Nat.le_refl _) _
 have hc : ∀ j,j<K.length+1->w0.cell? ⟨w.heap.size,j,none⟩=some (.bool false):=fun j hj=>by
  simp only [World.cell?,hh]
  simp [hj]
 have hf:w0.frozen? ⟨w.heap.size,0,none⟩=false:=by
  simp only [World.frozen?,hh]
  simp
 have hc0:=hc 0 (by omega)
 have hst:Reach (w0.setCell ⟨w.heap.size,0,none⟩ (.bool true)) (.slice (some ⟨w.heap.size,0,none⟩) (K.length+1) (K.length+1)) [] (K.map txt):=by
  refine .inr ⟨⟨w.heap.size,0,none⟩,K.length+1,by simp,by simp,by unfold maxLen; omega,fun j u hj=>?_⟩
  have hj':j<K.length+1:=by
   have:=(List.getElem?_eq_some_iff.1 hj).1
   simpa using this
  rw [Go.WideShapes.add_plain,Nat.zero_add,<- hj]
  have hfit:=fits_nil_take (K.map txt) j (by rw [List.length_map]; omega)
  by_cases e:j=0
  ·subst e
   rw [World.cell?_setCell_same' _ _ _ (by rw [hc0]; rfl)]
   simp [fitsL]
  ·rw [World.cell?_setCell_other,hc j hj']
   ·rw [List.getElem?_map,List.getElem?_range (by rw [List.length_map]; exact hj')]
    simp only [Option.map_some,hfit,e,decide_false]
   ·intro e'; cases e'; exact e rfl
 have hB1:=hB0.setCell (p:=⟨w.heap.size,0,none⟩) (Nat.le_refl _) (.bool true)
 clear hh hc hw0
 go_enter Tryz.func252,Tryz.ntmps252
 go_wp2
 go_loopw [5,16] (fun r i wr => ∃ k:Nat,k<=Q.length/\i=.int .i64 k/\Reach wr r ((Q.map txt).take k) (K.map txt)/\Below w.heap.size w wr) (fun _ i _=>Q.length-(intOf i).toNat)
 case atStart=>exact ⟨0,Nat.zero_le _,rfl,hst,hB1⟩
 case round =>
  obtain ⟨k,hk,rfl,hR,hB⟩:=hrel
  have hsz:=hB.size
  by_cases hkl:k<Q.length
  ·obtain ⟨bp,op,cp',hv,_,_,hcp⟩:=(hp.below hB (Nat.le_refl _)).atStrs (by omega)
   injection hv with hv1 _ hv3
   subst hv1 hv3
   have hcell:=hcp k hkl
   have hfur:=further_any wr _ _ _ K Q[k] hR (hw.below hB (Nat.le_refl _)) hK
   have htk:(Q.map txt).take k++[txt Q[k]]=(Q.map txt).take (k+1):=by
    rw [List.take_succ_eq_append_getElem (by rw [List.length_map]; exact hkl)]
    simp
   rw [htk] at hfur
   clear hcp htk
   go_wp2_with (go_at_call 287; refine hfur.mono ?_; rintro e w3 ⟨v3,rfl,hR3,hb3⟩)
   go_roundw
   case rel=>exact ⟨k+1,by omega,by go_num,hR3,hB.trans (hb3.mono hsz)⟩
   case measure=>simp [intOf]; omega
  ·obtain ⟨br,fr,cr,rfl,_,hcr⟩:=hR.at
   have hlast:=hcr K.length (by simp)
   rw [List.length_map] at *
   rw [List.take_of_length_le (by rw [List.length_map]; omega),List.take_of_length_le (by simp)] at hlast
   clear hcr
   go_wp2
   go_ret
   exact ⟨rfl,hB⟩
end Go.Proofs.YtnhnpnafchkhiaaGreatDoor
