import Derived.Test.YtnhnpnafchkhiaaGreatDoorQwA
import Derived.Test.YtnhnpnafchkhiaaGreatDoorQw22
import Derived.Test.YtnhnpnafchkhiaaGreatDoorQw2
import Derived.Deep.QuietTactic
set_option maxHeartbeats 2000000
set_option maxRecDepth 10000
namespace Go.Proofs.YtnhnpnafchkhiaaGreatDoor.K
end Go.Proofs.YtnhnpnafchkhiaaGreatDoor.K
namespace Go.Proofs.YtnhnpnafchkhiaaGreatDoor.F
open Go.Proofs.YtnhnpnafchkhiaaGreatDoor.K
open Go.RowKit
theorem one_src {w:World} {vb:Nat} {x:It} (hx:w.heap[vb]? = some (.cells (icells x).toArray 74 (0,0))) :
  ∀ j v,(cellsOf icells [x])[j]? = some v->w.cell? ((⟨vb,0,none⟩:Addr).add j)=some v:=by
 intro j v hj
 rw [Addr.add_lit,Nat.zero_add]
 have:=cell_of_list (C:=cellsOf icells [x]) (w:=w) (g:=vb) (t:=74) hx j
 rw [this]; exact hj
theorem insert_shift (g c i vb:Nat) (x:It) (l:List It) (T:List Value) (w:World) (hg:w.heap[g]? = some (.cells (cellsOf icells l++T).toArray 74 (0,0))) (hi:i<l.length) (hroom:l.length+1<=c) (hcm:c<=maxLen) (hT:T.length=c*8-l.length*8)
  (hx:w.heap[vb]? = some (.cells (icells x).toArray 74 (0,0))) (hne:vb≠g) :
  Calls Tryz.prog 189 #[.slice (some ⟨g,0,none⟩) l.length c,.int .i64 i,.slice (some ⟨vb,0,none⟩) 1 1] w fun e w' =>
   e=.returned (.slice (some ⟨g,0,none⟩) (l.length+1) c)/\Only g w w' /\ ∃ T',w'.heap[g]? = some (.cells (cellsOf icells (l.take i++x::l.drop i)++T').toArray 74 (0,0))/\T'.length=c*8-(l.length+1)*8:=by
 have hc63:c<=9223372036854775807:=by unfold maxLen at hcm; omega
 have hz2 : ¬ ((i:Int)=(l.length:Int)):=by omega
 have hb2 : ¬ (c=i+1):=by omega
 have hb4 : ¬ (c=i):=by omega
 have hw1:IntKind.i64.wrap ((i:Int)+1)=(i:Int)+1:=by rw [IntKind.wrap_i64]; omega
 have hov : ∀ lb cb,(callFunc 248 #[.slice (some ⟨vb,0,none⟩) 1 1,.slice (some ⟨g,(i+1)*8,none⟩) lb cb]).run Tryz.prog w=.ok (.value (.bool false)) w:=fun lb cb=>by
  rw [run_callFunc_extern Tryz.func248 (by kernel_rfl) (by kernel_rfl) (by kernel_rfl) (e:=Extern.SlicesOverlaps.overlaps #[57,57] #[4]) (by kernel_rfl),
   Lib.run_overlaps_apart w 57 4 74 Tryz.underlying57 8 Tryz.sizeOf74 ⟨vb,0,none⟩ ⟨g,(i+1)*8,none⟩ 1 1 lb cb hne 74 74 8 (cellsOf icells l++T).length (by simp [World.shape?,hx]; rfl) (by simp [World.shape?,hg]) (by simp [cellsOf_length (enc:=icells)]; omega) (by simp [World.frozen?,hx]) (by simp [World.frozen?,hx])]
  rfl
 go_enter Tryz.func189,Tryz.ntmps189
 have hl1:=cellsOf_length (enc:=icells) (l.drop i)
 rw [List.length_drop] at hl1
 have hll:=cellsOf_length (enc:=icells) l
 have hA:=cellsOf_length (enc:=icells) (l.take i)
 rw [List.length_take,Nat.min_eq_left (by omega)] at hA
 have hsplit:cellsOf icells l=cellsOf icells (l.take i)++cellsOf icells (l.drop i):=by rw [<- cellsOf_append,List.take_append_drop]
 have S1:Hid (∀ j v,(cellsOf icells (l.drop i))[j]? = some v->w.cell? ((⟨g,i*8,none⟩:Addr).add j)=some v):=fun j v hj=>by
  rw [Addr.add_lit,cell_of_list hg,List.getElem?_append_left (by have:=(List.getElem?_eq_some_iff.1 hj).1; omega),hsplit,List.getElem?_append_right (by omega),hA]
  rw [show i*8+j-i*8=j by omega]
  exact hj
 have HG:Hid (w.heap[g]? = some (.cells (cellsOf icells l++T).toArray 74 (0,0))/\w.heap[vb]? = some (.cells (icells x).toArray 74 (0,0))):=⟨hg,hx⟩
 have HN:Hid ((cellsOf icells (l.drop i)).length=(l.length-i)*8/\(cellsOf icells l).length=l.length*8/\(cellsOf icells (l.take i)).length=i*8/\cellsOf icells l=cellsOf icells (l.take i)++cellsOf icells (l.drop i)):=⟨hl1,hll,hA,hsplit⟩
 have HT:Hid (T.length=c*8-l.length*8):=hT
 clear hl1 hll hA hsplit hT hg hx
 have hb1:(0:Int)<=(i:Int)+1:=by omega
 have hin:i<=l.length:=by omega
 have hin2:i<=l.length+1:=by omega
 have hin3:(i:Int)<=(l.length:Int)+1:=by omega
 go_wp2_with (simp only [hov])
 clear hov
 go_region_law (refine step_copyK rfl (.tmp 73) (.tmp 76) 57 57 rfl 74 Tryz.underlying57 info8 (by decide) (some ⟨g,(i+1)*8,none⟩) (some ⟨g,i*8,none⟩) (l.length-i) (c-(i+1)) (l.length+1-i) (c-i) (by simp [Act.eval,Act.put]) (by simp [Act.eval,Act.put]) g ((i+1)*8) (cellsOf icells l++T) 74 HG.out.1 (cellsOf icells (l.drop i)) (by rw [HN.out.1,show Nat.min (l.length+1-i) (l.length-i)=l.length-i from Nat.min_eq_right (by omega)]) (fun _=>⟨rfl,_,rfl,S1.out⟩) (by rw [HN.out.1,List.length_append,HN.out.2.1,HT.out]; omega) (cellsOf_one _) ?_; intro w1 m1 HG1 only1)
 have hx1:w1.heap[vb]? = some (.cells (icells x).toArray 74 (0,0)):=by rw [only1.block vb hne]; exact HG.out.2
 have HX1:Hid (∀ j v,(cellsOf icells [x])[j]? = some v->w1.cell? ((⟨vb,0,none⟩:Addr).add j)=some v):=one_src hx1
 have HL1:Hid ((splice (cellsOf icells l++T) ((i+1)*8) (cellsOf icells (l.drop i))).length=c*8):=by
  have h:=length_splice (cellsOf icells l++T) ((i+1)*8) (cellsOf icells (l.drop i)) (by rw [HN.out.1,List.length_append,HN.out.2.1,HT.out]; omega)
  rw [List.length_append,HN.out.2.1,HT.out] at h
  exact (by omega:(splice (cellsOf icells l++T) ((i+1)*8) (cellsOf icells (l.drop i))).length=c*8)
 have ON1:Hid (Only g w w1):=⟨only1.os,only1.tape,only1.output,only1.size,only1.block⟩
 clear hx1 only1
 go_wp2_with (refine wpList_copyK rfl (.tmp 80) (.tmp 81) 57 57 rfl 74 Tryz.underlying57 info8 (by decide) (some ⟨g,i*8,none⟩) (some ⟨vb,0,none⟩) (l.length+1-i) (c-i) 1 1 rfl rfl g (i*8) (splice (cellsOf icells l++T) ((i+1)*8) (cellsOf icells (l.drop i))) 74 HG1.out (cellsOf icells [x]) (by rw [show Nat.min 1 (l.length+1-i)=1 from Nat.min_eq_left (by omega)]; rfl) (fun _=>⟨rfl,_,rfl,HX1.out⟩) (by rw [HL1.out]; show i*8+8<=_; omega) (cellsOf_one _) ?_; intro w2 m2 HG2 only2)
 go_ret
 refine ⟨rfl,ON1.out.trans only2,(cellsOf icells l++T).drop ((i+1)*8+(cellsOf icells (l.drop i)).length),?_,?_⟩
 ·rw [HG2.out]
  congr 2
  congr 1
  have e1:=splice_in (cellsOf icells l++T) (cellsOf icells (l.take i)) (cellsOf icells (l.drop i)++T) (cellsOf icells (l.drop i)) 8 ((i+1)*8) (by rw [HN.out.2.2.2,List.append_assoc]) (by rw [HN.out.2.2.1]; omega)
  rw [splice_in _ (cellsOf icells (l.take i)) _ (cellsOf icells [x]) 0 (i*8) e1 (by rw [HN.out.2.2.1]; omega)]
  rw [cellsOf_append]
  have h2:((cellsOf icells (l.drop i)++T).take 8).length=8:=by rw [List.length_take,List.length_append,HN.out.1,HT.out]; omega
  have e2 : ∀ R:List Value,((cellsOf icells (l.drop i)++T).take 8++R).drop 8=R:=fun R=>by
   rw [List.drop_append,h2,List.drop_eq_nil_of_le (by omega)]
   simp
  have e3:(cellsOf icells l++T).drop ((i+1)*8+(cellsOf icells (l.drop i)).length)=(cellsOf icells (l.drop i)++T).drop (8+(cellsOf icells (l.drop i)).length):=by
   rw [HN.out.2.2.2,List.append_assoc,List.drop_append,List.drop_eq_nil_of_le (by rw [HN.out.2.2.1]; omega),HN.out.2.2.1,List.nil_append]
   congr 1
   omega
  rw [e3,List.take_zero,List.nil_append,show 0+(cellsOf icells [x]).length=8 from rfl,e2]
  simp [cellsOf_cons,cellsOf_nil]
 ·rw [List.length_drop,List.length_append,HN.out.2.1,HT.out,HN.out.1]; omega
theorem insert_grow (g i vb:Nat) (x:It) (l:List It) (w:World) (T:List Value) (hg:w.heap[g]? = some (.cells (cellsOf icells l++T).toArray 74 (0,0))) (hi:i<l.length) (hlen:l.length<=1000000)
    (hx:w.heap[vb]? = some (.cells (icells x).toArray 74 (0,0))) :
    Calls Tryz.prog 189 #[.slice (some ⟨g,0,none⟩) l.length l.length,.int .i64 i,.slice (some ⟨vb,0,none⟩) 1 1] w fun e w' =>
      ∃ v',e=.returned v'/\Own8 w' w.heap.size v' (l.take i++x::l.drop i)/\Below w.heap.size w w':=by
  obtain ⟨i0,hi0,hz0,hzs,hzb⟩:=itemInfo
  have hbw:g<w.heap.size:=(yyD hg).1
  have hvw:vb<w.heap.size:=(yyD hx).1
  have hz2 : ¬ ((i:Int)=(l.length:Int)):=by omega
  have hb4 : ¬ (l.length=i):=by omega
  have hw1:IntKind.i64.wrap ((i:Int)+1)=(i:Int)+1:=by rw [IntKind.wrap_i64]; omega
  have hA:=cellsOf_length (enc:=icells) (l.take i)
  rw [List.length_take,Nat.min_eq_left (by omega)] at hA
  have hl1:=cellsOf_length (enc:=icells) (l.drop i)
  rw [List.length_drop] at hl1
  have hsplit:cellsOf icells l=cellsOf icells (l.take i)++cellsOf icells (l.drop i):=by rw [<- cellsOf_append,List.take_append_drop]
  have hold:(Builtin.firstCells i0.size i (.slice (some ⟨g,0,none⟩) i l.length)).run Tryz.prog w.drew=.ok (cellsOf icells (l.take i)).toArray w.drew:=by
    rw [hzs]
    exact run_firstCells_some w.drew 8 i ⟨g,0,none⟩ i l.length (cellsOf icells (l.take i)) hA (fun j v hj=>by
      rw [Addr.add_lit,Nat.zero_add]
      show w.cell? _=_
      rw [cell_of_list hg,hsplit,List.append_assoc,List.getElem?_append_left (by have:=(List.getElem?_eq_some_iff.1 hj).1; omega)]
      exact hj)
  obtain ⟨G,hG⟩ : ∃ G,G=grownCap w (l.length+1) l.length 74:=⟨_,rfl⟩
  have hGn:l.length+1<=G:=by rw [hG]; exact grownCap_ge w _ _ _
  have hGm:G<=maxLen:=by rw [hG]; exact grownCap_le_maxLen w _ _ _ (by unfold maxLen; omega)
  have hG63:G<=9223372036854775807:=by unfold maxLen at hGm; omega
  obtain ⟨Z,hZ⟩ : ∃ Z:List Value,Z=(Builtin.zeroCells (Value.agg #[.int .u64 0,.int .i64 0,.int .u64 0,.int .i64 0,.string ⟨#[]⟩,.string ⟨#[]⟩,.string ⟨#[]⟩,.bool false]).cells (l.length+1-i)).toList++(Builtin.zeroCells (Value.agg #[.int .u64 0,.int .i64 0,.int .u64 0,.int .i64 0,.string ⟨#[]⟩,.string ⟨#[]⟩,.string ⟨#[]⟩,.bool false]).cells (G-(l.length+1))).toList:=⟨_,rfl⟩
  have hZl:Z.length=(G-i)*8:=by rw [hZ]; simp [Builtin.zeroCells,Value.cells]; omega
  have hkk:(l.length:Int)+1-(i:Int)=((l.length+1-i:Nat):Int):=by omega
  have hik:i+(l.length+1-i)=l.length+1:=by omega
  have hrz : ∀ ty,(Builtin.append_ #[57,3] ty #[.slice (some ⟨g,0,none⟩) i l.length,.int .i64 ((l.length:Int)+1-(i:Int))]).run Tryz.prog w =
      .ok (.slice (some ⟨w.heap.size,0,none⟩) (l.length+1) G) (w.drew.alloc (.cells (cellsOf icells (l.take i)++Z).toArray 74)):=fun ty=>by
    have h:=Lib.run_append_grow_zeros w 57 3 ty 74 i0 _ .i64 .i64 Tryz.underlying57 Tryz.underlying3 hi0 hz0 (some ⟨g,0,none⟩) i l.length (cellsOf icells (l.take i)) hold (l.length+1-i) (by omega) (by omega) (by omega) (by omega) (by rw [hzb]; omega) (by rw [hzb,hik]; exact growslice_fits (by omega) (by omega))
    rw [hik,<- hG] at h
    rw [hkk,h,hZ]
    congr 3
    apply Array.ext'
    simp
  obtain ⟨W1,hW1⟩ : ∃ W1,W1=w.drew.alloc (.cells (cellsOf icells (l.take i)++Z).toArray 74):=⟨_,rfl⟩
  rw [<- hW1] at hrz
  have hN1:W1.heap[w.heap.size]? = some (.cells (cellsOf icells (l.take i)++Z).toArray 74 (0,0)):=by rw [hW1]; exact heap_alloc_new w.drew _
  have hB1:Below w.heap.size w W1:=by rw [hW1]; exact (Below.refl w.heap.size w).drew.alloc (yyH _) _
  have hx1:W1.heap[vb]? = some (.cells (icells x).toArray 74 (0,0)):=by rw [hB1.block vb hvw]; exact hx
  have H:Hid (W1.heap[w.heap.size]? = some (.cells (cellsOf icells (l.take i)++Z).toArray 74 (0,0))/\Below w.heap.size w W1/\(∀ j v,(cellsOf icells [x])[j]? = some v->W1.cell? ((⟨vb,0,none⟩:Addr).add j)=some v)/\W1.heap[g]? = some (.cells (cellsOf icells l++T).toArray 74 (0,0))/\Z.length=(G-i)*8/\(cellsOf icells (l.take i)).length=i*8/\(cellsOf icells (l.drop i)).length=(l.length-i)*8/\cellsOf icells l=cellsOf icells (l.take i)++cellsOf icells (l.drop i)) :=
    ⟨hN1,hB1,one_src hx1,by rw [hB1.block g hbw]; exact hg,hZl,hA,hl1,hsplit⟩
  clear hold hG hkk hik hN1 hB1 hx1 hZl hA hl1 hsplit hg hx hZ hW1
  have hGi : ¬ (G=i):=by omega
  have hGi1 : ¬ (G=i+1):=by omega
  have hb1:(0:Int)<=(i:Int)+1:=by omega
  have hin:i<=l.length:=by omega
  have hin2:i<=l.length+1:=by omega
  have hin3:(i:Int)<=(l.length:Int)+1:=by omega
  have hin4:(i:Int)<=(l.length:Int):=by omega
  go_enter Tryz.func189,Tryz.ntmps189
  go_wp2_with (first
    | (at_builtin; refine Lib.wpList_append_run _ rfl _ _ _ _ rfl _ _ rfl rfl _ _ (hrz _) ?_)
    | (refine wpList_copyK rfl (.tmp 43) (.tmp 44) 57 57 rfl 74 Tryz.underlying57 info8 (by decide) (some ⟨w.heap.size,i*8,none⟩) (some ⟨vb,0,none⟩) (l.length+1-i) (G-i) 1 1 rfl rfl w.heap.size (i*8) (cellsOf icells (l.take i)++Z) 74 H.out.1 (cellsOf icells [x]) (by rw [show Nat.min 1 (l.length+1-i)=1 from Nat.min_eq_left (by omega)]; rfl) (fun _=>⟨rfl,_,rfl,H.out.2.2.1⟩) (by rw [List.length_append,H.out.2.2.2.2.1,H.out.2.2.2.2.2.1]; show i*8+8<=_; omega) (cellsOf_one _) ?_; intro w2 m2 HG2 only2))
  have ON2:Hid (Below w.heap.size w w2/\w2.heap[g]? = some (.cells (cellsOf icells l++T).toArray 74 (0,0))/\(splice (cellsOf icells (l.take i)++Z) (i*8) (cellsOf icells [x])).length=G*8):=by
    refine ⟨⟨only2.os.trans H.out.2.1.os,only2.tape.trans H.out.2.1.tape,only2.output.trans H.out.2.1.output,by rw [only2.size]; exact H.out.2.1.size,fun k hk=>(only2.block k (by omega)).trans (H.out.2.1.block k hk)⟩,by rw [only2.block g (by omega)]; exact H.out.2.2.2.1,?_⟩
    rw [length_splice _ _ _ (by rw [List.length_append,H.out.2.2.2.2.1,H.out.2.2.2.2.2.1]; show i*8+8<=_; omega),List.length_append,H.out.2.2.2.2.1,H.out.2.2.2.2.2.1]
    omega
  have S2:Hid (∀ j v,(cellsOf icells (l.drop i))[j]? = some v->w2.cell? ((⟨g,i*8,none⟩:Addr).add j)=some v):=fun j v hj=>by
    rw [Addr.add_lit,cell_of_list ON2.out.2.1,H.out.2.2.2.2.2.2.2,List.append_assoc,List.getElem?_append_right (by rw [H.out.2.2.2.2.2.1]; omega),H.out.2.2.2.2.2.1,List.getElem?_append_left (by have:=(List.getElem?_eq_some_iff.1 hj).1; omega)]
    rw [show i*8+j-i*8=j by omega]
    exact hj
  clear only2
  go_region_law (refine step_copyK rfl (.tmp 50) (.tmp 53) 57 57 rfl 74 Tryz.underlying57 info8 (by decide) (some ⟨w.heap.size,(i+1)*8,none⟩) (some ⟨g,i*8,none⟩) (l.length-i) (G-(i+1)) (l.length-i) (l.length-i) (by simp [Act.eval,Act.put]) (by simp [Act.eval,Act.put]) w.heap.size ((i+1)*8) (splice (cellsOf icells (l.take i)++Z) (i*8) (cellsOf icells [x])) 74 HG2.out (cellsOf icells (l.drop i)) (by rw [H.out.2.2.2.2.2.2.1,show Nat.min (l.length-i) (l.length-i)=l.length-i from Nat.min_self _]) (fun _=>⟨rfl,_,rfl,S2.out⟩) (by rw [ON2.out.2.2,H.out.2.2.2.2.2.2.1]; omega) (cellsOf_one _) ?_; intro w3 m3 HG3 only3)
  go_wp2
  go_ret
  refine ⟨_,rfl,ownOf_mk (R:=(splice (cellsOf icells (l.take i)++Z) (i*8) (cellsOf icells [x])).drop ((i+1)*8+(cellsOf icells (l.drop i)).length)) (yyH _) ?_ ?_ ?_ hGm ?_,?_⟩
  · rw [HG3.out]
    congr 2
    congr 1
    have e1:=splice_in (cellsOf icells (l.take i)++Z) (cellsOf icells (l.take i)) Z (cellsOf icells [x]) 0 (i*8) rfl (by rw [H.out.2.2.2.2.2.1]; omega)
    rw [List.take_zero,List.nil_append,<- List.append_assoc] at e1
    have h4:(cellsOf icells (l.take i)++cellsOf icells [x]).length=(i+1)*8:=by
      rw [List.length_append,H.out.2.2.2.2.2.1]; show i*8+8=_; omega
    rw [splice_in _ _ _ (cellsOf icells (l.drop i)) 0 ((i+1)*8) e1 (by rw [h4]; omega),e1]
    rw [drop_more h4,cellsOf_append,cellsOf_cons]
    simp [cellsOf_cons,cellsOf_nil]
  · simp; omega
  · simp; omega
  · rw [List.length_drop,ON2.out.2.2,H.out.2.2.2.2.2.2.1]; simp; omega
  · exact ⟨only3.os.trans ON2.out.1.os,only3.tape.trans ON2.out.1.tape,only3.output.trans ON2.out.1.output,by rw [only3.size]; exact ON2.out.1.size,fun k hk=>(only3.block k (by omega)).trans (ON2.out.1.block k hk)⟩
theorem insert_end (base vb:Nat) (x:It) (v:Value) (l:List It) (w:World) (hown:Own8 w base v l) (hlen:l.length<=1000000) (hb:base<=w.heap.size)
  (hx:w.heap[vb]? = some (.cells (icells x).toArray 74 (0,0))) :
  Calls Tryz.prog 189 #[v,.int .i64 l.length,.slice (some ⟨vb,0,none⟩) 1 1] w fun e w' =>
   ∃ v',e=.returned v'/\Own8 w' base v' (l++[x])/\w.grownBy w' v.ownBlock/\NewOr w v v':=by
 rcases hown.split with ⟨rfl,rfl⟩ | ⟨g,c,T,rfl,hbg,hg,h1,h2,hT⟩
 ·have HX:Hid (∀ j v,(cellsOf icells [x])[j]? = some v->w.cell? ((⟨vb,0,none⟩:Addr).add j)=some v):=one_src hx
  obtain ⟨i0,hi0,hz0,hzs,hzb⟩:=itemInfo
  clear hx hown
  go_enter Tryz.func189,Tryz.ntmps189
  go_wp2_with (at_builtin; refine wpList_append_grows _ rfl (.tmp 23) (.tmp 24) 57 rfl 74 i0 _ 8 88 Tryz.underlying57 hi0 hz0 hzs hzb rfl (by decide) none 0 0 [] rfl (fun _=>⟨rfl,rfl⟩) rfl (fun b hb=>by cases hb) ⟨vb,0,none⟩ 1 1 (cellsOf icells [x]) rfl rfl HX.out (cellsOf_one _) (by omega) (by unfold maxLen; omega) (by omega) ?_; intro v' w' own' grown'; obtain ⟨va,vc,hva⟩ : ∃ a c,v'=.slice a 1 c:=(by rcases own'.2 with ⟨_,h0⟩ | ⟨g,c,cur,h,_⟩; exact absurd h0 (by omega); exact ⟨_,_,h⟩); subst hva)
  all_goals go_ret
  all_goals (have own2:Own8 w' w.heap.size (.slice va 1 vc) [x]:=own')
  all_goals (refine ⟨_,rfl,own2.mono hb,⟨grown'.os,grown'.tape,grown'.output,grown'.size,fun k hk _=>grown'.block k hk (by simp)⟩,.inr ?_⟩)
  all_goals (rcases own2.2 with ⟨_,h0⟩ | ⟨g2,c2,cur2,h3,h4,_⟩; exact absurd h0 (by simp); exact ⟨g2,by rw [h3]; rfl,h4⟩)
 ·have hc63:c<=9223372036854775807:=by unfold maxLen at h2; omega
  have HX:Hid (∀ j v,(cellsOf icells [x])[j]? = some v->w.cell? ((⟨vb,0,none⟩:Addr).add j)=some v):=one_src hx
  obtain ⟨i0,hi0,hz0,hzs,hzb⟩:=itemInfo
  have hll:=cellsOf_length (enc:=icells) l
  by_cases hroom:l.length+1<=c
  ·have HG:Hid (w.heap[g]? = some (.cells (cellsOf icells l++T).toArray 74 (0,0))/\T.length=c*8-l.length*8/\(cellsOf icells l).length=l.length*8):=⟨hg,hT,hll⟩
   clear hg hT hown hx hll
   go_enter Tryz.func189,Tryz.ntmps189
   go_wp2_with (at_builtin; refine wpList_appendK_room rfl (.tmp 23) (.tmp 24) 57 rfl 74 i0 Tryz.underlying57 hi0 hzs g l.length c rfl (cellsOf icells l++T) HG.out.1 ⟨vb,0,none⟩ 1 1 rfl (cellsOf icells [x]) rfl HX.out (cellsOf_one _) hroom (by rw [List.length_append,HG.out.2.1,HG.out.2.2]; show l.length*8+8<=_; omega) ?_; intro w1 HG1 only1)
   all_goals go_ret
   all_goals (refine ⟨_,rfl,ownOf_mk (R:=T.drop 8) hbg ?_ (by simp) (by simp; omega) h2 (by simp [HG.out.2.1]; omega),only1.grown,.inl rfl⟩)
   all_goals (rw [HG1.out,splice_in (cellsOf icells l++T) (cellsOf icells l) T (cellsOf icells [x]) 0 (l.length*8) rfl (by rw [HG.out.2.2]; omega),cellsOf_append]; simp [cellsOf_cons,cellsOf_nil]; rfl)
  ·have hcc:c=l.length:=by omega
   subst hcc
   have HC:Hid (∀ j u,(cellsOf icells l)[j]? = some u->w.cell? ((⟨g,0,none⟩:Addr).add j)=some u):=fun j u hj=>by
    rw [Addr.add_lit,Nat.zero_add,cell_of_list hg,List.getElem?_append_left (by exact (List.getElem?_eq_some_iff.1 hj).1)]
    exact hj
   clear hg hT hown hx
   go_enter Tryz.func189,Tryz.ntmps189
   go_wp2_with (at_builtin; refine wpList_append_grows _ rfl (.tmp 23) (.tmp 24) 57 rfl 74 i0 _ 8 88 Tryz.underlying57 hi0 hz0 hzs hzb rfl (by decide) (some ⟨g,0,none⟩) l.length l.length (cellsOf icells l) rfl (fun h=>by cases h) hll (fun b hb=>by injection hb with hb; subst hb; exact HC.out) ⟨vb,0,none⟩ 1 1 (cellsOf icells [x]) rfl rfl HX.out (cellsOf_one _) (by omega) (by unfold maxLen; omega) (by omega) ?_; intro v' w' own' grown'; obtain ⟨va,vc,hva⟩ : ∃ a c,v'=.slice a (l.length+1) c:=(by rcases own'.2 with ⟨_,h0⟩ | ⟨g,c,cur,h,_⟩; exact absurd h0 (by omega); exact ⟨_,_,h⟩); subst hva)
   all_goals go_ret
   all_goals (have own2:Own8 w' w.heap.size (.slice va (l.length+1) vc) (l++[x]):=(by unfold Own8 OwnOf; rw [cellsOf_append,List.length_append]; exact own'))
   all_goals (refine ⟨_,rfl,own2.mono hb,⟨grown'.os,grown'.tape,grown'.output,grown'.size,fun k hk _=>grown'.block k hk (by simp)⟩,.inr ?_⟩)
   all_goals (rcases own2.2 with ⟨_,h0⟩ | ⟨g2,c2,cur2,h3,h4,_⟩; exact absurd h0 (by simp); exact ⟨g2,by rw [h3]; rfl,h4⟩)
theorem insert_any (base vb i:Nat) (x:It) (v:Value) (l:List It) (w:World) (hown:Own8 w base v l) (hi:i<=l.length) (hlen:l.length<=1000000) (hb:base<=w.heap.size)
  (hx:w.heap[vb]? = some (.cells (icells x).toArray 74 (0,0))) (hne:v.ownBlock≠some vb) :
  Calls Tryz.prog 189 #[v,.int .i64 i,.slice (some ⟨vb,0,none⟩) 1 1] w fun e w' =>
   ∃ v',e=.returned v'/\Own8 w' base v' (l.take i++x::l.drop i)/\w.grownBy w' v.ownBlock/\NewOr w v v':=by
 rcases Nat.eq_or_lt_of_le hi with rfl | hlt
 ·rw [List.take_length,List.drop_length]
  exact insert_end base vb x v l w hown hlen hb hx
 ·rcases hown.split with ⟨rfl,rfl⟩ | ⟨g,c,T,rfl,hbg,hg,h1,h2,hT⟩
  ·simp at hlt
  ·by_cases hroom:l.length+1<=c
   ·refine (insert_shift g c i vb x l T w hg hlt hroom h2 hT hx (fun h=>hne (by rw [h]; rfl))).mono ?_
    rintro e w' ⟨rfl,only,T',hg',hT'⟩
    refine ⟨_,rfl,ownOf_mk hbg hg' (by simp; omega) (by simp; omega) h2 (by rw [hT']; simp; omega),only.grown,.inl rfl⟩
   ·obtain rfl:c=l.length:=by omega
    refine (insert_grow g i vb x l w T hg hlt hlen hx).mono ?_
    rintro e w' ⟨v',rfl,own,bel⟩
    refine ⟨_,rfl,own.mono hb,⟨bel.os,bel.tape,bel.output,bel.size,fun k hk _=>bel.block k hk⟩,.inr ?_⟩
    rcases own.2 with ⟨_,h0⟩ | ⟨g2,c2,cur2,h3,h4,_⟩
    ·simp at h0
    ·exact ⟨g2,by rw [h3]; rfl,h4⟩
theorem zero8 : ∀ k:Nat,(((Value.agg #[.int .u64 0,.int .i64 0,.int .u64 0,.int .i64 0,.string ⟨#[]⟩,.string ⟨#[]⟩,.string ⟨#[]⟩,.bool false]).cells)[k % ((Value.agg #[.int .u64 0,.int .i64 0,.int .u64 0,.int .i64 0,.string ⟨#[]⟩,.string ⟨#[]⟩,.string ⟨#[]⟩,.bool false]).cells).size]!).oneCell'=true:=by
 intro k
 have hk:k % 8<8:=Nat.mod_lt _ (by decide)
 show (#[Value.int .u64 0,.int .i64 0,.int .u64 0,.int .i64 0,.string ⟨#[]⟩,.string ⟨#[]⟩,.string ⟨#[]⟩,.bool false][k % 8]!).oneCell'=true
 generalize k % 8=j at hk
 have:j=0\/j=1\/j=2\/j=3\/j=4\/j=5\/j=6\/j=7:=by omega
 rcases this with rfl | rfl | rfl | rfl | rfl | rfl | rfl | rfl <;> rfl
theorem delete_row (g c:Nat) (x:It) (t:List It) (T:List Value) (w:World) (hg:w.heap[g]? = some (.cells (cellsOf icells (x::t)++T).toArray 74 (0,0))) (hc:t.length+1<=c) (hcm:c<=maxLen) (hT:T.length=c*8-(t.length+1)*8) :
  Calls Tryz.prog 187 #[.slice (some ⟨g,0,none⟩) (t.length+1) c,.int .i64 0,.int .i64 1] w fun e w' =>
   e=.returned (.slice (some ⟨g,0,none⟩) t.length c)/\Only g w w' /\ ∃ T',w'.heap[g]? = some (.cells (cellsOf icells t++T').toArray 74 (0,0))/\T'.length=c*8-t.length*8:=by
 obtain ⟨i0,hi0,hz0,hzs,hzb⟩:=itemInfo
 have hc63:c<=9223372036854775807:=by unfold maxLen at hcm; omega
 have hlt:=cellsOf_length (enc:=icells) t
 have hlx:(icells x).length=8:=rfl
 have S1:Hid (∀ j v,(cellsOf icells t)[j]? = some v->w.cell? ((⟨g,8,none⟩:Addr).add j)=some v):=fun j v hj=>by
  rw [Addr.add_lit,cell_of_list hg,cellsOf_cons,List.append_assoc,List.getElem?_append_right (by omega),hlx,Nat.add_sub_cancel_left,List.getElem?_append_left (List.getElem?_eq_some_iff.1 hj).1]
  exact hj
 have HG:Hid (w.heap[g]? = some (.cells (cellsOf icells (x::t)++T).toArray 74 (0,0))/\(cellsOf icells (x::t)++T).length=c*8/\(cellsOf icells t).length=t.length*8/\T.length=c*8-(t.length+1)*8):=by
  refine ⟨hg,?_,hlt,hT⟩
  rw [cellsOf_cons,List.length_append,List.length_append,hlx,hlt,hT]; omega
 have HS:Hid (∀ n,n=t.length->splice (cellsOf icells (x::t)++T) (0*8) (cellsOf icells t)=cellsOf icells t++(cellsOf icells (x::t)++T).drop (t.length*8)):=fun n _=>by
  unfold splice
  rw [Nat.zero_mul,List.take_zero,hlt]; simp
 clear hg hT hlx hlt
 have hz1:(t.length:Int)+1<=(c:Int):=by omega
 have hz2:(1:Int)<=(t.length:Int)+1:=by omega
 have hz3:1<=t.length+1:=by omega
 have hz4 : ¬ (c=t.length):=by omega
 have hz5:t.length<=t.length+1:=by omega
 have hz6:1<=c:=by omega
 go_enter Tryz.func187,Tryz.ntmps187
 by_cases h1:c=1
 ·obtain ht:t.length=0:=by omega
  obtain rfl:t=[]:=List.eq_nil_of_length_eq_zero ht
  subst h1
  simp only [List.length_nil]
  go_wp2
  go_region_law (refine step_appendK_room rfl (.tmp 22) (.tmp 25) 57 rfl 74 i0 Tryz.underlying57 hi0 hzs g 0 1 (by simp [Act.eval,Act.put]) (cellsOf icells [x]++T) HG.out.1 ⟨g,0,none⟩ 0 0 (by simp [Act.eval,Act.put]) [] rfl (fun j v hj=>by simp at hj) (by simp) (by omega) (by rw [HG.out.2.1]; simp) ?_; intro w1 HG1 only1)
  go_wp2_with (refine wpList_clearK (K:=8) rfl (.tmp 31) 57 rfl 74 Tryz.underlying57 _ Tryz.zeroValue74 rfl zero8 (some ⟨g,0,none⟩) 1 1 rfl g 0 _ 74 HG1.out (fun _=>rfl) (by rw [length_splice _ _ _ (by rw [HG.out.2.1]; simp),HG.out.2.1]; omega) ?_; intro w2 zs hzs2 HG2 only2)
  go_ret
  refine ⟨rfl,(show Only g w w1 from ⟨only1.os,only1.tape,only1.output,only1.size,only1.block⟩).trans only2,_,HG2.out,?_⟩
  rw [List.length_append,List.length_drop,length_splice _ _ _ (by rw [HG.out.2.1]; simp),HG.out.2.1,hzs2]
 ·go_wp2
  go_region_law (refine step_appendK_room rfl (.tmp 22) (.tmp 25) 57 rfl 74 i0 Tryz.underlying57 hi0 hzs g 0 c (by simp [Act.eval,Act.put]) (cellsOf icells (x::t)++T) HG.out.1 ⟨g,8,none⟩ t.length (c-1) (by simp [Act.eval,Act.put]) (cellsOf icells t) HG.out.2.2.1 S1.out (cellsOf_one _) (by omega) (by rw [HG.out.2.1,HG.out.2.2.1]; omega) ?_; intro w1 HG1 only1)
  rw [HS.out t.length rfl] at HG1
  go_wp2_with (refine wpList_clearK (K:=8) rfl (.tmp 31) 57 rfl 74 Tryz.underlying57 _ Tryz.zeroValue74 rfl zero8 (some ⟨g,t.length*8,none⟩) 1 (c-t.length) (by simp [Act.eval]) g (t.length*8) _ 74 HG1.out (fun _=>rfl) (by rw [List.length_append,List.length_drop,HG.out.2.1,HG.out.2.2.1]; omega) ?_; intro w2 zs hzs2 HG2 only2)
  go_ret
  refine ⟨rfl,(show Only g w w1 from ⟨only1.os,only1.tape,only1.output,only1.size,only1.block⟩).trans only2,zs++((cellsOf icells (x::t)++T).drop (t.length*8)).drop zs.length,?_,?_⟩
  ·rw [HG2.out,splice_in _ (cellsOf icells t) _ zs 0 (t.length*8) rfl (by rw [HG.out.2.2.1]; omega)]
   simp
  ·rw [List.length_append,List.length_drop,List.length_drop,hzs2,HG.out.2.1]; omega
theorem delete_any (base:Nat) (v:Value) (x:It) (t:List It) (w:World) (hown:Own8 w base v (x::t)) :
  Calls Tryz.prog 187 #[v,.int .i64 0,.int .i64 1] w fun e w' =>
   ∃ v',e=.returned v'/\Own8 w' base v' t/\w.grownBy w' v.ownBlock/\v'.ownBlock=v.ownBlock:=by
 rcases hown.split with ⟨_,h⟩ | ⟨g,c,T,rfl,hbg,hg,h1,h2,hT⟩
 ·cases h
 ·refine (delete_row g c x t T w hg h1 h2 hT).mono ?_
  rintro e w' ⟨rfl,only,T',hg',hT'⟩
  exact ⟨_,rfl,ownOf_mk hbg hg' rfl (by have:t.length+1<=c:=h1; omega) h2 hT',only.grown,rfl⟩
end Go.Proofs.YtnhnpnafchkhiaaGreatDoor.F
namespace Go.Proofs.YtnhnpnafchkhiaaGreatDoor.F
open Go.Proofs.YtnhnpnafchkhiaaGreatDoor.K
open Go.RowKit Go.Sort
structure QAt (w:World) (p:Nat) (v:Value) (b:Nat) (s:St):Prop where
 blk:w.heap[p]? = some (.cells #[.int .i64 (s.most:Int),.int .u64 (s.next:Int),v,.map (some b)] 162 (0,0))
 rows:Own8 w 0 v s.rdy
 out:OutAt w b s.out
def foot (p:Nat) (v:Value) (b:Nat) (k:Nat):Prop:=k=p\/v.ownBlock=some k\/k=b
def Q (w:World) (p:Nat) (F:Nat->Prop) (s:St):Prop := ∃ v b,QAt w p v b s /\ ∀ k,F k↔foot p v b k
theorem QAt.lt {w:World} {p:Nat} {v:Value} {b:Nat} {s:St} (h:QAt w p v b s):p<w.heap.size:=(yyD h.blk).1
theorem QAt.lts {w:World} {p:Nat} {v:Value} {b:Nat} {s:St} (h:QAt w p v b s) : ∀ k,foot p v b k->k<w.heap.size:=by
 rintro k (rfl | hk | rfl)
 ·exact h.lt
 ·exact (h.rows.lt hk).2
 ·exact h.out.lt
theorem Q.lts {w:World} {p:Nat} {F:Nat->Prop} {s:St} (h:Q w p F s) : ∀ k,F k->k<w.heap.size:=by
 obtain ⟨v,b,hq,hF⟩:=h
 exact fun k hk=>hq.lts k ((hF k).1 hk)
theorem QAt.same {w w':World} {p:Nat} {v:Value} {b:Nat} {s:St} (h:QAt w p v b s) (hs : ∀ k,foot p v b k->w'.heap[k]? = w.heap[k]?):QAt w' p v b s :=
 ⟨by rw [hs p (.inl rfl)]; exact h.blk,h.rows.same fun g hg=>hs g (.inr (.inl hg)),h.out.same (hs b (.inr (.inr rfl)))⟩
theorem Q.same {w w':World} {p:Nat} {F:Nat->Prop} {s:St} (h:Q w p F s) (hs : ∀ k,F k->w'.heap[k]? = w.heap[k]?):Q w' p F s:=by
 obtain ⟨v,b,hq,hF⟩:=h
 exact ⟨v,b,hq.same fun k hk=>hs k ((hF k).2 hk),hF⟩
theorem Q.kept {w w':World} {p:Nat} {F:Nat->Prop} {s:St} (h:Q w p F s) (hb:Below w.heap.size w w'):Q w' p F s:=h.same fun k hk=>hb.block k (h.lts k hk)
theorem QAt.ne_row {w:World} {p:Nat} {v:Value} {b:Nat} {s:St} (h:QAt w p v b s):v.ownBlock≠some p:=by
 rcases h.rows.2 with ⟨rfl,_⟩ | ⟨g,cap,cur,rfl,_,hg,_⟩
 ·simp [Value.ownBlock]
 ·intro he
  simp only [Value.ownBlock,Option.some.injEq] at he
  subst he
  rw [h.blk] at hg
  simp at hg
theorem QAt.ne_map {w:World} {p:Nat} {v:Value} {b:Nat} {s:St} (h:QAt w p v b s):b≠p:=by
 rintro rfl
 obtain ⟨es,c,hm⟩:=h.out.isMap
 rw [h.blk] at hm
 cases hm
theorem QAt.row_map {w:World} {p:Nat} {v:Value} {b:Nat} {s:St} (h:QAt w p v b s):v.ownBlock≠some b:=by
 rcases h.rows.2 with ⟨rfl,_⟩ | ⟨g,cap,cur,rfl,_,hg,_⟩
 ·simp [Value.ownBlock]
 ·intro he
  simp only [Value.ownBlock,Option.some.injEq] at he
  subst he
  obtain ⟨es,c,hm⟩:=h.out.isMap
  rw [hg] at hm
  cases hm
theorem cells4 {w:World} {b:Nat} {v0 v1 v2 v3:Value} {t:TypeId} (h:w.heap[b]? = some (.cells #[v0,v1,v2,v3] t (0,0))):(w.cell? ⟨b,0,none⟩=some v0/\w.cell? ⟨b,1,none⟩=some v1/\w.cell? ⟨b,2,none⟩=some v2/\w.cell? ⟨b,3,none⟩=some v3)/\w.frozen? ⟨b,0,none⟩=false/\w.frozen? ⟨b,1,none⟩=false/\w.frozen? ⟨b,2,none⟩=false/\w.frozen? ⟨b,3,none⟩=false:=by
 simp [World.cell?,World.frozen?,h]
theorem new_any (n:Nat) (w:World) (h1:1<=n) (h2:n<=1000) :
  Calls Tryz.prog 131 #[.int .i64 (n:Int)] w fun e w' => ∃ p,e=.returned (.pointer (some ⟨p,0,none⟩)) /\ ∃ F,Q w' p F (newS n)/\(∀ k,F k->w.heap.size<=k)/\Below w.heap.size w w':=by
 have hmm := @run_makeMap Tryz.prog
 have h1 : ¬ (n:Int)<1:=by omega
 have h1' : ¬ n=0:=by omega
 have h2 : ¬ 1000<(n:Int):=by omega
 go_enter Tryz.func131,Tryz.ntmps131
 go_wp2
 go_ret
 refine ⟨w.heap.size+1,rfl,foot (w.heap.size+1) (.slice none 0 0) w.heap.size,⟨_,_,⟨?_,ownOf_nil _ _,?_⟩,fun _=>Iff.rfl⟩,?_,?_⟩
 ·simp only [newS]
  rw [<- World.size_alloc w (.map #[] 0)]
  exact heap_alloc_new _ _
 ·exact (outAt_new w).same (Below.heap_alloc _ _ _ (by simp))
 ·rintro k (rfl | hk | rfl)
  ·omega
  ·simp [Value.ownBlock] at hk
  ·exact yyH _
 ·exact ((Below.refl _ w).alloc (yyH _) _).alloc (by simp) _
theorem most_any (p:Nat) (F:Nat->Prop) (s:St) (w:World) (h:Q w p F s):Calls Tryz.prog 51 #[.pointer (some ⟨p,0,none⟩)] w fun e w'=>e=.returned (.int .i64 (s.most:Int))/\w'=w:=by
 obtain ⟨v,b,hq,_⟩:=h
 obtain ⟨⟨c0,c1,c2,c3⟩,_⟩:=cells4 hq.blk
 clear hq
 go_enter Tryz.func51,Tryz.ntmps51
 go_wp2
 go_ret
 exact ⟨rfl,rfl⟩
theorem next_any (p:Nat) (F:Nat->Prop) (s:St) (w:World) (h:Q w p F s):Calls Tryz.prog 52 #[.pointer (some ⟨p,0,none⟩)] w fun e w'=>e=.returned (.int .u64 (s.next:Int))/\w'=w:=by
 obtain ⟨v,b,hq,_⟩:=h
 obtain ⟨⟨c0,c1,c2,c3⟩,_⟩:=cells4 hq.blk
 clear hq
 go_enter Tryz.func52,Tryz.ntmps52
 go_wp2
 go_ret
 exact ⟨rfl,rfl⟩
theorem made_any (p:Nat) (F:Nat->Prop) (s:St) (w:World) (h:Q w p F s) (h1:1<=s.most):Calls Tryz.prog 75 #[.pointer (some ⟨p,0,none⟩)] w fun e w'=>e=.returned (.bool true)/\w'=w:=by
 obtain ⟨v,b,hq,_⟩:=h
 obtain ⟨⟨c0,c1,c2,c3⟩,_⟩:=cells4 hq.blk
 have h0:0<s.most:=by omega
 clear hq
 go_enter Tryz.func75,Tryz.ntmps75
 go_wp2
 go_ret
 exact ⟨rfl,rfl⟩
theorem room_any (p:Nat) (F:Nat->Prop) (s:St) (w:World) (h:Q w p F s) (ok:s.Ok):Calls Tryz.prog 185 #[.pointer (some ⟨p,0,none⟩)] w fun e w'=>e=.returned (.int .i64 ((s.most:Int)-s.rdy.length-s.out.length)) /\ ∃ q,w'=w.drewN q:=by
 obtain ⟨v,b,hq,_⟩:=h
 obtain ⟨⟨c0,c1,c2,c3⟩,_⟩:=cells4 hq.blk
 obtain ⟨a,cap,rfl⟩:=hq.rows.rng.slice
 have hlen : ∀ ty q,(Builtin.len_ #[160] ty #[.map (some b)]).run Tryz.prog (w.drewN q)=.ok (.int .i64 (s.out.length:Nat)) (w.drewN q):=fun ty q=>by
  have:=World.ownsMap.len (w:=w.drewN q) hq.out Tryz.underlying160 ty
  rw [size_Dof] at this
  exact this
 have h1:=ok.room
 have h2:=ok.m
 have h3:IntKind.i64.wrap ((s.most:Int)-(s.rdy.length:Int))=(s.most:Int)-(s.rdy.length:Int):=by rw [IntKind.wrap_i64]; omega
 have h4:IntKind.i64.wrap ((s.most:Int)-(s.rdy.length:Int)-(s.out.length:Int))=(s.most:Int)-(s.rdy.length:Int)-(s.out.length:Int):=by rw [IntKind.wrap_i64]; omega
 clear hq
 go_enter Tryz.func185,Tryz.ntmps185
 go_wp2
 go_quiet (fail)
 go_wp2
 go_ret
 exact ⟨rfl,_,rfl⟩
theorem ready_any (p:Nat) (F:Nat->Prop) (s:St) (w:World) (h:Q w p F s) (ok:s.Ok):Calls Tryz.prog 53 #[.pointer (some ⟨p,0,none⟩)] w fun e w' => ∃ v',e=.returned v'/\Own8 w' w.heap.size v' s.rdy/\Below w.heap.size w w':=by
 obtain ⟨v,b,hq,_⟩:=h
 obtain ⟨⟨c0,c1,c2,c3⟩,_⟩:=cells4 hq.blk
 have hA:=another_any v s.rdy w hq.rows.rng (by have:=ok.room; have:=ok.m; omega)
 obtain ⟨a,cap,rfl⟩:=hq.rows.rng.slice
 clear hq
 go_enter Tryz.func53,Tryz.ntmps53
 go_wp2_with fail
 refine hA.mono ?_
 rintro e w' ⟨v',rfl,own,bel⟩
 obtain ⟨va,vc,rfl⟩:=own.rng.slice
 go_wp2
 go_ret
 exact ⟨_,rfl,own,bel⟩
end Go.Proofs.YtnhnpnafchkhiaaGreatDoor.F
