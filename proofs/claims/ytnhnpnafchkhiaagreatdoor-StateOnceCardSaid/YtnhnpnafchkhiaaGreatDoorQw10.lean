import Derived.Test.YtnhnpnafchkhiaaGreatDoorQwA
import Derived.Test.YtnhnpnafchkhiaaGreatDoorQw9
set_option maxHeartbeats 4000000
set_option maxRecDepth 100000
namespace Go.Proofs.YtnhnpnafchkhiaaGreatDoor.S
open Go.RowKit
set_option maxRecDepth 20000
theorem zero2 : ∀ k:Nat,((Value.agg #[.int .u64 0,.int .u64 0]).cells[k % (Value.agg #[.int .u64 0,.int .u64 0]).cells.size]!).oneCell'=true:=by
 intro k
 have h:(Value.agg #[.int .u64 0,.int .u64 0]).cells.size=2:=rfl
 rw [h]
 rcases Nat.mod_two_eq_zero_or_one k with h | h <;> rw [h] <;> rfl
theorem replace_end (g c i vb x1 x2:Nat) (l:List (Nat × Nat)) (T:List Value) (w:World) (hg:w.heap[g]? = some (.cells (rcells l++T).toArray 174 (0,0))) (hi:i<l.length) (hc:l.length<=c) (hcm:c<=maxLen) (hT:T.length=c*2-l.length*2)
  (hx:w.heap[vb]? = some (.cells #[.int .u64 (x1:Int),.int .u64 (x2:Int)] 174 (0,0))) :
  Calls Tryz.prog 246 #[.slice (some ⟨g,0,none⟩) l.length c,.int .i64 i,.int .i64 l.length,.slice (some ⟨vb,0,none⟩) 1 1] w fun e w' =>
   e=.returned (.slice (some ⟨g,0,none⟩) (i+1) c)/\Only g w w' /\ ∃ T',w'.heap[g]? = some (.cells (rcells (l.take i++[(x1,x2)])++T').toArray 174 (0,0))/\T'.length=c*2-(i+1)*2:=by
 have hc63:c<=9223372036854775807:=by unfold maxLen at hcm; omega
 have hz2 : ¬ ((i:Int)=(l.length:Int)):=by omega
 have hb4 : ¬ (c=i):=by omega
 have hA:=rcells_length (l.take i)
 rw [List.length_take,Nat.min_eq_left (by omega)] at hA
 have hl1:=rcells_length (l.drop i)
 rw [List.length_drop] at hl1
 have hll:=rcells_length l
 have hsplit:rcells l=rcells (l.take i)++rcells (l.drop i):=by rw [<- rcells_append,List.take_append_drop]
 obtain ⟨i0,hi0,hz0,hzs,hzb⟩:=rngInfo
 have HX:Hid (∀ j v,(rcells [(x1,x2)])[j]? = some v->w.cell? ((⟨vb,0,none⟩:Addr).add j)=some v):=one_src hx
 have H:Hid (w.heap[g]? = some (.cells (rcells l++T).toArray 174 (0,0))/\T.length=c*2-l.length*2/\(rcells l).length=l.length*2/\(rcells (l.take i)).length=i*2/\(rcells (l.drop i)).length=(l.length-i)*2/\rcells l=rcells (l.take i)++rcells (l.drop i)):=⟨hg,hT,hll,hA,hl1,hsplit⟩
 have HS:Hid (splice (rcells l++T) (i*2) (rcells [(x1,x2)])=rcells (l.take i++[(x1,x2)])++(rcells (l.drop i)++T).drop 2):=by
  show splice (rcells l++T) (i*2) (rcells [(x1,x2)])=rcells (l.take i++[(x1,x2)])++(rcells (l.drop i)++T).drop 2
  rw [splice_in (rcells l++T) (rcells (l.take i)) (rcells (l.drop i)++T) (rcells [(x1,x2)]) 0 (i*2) (by rw [hsplit,List.append_assoc]) (by rw [hA]; omega),rcells_append]
  simp [rcells_cons,rcells_nil]
 have HSL:Hid ((rcells (l.take i++[(x1,x2)])++(rcells (l.drop i)++T).drop 2).length=c*2/\(rcells (l.take i++[(x1,x2)])).length=(i+1)*2):=by
  have h2:(rcells (l.take i++[(x1,x2)])).length=(i+1)*2:=by rw [rcells_length]; simp; omega
  refine ⟨?_,h2⟩
  rw [List.length_append,h2,List.length_drop,List.length_append,hl1,hT]
  omega
 clear hA hl1 hll hsplit hg hT hx
 have hin:(i:Int)<=(l.length:Int):=by omega
 have hic:i<=c:=by omega
 by_cases hlt:i+1<l.length
 ·have hlt':(i:Int)+1<(l.length:Int):=by omega
  have hb5 : ¬ (c=i+1):=by omega
  go_enter Tryz.func246,Tryz.ntmps246
  go_wp2_with (first
   |(at_builtin; refine wpList_append2_room rfl (.tmp 32) (.tmp 33) 96 rfl 174 i0 Tryz.underlying96 hi0 hzs g i c rfl (rcells l++T) H.out.1 ⟨vb,0,none⟩ 1 1 rfl (rcells [(x1,x2)]) rfl HX.out (rcells_one _) (by omega) (by rw [List.length_append,H.out.2.1,H.out.2.2.1]; show i*2+2<=_; omega) ?_; intro w1 HG1 only1; rw [HS.out] at HG1)
   |(refine wpList_clear2 rfl (.tmp 43) 96 rfl 174 Tryz.underlying96 _ Tryz.zeroValue174 rfl zero2 (some ⟨g,(i+1)*2,none⟩) (l.length-(i+1)) (c-(i+1)) rfl g ((i+1)*2) (rcells (l.take i++[(x1,x2)])++(rcells (l.drop i)++T).drop 2) 174 HG1.out (fun _=>rfl) (by rw [HSL.out.1]; omega) ?_; intro w2 zs hzs2 HG2 only2))
  go_ret
  refine ⟨rfl,only1.trans only2,zs++((rcells (l.drop i)++T).drop 2).drop zs.length,?_,?_⟩
  ·rw [HG2.out,splice_in _ (rcells (l.take i++[(x1,x2)])) _ zs 0 ((i+1)*2) rfl (by rw [HSL.out.2]; omega)]
   simp
  ·have:=HSL.out.1
   rw [List.length_append,HSL.out.2] at this
   rw [List.length_append,List.length_drop]
   omega
 ·obtain he:l.length=i+1:=by omega
  have hlt' : ¬ (i:Int)+1<(l.length:Int):=by omega
  go_enter Tryz.func246,Tryz.ntmps246
  go_wp2_with (at_builtin; refine wpList_append2_room rfl (.tmp 32) (.tmp 33) 96 rfl 174 i0 Tryz.underlying96 hi0 hzs g i c rfl (rcells l++T) H.out.1 ⟨vb,0,none⟩ 1 1 rfl (rcells [(x1,x2)]) rfl HX.out (rcells_one _) (by omega) (by rw [List.length_append,H.out.2.1,H.out.2.2.1]; show i*2+2<=_; omega) ?_; intro w1 HG1 only1; rw [HS.out] at HG1)
  go_ret
  refine ⟨rfl,only1,(rcells (l.drop i)++T).drop 2,HG1.out,?_⟩
  have:=HSL.out.1
  rw [List.length_append,HSL.out.2] at this
  omega
theorem replace_mid (g c i j vb x1 x2:Nat) (l:List (Nat × Nat)) (T:List Value) (w:World) (hg:w.heap[g]? = some (.cells (rcells l++T).toArray 174 (0,0))) (hij:i<j) (hj:j<l.length) (hc:l.length<=c) (hcm:c<=maxLen) (hT:T.length=c*2-l.length*2) (hlen:l.length<=1000000)
  (hx:w.heap[vb]? = some (.cells #[.int .u64 (x1:Int),.int .u64 (x2:Int)] 174 (0,0))) :
  Calls Tryz.prog 246 #[.slice (some ⟨g,0,none⟩) l.length c,.int .i64 i,.int .i64 j,.slice (some ⟨vb,0,none⟩) 1 1] w fun e w' =>
   e=.returned (.slice (some ⟨g,0,none⟩) (i+1+(l.length-j)) c)/\Only g w w' /\ ∃ T',w'.heap[g]? = some (.cells (rcells (l.take i++(x1,x2)::l.drop j)++T').toArray 174 (0,0))/\T'.length=c*2-(i+1+(l.length-j))*2:=by
 have hc63:c<=9223372036854775807:=by unfold maxLen at hcm; omega
 have hz2 : ¬ ((i:Int)=(j:Int)):=by omega
 have hz3 : ¬ ((j:Int)=(l.length:Int)):=by omega
 have hb4 : ¬ (c=i):=by omega
 have hb5 : ¬ (c=j):=by omega
 have hb6 : ¬ (c=i+1):=by omega
 obtain ⟨n,hn⟩ : ∃ n,n=l.length:=⟨_,rfl⟩
 have hin:(i:Int)<=(n:Int):=by omega
 have hin2:(j:Int)<=(n:Int):=by omega
 have hin3:(i:Int)<=(j:Int):=by omega
 have hic:i<=c:=by omega
 rw [<- hn]
 have HX:Hid (∀ j v,(rcells [(x1,x2)])[j]? = some v->w.cell? ((⟨vb,0,none⟩:Addr).add j)=some v):=one_src hx
 have H:Hid (w.heap[g]? = some (.cells (rcells l++T).toArray 174 (0,0))):=hg
 have HL:Hid (n=l.length):=hn
 have hsub:(n:Int)-(j:Int)=((n-j:Nat):Int):=by omega
 have hjn:j<n:=by omega
 have hcn:n<=c:=by omega
 have hn6:n<=1000000:=by omega
 have hA:=rcells_length (l.take i)
 rw [List.length_take,Nat.min_eq_left (by omega)] at hA
 have hD:=rcells_length (l.drop j)
 rw [List.length_drop,<- hn] at hD
 have hll:=rcells_length l
 rw [<- hn] at hll
 obtain ⟨M,hM⟩ : ∃ M,M=rcells ((l.take j).drop i):=⟨_,rfl⟩
 have hMl:M.length=(j-i)*2:=by rw [hM,rcells_length]; simp; omega
 have hsplit:rcells l=rcells (l.take i)++(M++rcells (l.drop j)):=by
  rw [hM,<- rcells_append,<- rcells_append]
  congr 1
  conv=>lhs; rw [<- List.take_append_drop j l]
  rw [<- List.append_assoc]
  congr 1
  conv=>lhs; rw [<- List.take_append_drop i (l.take j)]
  rw [List.take_take,Nat.min_eq_left (by omega)]
 obtain ⟨L1,hL1⟩ : ∃ L1,L1=rcells (l.take i)++(rcells [(x1,x2)]++(M++(rcells (l.drop j)++T)).drop 2):=⟨_,rfl⟩
 have hS1:splice (rcells l++T) (i*2) (rcells [(x1,x2)])=L1:=by
  rw [hL1,splice_in (rcells l++T) (rcells (l.take i)) (M++(rcells (l.drop j)++T)) (rcells [(x1,x2)]) 0 (i*2) (by rw [hsplit]; simp) (by rw [hA]; omega)]
  simp [rcells_cons,rcells_nil]
 have hL1l:L1.length=c*2:=by
  rw [hL1,List.length_append,List.length_append,List.length_drop,List.length_append,List.length_append,hA,hD,hMl,hT,<- hn]
  show i*2+(2+_)=_
  omega
 obtain ⟨L2,hL2⟩ : ∃ L2,L2=rcells (l.take i++(x1,x2)::l.drop j)++((M++(rcells (l.drop j)++T)).drop 2).drop (rcells (l.drop j)).length:=⟨_,rfl⟩
 have hS2:splice L1 ((i+1)*2) (rcells (l.drop j))=L2:=by
  rw [hL2,splice_in L1 (rcells (l.take i)++rcells [(x1,x2)]) ((M++(rcells (l.drop j)++T)).drop 2) (rcells (l.drop j)) 0 ((i+1)*2) (by rw [hL1,List.append_assoc]) (by rw [List.length_append,hA]; show _=i*2+2+0; omega),rcells_append,rcells_cons]
  simp [rcells_cons,rcells_nil]
 have hL2l:L2.length=c*2:=by
  rw [<- hS2,length_splice _ _ _ (by rw [hL1l,hD]; omega),hL1l]
 have hN2:(rcells (l.take i++(x1,x2)::l.drop j)).length=(i+1+(n-j))*2:=by rw [rcells_length]; simp; omega
 have hcell1 : ∀ k,j*2<=k->L1[k]? = (rcells l++T)[k]? := by
  intro k hk
  rw [<- hS1,splice]
  rw [List.getElem?_append_right (by rw [List.length_take]; omega),List.getElem?_append_right (by rw [List.length_take,List.length_append,hll]; show 2<=_; omega),List.getElem?_drop,List.length_take,List.length_append,hll]
  congr 1
  show i*2+2+(k-min (i*2) _-2)=k
  omega
 have HK:Hid ((∀ (W:World),W.heap[g]? = some (.cells L1.toArray 174 (0,0)) -> ∀ q v,(rcells (l.drop j))[q]? = some v->W.cell? ((⟨g,j*2,none⟩:Addr).add q)=some v)/\splice (rcells l++T) (i*2) (rcells [(x1,x2)])=L1/\L1.length=c*2/\splice L1 ((i+1)*2) (rcells (l.drop j))=L2/\L2.length=c*2/\(rcells l++T).length=c*2/\(rcells (l.drop j)).length=(n-j)*2/\(rcells (l.take i++(x1,x2)::l.drop j)).length=(i+1+(n-j))*2/\L2=rcells (l.take i++(x1,x2)::l.drop j)++((M++(rcells (l.drop j)++T)).drop 2).drop (rcells (l.drop j)).length):=by
  refine ⟨fun W hW q v hq=>?_,hS1,hL1l,hS2,hL2l,by rw [List.length_append,hll,hT,<- hn]; omega,hD,hN2,hL2⟩
  rw [Addr.add_lit,cell_of_list hW,hcell1 _ (by omega),hsplit]
  have hq2:=(List.getElem?_eq_some_iff.1 hq).1
  rw [List.append_assoc,List.getElem?_append_right (by rw [hA]; omega),List.append_assoc,List.getElem?_append_right (by rw [hA,hMl]; omega),List.getElem?_append_left (by rw [hA,hMl]; omega),hA,hMl]
  rw [show j*2+q-i*2-(j-i)*2=q by omega]
  exact hq
 clear hg hx hn hT hj hc hlen hA hD hll hM hMl hsplit hL1 hS1 hL1l hL2 hS2 hL2l hN2 hcell1
 have hb1:(0:Int)<=(i:Int)+1:=by omega
 have hb7 : ¬ (c=i+1+(n-j))\/c=i+1+(n-j):=by omega
 have htn:i+1+(n-j)<=n:=by omega
 have hmin1:Nat.min 1 (i+1+(n-j)-i)=1:=Nat.min_eq_left (by omega)
 have hmin2:Nat.min (n-j) (i+1+(n-j)-(i+1))=n-j:=by rw [show i+1+(n-j)-(i+1)=n-j by omega]; exact Nat.min_self _
 have HM:Hid (Nat.min 1 (i+1+(n-j)-i)=1/\Nat.min (n-j) (i+1+(n-j)-(i+1))=n-j):=⟨hmin1,hmin2⟩
 clear hmin1 hmin2
 go_enter Tryz.func246,Tryz.ntmps246
 go_wp2
 go_quiet (fail)
 go_wp2_with (refine wpList_copy2 rfl (.tmp 95) (.tmp 96) 96 96 rfl 174 Tryz.underlying96 info2 (some ⟨g,i*2,none⟩) (some ⟨vb,0,none⟩) (i+1+(n-j)-i) (c-i) 1 1 rfl rfl g (i*2) (rcells l++T) 174 H.out (rcells [(x1,x2)]) (by rw [HM.out.1]; rfl) (fun _=>⟨rfl,_,rfl,HX.out⟩) (by rw [HK.out.2.2.2.2.2.1]; show i*2+2<=_; omega) (rcells_one _) ?_; intro w2 m2 HG2 only2)
 rw [HK.out.2.1] at HG2
 have ON2:Hid (Only g w w2):=⟨only2.os,only2.tape,only2.output,only2.size,only2.block⟩
 clear only2
 have hr1:(i:Int)+1<=(i:Int)+1+((n-j:Nat):Int):=by omega
 have hw1:IntKind.i64.wrap ((i:Int)+1)=(i:Int)+1:=by rw [IntKind.wrap_i64]; omega
 have htn1:((i:Int)+1).toNat=i+1:=by omega
 have hsl:i+1+(n-j)-(i+1)=n-j:=by omega
 go_region_law (refine step_copy2 rfl (.tmp 103) (.tmp 106) 96 96 rfl 174 Tryz.underlying96 info2 (some ⟨g,(i+1)*2,none⟩) (some ⟨g,j*2,none⟩) (n-j) (c-(i+1)) (n-j) (c-j) (by simp [Act.eval,Act.put]) (by simp [Act.eval,Act.put]) g ((i+1)*2) L1 174 HG2.out (rcells (l.drop j)) (by rw [HK.out.2.2.2.2.2.2.1,show Nat.min (n-j) (n-j)=n-j from Nat.min_self _]) (fun _=>⟨rfl,_,rfl,HK.out.1 _ HG2.out⟩) (by rw [HK.out.2.2.1,HK.out.2.2.2.2.2.2.1]; omega) (rcells_one _) ?_; intro w3 m3 HG3 only3)
 rw [HK.out.2.2.2.1] at HG3
 have ON3:Hid (Only g w w3):=ON2.out.trans ⟨only3.os,only3.tape,only3.output,only3.size,only3.block⟩
 clear only3
 have hint:((i:Int)+1+((n-j:Nat):Int))=((i+1+(n-j):Nat):Int):=by omega
 obtain ⟨t,ht⟩ : ∃ t,t=i+1+(n-j):=⟨_,rfl⟩
 have htt:t<=n:=by omega
 have htt2:(t:Int)<=(n:Int):=by omega
 rw [hint,<- ht]
 have HT:Hid (t=i+1+(n-j)):=ht
 have HE:Hid ((rcells (l.take i++(x1,x2)::l.drop j)).length=t*2):=by
  rw [HT.out]; exact HK.out.2.2.2.2.2.2.2.1
 clear hint ht hr1 hsl hb7 htn hw1 htn1
 by_cases hct:c=t
 ·obtain rfl:t=n:=by omega
  obtain rfl:c=t:=hct
  go_wp2_with (refine wpList_clear2 rfl (.tmp 110) 96 rfl 174 Tryz.underlying96 _ Tryz.zeroValue174 rfl zero2 (some ⟨g,0,none⟩) 0 0 rfl g (c*2) L2 174 HG3.out (fun h=>absurd h (Nat.lt_irrefl 0)) (by rw [HK.out.2.2.2.2.1]; omega) ?_; intro w4 zs hzs2 HG4 only4)
  go_ret
  refine ⟨by rw [<- HT.out]; rfl,ON3.out.trans only4,zs++(((M++(rcells (l.drop j)++T)).drop 2).drop (rcells (l.drop j)).length).drop zs.length,?_,?_⟩
  ·rw [HG4.out,splice_in L2 _ _ zs 0 (c*2) HK.out.2.2.2.2.2.2.2.2 (by rw [HE.out]; omega)]
   simp
  ·have h1:=HK.out.2.2.2.2.1
   rw [HK.out.2.2.2.2.2.2.2.2,List.length_append,HE.out] at h1
   rw [List.length_append,List.length_drop,<- HT.out]
   omega
 ·go_wp2_with (refine wpList_clear2 rfl (.tmp 110) 96 rfl 174 Tryz.underlying96 _ Tryz.zeroValue174 rfl zero2 (some ⟨g,t*2,none⟩) (n-t) (c-t) rfl g (t*2) L2 174 HG3.out (fun _=>rfl) (by rw [HK.out.2.2.2.2.1]; omega) ?_; intro w4 zs hzs2 HG4 only4)
  go_ret
  refine ⟨by rw [HT.out]; rfl,ON3.out.trans only4,zs++(((M++(rcells (l.drop j)++T)).drop 2).drop (rcells (l.drop j)).length).drop zs.length,?_,?_⟩
  ·rw [HG4.out,splice_in L2 _ _ zs 0 (t*2) HK.out.2.2.2.2.2.2.2.2 (by rw [HE.out]; omega)]
   simp
  ·have h1:=HK.out.2.2.2.2.1
   rw [HK.out.2.2.2.2.2.2.2.2,List.length_append,HE.out] at h1
   rw [List.length_append,List.length_drop,<- HT.out]
   omega
theorem replace_ins (base vb x1 x2 i:Nat) (v:Value) (l:List (Nat × Nat)) (w:World) (hown:Own2 w base v l) (hi:i<=l.length) (hlen:l.length<=1000000) (hb:base<=w.heap.size)
  (hx:w.heap[vb]? = some (.cells #[.int .u64 (x1:Int),.int .u64 (x2:Int)] 174 (0,0))) (hne:v.ownBlock≠some vb) :
  Calls Tryz.prog 246 #[v,.int .i64 i,.int .i64 i,.slice (some ⟨vb,0,none⟩) 1 1] w fun e w' =>
   ∃ v',e=.returned v'/\Own2 w' base v' (l.take i++(x1,x2)::l.drop i)/\w.grownBy w' v.ownBlock/\NewOr w v v':=by
 have hI:=insert_any base vb x1 x2 i v l w hown hi hlen hb hx hne
 have hfin : ∀ w' v',Own2 w' base v' (l.take i++(x1,x2)::l.drop i) -> ∃ a c,v'=.slice a (l.length+1) c:=fun w' v' h=>by
  obtain ⟨a,c,h⟩:=h.rng.slice
  refine ⟨a,c,?_⟩
  rw [h]; simp; omega
 rcases hown.split with ⟨rfl,rfl⟩ | ⟨g,c,T,rfl,hbg,hg,h1,h2,hT⟩
 ·obtain rfl:i=0:=by simpa using hi
  clear hown hx hne hb
  go_enter Tryz.func246,Tryz.ntmps246
  go_wp2_with (go_at_call 282; refine hI.mono ?_; rintro e w' ⟨v',rfl,own,gr,nw⟩; obtain ⟨va,vc,hva⟩:=hfin w' v' own; subst hva)
  go_ret
  exact ⟨_,rfl,own,gr,nw⟩
 ·have hc63:c<=9223372036854775807:=by unfold maxLen at h2; omega
  have hin:(i:Int)<=(c:Int):=by omega
  have hic:i<=c:=by omega
  clear hown hx hne hb hg hT
  go_enter Tryz.func246,Tryz.ntmps246
  go_wp2_with (go_at_call 282; refine hI.mono ?_; rintro e w' ⟨v',rfl,own,gr,nw⟩; obtain ⟨va,vc,hva⟩:=hfin w' v' own; subst hva)
  all_goals go_ret
  all_goals exact ⟨_,rfl,own,gr,nw⟩
theorem replace_any (base vb x1 x2 i j:Nat) (v:Value) (l:List (Nat × Nat)) (w:World) (hown:Own2 w base v l) (hij:i<=j) (hj:j<=l.length) (hlen:l.length<=1000000) (hb:base<=w.heap.size)
  (hx:w.heap[vb]? = some (.cells #[.int .u64 (x1:Int),.int .u64 (x2:Int)] 174 (0,0))) (hne:v.ownBlock≠some vb) :
  Calls Tryz.prog 246 #[v,.int .i64 i,.int .i64 j,.slice (some ⟨vb,0,none⟩) 1 1] w fun e w' =>
   ∃ v',e=.returned v'/\Own2 w' base v' (l.take i++(x1,x2)::l.drop j)/\w.grownBy w' v.ownBlock/\NewOr w v v':=by
 rcases Nat.eq_or_lt_of_le hij with rfl | hlt
 ·exact replace_ins base vb x1 x2 i v l w hown hj hlen hb hx hne
 ·rcases hown.split with ⟨rfl,rfl⟩ | ⟨g,c,T,rfl,hbg,hg,h1,h2,hT⟩
  ·simp at hj; omega
  ·rcases Nat.eq_or_lt_of_le hj with rfl | hlt2
   ·refine (replace_end g c i vb x1 x2 l T w hg hlt h1 h2 hT hx).mono ?_
    rintro e w' ⟨rfl,only,T',hg',hT'⟩
    rw [List.drop_length]
    exact ⟨_,rfl,own2_mk hbg hg' (by simp; omega) (by simp; omega) h2 (by rw [hT']; simp; omega),only.grown,.inl rfl⟩
   ·refine (replace_mid g c i j vb x1 x2 l T w hg hlt hlt2 h1 h2 hT hlen hx).mono ?_
    rintro e w' ⟨rfl,only,T',hg',hT'⟩
    exact ⟨_,rfl,own2_mk hbg hg' (by simp; omega) (by simp; omega) h2 (by rw [hT']; simp; omega),only.grown,.inl rfl⟩
end Go.Proofs.YtnhnpnafchkhiaaGreatDoor.S
namespace Go.Proofs.YtnhnpnafchkhiaaGreatDoor.S
open Go.RowKit Go.Sort
set_option maxRecDepth 20000
theorem growL_succ (B:List (Nat × Nat)) (n k:Nat) (h:k<B.length):growL (B.take (k+1)) n=(min (growL (B.take k) n).1 B[k].1,max (growL (B.take k) n).2 B[k].2):=by
 unfold growL
 rw [List.take_succ_eq_append_getElem h,List.foldl_append]
 rfl
theorem set2 {w:World} {b:Nat} {u v:Value} {t:TypeId} (u' v':Value) (h:w.heap[b]? = some (.cells #[u,v] t (0,0))):((w.setCell ⟨b,0,none⟩ u').setCell ⟨b,1,none⟩ v').heap[b]? = some (.cells #[u',v'] t (0,0)):=by
 have h1:=heap_setCell_same w b 0 _ _ u' h
 have h2:=heap_setCell_same (w.setCell ⟨b,0,none⟩ u') b 1 _ _ v' h1
 simpa using h2
theorem set2_other {w:World} {b k:Nat} (u' v':Value) (h:k≠b):((w.setCell ⟨b,0,none⟩ u').setCell ⟨b,1,none⟩ v').heap[k]? = w.heap[k]? := by
 rw [heap_setCell_other _ _ _ _ h,heap_setCell_other _ _ _ _ h]
theorem grown_any (v:Value) (B:List (Nat × Nat)) (n:Nat) (w:World) (hr:Rng w v B) (hlen:B.length<=1000000) :
  Calls Tryz.prog 247 #[v,.int .u64 (n:Int)] w fun e w'=>e=.returned (.agg #[.int .u64 ((growL B n).1:Int),.int .u64 ((growL B n).2:Int)])/\Below w.heap.size w w':=by
 obtain ⟨a,cap,rfl⟩:=hr.slice
 have HR:Hid (Rng w (.slice a B.length cap) B):=hr
 clear hr
 go_enter Tryz.func247,Tryz.ntmps247
 go_wp2
 go_loopw [13] (fun u13 wr => ∃ k:Nat,u13=.int .i64 k/\k<=B.length/\Hid (Below w.heap.size w wr/\wr.heap[w.heap.size]? = some (.cells #[.int .u64 0,.int .u64 0] 174 (0,0))/\wr.heap[w.heap.size+1]? = some (.cells #[.int .u64 ((growL (B.take k) n).1:Int),.int .u64 ((growL (B.take k) n).2:Int)] 174 (0,0)))) (fun u13 _=>B.length-(intOf u13).toNat)
 case atStart =>
  refine ⟨0,rfl,Nat.zero_le _,(⟨?_,?_,?_⟩:_/\_/\_)⟩
  ·exact ((Below.refl _ _).alloc (yyH _) _).alloc (by simp) _
  ·rw [Below.heap_alloc _ _ _ (by simp)]; exact heap_alloc_new w _
  ·exact heap_alloc2_new w _ _
 case round =>
  obtain ⟨k,rfl,hk,HB⟩:=hrel
  obtain ⟨d0,d1,d2,d3⟩:=cells2 HB.out.2.2
  obtain ⟨e0,e1,e2,e3⟩:=cells2 HB.out.2.1
  have hX:w.heap.size+1<wr.heap.size:=(yyD HB.out.2.2).1
  by_cases hlt:k<B.length
  ·obtain ⟨b,off,cap',hv,_,_,hc⟩:=HR.out.at (by omega)
   injection hv with hv1 _ hv3
   subst hv1 hv3
   obtain ⟨c0,c1⟩:=at_cells hc k hlt
   have hb:=World.block_lt_of_cell? w _ c0
   rw [<- HB.out.1.cell (p:=⟨b,off+k*2,none⟩) hb] at c0
   rw [<- HB.out.1.cell (p:=⟨b,off+k*2+1,none⟩) hb] at c1
   have hs:Hid _:=growL_succ B n k hlt
   generalize growL (B.take k) n=G at *
   generalize hG':growL (B.take (k+1)) n=G' at *
   obtain ⟨y1,y2⟩:=G
   generalize B[k]=r at *
   obtain ⟨r1,r2⟩:=r
   simp only at d0 d1 c0 c1
   clear hc
   go_wp2
   have hm1:(min (y1:Int) (r1:Int))=((min y1 r1:Nat):Int):=by omega
   have hm2:(max (y2:Int) (r2:Int))=((max y2 r2:Nat):Int):=by omega
   refine ⟨⟨k+1,by go_num,by omega,(⟨?_,?_,?_⟩:_/\_/\_)⟩,by simp [intOf]; omega⟩
   ·exact ((HB.out.1.setCell (p:=⟨w.heap.size+1,0,none⟩) (Nat.le_succ _) _).setCell (p:=⟨w.heap.size+1,1,none⟩) (Nat.le_succ _) _).alloc (by have:=HB.out.1.size; simpa using this) _
   ·rw [Below.heap_alloc _ _ _ (by simp; omega),set2_other _ _ (by omega)]; exact HB.out.2.1
   ·rw [Below.heap_alloc _ _ _ (by simp; omega),set2 _ _ HB.out.2.2,hG',hs.out,hm1,hm2]
  ·go_wp2
   obtain rfl:k=B.length:=by omega
   have hfin:=set2 (.int .u64 ((growL (B.take B.length) n).1:Int)) (.int .u64 ((growL (B.take B.length) n).2:Int)) HB.out.2.1
   refine bodyPost_ret (results_cell_row rfl _ _ w.heap.size 174 _ (0,0) _ rfl hfin Tryz.underlying174 rfl info2) rfl ?_
   rw [List.take_of_length_le (yyH _)]
   exact ⟨rfl,(HB.out.1.setCell (p:=⟨w.heap.size,0,none⟩) (yyH _) _).setCell (p:=⟨w.heap.size,1,none⟩) (yyH _) _⟩
theorem beside1_any (r1 r2 n bn:Nat) (W:World) (hn:W.cell? ⟨bn,0,none⟩=some (.int .u64 (n:Int))) (h1:1<=n) (h2:n<18446744073709551616) :
  Calls Tryz.prog 280 #[.agg #[.int .u64 (r1:Int),.int .u64 (r2:Int)],.pointer (some ⟨bn,0,none⟩)] W fun e w'=>e=.returned (.bool (decide (n-1<=r2))) /\ ∃ q os',w'=grow (W.drewN q) os':=by
 have hb:=World.block_lt_of_cell? _ _ hn
 have hw:IntKind.u64.wrap ((n:Int)-1)=(n:Int)-1:=by rw [IntKind.wrap_u64]; omega
 have hd:decide (n-1<=r2)=decide ((n:Int)-1<=(r2:Int)):=by rw [decide_eq_decide]; omega
 rw [hd]
 go_enter Tryz.func280,Tryz.ntmps280
 go_wp2
 go_ret
 exact ⟨rfl,0,_,alloc_eq_grow _ _⟩
theorem beside2_any (r1 r2 n bn:Nat) (W:World) (hn:W.cell? ⟨bn,0,none⟩=some (.int .u64 (n:Int))) (h1:1<=r1) (h2:r1<18446744073709551616) :
  Calls Tryz.prog 281 #[.agg #[.int .u64 (r1:Int),.int .u64 (r2:Int)],.pointer (some ⟨bn,0,none⟩)] W fun e w'=>e=.returned (.bool (decide (n<r1-1))) /\ ∃ q os',w'=grow (W.drewN q) os':=by
 have hb:=World.block_lt_of_cell? _ _ hn
 have hw:IntKind.u64.wrap ((r1:Int)-1)=(r1:Int)-1:=by rw [IntKind.wrap_u64]; omega
 have hd:decide (n<r1-1)=decide ((n:Int)<(r1:Int)-1):=by rw [decide_eq_decide]; omega
 rw [hd]
 go_enter Tryz.func281,Tryz.ntmps281
 go_wp2
 go_ret
 exact ⟨rfl,0,_,alloc_eq_grow _ _⟩
theorem beside_any (B n:Nat) (v:Value) (l:List (Nat × Nat)) (w:World) (hs:SetAt w B v l) (hl:Apart 1 l) (hu:Upto 18446744073709551616 l) (h1:1<=n) (h2:n<18446744073709551616) (hlen:l.length<=1000000) :
  Calls Tryz.prog 245 #[.pointer (some ⟨B,0,none⟩),.int .u64 (n:Int)] w fun e w'=>e=.returned (.tuple #[.int .i64 (fromL l n:Nat),.int .i64 (toL l n:Nat)])/\Below w.heap.size w w':=by
 have b0:Below w.heap.size w (w.alloc (.cells #[.int .u64 (n:Int)] 32)):=(Below.refl _ _).alloc (yyH _) _
 have eg1 : ∀ args w,(callFunc 280 args).run Tryz.prog w=.ok (.enter 280 args) w:=enters_of Tryz.func280 (by kernel_rfl) rfl
 have eg2 : ∀ args w,(callFunc 281 args).run Tryz.prog w=.ok (.enter 281 args) w:=enters_of Tryz.func281 (by kernel_rfl) rfl
 have cn:=cell_new_r w (.int .u64 (n:Int)) 32
 obtain ⟨c0,c1,_,_⟩:=cells2 hs.blk
 have hB:=hs.lt
 obtain ⟨a,cap,rfl⟩:=hs.own.rng.slice
 have hf:(l.countP fun r => !decide (n-1<=r.2))=fromL l n:=by
  unfold fromL; refine List.countP_congr fun r _=>?_; simp; omega
 have ht:(l.countP fun r => !decide (n<r.1-1))=toL l n:=by
  unfold toL; refine List.countP_congr fun r _=>?_; simp
 have S1:=fun W (hW:Below (w.alloc (.cells #[.int .u64 (n:Int)] 32)).heap.size (w.alloc (.cells #[.int .u64 (n:Int)] 32)) W)=>search_any (.slice a l.length cap) l 280 w.heap.size (fun r=>decide (n-1<=r.2)) W ((hs.own.rng.below b0 (yyH _)).below hW (yyH _)) eg1
  (fun W' hW' r _=>beside1_any r.1 r.2 n w.heap.size W' (by rw [hW'.cell (p:=⟨w.heap.size,0,none⟩) (by have:=hW.size; simp at this ⊢; omega),hW.cell (p:=⟨w.heap.size,0,none⟩) (by simp)]; exact cn) h1 h2)
  (fun i j hi hj hij h=>by have:=hl.risingLo hi hj hij; simp at h ⊢; omega) hlen
 have S2:=fun W (hW:Below (w.alloc (.cells #[.int .u64 (n:Int)] 32)).heap.size (w.alloc (.cells #[.int .u64 (n:Int)] 32)) W)=>search_any (.slice a l.length cap) l 281 w.heap.size (fun r=>decide (n<r.1-1)) W ((hs.own.rng.below b0 (yyH _)).below hW (yyH _)) eg2
  (fun W' hW' r hr=>beside2_any r.1 r.2 n w.heap.size W' (by rw [hW'.cell (p:=⟨w.heap.size,0,none⟩) (by have:=hW.size; simp at this ⊢; omega),hW.cell (p:=⟨w.heap.size,0,none⟩) (by simp)]; exact cn) (hl.lowR hr).1 (by have:=hu r hr; have:=(hl.lowR hr).2; omega))
  (fun i j hi hj hij h=>by have:=hl.risingLo hi hj hij; simp at h ⊢; omega) hlen
 rw [hf] at S1
 rw [ht] at S2
 generalize fromL l n=f at *
 generalize toL l n=t at *
 clear hf ht eg1 eg2 cn
 go_enter Tryz.func245,Tryz.ntmps245
 go_wp2_with fail
 refine (S1 _ (Below.refl _ _)).mono ?_
 rintro e w1 ⟨rfl,b1⟩
 have c1':w1.cell? ⟨B,1,none⟩=some (.slice a l.length cap):=by rw [b1.cell (p:=⟨B,1,none⟩) (by simp; omega),b0.cell (p:=⟨B,1,none⟩) hB]; exact c1
 go_wp2_with fail
 refine (S2 _ b1).mono ?_
 rintro e w2 ⟨rfl,b2⟩
 go_wp2
 go_ret2
 exact ⟨rfl,b0.trans ((b1.trans (b2.mono b1.size)).mono (by simp))⟩
end Go.Proofs.YtnhnpnafchkhiaaGreatDoor.S
namespace Go.Proofs.YtnhnpnafchkhiaaGreatDoor.S
open Go.RowKit Go.Sort
set_option maxRecDepth 20000
structure Turned (w w':World) (B:Nat) (v:Value):Prop where
 os:w'.os=w.os
 tape:w'.tape=w.tape
 output:w'.output=w.output
 size:w.heap.size<=w'.heap.size
 block : ∀ k,k<w.heap.size->k≠B->v.ownBlock≠some k->w'.heap[k]? = w.heap[k]?
theorem Turned.ofBelow {w w':World} {B C:Nat} {v:Value} (h:Below C w w') (hC:w.heap.size<=C):Turned w w' B v:=⟨h.os,h.tape,h.output,h.size,fun k hk _ _=>h.block k (by omega)⟩
theorem below_undrew {w w':World} (h:RowKit.Below w.drew.heap.size w.drew w'):RowKit.Below w.heap.size w w':=⟨h.os,h.tape,h.output,h.size,h.block⟩
theorem Rng.slice3 {w:World} {v:Value} {l:List (Nat × Nat)} (h:Rng w v l) : ∃ a n c,v=.slice a n c:=by
 obtain ⟨a,c,h⟩:=h.slice
 exact ⟨a,_,c,h⟩
def newB (l:List (Nat × Nat)) (n:Nat):Bool := !(decide (n=0) || memB l n)
theorem newB_true (l:List (Nat × Nat)) (n:Nat):newB l n=true ↔ ¬ (n=0\/Mem l n):=by
 rw [<- memB_iff]; unfold newB; cases memB l n <;> simp
def addS (l:List (Nat × Nat)) (n:Nat):List (Nat × Nat):=if newB l n=true then addL l n else l
theorem addS_no {l:List (Nat × Nat)} {n:Nat} (h:n=0\/Mem l n):addS l n=l:=if_neg fun h'=>(newB_true l n).1 h' h
theorem addS_yes {l:List (Nat × Nat)} {n:Nat} (h : ¬ (n=0\/Mem l n)):addS l n=addL l n:=if_pos ((newB_true l n).2 h)
theorem add_end {w w2 w3 w4:World} {B:Nat} {V S:Value} {L:List (Nat × Nat)} {o:Obj} (bb:RowKit.Below w.heap.size w w2) (b3:RowKit.Below w2.heap.size w2 w3) (hb4:w4.heap[B]? = some (.cells #[.bool true,V] 189 (0,0)))
  (own:Own2 w4 0 S L) (gr:(w3.alloc o).grownBy w4 V.ownBlock) (nw:NewOr (w3.alloc o) V S) : ∃ v',SetAt (w4.setCell ⟨B,1,none⟩ S) B v' L/\Turned w (w4.setCell ⟨B,1,none⟩ S) B V/\NewOr w V v':=by
 have hz:w.heap.size<=w3.heap.size:=Nat.le_trans bb.size b3.size
 have hz4:=gr.size
 rw [World.size_alloc] at hz4
 refine ⟨S,⟨?_,own.same fun g hg=>?_⟩,⟨?_,?_,?_,?_,fun k hk hkB hkV=>?_⟩,?_⟩
 ·have:=heap_setCell_same w4 B 1 _ _ S hb4
  simpa using this
 ·refine heap_setCell_other _ _ _ _ fun he=>?_
  rcases own.2 with ⟨rfl,_⟩ | ⟨g',cap,cur,rfl,_,hgg,_⟩
  ·simp [Value.ownBlock] at hg
  ·simp only [Value.ownBlock,Option.some.injEq] at hg
   subst hg
   have he':g'=B:=he
   rw [he',hb4] at hgg
   simp at hgg
 ·exact (gr.os.trans (show (w3.alloc o).os=w3.os from rfl)).trans (b3.os.trans bb.os)
 ·exact (gr.tape.trans (show (w3.alloc o).tape=w3.tape from rfl)).trans (b3.tape.trans bb.tape)
 ·exact (gr.output.trans (show (w3.alloc o).output=w3.output from rfl)).trans (b3.output.trans bb.output)
 ·show w.heap.size<=(w4.setCell ⟨B,1,none⟩ S).heap.size
  simp; omega
 ·rw [heap_setCell_other _ _ _ _ hkB,gr.block k (by rw [World.size_alloc]; omega) (fun he=>hkV he.symm),Below.heap_alloc _ _ _ (by omega),b3.block k (by have:=bb.size; omega),bb.block k hk]
 ·rcases nw with h | ⟨g,h1,h2⟩
  ·exact .inl h
  ·rw [World.size_alloc] at h2
   exact .inr ⟨g,h1,by omega⟩
theorem touched_rng {w:World} {g i j c:Nat} {l:List (Nat × Nat)} {T:List Value} (hg:w.heap[g]? = some (.cells (rcells l++T).toArray 174 (0,0))) (hij:i<j) (hj:j<=l.length) (hc:j-i<=c) (hcm:c<=maxLen) :
  Rng w (.slice (some ⟨g,i*2,none⟩) (j-i) c) ((l.take j).drop i):=by
 have hlen:((l.take j).drop i).length=j-i:=by simp; omega
 refine .inr ⟨⟨g,i*2,none⟩,c,by rw [hlen],by rw [hlen]; exact hc,hcm,fun q u hq=>?_⟩
 rw [Addr.add_lit,cell_of_list hg]
 have hq2:=(List.getElem?_eq_some_iff.1 hq).1
 rw [rcells_length,hlen] at hq2
 rw [List.getElem?_append_left (by rw [rcells_length]; omega),<- List.getElem?_drop,rcells_drop]
 rw [List.drop_take,<- rcells_take,List.getElem?_take] at hq
 by_cases h:q<(j-i)*2
 ·rw [if_pos h] at hq; exact hq
 ·rw [if_neg h] at hq; simp at hq
theorem add_any (B n:Nat) (v:Value) (l:List (Nat × Nat)) (w:World) (hs:SetAt w B v l) (hl:Apart 1 l) (hu:Upto 18446744073709551616 l) (hn:n<18446744073709551616) (hlen:l.length<=100000) :
  Calls Tryz.prog 186 #[.pointer (some ⟨B,0,none⟩),.int .u64 (n:Int)] w fun e w'=>e=.returned (.bool (newB l n)) /\ ∃ v',SetAt w' B v' (addS l n)/\Turned w w' B v/\NewOr w v v':=by
 obtain ⟨c0,c1,_,_⟩:=cells2 hs.blk
 have hB:=hs.lt
 by_cases h0:n=0
 ·subst h0
  have e1:newB l 0=false:=by simp [newB]
  rw [e1,addS_no (.inl rfl)]
  go_enter Tryz.func186,Tryz.ntmps186
  go_wp2
  go_ret
  exact ⟨rfl,v,hs,Turned.ofBelow (Below.refl _ _) (yyH _),.inl rfl⟩
 ·have h0' : ¬ ((n:Int)=0):=by omega
  cases hm:memB l n with
  |true =>
   have e1:newB l n=false:=by simp [newB,hm]
   rw [e1,addS_no (.inr ((memB_iff l n).1 hm))]
   go_enter Tryz.func186,Tryz.ntmps186
   go_wp2_with (go_at_call 99; refine (has_any _ l n _ hs.lies hl (by omega)).mono ?_; rw [hm]; rintro e w1 ⟨rfl,b1⟩)
   go_ret
   exact ⟨rfl,v,hs.kept b1 (yyH _),Turned.ofBelow b1 (yyH _),.inl rfl⟩
  |false =>
   have e1:newB l n=true:=by simp [newB,hm,h0]
   have hno : ¬ (n=0\/Mem l n):=fun h=>h.elim h0 ((memB_false l n).1 hm)
   rw [e1,addS_yes hno]
   have HH:=fun w1 (h1:SetAt w1 B v l)=>has_any _ l n w1 h1.lies hl (by omega)
   rw [hm] at HH
   have HBs:=fun w1 (h1:SetAt w1 B v l)=>beside_any B n v l w1 h1 hl hu (by omega) hn (by omega)
   have hft:=from_le_to (n:=n) hl
   have htl:=to_le l n
   have hA:Hid (addL l n=l.take (fromL l n)++growL ((l.take (toL l n)).drop (fromL l n)) n::l.drop (toL l n)):=(rfl:_=_)
   generalize addL l n=L at *
   generalize fromL l n=f at *
   generalize toL l n=t at *
   obtain ⟨TL,hTL⟩ : ∃ TL,TL=(l.take t).drop f:=⟨_,rfl⟩
   have HQL:Hid (TL=(l.take t).drop f):=hTL
   have hTL6:TL.length<=1000000:=by rw [hTL,List.length_drop,List.length_take]; omega
   have hA2:Hid (L=l.take f++growL TL n::l.drop t):=(by rw [hTL]; exact hA.out:L=l.take f++growL TL n::l.drop t)
   clear hTL hA
   rcases hs.own.split with ⟨rfl,hl0⟩ | ⟨g,c,T,rfl,_,hgs,hcap,hcm,_⟩
   ·obtain rfl:t=0:=by rw [hl0] at htl; simpa using htl
    obtain rfl:f=0:=by omega
    go_enter Tryz.func186,Tryz.ntmps186
    go_wp2_with (first
     |(go_at_call 99; refine (HH _ hs).mono ?_; rintro e w1 ⟨rfl,b1⟩; have hs1:=hs.kept b1 (yyH _); obtain ⟨d0,d1,_,_⟩:=cells2 hs1.blk)
     |(go_at_call 245; refine (HBs _ hs1).mono ?_; rintro e w2 ⟨rfl,b2⟩; have hs2:Hid (SetAt w2 B (.slice none 0 0) l):=hs1.kept b2 (yyH _); obtain ⟨e0,e1,_,e3⟩:=cells2 hs2.out.blk))
    have bb:Hid (RowKit.Below w.heap.size w w2):=b1.trans (b2.mono b1.size)
    have RT:Hid (Rng w2 (.slice none 0 0) TL):=(.inl ⟨rfl,HQL.out.trans (by simp)⟩:Rng w2 (.slice none 0 0) TL)
    clear b1 b2 hs1 d0 d1 hs HH HBs c0 c1
    go_region_with (first
     |(go_at_call 247; go_loud (refine (grown_any _ TL n _ (RT.out.below (Below.refl _ _).drew (yyH _)) hTL6).mono ?_); rintro e w3 ⟨rfl,b3⟩; have hs3:Hid (SetAt w3 B (.slice none 0 0) l/\RowKit.Below w2.heap.size w2 w3):=⟨SetAt.kept hs2.out (below_undrew b3) (yyH _),below_undrew b3⟩; obtain ⟨f0,f1,_,_⟩:=cells2 hs3.out.1.blk; have hB3:=hs3.out.1.lt; clear b3)
     |(go_at_call 246; refine (replace_any 0 w3.heap.size _ _ 0 0 _ l _ (hs3.out.1.own.alloc _) (yyH 0) (Nat.zero_le _) (by omega) (Nat.zero_le _) (heap_alloc_new w3 _) (fun he=>by have:=(World.ownsRow.lt hs3.out.1.own _ he).2; omega)).mono ?_; rintro e w4 ⟨v4,rfl,own4,gr4,nw4⟩; obtain ⟨va,vn,vc,hv4⟩:=own4.rng.slice3; subst hv4; have hb4:Hid (w4.heap[B]? = some (.cells #[.bool true,.slice none 0 0] 189 (0,0))):=(by show w4.heap[B]? = _; rw [gr4.block B (le_alloc hs3.out.1.lt _) (fun he=>hs3.out.1.ne he.symm),Below.heap_alloc _ _ _ hs3.out.1.lt]; exact hs3.out.1.blk); obtain ⟨g0,g1,_,g3⟩:=cells2 hb4.out; have H4:Hid (Own2 w4 0 (.slice va vn vc) (l.take 0++growL TL n::l.drop 0)/\(w3.alloc (.cells #[.int .u64 ((growL TL n).1:Int),.int .u64 ((growL TL n).2:Int)] 174)).grownBy w4 (Value.ownBlock (.slice none 0 0))/\NewOr (w3.alloc (.cells #[.int .u64 ((growL TL n).1:Int),.int .u64 ((growL TL n).2:Int)] 174)) (.slice none 0 0) (.slice va vn vc)):=⟨own4,gr4,nw4⟩; clear own4 gr4 nw4))
    all_goals go_wp2
    all_goals go_ret
    all_goals (refine ⟨rfl,?_⟩; rw [hA2.out]; exact add_end bb.out hs3.out.2 hb4.out H4.out.1 H4.out.2.1 H4.out.2.2)
   ·have hc63:c<=9223372036854775807:=by unfold maxLen at hcm; omega
    have hgB:=(yyD hgs).1
    have hi1:(f:Int)<=(t:Int):=by omega
    have hi2:(t:Int)<=(c:Int):=by omega
    have hi3:t<=c:=by omega
    have hi4:f<=c:=by omega
    rcases Nat.eq_or_lt_of_le hft with rfl | hlt
    ·have tr0 : ∀ W,Rng W (.slice (some ⟨g,0,none⟩) 0 0) TL:=fun W=>(by rw [HQL.out]; exact .inr ⟨⟨g,0,none⟩,0,by simp,by simp,Nat.zero_le _,fun q u hq=>by simp [rcells_nil] at hq⟩)
     go_enter Tryz.func186,Tryz.ntmps186
     go_wp2_with (first
      |(go_at_call 99; refine (HH _ hs).mono ?_; rintro e w1 ⟨rfl,b1⟩; have hs1:=hs.kept b1 (yyH _); obtain ⟨d0,d1,_,_⟩:=cells2 hs1.blk)
      |(go_at_call 245; refine (HBs _ hs1).mono ?_; rintro e w2 ⟨rfl,b2⟩; have hs2:Hid (SetAt w2 B (.slice (some ⟨g,0,none⟩) l.length c) l):=hs1.kept b2 (yyH _); obtain ⟨e0,e1,_,e3⟩:=cells2 hs2.out.blk))
     have bb:Hid (RowKit.Below w.heap.size w w2):=b1.trans (b2.mono b1.size)
     have RT:Hid (Rng w2 (.slice (some ⟨g,0,none⟩) 0 0) TL):=tr0 w2
     clear b1 b2 hs1 d0 d1 hs HH HBs c0 c1
     go_region_with (first
      |(go_at_call 247; go_loud (refine (grown_any _ TL n _ (RT.out.below (Below.refl _ _).drew (yyH _)) hTL6).mono ?_); rintro e w3 ⟨rfl,b3⟩; have hs3:Hid (SetAt w3 B (.slice (some ⟨g,0,none⟩) l.length c) l/\RowKit.Below w2.heap.size w2 w3):=⟨SetAt.kept hs2.out (below_undrew b3) (yyH _),below_undrew b3⟩; obtain ⟨f0,f1,_,_⟩:=cells2 hs3.out.1.blk; have hB3:=hs3.out.1.lt; clear b3)
      |(go_at_call 246; refine (replace_any 0 w3.heap.size _ _ f f _ l _ (hs3.out.1.own.alloc _) (yyH f) htl (by omega) (Nat.zero_le _) (heap_alloc_new w3 _) (fun he=>by have:=(World.ownsRow.lt hs3.out.1.own _ he).2; omega)).mono ?_; rintro e w4 ⟨v4,rfl,own4,gr4,nw4⟩; obtain ⟨va,vn,vc,hv4⟩:=own4.rng.slice3; subst hv4; have hb4:Hid (w4.heap[B]? = some (.cells #[.bool true,.slice (some ⟨g,0,none⟩) l.length c] 189 (0,0))):=(by show w4.heap[B]? = _; rw [gr4.block B (le_alloc hs3.out.1.lt _) (fun he=>hs3.out.1.ne he.symm),Below.heap_alloc _ _ _ hs3.out.1.lt]; exact hs3.out.1.blk); obtain ⟨g0,g1,_,g3⟩:=cells2 hb4.out; have H4:Hid (Own2 w4 0 (.slice va vn vc) (l.take f++growL TL n::l.drop f)/\(w3.alloc (.cells #[.int .u64 ((growL TL n).1:Int),.int .u64 ((growL TL n).2:Int)] 174)).grownBy w4 (Value.ownBlock (.slice (some ⟨g,0,none⟩) l.length c))/\NewOr (w3.alloc (.cells #[.int .u64 ((growL TL n).1:Int),.int .u64 ((growL TL n).2:Int)] 174)) (.slice (some ⟨g,0,none⟩) l.length c) (.slice va vn vc)):=⟨own4,gr4,nw4⟩; clear own4 gr4 nw4))
     all_goals go_wp2
     all_goals go_ret
     all_goals (refine ⟨rfl,?_⟩; rw [hA2.out]; exact add_end bb.out hs3.out.2 hb4.out H4.out.1 H4.out.2.1 H4.out.2.2)
    ·have hne : ¬ (t=f):=by omega
     have hsz:t-f<=maxLen:=by unfold maxLen; omega
     go_enter Tryz.func186,Tryz.ntmps186
     go_wp2_with (first
      |(go_at_call 99; refine (HH _ hs).mono ?_; rintro e w1 ⟨rfl,b1⟩; have hs1:=hs.kept b1 (yyH _); obtain ⟨d0,d1,_,_⟩:=cells2 hs1.blk)
      |(go_at_call 245; refine (HBs _ hs1).mono ?_; rintro e w2 ⟨rfl,b2⟩; have hs2:Hid (SetAt w2 B (.slice (some ⟨g,0,none⟩) l.length c) l):=hs1.kept b2 (yyH _); obtain ⟨e0,e1,_,e3⟩:=cells2 hs2.out.blk))
     have bb:Hid (RowKit.Below w.heap.size w w2):=b1.trans (b2.mono b1.size)
     have RT:Hid (Rng w2 (.slice (some ⟨g,f*2,none⟩) (t-f) (t-f)) TL):=(by rw [HQL.out]; exact touched_rng (by rw [bb.out.block g hgB]; exact hgs) hlt htl (yyH _) hsz:Rng w2 (.slice (some ⟨g,f*2,none⟩) (t-f) (t-f)) TL)
     clear b1 b2 hs1 d0 d1 hs HH HBs c0 c1
     go_region_with (first
      |(go_at_call 247; go_loud (refine (grown_any _ TL n _ (RT.out.below (Below.refl _ _).drew (yyH _)) hTL6).mono ?_); rintro e w3 ⟨rfl,b3⟩; have hs3:Hid (SetAt w3 B (.slice (some ⟨g,0,none⟩) l.length c) l/\RowKit.Below w2.heap.size w2 w3):=⟨SetAt.kept hs2.out (below_undrew b3) (yyH _),below_undrew b3⟩; obtain ⟨f0,f1,_,_⟩:=cells2 hs3.out.1.blk; have hB3:=hs3.out.1.lt; clear b3)
      |(go_at_call 246; refine (replace_any 0 w3.heap.size _ _ f t _ l _ (hs3.out.1.own.alloc _) hft htl (by omega) (Nat.zero_le _) (heap_alloc_new w3 _) (fun he=>by have:=(World.ownsRow.lt hs3.out.1.own _ he).2; omega)).mono ?_; rintro e w4 ⟨v4,rfl,own4,gr4,nw4⟩; obtain ⟨va,vn,vc,hv4⟩:=own4.rng.slice3; subst hv4; have hb4:Hid (w4.heap[B]? = some (.cells #[.bool true,.slice (some ⟨g,0,none⟩) l.length c] 189 (0,0))):=(by show w4.heap[B]? = _; rw [gr4.block B (le_alloc hs3.out.1.lt _) (fun he=>hs3.out.1.ne he.symm),Below.heap_alloc _ _ _ hs3.out.1.lt]; exact hs3.out.1.blk); obtain ⟨g0,g1,_,g3⟩:=cells2 hb4.out; have H4:Hid (Own2 w4 0 (.slice va vn vc) (l.take f++growL TL n::l.drop t)/\(w3.alloc (.cells #[.int .u64 ((growL TL n).1:Int),.int .u64 ((growL TL n).2:Int)] 174)).grownBy w4 (Value.ownBlock (.slice (some ⟨g,0,none⟩) l.length c))/\NewOr (w3.alloc (.cells #[.int .u64 ((growL TL n).1:Int),.int .u64 ((growL TL n).2:Int)] 174)) (.slice (some ⟨g,0,none⟩) l.length c) (.slice va vn vc)):=⟨own4,gr4,nw4⟩; clear own4 gr4 nw4))
     all_goals go_wp2
     all_goals go_ret
     all_goals (refine ⟨rfl,?_⟩; rw [hA2.out]; exact add_end bb.out hs3.out.2 hb4.out H4.out.1 H4.out.2.1 H4.out.2.2)
end Go.Proofs.YtnhnpnafchkhiaaGreatDoor.S
