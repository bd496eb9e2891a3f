import Derived.Test.YtnhnpnafchkhiaaGreatDoorQwA
import Derived.Test.YtnhnpnafchkhiaaGreatDoorQw8
import Derived.Laws.CopyOwn
import Derived.Deep.RegionLaw
import Derived.Lib.AppendZerosOnto
import Derived.Lib.Overlaps
set_option maxHeartbeats 2000000
namespace Go.Proofs.YtnhnpnafchkhiaaGreatDoor.S
open Go.RowKit Go.Sort
def Lies (w:World) (s:Value) (l:List (Nat × Nat)):Prop :=
 (s=.pointer none/\l=[]) \/ ∃ B m v,s=.pointer (some ⟨B,0,none⟩)/\w.heap[B]? = some (.cells #[.bool m,v] 189 (0,0))/\Rng w v l
theorem cells2 {w:World} {b:Nat} {u v:Value} {t:TypeId} (h:w.heap[b]? = some (.cells #[u,v] t (0,0))):w.cell? ⟨b,0,none⟩=some u/\w.cell? ⟨b,1,none⟩=some v/\w.frozen? ⟨b,0,none⟩=false/\w.frozen? ⟨b,1,none⟩=false:=by
 simp [World.cell?,World.frozen?,h]
theorem Lies.below {B:Nat} {w w':World} {s:Value} {l:List (Nat × Nat)} (h:Lies w s l) (hb:Below B w w') (hB:w.heap.size<=B):Lies w' s l:=by
 rcases h with h | ⟨b,m,v,rfl,h1,h2⟩
 ·exact .inl h
 ·refine .inr ⟨b,m,v,rfl,?_,h2.below hb hB⟩
  rw [hb.block b (by have:=(yyD h1).1; omega)]
  exact h1
theorem list_any (s:Value) (l:List (Nat × Nat)) (w:World) (hs:Lies w s l) :
  Calls Tryz.prog 122 #[s] w fun e w' => ∃ v,e=.returned v/\Rng w v l/\w'=w:=by
 rcases hs with ⟨rfl,rfl⟩ | ⟨B,m,v,rfl,h1,h2⟩
 ·go_enter Tryz.func122,Tryz.ntmps122
  go_wp2
  go_ret
  exact ⟨_,rfl,rng_nil _,rfl⟩
 ·obtain ⟨c0,c1,_,_⟩:=cells2 h1
  obtain ⟨a,cap,rfl⟩:=h2.slice
  clear h1
  go_enter Tryz.func122,Tryz.ntmps122
  go_wp2
  go_ret
  exact ⟨_,rfl,h2,rfl⟩
theorem top_any (s:Value) (l:List (Nat × Nat)) (w:World) (hs:Lies w s l) :
  Calls Tryz.prog 120 #[s] w fun e w'=>e=.returned (.int .u64 (topL l:Nat))/\w'=w:=by
 generalize hT:topL l=T
 have HT:Hid (topL l=T):=hT
 clear hT
 go_enter Tryz.func120,Tryz.ntmps120
 go_wp2_with fail
 refine (list_any s l w hs).mono ?_
 rintro e w' ⟨v,rfl,hr,rfl⟩
 by_cases hp:0<l.length
 ·obtain ⟨b,off,cap,rfl,h1,h2,hc⟩:=hr.at hp
  obtain ⟨k,hk⟩ : ∃ k,l.length=k+1:=⟨l.length-1,by omega⟩
  obtain ⟨c0,c1⟩:=at_cells hc k (by omega)
  have HE:=HT.out
  rw [topL_at hk] at HE
  generalize (l[k]'(by omega)).2=hi at c1 HE
  subst HE
  rw [hk] at h1 ⊢
  have hk2:k+1<=9223372036854775807:=by unfold maxLen at h2; omega
  clear hc hr c0 hk hp hs
  go_wp2
  all_goals go_ret
  all_goals exact ⟨rfl,rfl⟩
 ·obtain rfl:l=[]:=List.eq_nil_of_length_eq_zero (by omega)
  obtain ⟨a,cap,rfl⟩:=hr.slice
  simp only [List.length_nil]
  go_wp2
  go_ret
  exact ⟨ret_int (by rw [<- HT.out]; rfl),rfl⟩
theorem hasc_any (r1 r2 n bn:Nat) (W:World) (hn:W.cell? ⟨bn,0,none⟩=some (.int .u64 (n:Int))) :
  Calls Tryz.prog 158 #[.agg #[.int .u64 (r1:Int),.int .u64 (r2:Int)],.pointer (some ⟨bn,0,none⟩)] W fun e w'=>e=.returned (.bool (decide (n<=r2))) /\ ∃ q os',w'=grow (W.drewN q) os':=by
 have hb:=World.block_lt_of_cell? _ _ hn
 have hd:decide (n<=r2)=decide ((n:Int)<=(r2:Int)):=by simp
 rw [hd]
 go_enter Tryz.func158,Tryz.ntmps158
 go_wp2
 go_ret
 exact ⟨rfl,0,_,alloc_eq_grow _ _⟩
theorem has_grew (s:Value) (l:List (Nat × Nat)) (n:Nat) (w:World) (hs:Lies w s l) (hl:Apart 1 l) (hlen:l.length<=1000000) :
  Calls Tryz.prog 99 #[s,.int .u64 (n:Int)] w fun e w'=>e=.returned (.bool (memB l n))/\Grew w w':=by
 have b0:Below w.heap.size w (w.alloc (.cells #[.int .u64 (n:Int)] 32)):=(Below.refl _ _).alloc (yyH _) _
 have eg : ∀ args w,(callFunc 158 args).run Tryz.prog w=.ok (.enter 158 args) w:=enters_of Tryz.func158 (by kernel_rfl) rfl
 have cn:=cell_new_r w (.int .u64 (n:Int)) 32
 have HI:Hid _:=has_iff (n:=n) hl
 generalize memB l n=T at HI ⊢
 go_enter Tryz.func99,Tryz.ntmps99
 go_wp2_with fail
 refine (list_any s l _ (hs.below b0 (yyH _))).mono ?_
 rintro e w' ⟨v,rfl,hr,rfl⟩
 obtain ⟨a,cap,rfl⟩:=hr.slice
 go_wp2_with fail
 refine (search_grew _ l 158 w.heap.size (fun r=>decide (n<=r.2)) _ hr eg (fun W hW r _=>hasc_any r.1 r.2 n w.heap.size W (by rw [hW.cell (p:=⟨w.heap.size,0,none⟩) (by simp)]; exact cn))
  (fun i j hi hj hij h=>by have:=hl.risingLo hi hj hij; simp at h ⊢; omega) hlen).mono ?_
 rintro e w1 ⟨rfl,g1⟩
 have b1:=g1.below (yyH _)
 have hcnt:(l.countP fun r => !decide (n<=r.2))=belowL l n:=by
  unfold belowL
  refine List.countP_congr fun r _=>?_
  simp
 rw [hcnt]
 have B1:Hid (∀ q,Grew w (w1.drewN q)):=fun q=>((Grew.alloc _ _).trans g1).trans (Grew.drewN _ q)
 have cn1:w1.cell? ⟨w.heap.size,0,none⟩=some (.int .u64 (n:Int)):=by rw [b1.cell (p:=⟨w.heap.size,0,none⟩) (by simp)]; exact cn
 have hr1:=hr.below b1 (yyH _)
 have hI:=HI.out
 clear HI
 have hle:belowL l n<=l.length:=List.countP_le_length
 clear b1 g1 hr cn b0 eg hs hcnt
 by_cases hh:belowL l n<l.length
 ·rw [dif_pos hh] at hI
  obtain ⟨b,off,cap',hv,_,_,hc⟩:=hr1.at (by omega)
  injection hv with hv1 _ hv3
  subst hv1 hv3
  obtain ⟨c0,_⟩:=at_cells hc _ hh
  generalize l[belowL l n].1=lo at *
  subst hI
  generalize belowL l n=i at *
  have hh':(i:Int)<(l.length:Int):=by omega
  clear hc hr1 hl
  go_wp2
  go_quiet (fail)
  go_wp2
  go_ret
  exact ⟨rfl,B1.out _⟩
 ·rw [dif_neg hh] at hI
  subst hI
  obtain he:belowL l n=l.length:=by omega
  rw [he]
  clear hr1 hl he hle hh
  go_wp2
  go_quiet (fail)
  go_wp2
  go_ret
  exact ⟨rfl,B1.out _⟩
theorem has_any (s:Value) (l:List (Nat × Nat)) (n:Nat) (w:World) (hs:Lies w s l) (hl:Apart 1 l) (hlen:l.length<=1000000) :
  Calls Tryz.prog 99 #[s,.int .u64 (n:Int)] w fun e w'=>e=.returned (.bool (memB l n))/\Below w.heap.size w w' :=
 (has_grew s l n w hs hl hlen).mono fun _ _ ⟨h,g⟩=>⟨h,g.below (yyH _)⟩
end Go.Proofs.YtnhnpnafchkhiaaGreatDoor.S
namespace Go.Proofs.YtnhnpnafchkhiaaGreatDoor.S
open Go.RowKit
set_option maxRecDepth 20000
structure SetAt (w:World) (B:Nat) (v:Value) (l:List (Nat × Nat)):Prop where
 blk:w.heap[B]? = some (.cells #[.bool true,v] 189 (0,0))
 own:Own2 w 0 v l
theorem SetAt.lies {w:World} {B:Nat} {v:Value} {l:List (Nat × Nat)} (h:SetAt w B v l):Lies w (.pointer (some ⟨B,0,none⟩)) l:=.inr ⟨B,true,v,rfl,h.blk,h.own.rng⟩
theorem SetAt.lt {w:World} {B:Nat} {v:Value} {l:List (Nat × Nat)} (h:SetAt w B v l):B<w.heap.size:=(yyD h.blk).1
theorem SetAt.ne {w:World} {B:Nat} {v:Value} {l:List (Nat × Nat)} (h:SetAt w B v l):v.ownBlock≠some B:=by
 rcases h.own.2 with ⟨rfl,_⟩ | ⟨g,cap,cur,rfl,_,hg,_⟩
 ·simp [Value.ownBlock]
 ·intro he
  simp only [Value.ownBlock,Option.some.injEq] at he
  subst he
  rw [h.blk] at hg
  simp at hg
theorem SetAt.kept {w w':World} {B C:Nat} {v:Value} {l:List (Nat × Nat)} (h:SetAt w B v l) (hb:Below C w w') (hC:w.heap.size<=C):SetAt w' B v l :=
 ⟨by rw [hb.block B (by have:=h.lt; omega)]; exact h.blk,h.own.kept hb hC⟩
theorem SetAt.same {w w':World} {B:Nat} {v:Value} {l:List (Nat × Nat)} (h:SetAt w B v l) (hB:w'.heap[B]? = w.heap[B]?) (hs : ∀ g,v.ownBlock=some g->w'.heap[g]? = w.heap[g]?):SetAt w' B v l :=
 ⟨by rw [hB]; exact h.blk,h.own.same hs⟩
def From0 (base B:Nat) (v:Value):Prop:=base<=B /\ ∀ g,v.ownBlock=some g->base<=g
theorem another_any (v:Value) (l:List (Nat × Nat)) (w:World) (hr:Rng w v l) (hlen:l.length<=1000000) :
  Calls Tryz.prog 121 #[v] w fun e w' => ∃ v',e=.returned v'/\Own2 w' w.heap.size v' l/\Below w.heap.size w w':=by
 by_cases hp:0<l.length
 ·obtain ⟨b,off,cap,rfl,h1,h2,hc⟩:=hr.at hp
  obtain ⟨i,hi,hz,hsz,hby⟩:=rngInfo
  have hne : ¬ ((l.length:Int)=0):=by omega
  have hl1:=rcells_length l
  have HC:Hid (∀ j u,(rcells l)[j]? = some u->w.cell? ((⟨b,off,none⟩:Addr).add j)=some u):=fun j u hj=>by rw [Addr.add_lit]; exact hc j u hj
  clear hc hr
  go_enter Tryz.func121,Tryz.ntmps121
  go_wp2_with (at_builtin; refine wpList_append_grows _ rfl (.tmp 7) (.tmp 8) 96 rfl 174 i _ 2 16 Tryz.underlying96 hi hz hsz hby rfl (by decide) _ 0 0 [] rfl (fun _=>⟨rfl,rfl⟩) rfl (fun _ _ j u hj=>by simp at hj) ⟨b,off,none⟩ l.length cap (rcells l) rfl hl1 HC.out (rcells_one l) (by omega) (by unfold maxLen; omega) (by omega) ?_; intro v' w' own' grown'; obtain ⟨va,vc,hva⟩ : ∃ a c,v'=.slice a l.length c:=(by rcases own'.2 with ⟨_,h0⟩ | ⟨g,c,cur,h,_⟩; exact absurd h0 (by omega); exact ⟨_,_,by rw [h,Nat.zero_add]⟩); subst hva)
  all_goals go_ret
  all_goals (refine ⟨_,rfl,?_,⟨grown'.os,grown'.tape,grown'.output,grown'.size,fun k hk=>grown'.block k hk (by simp)⟩⟩; unfold Own2; rw [Nat.zero_add] at own'; exact own')
 ·obtain rfl:l=[]:=List.eq_nil_of_length_eq_zero (by omega)
  obtain ⟨a,cap,rfl⟩:=hr.slice
  simp only [List.length_nil]
  go_enter Tryz.func121,Tryz.ntmps121
  go_wp2
  go_ret
  exact ⟨_,rfl,own2_nil _ _,Below.refl _ _⟩
theorem ranges_any (s:Value) (l:List (Nat × Nat)) (w:World) (hs:Lies w s l) (hlen:l.length<=1000000) :
  Calls Tryz.prog 68 #[s] w fun e w' => ∃ v',e=.returned v'/\Own2 w' w.heap.size v' l/\Below w.heap.size w w':=by
 go_enter Tryz.func68,Tryz.ntmps68
 go_wp2_with fail
 refine (list_any s l w hs).mono ?_
 rintro e w' ⟨v,rfl,hr,rfl⟩
 go_wp2_with fail
 refine (another_any v l _ hr hlen).mono ?_
 rintro e w2 ⟨v',rfl,own,b⟩
 obtain ⟨va,vc,rfl⟩:=own.rng.slice
 go_wp2
 go_ret
 exact ⟨_,rfl,own,b⟩
theorem setAt_new {w:World} {v:Value} {l:List (Nat × Nat)} (h:Own2 w 0 v l):SetAt (w.alloc (.cells #[.bool true,v] 189)) w.heap.size v l:=⟨heap_alloc_new w _,h.alloc _⟩
theorem copy_any (s:Value) (l:List (Nat × Nat)) (w:World) (hs:Lies w s l) (hlen:l.length<=1000000) :
  Calls Tryz.prog 74 #[s] w fun e w' => ∃ B v,e=.returned (.pointer (some ⟨B,0,none⟩))/\SetAt w' B v l/\From0 w.heap.size B v/\Below w.heap.size w w':=by
 go_enter Tryz.func74,Tryz.ntmps74
 go_wp2_with fail
 refine (list_any s l w hs).mono ?_
 rintro e w' ⟨v,rfl,hr,rfl⟩
 go_wp2_with fail
 refine (another_any v l _ hr hlen).mono ?_
 rintro e w2 ⟨v',rfl,own,b⟩
 obtain ⟨va,vc,rfl⟩:=own.rng.slice
 go_wp2
 go_ret
 exact ⟨_,_,rfl,setAt_new (own.mono (Nat.zero_le _)),⟨b.size,fun g hg=>(World.ownsRow.lt own g hg).1⟩,b.alloc b.size _⟩
theorem new_any (w:World) :
  Calls Tryz.prog 55 #[] w fun e w'=>e=.returned (.pointer (some ⟨w.heap.size,0,none⟩))/\SetAt w' w.heap.size (.slice none 0 0) []/\w'=w.alloc (.cells #[.bool true,.slice none 0 0] 189):=by
 go_enter Tryz.func55,Tryz.ntmps55
 go_wp2
 go_ret
 exact ⟨rfl,setAt_new (own2_nil _ _),rfl⟩
end Go.Proofs.YtnhnpnafchkhiaaGreatDoor.S
namespace Go.Proofs.YtnhnpnafchkhiaaGreatDoor.S
open Go.RowKit
set_option maxRecDepth 20000
structure Only (g:Nat) (w w':World):Prop where
 os:w'.os=w.os
 tape:w'.tape=w.tape
 output:w'.output=w.output
 size:w'.heap.size=w.heap.size
 block : ∀ k,k≠g->w'.heap[k]? = w.heap[k]?
theorem Only.refl (g:Nat) (w:World):Only g w w:=⟨rfl,rfl,rfl,rfl,fun _ _=>rfl⟩
theorem Only.trans {g:Nat} {a b c:World} (h:Only g a b) (k:Only g b c):Only g a c :=
 ⟨k.os.trans h.os,k.tape.trans h.tape,k.output.trans h.output,k.size.trans h.size,fun i hi=>(k.block i hi).trans (h.block i hi)⟩
theorem only_setRow (w:World) (g:Nat) (cs:Array Value):Only g w (w.setRow g cs):=⟨rfl,rfl,rfl,by simp [World.setRow],fun k hk=>setRow_other w g k cs hk⟩
theorem Only.grown {g:Nat} {w w':World} (h:Only g w w'):w.grownBy w' (some g) :=
 ⟨h.os,h.tape,h.output,Nat.le_of_eq h.size.symm,fun k _ hne=>h.block k (fun he=>hne (by rw [he]))⟩
theorem cell_of_list {w:World} {g:Nat} {C:List Value} {t:TypeId} (h:w.heap[g]? = some (.cells C.toArray t (0,0))) (k:Nat):w.cell? ⟨g,k,none⟩=C[k]? := by
 simp [World.cell?,h]
theorem frozen_of_list {w:World} {g:Nat} {C:Array Value} {t:TypeId} (h:w.heap[g]? = some (.cells C t (0,0))) (k:Nat):w.frozen? ⟨g,k,none⟩=false:=by
 simp [World.frozen?,h]
theorem splice_at {α:Type} (A M D:List α) (k:Nat):splice (A++M) (A.length+k) D=A++(M.take k++(D++M.drop (k+D.length))):=by
 unfold splice
 rw [List.take_append,List.drop_append,List.take_of_length_le (by omega),List.drop_eq_nil_of_le (by omega)]
 simp [Nat.add_assoc]
theorem splice_in {α:Type} (L A M D:List α) (k o:Nat) (hL:L=A++M) (ho:o=A.length+k):splice L o D=A++(M.take k++(D++M.drop (k+D.length))):=by
 subst hL ho
 exact splice_at A M D k
section
variable {P:Program}
theorem run_copy2_row (w:World) (dT sT ty elem:TypeId) (g o dLen dCap:Nat) (a:Addr) (sLen sCap:Nat) (cur:List Value) (t:TypeId) (cs:List Value)
  (hu:P.underlying dT=some (.slice elem)) (hs:(P.info? elem).map (·.size)=some 2) (hg:w.heap[g]? = some (.cells cur.toArray t (0,0))) (hn:cs.length=Nat.min sLen dLen*2)
  (hsrc : ∀ j v,cs[j]? = some v->w.cell? (a.add j)=some v) (hfit:o+cs.length<=cur.length) (h1 : ∀ v∈cs,v.oneCell'=true) :
  (Builtin.copy_ #[dT,sT] ty #[.slice (some ⟨g,o,none⟩) dLen dCap,.slice (some a) sLen sCap]).run P w=.ok (goInt (Nat.min sLen dLen)) (w.setRow g (splice cur o cs).toArray):=by
 have hl:=run_firstCells_some (P:=P) w 2 (Nat.min sLen dLen) a sLen sCap cs hn hsrc
 have hst:=run_storeCells_at P g o t cs 0 cur.toArray w hg (by simpa using hfit) h1
 simp only [Nat.add_zero] at hst
 rw [List.append_assoc] at hst
 cases hq:P.info? elem with
 |none=>simp [hq] at hs
 |some i =>
  have hi:i.size=2:=by simpa [hq] using hs
  simp only [Builtin.copy_]
  simp [run_underlying hu,Builtin.lenOf,sizeOf,typeInfo,hq,hi,hl,hst,splice]
theorem run_copy2_none (w:World) (dT sT ty elem:TypeId) (d a:Option Addr) (dLen dCap sLen sCap:Nat) (hu:P.underlying dT=some (.slice elem)) (hs:(P.info? elem).map (·.size)=some 2) (hn:Nat.min sLen dLen=0) :
  (Builtin.copy_ #[dT,sT] ty #[.slice d dLen dCap,.slice a sLen sCap]).run P w=.ok (goInt 0) w:=by
 cases hq:P.info? elem with
 |none=>simp [hq] at hs
 |some i =>
  have hl : ∀ (x:Addr),(loadCells x 0).run P w=.ok #[] w:=fun x=>by simpa using run_loadCells_list (P:=P) w x [] (by simp)
  cases d <;> cases a <;> simp [Builtin.copy_,run_underlying hu,Builtin.lenOf,Builtin.firstCells,sizeOf,typeInfo,hq,hn,storeCells,hl]
theorem wpList_copy2 {w:World} {ops:Array Oper} {rest:List Oper} {o:Oper} {a:Act} {Q:Exit->Act->World->Prop} (hgd:o.guard=none) (d s:Operand) (dT sT:TypeId)
  (ho:o.op=.call { callee:=.builtin .copy,args := #[d,s],argTypes := #[dT,sT] }) (elem:TypeId) (hu:P.underlying dT=some (.slice elem)) (hsz:(P.info? elem).map (·.size)=some 2)
  (dp sp:Option Addr) (dLen dCap sLen sCap:Nat) (hd:a.eval d=.slice dp dLen dCap) (hs:a.eval s=.slice sp sLen sCap)
  (g off:Nat) (cur:List Value) (t:TypeId) (hg:w.heap[g]? = some (.cells cur.toArray t (0,0))) (cs:List Value) (hn:cs.length=Nat.min sLen dLen*2)
  (hpos:0<cs.length->dp=some ⟨g,off,none⟩ /\ ∃ ad,sp=some ad /\ ∀ j v,cs[j]? = some v->w.cell? (ad.add j)=some v)
  (hfit:off+cs.length<=cur.length) (h1 : ∀ v∈cs,v.oneCell'=true)
  (h : ∀ w' m,Hid (w'.heap[g]? = some (.cells (splice cur off cs).toArray t (0,0)))->Only g w w'->wpList P ops Q rest (a.put o.dst (goInt m)) w') :
  wpList P ops Q (o::rest) a w:=by
 refine wpList_plain hgd fun K hK=>?_
 by_cases h0:cs.length=0
 ·obtain rfl:cs=[]:=List.eq_nil_of_length_eq_zero h0
  have hrun:=run_copy2_none (P:=P) w dT sT o.type elem dp sp dLen dCap sLen sCap hu hsz (by simp at hn; omega)
  unfold Oper.wp
  simp [execOp,ho,resolve,invoke,builtin,hd,hs,hrun,Result.andThen]
  exact hK _ _ (h w 0 (show _=_ by simpa [splice] using hg) (Only.refl _ _))
 ·obtain ⟨rfl,ad,rfl,hsrc⟩:=hpos (by omega)
  have hrun:=run_copy2_row (P:=P) w dT sT o.type elem g off dLen dCap ad sLen sCap cur t cs hu hsz hg hn hsrc hfit h1
  unfold Oper.wp
  simp [execOp,ho,resolve,invoke,builtin,hd,hs,hrun,Result.andThen]
  exact hK _ _ (h _ _ (setRow_heap w g _ _ t _ hg) (only_setRow _ _ _))
theorem step_copy2 {w:World} {ops:Array Oper} {o:Oper} {a:Act} {K:Act->World->Prop} {Q:Exit->Act->World->Prop} {E:Prop} (hgd:o.guard=none) (d s:Operand) (dT sT:TypeId)
  (ho:o.op=.call { callee:=.builtin .copy,args := #[d,s],argTypes := #[dT,sT] }) (elem:TypeId) (hu:P.underlying dT=some (.slice elem)) (hsz:(P.info? elem).map (·.size)=some 2)
  (dp sp:Option Addr) (dLen dCap sLen sCap:Nat) (hd:a.eval d=.slice dp dLen dCap) (hs:a.eval s=.slice sp sLen sCap)
  (g off:Nat) (cur:List Value) (t:TypeId) (hg:w.heap[g]? = some (.cells cur.toArray t (0,0))) (cs:List Value) (hn:cs.length=Nat.min sLen dLen*2)
  (hpos:0<cs.length->dp=some ⟨g,off,none⟩ /\ ∃ ad,sp=some ad /\ ∀ j v,cs[j]? = some v->w.cell? (ad.add j)=some v)
  (hfit:off+cs.length<=cur.length) (h1 : ∀ v∈cs,v.oneCell'=true)
  (h : ∀ w' m,Hid (w'.heap[g]? = some (.cells (splice cur off cs).toArray t (0,0)))->Only g w w'->K (a.put o.dst (goInt m)) w') :
  if Region.wanted o (yielded ops a.tmps)=true then Oper.wp P o a w K Q else E:=by
 have hw:Region.wanted o (yielded ops a.tmps)=true:=by simp [Region.wanted,hgd]
 rw [if_pos hw]
 by_cases h0:cs.length=0
 ·obtain rfl:cs=[]:=List.eq_nil_of_length_eq_zero h0
  have hrun:=run_copy2_none (P:=P) w dT sT o.type elem dp sp dLen dCap sLen sCap hu hsz (by simp at hn; omega)
  unfold Oper.wp
  simp [execOp,ho,resolve,invoke,builtin,hd,hs,hrun,Result.andThen]
  exact h w 0 (show _=_ by simpa [splice] using hg) (Only.refl _ _)
 ·obtain ⟨rfl,ad,rfl,hsrc⟩:=hpos (by omega)
  have hrun:=run_copy2_row (P:=P) w dT sT o.type elem g off dLen dCap ad sLen sCap cur t cs hu hsz hg hn hsrc hfit h1
  unfold Oper.wp
  simp [execOp,ho,resolve,invoke,builtin,hd,hs,hrun,Result.andThen]
  exact h _ _ (setRow_heap w g _ _ t _ hg) (only_setRow _ _ _)
theorem wpList_clear2 {w:World} {ops:Array Oper} {rest:List Oper} {o:Oper} {a:Act} {Q:Exit->Act->World->Prop} (hgd:o.guard=none) (d:Operand) (dT:TypeId)
  (ho:o.op=.call { callee:=.builtin .clear,args := #[d],argTypes := #[dT] }) (elem:TypeId) (hu:P.underlying dT=some (.slice elem)) (z:Value) (hz : ∀ w,(zeroValue elem).run P w=.ok z w) (hz2:z.cells.size=2) (hz1 : ∀ k:Nat,(z.cells[k % z.cells.size]!).oneCell'=true)
  (dp:Option Addr) (n c:Nat) (hd:a.eval d=.slice dp n c)
  (g off:Nat) (cur:List Value) (t:TypeId) (hg:w.heap[g]? = some (.cells cur.toArray t (0,0))) (hpos:0<n->dp=some ⟨g,off,none⟩) (hfit:off+n*2<=cur.length)
  (h : ∀ w' zs,zs.length=n*2->Hid (w'.heap[g]? = some (.cells (splice cur off zs).toArray t (0,0)))->Only g w w'->wpList P ops Q rest (a.put o.dst (.tuple #[])) w') :
  wpList P ops Q (o::rest) a w:=by
 refine wpList_plain hgd fun K hK=>?_
 by_cases h0:n=0
 ·subst h0
  have hrun:(Builtin.clear_ #[dT] o.type #[.slice dp 0 c]).run P w=.ok (.tuple #[]) w:=by
   cases dp <;> simp [Builtin.clear_,run_underlying hu]
  unfold Oper.wp
  simp [execOp,ho,resolve,invoke,builtin,hd,hrun,Result.andThen]
  exact hK _ _ (h w [] (by simp) (show _=_ by simpa [splice] using hg) (Only.refl _ _))
 ·obtain rfl:=hpos (by omega)
  have hzl:(Builtin.zeroCells z.cells n).toList.length=n*2:=by simp [Builtin.zeroCells,hz2]
  have hst:=run_storeCells_at P g off t (Builtin.zeroCells z.cells n).toList 0 cur.toArray w hg (by rw [hzl]; simpa using hfit) (fun v hv=>by
   simp [Builtin.zeroCells] at hv
   obtain ⟨k,_,rfl⟩:=hv
   exact hz1 k)
  simp only [Nat.add_zero] at hst
  rw [List.append_assoc] at hst
  have hrun:(Builtin.clear_ #[dT] o.type #[.slice (some ⟨g,off,none⟩) n c]).run P w=.ok (.tuple #[]) (w.setRow g (splice cur off (Builtin.zeroCells z.cells n).toList).toArray):=by
   obtain ⟨m,rfl⟩ : ∃ m,n=m+1:=⟨n-1,by omega⟩
   simp only [Builtin.clear_]
   simp [run_underlying hu,hz,hst,splice]
  unfold Oper.wp
  simp [execOp,ho,resolve,invoke,builtin,hd,hrun,Result.andThen]
  exact hK _ _ (h _ _ hzl (setRow_heap w g _ _ t _ hg) (only_setRow _ _ _))
theorem wpList_append2_room {w:World} {ops:Array Oper} {rest:List Oper} {o:Oper} {a:Act} {Q:Exit->Act->World->Prop} (hgd:o.guard=none) (s x:Operand) (t:TypeId)
  (ho:o.op=.call { callee:=.builtin .append,args := #[s,x],argTypes := #[t,t] }) (e:TypeId) (i:TypeInfo) (ht:P.underlying t=some (.slice e)) (hi:P.info? e=some i) (hsz:i.size=2)
  (g n c:Nat) (hs:a.eval s=.slice (some ⟨g,0,none⟩) n c) (cur:List Value) (hg:w.heap[g]? = some (.cells cur.toArray e (0,0)))
  (ad:Addr) (m sc:Nat) (hx:a.eval x=.slice (some ad) m sc) (cs:List Value) (hl:cs.length=m*2) (hsrc : ∀ j u,cs[j]? = some u->w.cell? (ad.add j)=some u) (h1 : ∀ u∈cs,u.oneCell'=true) (hroom:n+m<=c) (hfit:n*2+cs.length<=cur.length)
  (h : ∀ w',Hid (w'.heap[g]? = some (.cells (splice cur (n*2) cs).toArray e (0,0)))->Only g w w'->wpList P ops Q rest (a.put o.dst (.slice (some ⟨g,0,none⟩) (n+m) c)) w') :
  wpList P ops Q (o::rest) a w:=by
 refine wpList_plain hgd fun K hK=>?_
 have hrun:=run_append_room (P:=P) w t o.type e i ht hi g n c cur.toArray hg ad m sc cs (by rw [hsz]; exact hl) hsrc h1 hroom (by rw [hsz]; simpa using hfit)
 rw [hsz] at hrun
 simp only [List.append_assoc] at hrun
 unfold Oper.wp
 simp [execOp,ho,resolve,invoke,builtin,hs,hx,hrun,Result.andThen]
 exact hK _ _ (h _ (setRow_heap w g _ _ e _ hg) (only_setRow _ _ _))
end
end Go.Proofs.YtnhnpnafchkhiaaGreatDoor.S
namespace Go.Proofs.YtnhnpnafchkhiaaGreatDoor.S
open Go.RowKit
set_option maxRecDepth 20000
def NewOr (w:World) (v v':Value):Prop:=v'.ownBlock=v.ownBlock \/ ∃ g,v'.ownBlock=some g/\w.heap.size<=g
theorem Own2.split {w:World} {base:Nat} {v:Value} {l:List (Nat × Nat)} (h:Own2 w base v l):(v=.slice none 0 0/\l=[]) \/
  ∃ g c T,v=.slice (some ⟨g,0,none⟩) l.length c/\base<=g/\w.heap[g]? = some (.cells (rcells l++T).toArray 174 (0,0))/\l.length<=c/\c<=maxLen/\T.length=c*2-l.length*2:=by
 rcases h.2 with ⟨rfl,h0⟩ | ⟨g,c,cur,hv,hb,hg,h1,h2,h3,h4⟩
 ·exact .inl ⟨rfl,List.eq_nil_of_length_eq_zero h0⟩
 ·refine .inr ⟨g,c,cur.toList.drop (l.length*2),hv,hb,?_,h1,h2,by simp [h3]⟩
  rw [<- h4,List.take_append_drop]
  simpa using hg
theorem drop_more {α:Type} {A M:List α} {n k:Nat} (hA:A.length=n):(A++M).drop (n+k)=M.drop k:=by
 rw [List.drop_append,List.drop_eq_nil_of_le (by omega),hA]; simp
theorem own2_mk {w:World} {base g n c:Nat} {l:List (Nat × Nat)} {T:List Value} (hb:base<=g) (hg:w.heap[g]? = some (.cells (rcells l++T).toArray 174 (0,0))) (hn:n=l.length) (hc:l.length<=c) (hm:c<=maxLen) (hT:T.length=c*2-l.length*2) :
  Own2 w base (.slice (some ⟨g,0,none⟩) n c) l:=by
 subst hn
 refine ⟨rcells_length l,.inr ⟨g,c,_,rfl,hb,hg,hc,hm,?_,?_⟩⟩
 ·simp [rcells_length,hT]; omega
 ·rw [<- rcells_length l]
  simp
theorem info2:(Tryz.prog.info? 174).map (·.size)=some 2:=by
 obtain ⟨i,hi,_,hs,_⟩:=rngInfo
 rw [hi]; simp [hs]
theorem one_src {w:World} {vb x1 x2:Nat} (hx:w.heap[vb]? = some (.cells #[.int .u64 (x1:Int),.int .u64 (x2:Int)] 174 (0,0))) :
  ∀ j v,(rcells [(x1,x2)])[j]? = some v->w.cell? ((⟨vb,0,none⟩:Addr).add j)=some v:=by
 intro j v hj
 rw [Addr.add_lit,Nat.zero_add]
 have:=cell_of_list (C:=rcells [(x1,x2)]) (w:=w) (g:=vb) (t:=174) hx j
 rw [this]; exact hj
theorem insert_shift (g c i vb x1 x2:Nat) (l:List (Nat × Nat)) (T:List Value) (w:World) (hg:w.heap[g]? = some (.cells (rcells l++T).toArray 174 (0,0))) (hi:i<l.length) (hroom:l.length+1<=c) (hcm:c<=maxLen) (hT:T.length=c*2-l.length*2)
  (hx:w.heap[vb]? = some (.cells #[.int .u64 (x1:Int),.int .u64 (x2:Int)] 174 (0,0))) (hne:vb≠g) :
  Calls Tryz.prog 282 #[.slice (some ⟨g,0,none⟩) l.length c,.int .i64 i,.slice (some ⟨vb,0,none⟩) 1 1] w fun e w' =>
   e=.returned (.slice (some ⟨g,0,none⟩) (l.length+1) c)/\Only g w w' /\ ∃ T',w'.heap[g]? = some (.cells (rcells (l.take i++(x1,x2)::l.drop i)++T').toArray 174 (0,0))/\T'.length=c*2-(l.length+1)*2:=by
 have hc63:c<=9223372036854775807:=by unfold maxLen at hcm; omega
 have hz2 : ¬ ((i:Int)=(l.length:Int)):=by omega
 have hb2 : ¬ (c=i+1):=by omega
 have hb4 : ¬ (c=i):=by omega
 have hw1:IntKind.i64.wrap ((i:Int)+1)=(i:Int)+1:=by rw [IntKind.wrap_i64]; omega
 have hov : ∀ lb cb,(callFunc 283 #[.slice (some ⟨vb,0,none⟩) 1 1,.slice (some ⟨g,(i+1)*2,none⟩) lb cb]).run Tryz.prog w=.ok (.value (.bool false)) w:=fun lb cb=>by
  rw [run_callFunc_extern Tryz.func283 (by kernel_rfl) (by kernel_rfl) (by kernel_rfl) (e:=Extern.SlicesOverlaps.overlaps #[96,96] #[4]) (by kernel_rfl),
   Lib.run_overlaps_apart w 96 4 174 Tryz.underlying96 2 Tryz.sizeOf174 ⟨vb,0,none⟩ ⟨g,(i+1)*2,none⟩ 1 1 lb cb hne 174 174 2 (rcells l++T).length (by simp [World.shape?,hx]) (by simp [World.shape?,hg]) (by simp [rcells_length]; omega) (by simp [World.frozen?,hx]) (by simp [World.frozen?,hx])]
  rfl
 go_enter Tryz.func282,Tryz.ntmps282
 have hl1:=rcells_length (l.drop i)
 rw [List.length_drop] at hl1
 have hll:=rcells_length l
 have hA:=rcells_length (l.take i)
 rw [List.length_take,Nat.min_eq_left (by omega)] at hA
 have hsplit:rcells l=rcells (l.take i)++rcells (l.drop i):=by rw [<- rcells_append,List.take_append_drop]
 have S1:Hid (∀ j v,(rcells (l.drop i))[j]? = some v->w.cell? ((⟨g,i*2,none⟩:Addr).add j)=some v):=fun j v hj=>by
  rw [Addr.add_lit,cell_of_list hg,List.getElem?_append_left (by have:=(List.getElem?_eq_some_iff.1 hj).1; omega),hsplit,List.getElem?_append_right (by omega),hA]
  rw [show i*2+j-i*2=j by omega]
  exact hj
 have HG:Hid (w.heap[g]? = some (.cells (rcells l++T).toArray 174 (0,0))/\w.heap[vb]? = some (.cells #[.int .u64 (x1:Int),.int .u64 (x2:Int)] 174 (0,0))):=⟨hg,hx⟩
 have HN:Hid ((rcells (l.drop i)).length=(l.length-i)*2/\(rcells l).length=l.length*2/\(rcells (l.take i)).length=i*2/\rcells l=rcells (l.take i)++rcells (l.drop i)):=⟨hl1,hll,hA,hsplit⟩
 have HT:Hid (T.length=c*2-l.length*2):=hT
 clear hl1 hll hA hsplit hT hg hx
 have hb1:(0:Int)<=(i:Int)+1:=by omega
 have hin:i<=l.length:=by omega
 have hin2:i<=l.length+1:=by omega
 have hin3:(i:Int)<=(l.length:Int)+1:=by omega
 go_wp2_with (simp only [hov])
 clear hov
 go_region_law (refine step_copy2 rfl (.tmp 73) (.tmp 76) 96 96 rfl 174 Tryz.underlying96 info2 (some ⟨g,(i+1)*2,none⟩) (some ⟨g,i*2,none⟩) (l.length-i) (c-(i+1)) (l.length+1-i) (c-i) (by simp [Act.eval,Act.put]) (by simp [Act.eval,Act.put]) g ((i+1)*2) (rcells l++T) 174 HG.out.1 (rcells (l.drop i)) (by rw [HN.out.1,show Nat.min (l.length+1-i) (l.length-i)=l.length-i from Nat.min_eq_right (by omega)]) (fun _=>⟨rfl,_,rfl,S1.out⟩) (by rw [HN.out.1,List.length_append,HN.out.2.1,HT.out]; omega) (rcells_one _) ?_; intro w1 m1 HG1 only1)
 have hx1:w1.heap[vb]? = some (.cells #[.int .u64 (x1:Int),.int .u64 (x2:Int)] 174 (0,0)):=by rw [only1.block vb hne]; exact HG.out.2
 have HX1:Hid (∀ j v,(rcells [(x1,x2)])[j]? = some v->w1.cell? ((⟨vb,0,none⟩:Addr).add j)=some v):=one_src hx1
 have HL1:Hid ((splice (rcells l++T) ((i+1)*2) (rcells (l.drop i))).length=c*2):=by
  have h:=length_splice (rcells l++T) ((i+1)*2) (rcells (l.drop i)) (by rw [HN.out.1,List.length_append,HN.out.2.1,HT.out]; omega)
  rw [List.length_append,HN.out.2.1,HT.out] at h
  exact (by omega:(splice (rcells l++T) ((i+1)*2) (rcells (l.drop i))).length=c*2)
 have ON1:Hid (Only g w w1):=⟨only1.os,only1.tape,only1.output,only1.size,only1.block⟩
 clear hx1 only1
 go_wp2_with (refine wpList_copy2 rfl (.tmp 80) (.tmp 81) 96 96 rfl 174 Tryz.underlying96 info2 (some ⟨g,i*2,none⟩) (some ⟨vb,0,none⟩) (l.length+1-i) (c-i) 1 1 rfl rfl g (i*2) (splice (rcells l++T) ((i+1)*2) (rcells (l.drop i))) 174 HG1.out (rcells [(x1,x2)]) (by rw [show Nat.min 1 (l.length+1-i)=1 from Nat.min_eq_left (by omega)]; rfl) (fun _=>⟨rfl,_,rfl,HX1.out⟩) (by rw [HL1.out]; show i*2+2<=_; omega) (rcells_one _) ?_; intro w2 m2 HG2 only2)
 go_ret
 refine ⟨rfl,ON1.out.trans only2,(rcells l++T).drop ((i+1)*2+(rcells (l.drop i)).length),?_,?_⟩
 ·rw [HG2.out]
  congr 2
  congr 1
  have e1:=splice_in (rcells l++T) (rcells (l.take i)) (rcells (l.drop i)++T) (rcells (l.drop i)) 2 ((i+1)*2) (by rw [HN.out.2.2.2,List.append_assoc]) (by rw [HN.out.2.2.1]; omega)
  rw [splice_in _ (rcells (l.take i)) _ (rcells [(x1,x2)]) 0 (i*2) e1 (by rw [HN.out.2.2.1]; omega)]
  rw [rcells_append]
  have h2:((rcells (l.drop i)++T).take 2).length=2:=by rw [List.length_take,List.length_append,HN.out.1,HT.out]; omega
  have e2 : ∀ R:List Value,((rcells (l.drop i)++T).take 2++R).drop 2=R:=fun R=>by
   rw [List.drop_append,h2,List.drop_eq_nil_of_le (by omega)]
   simp
  have e3:(rcells l++T).drop ((i+1)*2+(rcells (l.drop i)).length)=(rcells (l.drop i)++T).drop (2+(rcells (l.drop i)).length):=by
   rw [HN.out.2.2.2,List.append_assoc,List.drop_append,List.drop_eq_nil_of_le (by rw [HN.out.2.2.1]; omega),HN.out.2.2.1,List.nil_append]
   congr 1
   omega
  rw [e3,List.take_zero,List.nil_append,show 0+(rcells [(x1,x2)]).length=2 from rfl,e2]
  simp [rcells_cons,rcells_nil]
 ·rw [List.length_drop,List.length_append,HN.out.2.1,HT.out,HN.out.1]; omega
theorem insert_grow (g i vb x1 x2:Nat) (l:List (Nat × Nat)) (w:World) (T:List Value) (hg:w.heap[g]? = some (.cells (rcells l++T).toArray 174 (0,0))) (hi:i<l.length) (hlen:l.length<=1000000)
    (hx:w.heap[vb]? = some (.cells #[.int .u64 (x1:Int),.int .u64 (x2:Int)] 174 (0,0))) :
    Calls Tryz.prog 282 #[.slice (some ⟨g,0,none⟩) l.length l.length,.int .i64 i,.slice (some ⟨vb,0,none⟩) 1 1] w fun e w' =>
      ∃ v',e=.returned v'/\Own2 w' w.heap.size v' (l.take i++(x1,x2)::l.drop i)/\Below w.heap.size w w':=by
  obtain ⟨i0,hi0,hz0,hzs,hzb⟩:=rngInfo
  have hbw:g<w.heap.size:=(yyD hg).1
  have hvw:vb<w.heap.size:=(yyD hx).1
  have hz2 : ¬ ((i:Int)=(l.length:Int)):=by omega
  have hb4 : ¬ (l.length=i):=by omega
  have hw1:IntKind.i64.wrap ((i:Int)+1)=(i:Int)+1:=by rw [IntKind.wrap_i64]; omega
  have hA:=rcells_length (l.take i)
  rw [List.length_take,Nat.min_eq_left (by omega)] at hA
  have hl1:=rcells_length (l.drop i)
  rw [List.length_drop] at hl1
  have hsplit:rcells l=rcells (l.take i)++rcells (l.drop i):=by rw [<- rcells_append,List.take_append_drop]
  have hold:(Builtin.firstCells i0.size i (.slice (some ⟨g,0,none⟩) i l.length)).run Tryz.prog w.drew=.ok (rcells (l.take i)).toArray w.drew:=by
    rw [hzs]
    exact run_firstCells_some w.drew 2 i ⟨g,0,none⟩ i l.length (rcells (l.take i)) hA (fun j v hj=>by
      rw [Addr.add_lit,Nat.zero_add]
      show w.cell? _=_
      rw [cell_of_list hg,hsplit,List.append_assoc,List.getElem?_append_left (by have:=(List.getElem?_eq_some_iff.1 hj).1; omega)]
      exact hj)
  obtain ⟨G,hG⟩ : ∃ G,G=grownCap w (l.length+1) l.length 174:=⟨_,rfl⟩
  have hGn:l.length+1<=G:=by rw [hG]; exact grownCap_ge w _ _ _
  have hGm:G<=maxLen:=by rw [hG]; exact grownCap_le_maxLen w _ _ _ (by unfold maxLen; omega)
  have hG63:G<=9223372036854775807:=by unfold maxLen at hGm; omega
  obtain ⟨Z,hZ⟩ : ∃ Z:List Value,Z=(Builtin.zeroCells (Value.agg #[.int .u64 0,.int .u64 0]).cells (l.length+1-i)).toList++(Builtin.zeroCells (Value.agg #[.int .u64 0,.int .u64 0]).cells (G-(l.length+1))).toList:=⟨_,rfl⟩
  have hZl:Z.length=(G-i)*2:=by rw [hZ]; simp [Builtin.zeroCells,Value.cells]; omega
  have hkk:(l.length:Int)+1-(i:Int)=((l.length+1-i:Nat):Int):=by omega
  have hik:i+(l.length+1-i)=l.length+1:=by omega
  have hrz : ∀ ty,(Builtin.append_ #[96,3] ty #[.slice (some ⟨g,0,none⟩) i l.length,.int .i64 ((l.length:Int)+1-(i:Int))]).run Tryz.prog w =
      .ok (.slice (some ⟨w.heap.size,0,none⟩) (l.length+1) G) (w.drew.alloc (.cells (rcells (l.take i)++Z).toArray 174)):=fun ty=>by
    have h:=Lib.run_append_grow_zeros w 96 3 ty 174 i0 _ .i64 .i64 Tryz.underlying96 Tryz.underlying3 hi0 hz0 (some ⟨g,0,none⟩) i l.length (rcells (l.take i)) hold (l.length+1-i) (by omega) (by omega) (by omega) (by omega) (by rw [hzb]; omega) (by rw [hzb,hik]; exact growslice_fits (by omega) (by omega))
    rw [hik,<- hG] at h
    rw [hkk,h,hZ]
    congr 3
    apply Array.ext'
    simp
  obtain ⟨W1,hW1⟩ : ∃ W1,W1=w.drew.alloc (.cells (rcells (l.take i)++Z).toArray 174):=⟨_,rfl⟩
  rw [<- hW1] at hrz
  have hN1:W1.heap[w.heap.size]? = some (.cells (rcells (l.take i)++Z).toArray 174 (0,0)):=by rw [hW1]; exact heap_alloc_new w.drew _
  have hB1:Below w.heap.size w W1:=by rw [hW1]; exact (Below.refl w.heap.size w).drew.alloc (yyH _) _
  have hx1:W1.heap[vb]? = some (.cells #[.int .u64 (x1:Int),.int .u64 (x2:Int)] 174 (0,0)):=by rw [hB1.block vb hvw]; exact hx
  have H:Hid (W1.heap[w.heap.size]? = some (.cells (rcells (l.take i)++Z).toArray 174 (0,0))/\Below w.heap.size w W1/\(∀ j v,(rcells [(x1,x2)])[j]? = some v->W1.cell? ((⟨vb,0,none⟩:Addr).add j)=some v)/\W1.heap[g]? = some (.cells (rcells l++T).toArray 174 (0,0))/\Z.length=(G-i)*2/\(rcells (l.take i)).length=i*2/\(rcells (l.drop i)).length=(l.length-i)*2/\rcells l=rcells (l.take i)++rcells (l.drop i)) :=
    ⟨hN1,hB1,one_src hx1,by rw [hB1.block g hbw]; exact hg,hZl,hA,hl1,hsplit⟩
  clear hold hG hkk hik hN1 hB1 hx1 hZl hA hl1 hsplit hg hx hZ hW1
  have hGi : ¬ (G=i):=by omega
  have hGi1 : ¬ (G=i+1):=by omega
  have hb1:(0:Int)<=(i:Int)+1:=by omega
  have hin:i<=l.length:=by omega
  have hin2:i<=l.length+1:=by omega
  have hin3:(i:Int)<=(l.length:Int)+1:=by omega
  have hin4:(i:Int)<=(l.length:Int):=by omega
  go_enter Tryz.func282,Tryz.ntmps282
  go_wp2_with (first
    | (at_builtin; refine Lib.wpList_append_run _ rfl _ _ _ _ rfl _ _ rfl rfl _ _ (hrz _) ?_)
    | (refine wpList_copy2 rfl (.tmp 43) (.tmp 44) 96 96 rfl 174 Tryz.underlying96 info2 (some ⟨w.heap.size,i*2,none⟩) (some ⟨vb,0,none⟩) (l.length+1-i) (G-i) 1 1 rfl rfl w.heap.size (i*2) (rcells (l.take i)++Z) 174 H.out.1 (rcells [(x1,x2)]) (by rw [show Nat.min 1 (l.length+1-i)=1 from Nat.min_eq_left (by omega)]; rfl) (fun _=>⟨rfl,_,rfl,H.out.2.2.1⟩) (by rw [List.length_append,H.out.2.2.2.2.1,H.out.2.2.2.2.2.1]; show i*2+2<=_; omega) (rcells_one _) ?_; intro w2 m2 HG2 only2))
  have ON2:Hid (Below w.heap.size w w2/\w2.heap[g]? = some (.cells (rcells l++T).toArray 174 (0,0))/\(splice (rcells (l.take i)++Z) (i*2) (rcells [(x1,x2)])).length=G*2):=by
    refine ⟨⟨only2.os.trans H.out.2.1.os,only2.tape.trans H.out.2.1.tape,only2.output.trans H.out.2.1.output,by rw [only2.size]; exact H.out.2.1.size,fun k hk=>(only2.block k (by omega)).trans (H.out.2.1.block k hk)⟩,by rw [only2.block g (by omega)]; exact H.out.2.2.2.1,?_⟩
    rw [length_splice _ _ _ (by rw [List.length_append,H.out.2.2.2.2.1,H.out.2.2.2.2.2.1]; show i*2+2<=_; omega),List.length_append,H.out.2.2.2.2.1,H.out.2.2.2.2.2.1]
    omega
  have S2:Hid (∀ j v,(rcells (l.drop i))[j]? = some v->w2.cell? ((⟨g,i*2,none⟩:Addr).add j)=some v):=fun j v hj=>by
    rw [Addr.add_lit,cell_of_list ON2.out.2.1,H.out.2.2.2.2.2.2.2,List.append_assoc,List.getElem?_append_right (by rw [H.out.2.2.2.2.2.1]; omega),H.out.2.2.2.2.2.1,List.getElem?_append_left (by have:=(List.getElem?_eq_some_iff.1 hj).1; omega)]
    rw [show i*2+j-i*2=j by omega]
    exact hj
  clear only2
  go_region_law (refine step_copy2 rfl (.tmp 50) (.tmp 53) 96 96 rfl 174 Tryz.underlying96 info2 (some ⟨w.heap.size,(i+1)*2,none⟩) (some ⟨g,i*2,none⟩) (l.length-i) (G-(i+1)) (l.length-i) (l.length-i) (by simp [Act.eval,Act.put]) (by simp [Act.eval,Act.put]) w.heap.size ((i+1)*2) (splice (rcells (l.take i)++Z) (i*2) (rcells [(x1,x2)])) 174 HG2.out (rcells (l.drop i)) (by rw [H.out.2.2.2.2.2.2.1,show Nat.min (l.length-i) (l.length-i)=l.length-i from Nat.min_self _]) (fun _=>⟨rfl,_,rfl,S2.out⟩) (by rw [ON2.out.2.2,H.out.2.2.2.2.2.2.1]; omega) (rcells_one _) ?_; intro w3 m3 HG3 only3)
  go_wp2
  go_ret
  refine ⟨_,rfl,own2_mk (T:=(splice (rcells (l.take i)++Z) (i*2) (rcells [(x1,x2)])).drop ((i+1)*2+(rcells (l.drop i)).length)) (yyH _) ?_ ?_ ?_ hGm ?_,?_⟩
  · rw [HG3.out]
    congr 2
    congr 1
    have e1:=splice_in (rcells (l.take i)++Z) (rcells (l.take i)) Z (rcells [(x1,x2)]) 0 (i*2) rfl (by rw [H.out.2.2.2.2.2.1]; omega)
    rw [List.take_zero,List.nil_append,<- List.append_assoc] at e1
    have h4:(rcells (l.take i)++rcells [(x1,x2)]).length=(i+1)*2:=by
      rw [List.length_append,H.out.2.2.2.2.2.1]; show i*2+2=_; omega
    rw [splice_in _ _ _ (rcells (l.drop i)) 0 ((i+1)*2) e1 (by rw [h4]; omega),e1]
    rw [drop_more h4,rcells_append,rcells_cons]
    simp [rcells_cons,rcells_nil]
  · simp; omega
  · simp; omega
  · rw [List.length_drop,ON2.out.2.2,H.out.2.2.2.2.2.2.1]; simp; omega
  · exact ⟨only3.os.trans ON2.out.1.os,only3.tape.trans ON2.out.1.tape,only3.output.trans ON2.out.1.output,by rw [only3.size]; exact ON2.out.1.size,fun k hk=>(only3.block k (by omega)).trans (ON2.out.1.block k hk)⟩
theorem insert_end (base vb x1 x2:Nat) (v:Value) (l:List (Nat × Nat)) (w:World) (hown:Own2 w base v l) (hlen:l.length<=1000000) (hb:base<=w.heap.size)
  (hx:w.heap[vb]? = some (.cells #[.int .u64 (x1:Int),.int .u64 (x2:Int)] 174 (0,0))) :
  Calls Tryz.prog 282 #[v,.int .i64 l.length,.slice (some ⟨vb,0,none⟩) 1 1] w fun e w' =>
   ∃ v',e=.returned v'/\Own2 w' base v' (l++[(x1,x2)])/\w.grownBy w' v.ownBlock/\NewOr w v v':=by
 rcases hown.split with ⟨rfl,rfl⟩ | ⟨g,c,T,rfl,hbg,hg,h1,h2,hT⟩
 ·have HX:Hid (∀ j v,(rcells [(x1,x2)])[j]? = some v->w.cell? ((⟨vb,0,none⟩:Addr).add j)=some v):=one_src hx
  obtain ⟨i0,hi0,hz0,hzs,hzb⟩:=rngInfo
  clear hx hown
  go_enter Tryz.func282,Tryz.ntmps282
  go_wp2_with (at_builtin; refine wpList_append_grows _ rfl (.tmp 23) (.tmp 24) 96 rfl 174 i0 _ 2 16 Tryz.underlying96 hi0 hz0 hzs hzb rfl (by decide) none 0 0 [] rfl (fun _=>⟨rfl,rfl⟩) rfl (fun b hb=>by cases hb) ⟨vb,0,none⟩ 1 1 (rcells [(x1,x2)]) rfl rfl HX.out (rcells_one _) (by omega) (by unfold maxLen; omega) (by omega) ?_; intro v' w' own' grown'; obtain ⟨va,vc,hva⟩ : ∃ a c,v'=.slice a 1 c:=(by rcases own'.2 with ⟨_,h0⟩ | ⟨g,c,cur,h,_⟩; exact absurd h0 (by omega); exact ⟨_,_,h⟩); subst hva)
  all_goals go_ret
  all_goals (have own2:Own2 w' w.heap.size (.slice va 1 vc) [(x1,x2)]:=own')
  all_goals (refine ⟨_,rfl,own2.mono hb,⟨grown'.os,grown'.tape,grown'.output,grown'.size,fun k hk _=>grown'.block k hk (by simp)⟩,.inr ?_⟩)
  all_goals (rcases own2.2 with ⟨_,h0⟩ | ⟨g2,c2,cur2,h3,h4,_⟩; exact absurd h0 (by simp); exact ⟨g2,by rw [h3]; rfl,h4⟩)
 ·have hc63:c<=9223372036854775807:=by unfold maxLen at h2; omega
  have HX:Hid (∀ j v,(rcells [(x1,x2)])[j]? = some v->w.cell? ((⟨vb,0,none⟩:Addr).add j)=some v):=one_src hx
  obtain ⟨i0,hi0,hz0,hzs,hzb⟩:=rngInfo
  have hll:=rcells_length l
  by_cases hroom:l.length+1<=c
  ·have HG:Hid (w.heap[g]? = some (.cells (rcells l++T).toArray 174 (0,0))/\T.length=c*2-l.length*2/\(rcells l).length=l.length*2):=⟨hg,hT,hll⟩
   clear hg hT hown hx hll
   go_enter Tryz.func282,Tryz.ntmps282
   go_wp2_with (at_builtin; refine wpList_append2_room rfl (.tmp 23) (.tmp 24) 96 rfl 174 i0 Tryz.underlying96 hi0 hzs g l.length c rfl (rcells l++T) HG.out.1 ⟨vb,0,none⟩ 1 1 rfl (rcells [(x1,x2)]) rfl HX.out (rcells_one _) hroom (by rw [List.length_append,HG.out.2.1,HG.out.2.2]; show l.length*2+2<=_; omega) ?_; intro w1 HG1 only1)
   all_goals go_ret
   all_goals (refine ⟨_,rfl,own2_mk (T:=T.drop 2) hbg ?_ (by simp) (by simp; omega) h2 (by simp [HG.out.2.1]; omega),only1.grown,.inl rfl⟩)
   all_goals (rw [HG1.out,splice_in (rcells l++T) (rcells l) T (rcells [(x1,x2)]) 0 (l.length*2) rfl (by rw [HG.out.2.2]; omega),rcells_append]; simp [rcells_cons,rcells_nil])
  ·have hcc:c=l.length:=by omega
   subst hcc
   have HC:Hid (∀ j u,(rcells l)[j]? = some u->w.cell? ((⟨g,0,none⟩:Addr).add j)=some u):=fun j u hj=>by
    rw [Addr.add_lit,Nat.zero_add,cell_of_list hg,List.getElem?_append_left (by exact (List.getElem?_eq_some_iff.1 hj).1)]
    exact hj
   clear hg hT hown hx
   go_enter Tryz.func282,Tryz.ntmps282
   go_wp2_with (at_builtin; refine wpList_append_grows _ rfl (.tmp 23) (.tmp 24) 96 rfl 174 i0 _ 2 16 Tryz.underlying96 hi0 hz0 hzs hzb rfl (by decide) (some ⟨g,0,none⟩) l.length l.length (rcells l) rfl (fun h=>by cases h) hll (fun b hb=>by injection hb with hb; subst hb; exact HC.out) ⟨vb,0,none⟩ 1 1 (rcells [(x1,x2)]) rfl rfl HX.out (rcells_one _) (by omega) (by unfold maxLen; omega) (by omega) ?_; intro v' w' own' grown'; obtain ⟨va,vc,hva⟩ : ∃ a c,v'=.slice a (l.length+1) c:=(by rcases own'.2 with ⟨_,h0⟩ | ⟨g,c,cur,h,_⟩; exact absurd h0 (by omega); exact ⟨_,_,h⟩); subst hva)
   all_goals go_ret
   all_goals (have own2:Own2 w' w.heap.size (.slice va (l.length+1) vc) (l++[(x1,x2)]):=(by unfold Own2; rw [rcells_append,List.length_append]; exact own'))
   all_goals (refine ⟨_,rfl,own2.mono hb,⟨grown'.os,grown'.tape,grown'.output,grown'.size,fun k hk _=>grown'.block k hk (by simp)⟩,.inr ?_⟩)
   all_goals (rcases own2.2 with ⟨_,h0⟩ | ⟨g2,c2,cur2,h3,h4,_⟩; exact absurd h0 (by simp); exact ⟨g2,by rw [h3]; rfl,h4⟩)
theorem insert_any (base vb x1 x2 i:Nat) (v:Value) (l:List (Nat × Nat)) (w:World) (hown:Own2 w base v l) (hi:i<=l.length) (hlen:l.length<=1000000) (hb:base<=w.heap.size)
  (hx:w.heap[vb]? = some (.cells #[.int .u64 (x1:Int),.int .u64 (x2:Int)] 174 (0,0))) (hne:v.ownBlock≠some vb) :
  Calls Tryz.prog 282 #[v,.int .i64 i,.slice (some ⟨vb,0,none⟩) 1 1] w fun e w' =>
   ∃ v',e=.returned v'/\Own2 w' base v' (l.take i++(x1,x2)::l.drop i)/\w.grownBy w' v.ownBlock/\NewOr w v v':=by
 rcases Nat.eq_or_lt_of_le hi with rfl | hlt
 ·rw [List.take_length,List.drop_length]
  exact insert_end base vb x1 x2 v l w hown hlen hb hx
 ·rcases hown.split with ⟨rfl,rfl⟩ | ⟨g,c,T,rfl,hbg,hg,h1,h2,hT⟩
  ·simp at hlt
  ·by_cases hroom:l.length+1<=c
   ·refine (insert_shift g c i vb x1 x2 l T w hg hlt hroom h2 hT hx (fun h=>hne (by rw [h]; rfl))).mono ?_
    rintro e w' ⟨rfl,only,T',hg',hT'⟩
    refine ⟨_,rfl,own2_mk hbg hg' (by simp; omega) (by simp; omega) h2 (by rw [hT']; simp; omega),only.grown,.inl rfl⟩
   ·obtain rfl:c=l.length:=by omega
    refine (insert_grow g i vb x1 x2 l w T hg hlt hlen hx).mono ?_
    rintro e w' ⟨v',rfl,own,bel⟩
    refine ⟨_,rfl,own.mono hb,⟨bel.os,bel.tape,bel.output,bel.size,fun k hk _=>bel.block k hk⟩,.inr ?_⟩
    rcases own.2 with ⟨_,h0⟩ | ⟨g2,c2,cur2,h3,h4,_⟩
    ·simp at h0
    ·exact ⟨g2,by rw [h3]; rfl,h4⟩
end Go.Proofs.YtnhnpnafchkhiaaGreatDoor.S
