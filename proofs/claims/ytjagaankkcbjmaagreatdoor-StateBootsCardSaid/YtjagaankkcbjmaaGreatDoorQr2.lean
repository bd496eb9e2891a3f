import Derived.Shelf.Strings.Search3
import Derived.Shelf.Strings.Count
import Derived.Shelf.Slices.Turned
import Derived.Test.YtjagaankkcbjmaaGreatDoorProg
import Derived.Test.YtjagaankkcbjmaaGreatDoorQr1
import Derived.Laws.DeepStrings4
import Derived.Laws.Concat
set_option maxHeartbeats 2000000
set_option maxRecDepth 100000
namespace Go.Proofs
open Go.Shelf
def Tryz.lays143_ren : Go.Shelf.Ren := ⟨fun | 143 => 371 | 219 => 378 | 217 => 381 | 225 => 382 | 224 => 383 | 267 => 384 | 266 => 386 | 314 => 387 | n => n,fun | 9 => 9 | 3 => 3 | 4 => 4 | 5 => 5 | 46 => 72 | 146 => 401 | 51 => 334 | n => n,fun | 1 => 1 | n => n⟩
theorem Tryz.lays143 : Go.Proofs.Lays.n143 Tryz.prog Tryz.lays143_ren := {
 mixed := by kernel_rfl
 f143 := Tryz.func371.trans (congrArg some (by kernel_rfl))
 f217 := Tryz.func381.trans (congrArg some (by kernel_rfl))
 f219 := Tryz.func378.trans (congrArg some (by kernel_rfl))
 f224 := Tryz.func383.trans (congrArg some (by kernel_rfl))
 f225 := Tryz.func382.trans (congrArg some (by kernel_rfl))
 f266 := Tryz.func386.trans (congrArg some (by kernel_rfl))
 f267 := Tryz.func384.trans (congrArg some (by kernel_rfl))
 f314 := Tryz.func387.trans (congrArg some (by kernel_rfl))
 t3 := Tryz.underlying3
 a3 := Tryz.isAgg3
 z3 := Tryz.sizeOf3
 v3 := Tryz.zeroValue3
 t4 := Tryz.underlying4
 a4 := Tryz.isAgg4
 z4 := Tryz.sizeOf4
 v4 := Tryz.zeroValue4
 t5 := Tryz.underlying5
 a5 := Tryz.isAgg5
 z5 := Tryz.sizeOf5
 v5 := Tryz.zeroValue5
 t9 := Tryz.underlying9
 a9 := Tryz.isAgg9
 z9 := Tryz.sizeOf9
 v9 := Tryz.zeroValue9
 t46 := Tryz.underlying72
 a46 := Tryz.isAgg72
 z46 := Tryz.sizeOf72
 v46 := Tryz.zeroValue72
 t51 := Tryz.underlying334
 a51 := Tryz.isAgg334
 z51 := Tryz.sizeOf334
 v51 := Tryz.zeroValue334
 t146 := Tryz.underlying401
 a146 := Tryz.isAgg401
 z146 := Tryz.sizeOf401
 v146 := Tryz.zeroValue401
 g1 := by kernel_rfl }
def Tryz.lays138_ren : Go.Shelf.Ren := ⟨fun | 138 => 349 | 195 => 369 | 218 => 370 | 143 => 371 | 219 => 378 | 217 => 381 | 225 => 382 | 224 => 383 | 267 => 384 | 266 => 386 | 314 => 387 | n => n,fun | 9 => 9 | 3 => 3 | 4 => 4 | 5 => 5 | 0 => 0 | 46 => 72 | 146 => 401 | 51 => 334 | n => n,fun | 1 => 1 | n => n⟩
theorem Tryz.lays138 : Go.Proofs.Lays.n138 Tryz.prog Tryz.lays138_ren := {
 mixed := by kernel_rfl
 f138 := Tryz.func349.trans (congrArg some (by kernel_rfl))
 f143 := Tryz.func371.trans (congrArg some (by kernel_rfl))
 f195 := Tryz.func369.trans (congrArg some (by kernel_rfl))
 f217 := Tryz.func381.trans (congrArg some (by kernel_rfl))
 f218 := Tryz.func370.trans (congrArg some (by kernel_rfl))
 f219 := Tryz.func378.trans (congrArg some (by kernel_rfl))
 f224 := Tryz.func383.trans (congrArg some (by kernel_rfl))
 f225 := Tryz.func382.trans (congrArg some (by kernel_rfl))
 f266 := Tryz.func386.trans (congrArg some (by kernel_rfl))
 f267 := Tryz.func384.trans (congrArg some (by kernel_rfl))
 f314 := Tryz.func387.trans (congrArg some (by kernel_rfl))
 t0 := Tryz.underlying0
 a0 := Tryz.isAgg0
 z0 := Tryz.sizeOf0
 v0 := Tryz.zeroValue0
 t3 := Tryz.underlying3
 a3 := Tryz.isAgg3
 z3 := Tryz.sizeOf3
 v3 := Tryz.zeroValue3
 t4 := Tryz.underlying4
 a4 := Tryz.isAgg4
 z4 := Tryz.sizeOf4
 v4 := Tryz.zeroValue4
 t5 := Tryz.underlying5
 a5 := Tryz.isAgg5
 z5 := Tryz.sizeOf5
 v5 := Tryz.zeroValue5
 t9 := Tryz.underlying9
 a9 := Tryz.isAgg9
 z9 := Tryz.sizeOf9
 v9 := Tryz.zeroValue9
 t46 := Tryz.underlying72
 a46 := Tryz.isAgg72
 z46 := Tryz.sizeOf72
 v46 := Tryz.zeroValue72
 t51 := Tryz.underlying334
 a51 := Tryz.isAgg334
 z51 := Tryz.sizeOf334
 v51 := Tryz.zeroValue334
 t146 := Tryz.underlying401
 a146 := Tryz.isAgg401
 z146 := Tryz.sizeOf401
 v146 := Tryz.zeroValue401
 g1 := by kernel_rfl }
def Tryz.lays110_ren : Go.Shelf.Ren := ⟨fun | 110 => 340 | 109 => 365 | n => n,fun | 31 => 43 | 9 => 9 | 4 => 4 | 3 => 3 | 0 => 0 | n => n,fun | n => n⟩
theorem Tryz.lays110 : Go.Proofs.Lays.n110 Tryz.prog Tryz.lays110_ren := {
 mixed := by kernel_rfl
 f109 := Tryz.func365.trans (congrArg some (by kernel_rfl))
 f110 := Tryz.func340.trans (congrArg some (by kernel_rfl))
 t0 := Tryz.underlying0
 a0 := Tryz.isAgg0
 z0 := Tryz.sizeOf0
 v0 := Tryz.zeroValue0
 t3 := Tryz.underlying3
 a3 := Tryz.isAgg3
 z3 := Tryz.sizeOf3
 v3 := Tryz.zeroValue3
 t4 := Tryz.underlying4
 a4 := Tryz.isAgg4
 z4 := Tryz.sizeOf4
 v4 := Tryz.zeroValue4
 t9 := Tryz.underlying9
 a9 := Tryz.isAgg9
 z9 := Tryz.sizeOf9
 v9 := Tryz.zeroValue9
 t31 := Tryz.underlying43
 a31 := Tryz.isAgg43
 z31 := Tryz.sizeOf43
 v31 := Tryz.zeroValue43 }
end Go.Proofs
namespace Go.Proofs.YtjagaankkcbjmaaGreatDoor
open Go.RowKit Go.Shelf
attribute [local go_sem] Oper.semAt_some
def str (l : Txt) : ByteArray := ⟨l.toArray⟩
theorem txt_str (l : Txt) : txt (str l) = l := by simp [txt,str]
theorem str_txt (s : ByteArray) : str (txt s) = s := txt_inj (txt_str _)
theorem txt_extract (t : ByteArray) (a b : Nat) : txt (t.extract a b) = ((txt t).drop a).take (b - a) := by
 unfold txt
 rw [ByteArray.data_extract,Array.toList_extract,List.extract_eq_take_drop]
theorem index_none (l : Txt) (h : Lib.indexByte l 46 = -1) : ∀ b ∈ l,b ≠ 46 := by
 induction l with
 |nil => simp
 |cons b l ih =>
  unfold Lib.indexByte at h
  split at h
  ·cases h
  ·rename_i hb
   split at h
   ·rename_i hi
    intro c hc
    rcases List.mem_cons.1 hc with rfl | hc
    ·simpa using hb
    ·exact ih (by simpa using hi) c hc
   ·have := Lib.indexByte_ge l 46
    omega
theorem index_some (l : Txt) (i : Nat) (h : Lib.indexByte l 46 = i) : i < l.length /\ l = l.take i ++ 46 :: l.drop (i + 1) /\ ∀ b ∈ l.take i,b ≠ 46 := by
 induction l generalizing i with
 |nil => exact absurd h (by unfold Lib.indexByte; omega)
 |cons b l ih =>
  unfold Lib.indexByte at h
  split at h
  ·rename_i hb
   have : b = 46 := by simpa using hb
   subst this
   have hi : i = 0 := by omega
   subst hi
   simp
  ·rename_i hb
   split at h
   ·exact absurd h (by omega)
   ·have hge := Lib.indexByte_ge l 46
    rename_i hne
    have hne' : Lib.indexByte l 46 ≠ -1 := by simpa using hne
    obtain ⟨j,hj⟩ : ∃ j : Nat,Lib.indexByte l 46 = j := ⟨(Lib.indexByte l 46).toNat,by omega⟩
    have hij : i = j + 1 := by omega
    subst hij
    obtain ⟨h1,h2,h3⟩ := ih j hj
    refine ⟨by simp; omega,?_,?_⟩
    ·rw [List.take_succ_cons,List.drop_succ_cons,List.cons_append,<- h2]
    ·intro c hc
     rw [List.take_succ_cons] at hc
     rcases List.mem_cons.1 hc with rfl | hc
     ·simpa using hb
     ·exact h3 c hc
def boxLen (W : World) (B : Nat) : Nat := match W.cell? ⟨B,0,none⟩ with | some (.string t) => t.size | _ => 0
theorem boxLen_eq {W : World} {B : Nat} {t : ByteArray} (h : W.cell? ⟨B,0,none⟩ = some (.string t)) : boxLen W B = t.size := by
 unfold boxLen; rw [h]
def strs (l : List Txt) : List ByteArray := l.map str
theorem index_dot (t : ByteArray) (w : World) : Calls Tryz.prog 371 #[.string t,.string ⟨#[46]⟩] w fun e w' => e = .returned (.int .i64 (Lib.indexByte (txt t) 46)) /\ w' = w :=
 Any.strings_Index_one Tryz.lays143 t 46 w
theorem count_dot (t : ByteArray) (w : World) : Calls Tryz.prog 349 #[.string t,.string ⟨#[46]⟩] w fun e w' => e = .returned (.int .i64 ((txt t).count 46 : Nat)) /\ w' = w :=
 Any.strings_Count_one Tryz.lays138 t 46 w
theorem split1_in (n : Nat) (_hn : 1 <= n) (l Bs : Nat) (s : ByteArray) (hs : s.size <= 1000000) (J : List ByteArray -> World -> Prop)
  (hJ : ∀ pre A B row,J pre A -> A.grownBy B row -> (∀ r,row = some r -> r = Bs) -> J pre B)
  (hY : ∀ pre x W1,J pre W1 -> pre.length < (pieces (txt s)).length -> YieldAt Fence.wide (n - 1) Tryz.prog l #[.string x] W1 fun e W' => e = .returned (.bool true) /\ J (pre ++ [x]) W' /\ Kept Bs (Bs + 3) W1 W')
  (W : World) (hc0 : W.cell? ⟨Bs,0,none⟩ = some (.string s)) (hf0 : W.frozen? ⟨Bs,0,none⟩ = false) (hc1 : W.cell? ⟨Bs + 1,0,none⟩ = some (.string ⟨#[46]⟩)) (hc2 : W.cell? ⟨Bs + 2,0,none⟩ = some (.int .i64 0)) (h0 : J [] W) :
  CallsIn Fence.wide n Tryz.prog 379 #[.func (.yield l) #[] #[],.pointer (some ⟨Bs + 1,0,none⟩),.pointer (some ⟨Bs,0,none⟩),.pointer (some ⟨Bs + 2,0,none⟩)] W fun e W' => (∃ v,e = .returned v) /\ ∃ xs,xs = strs (pieces (txt s)) /\ J xs W' := by
 refine callsIn_of_wp Tryz.func379 rfl trivial ?_ rfl
 simp only [Tryz.ntmps379,List.size_toArray,List.length_cons,List.length_nil,Nat.reduceAdd,Nat.reduceSub,Array.replicate_succ,Array.replicate_zero,List.push_toArray,List.append_toArray,List.nil_append,List.cons_append]
 have hlen1 : ∀ q : ByteArray,q.size <= 1000000 -> (q.size : Int) <= 1000000 := fun q h => by omega
 gi_wp2
 gi_loopw [] (fun wr => ∃ (pre : List ByteArray) (t : ByteArray),strs (pieces (txt s)) = pre ++ strs (pieces (txt t)) /\ t.size <= 1000000 /\ wr.cell? ⟨Bs,0,none⟩ = some (.string t) /\ wr.frozen? ⟨Bs,0,none⟩ = false /\ wr.cell? ⟨Bs + 1,0,none⟩ = some (.string ⟨#[46]⟩) /\ wr.cell? ⟨Bs + 2,0,none⟩ = some (.int .i64 0) /\ J pre wr)
  (fun wr => boxLen wr Bs)
 case atStart => exact ⟨[],s,rfl,hs,hc0,hf0,hc1,hc2,h0⟩
 case round =>
  clear hc0 hf0 hc1 hc2 h0
  obtain ⟨pre,t,hx,ht,hc0,hf0,hc1,hc2,hJp⟩ := hrel
  have hge := Lib.indexByte_ge (txt t) 46
  have HX : Hid _ := hx
  clear hx
  by_cases hi : Lib.indexByte (txt t) 46 = -1
  ·obtain ⟨fn,tmps,assign,body,hy,hR⟩ := hY pre t wr hJp (by
    have := congrArg List.length HX.out
    have h1 := pieces_count (txt t)
    simp [strs] at this
    omega)
   gi_wp2_with (refine ⟨trivial,?_⟩; gi_at_call 371; refine (callsIn_wide.2 (index_dot t _)).mono ?_; rintro e w' ⟨rfl,rfl⟩)
   refine hR.mono ?_
   rintro e W3 ⟨rfl,hJ3,hk3⟩
   gi_wp2
   go_end0
   refine ⟨⟨_,rfl⟩,_,?_,hJ3⟩
   rw [HX.out,pieces_none _ (index_none _ hi)]
   simp [strs,str_txt]
  ·obtain ⟨i,hii⟩ : ∃ i : Nat,Lib.indexByte (txt t) 46 = i := ⟨(Lib.indexByte (txt t) 46).toNat,by omega⟩
   obtain ⟨hlt,heq,hno⟩ := index_some _ _ hii
   rw [txt_length] at hlt
   have HE : Hid _ := heq
   clear hge hi heq
   have hcnt : pre.length < (pieces (txt s)).length := by
    have := congrArg List.length HX.out
    have h1 := pieces_count (txt t)
    simp [strs] at this
    omega
   have hnext : strs (pieces (txt s)) = (pre ++ [t.extract 0 i]) ++ strs (pieces (txt (t.extract (i + 1) t.size))) := by
    rw [HX.out]
    have e0 : t.extract 0 i = str ((txt t).take i) := txt_inj (by rw [txt_str,txt_extract]; simp)
    have e1 : txt (t.extract (i + 1) t.size) = (txt t).drop (i + 1) := by
     rw [txt_extract,List.take_of_length_le (by rw [List.length_drop,txt_length]; exact Nat.le_refl _)]
    rw [e1,e0]
    have h2 := pieces_dot ((txt t).take i) ((txt t).drop (i + 1)) hno
    rw [<- HE.out] at h2
    rw [h2]
    simp [strs]
   have HN : Hid _ := hnext
   clear hnext
   obtain ⟨fn,tmps,assign,body,hy,hR⟩ := hY pre (t.extract 0 i) wr hJp hcnt
   gi_wp2_with (refine ⟨trivial,?_⟩; gi_at_call 371; refine (callsIn_wide.2 (index_dot t _)).mono ?_; rintro e w' ⟨rfl,rfl⟩)
   refine hR.mono ?_
   rintro e W3 ⟨rfl,hJ3,hk3⟩
   have d0 := (hk3.cell Bs 0 (by omega) (by omega)).trans hc0
   have d1 := (hk3.cell (Bs + 1) 0 (by omega) (by omega)).trans hc1
   have d2 := (hk3.cell (Bs + 2) 0 (by omega) (by omega)).trans hc2
   have df := (hk3.frozen Bs 0 (by omega) (by omega)).trans hf0
   gi_wp2
   go_roundw
   case rel =>
    have oth : ∀ b,b ≠ Bs -> ∀ v,(W3.setCell ⟨Bs,0,none⟩ v).cell? ⟨b,0,none⟩ = W3.cell? ⟨b,0,none⟩ := fun b hb v => by
     by_cases hlt' : b < W3.heap.size
     ·exact World.cell?_of_block (a := ⟨b,0,none⟩) ((grownBy_setCell' W3 Bs v).block b hlt' (fun e => hb (by cases e; rfl)))
     ·rw [World.cell?_setCell_other]; intro e; apply hb; cases e; rfl
    refine ⟨pre ++ [t.extract 0 i],t.extract (i + 1) t.size,HN.out,?_,?_,by rw [World.frozen?_setCell]; exact df,(oth _ (by omega) _).trans d1,(oth _ (by omega) _).trans d2,hJ _ _ _ _ hJ3 (grownBy_setCell' W3 Bs _) (fun r e => by cases e; rfl)⟩
    ·rw [ByteArray.size_extract]; omega
    ·exact World.cell?_setCell_same' _ _ _ (by rw [d0]; rfl)
   case measure =>
    rw [boxLen_eq hc0,boxLen_eq (t := t.extract (i + 1) t.size) (World.cell?_setCell_same' _ _ _ (by rw [d0]; rfl)),ByteArray.size_extract]
    omega
theorem splitSeq_any (s : ByteArray) (w : World) :
  Calls Tryz.prog 350 #[.string s,.string ⟨#[46]⟩] w fun e w' =>
   e = .returned (.func (.func 379) #[] #[.pointer (some ⟨w.heap.size + 1,0,none⟩),.pointer (some ⟨w.heap.size,0,none⟩),.pointer (some ⟨w.heap.size + 2,0,none⟩)]) /\
   w' = ((w.alloc (.cells #[.string s] 9)).alloc (.cells #[.string ⟨#[46]⟩] 9)).alloc (.cells #[.int .i64 0] 3) := by
 go_enter Tryz.func350,Tryz.ntmps350
 go_wp2
 go_ret
 exact ⟨rfl,rfl⟩
theorem split_seq (n : Nat) (hn : 1 <= n) (Bs : Nat) (s : ByteArray) (hs : s.size <= 1000000) (w : World) (hw : Bs + 3 = w.heap.size) (hc0 : w.cell? ⟨Bs,0,none⟩ = some (.string s)) (hf0 : w.frozen? ⟨Bs,0,none⟩ = false)
  (hc1 : w.cell? ⟨Bs + 1,0,none⟩ = some (.string ⟨#[46]⟩)) (hc2 : w.cell? ⟨Bs + 2,0,none⟩ = some (.int .i64 0)) :
  SeqBox Fence.wide n Tryz.prog 379 #[.pointer (some ⟨Bs + 1,0,none⟩),.pointer (some ⟨Bs,0,none⟩),.pointer (some ⟨Bs + 2,0,none⟩)] (fun x : ByteArray => #[Value.string x]) Bs Bs w.heap.size (fun xs => xs = strs (pieces (txt s))) (pieces (txt s)).length w := by
 intro l J W hW hJ hY h0
 rw [<- hw] at hY
 exact split1_in n hn l Bs s hs J hJ hY W ((hW.cell (p := ⟨Bs,0,none⟩) (by show Bs < _; omega)).trans hc0) ((hW.frozen (p := ⟨Bs,0,none⟩) (by show Bs < _; omega)).trans hf0)
  ((hW.cell (p := ⟨Bs + 1,0,none⟩) (by show Bs + 1 < _; omega)).trans hc1) ((hW.cell (p := ⟨Bs + 2,0,none⟩) (by show Bs + 2 < _; omega)).trans hc2) h0
end Go.Proofs.YtjagaankkcbjmaaGreatDoor
namespace Go.Proofs.YtjagaankkcbjmaaGreatDoor
open Go.RowKit Go.Shelf
attribute [local go_sem] Oper.semAt_some
def scells (l : List ByteArray) : List Value := l.map Value.string
theorem scells_length (l : List ByteArray) : (scells l).length = l.length := by simp [scells]
theorem scells_append (a b : List ByteArray) : scells (a ++ b) = scells a ++ scells b := by simp [scells]
theorem elemS : Elem Tryz.prog 43 9 (.string ⟨#[]⟩) 16 :=
 ⟨Tryz.underlying43,by
  have h : (Tryz.prog.info? 9).map (fun i => (i.zero,i.size,i.bytes)) = some (some (.string ⟨#[]⟩),1,16) := by kernel_rfl
  cases hi : Tryz.prog.info? 9 with
  |none => rw [hi] at h; cases h
  |some i => rw [hi] at h; simp at h; exact ⟨i,rfl,h.1,h.2.1,h.2.2⟩,rfl⟩
theorem run_make1 {P : Program} (w : World) (t e : TypeId) (z : Value) (by' : Nat) (U : Elem P t e z by') (k c : Nat) (hk : k <= c) (hc : c <= 1000000000) (hb : by' <= 16) :
  ∃ C : Array Value,(Instr.makeSlice t (.int .i64 (k : Int)) (.int .i64 (c : Int))).run P w = .ok (.slice (some ⟨w.heap.size,0,none⟩) k c) (w.alloc (.cells C e)) /\ C.size = c := by
 obtain ⟨i,hi,hz,hsz,hby⟩ := U.info
 have hr := run_make (P := P) w t e i z U.ht hi hz .i64 .i64 k c (by omega) (by omega) (by rw [hby]; have h1 : by' * c <= 16 * 1000000000 := Nat.mul_le_mul hb hc; have h2 : ((by' * c : Nat) : Int) = (by' : Int) * (c : Int) := Int.natCast_mul _ _; omega) (by omega)
 simp only [Int.toNat_natCast] at hr
 exact ⟨_,hr,by rw [size_madeCells,hsz]; omega⟩
theorem words_in (s : ByteArray) (w : World) (hs : s.size <= 1000000) (hs0 : s ≠ ⟨#[]⟩) :
  CallsIn Fence.wide 3 Tryz.prog 299 #[.string s] w fun e W' => ∃ v,e = .returned v /\ Own1 W' w.heap.size 9 v (scells (strs (pieces (txt s)))) /\ Below w.heap.size w W' := by
 have hcn : (txt s).count 46 <= 1000000 := Nat.le_trans List.count_le_length (by rw [txt_length]; exact hs)
 have hpc := pieces_count (txt s)
 have hne : s.toList.isEmpty = false := by
  rw [ByteArray.toList_eq]
  cases h : s.data.toList with
  |nil => exact absurd (txt_inj (show txt s = txt ⟨#[]⟩ from h)) hs0
  |cons b l => rfl
 obtain ⟨C,hmk,hC⟩ := run_make1 (P := Tryz.prog) w 43 9 _ 16 elemS 0 ((txt s).count 46 + 1) (by omega) (by omega) (by omega)
 have hmk' : (Instr.makeSlice 43 (.int .i64 0) (.int .i64 (((txt s).count 46 : Nat) + 1 : Int))).run Tryz.prog w = _ := hmk
 clear hmk
 refine callsIn_of_wp_marks Tryz.func299 rfl trivial ?_ rfl
 simp only [Tryz.ntmps299,List.size_toArray,List.length_cons,List.length_nil,Nat.reduceAdd,Nat.reduceSub,Array.replicate_succ,Array.replicate_zero,List.push_toArray,List.append_toArray,List.nil_append,List.cons_append]
 gi_wp2_with (first
  |(refine ⟨trivial,?_⟩; gi_at_call 349; refine (callsIn_wide.2 (count_dot s _)).mono ?_; rintro e w ⟨rfl,rfl⟩)
  |(refine ⟨trivial,?_⟩; gi_at_call 350; refine (callsIn_wide.2 (splitSeq_any s _)).mono ?_; rintro e w' ⟨rfl,rfl⟩))
 obtain ⟨W0,hW0⟩ : ∃ W0,((((w.alloc (.cells C 9)).alloc (.cells #[.slice (some ⟨w.heap.size,0,none⟩) 0 ((txt s).count 46 + 1)] 43)).alloc (.cells #[.string s] 9)).alloc (.cells #[.string ⟨#[46]⟩] 9)).alloc (.cells #[.int .i64 0] 3) = W0 := ⟨_,rfl⟩
 have hsz : W0.heap.size = w.heap.size + 5 := by rw [<- hW0]; simp
 have hbx : Boxed W0 (w.heap.size + 1) 43 (.slice (some ⟨w.heap.size,0,none⟩) 0 ((txt s).count 46 + 1)) := by
  have := ((Boxed.new (w.alloc (.cells C 9)) 43 (.slice (some ⟨w.heap.size,0,none⟩) 0 ((txt s).count 46 + 1))).alloc (.cells #[.string s] 9)).alloc (.cells #[.string ⟨#[46]⟩] 9) |>.alloc (.cells #[.int .i64 0] 3)
  rw [hW0,World.size_alloc] at this
  exact this
 have hb0 : Boxed W0 (w.heap.size + 2) 9 (.string s) := by
  have := ((Boxed.new ((w.alloc (.cells C 9)).alloc (.cells #[.slice (some ⟨w.heap.size,0,none⟩) 0 ((txt s).count 46 + 1)] 43)) 9 (.string s)).alloc (.cells #[.string ⟨#[46]⟩] 9)).alloc (.cells #[.int .i64 0] 3)
  rw [hW0,World.size_alloc,World.size_alloc] at this
  exact this
 have hb1 : Boxed W0 (w.heap.size + 3) 9 (.string ⟨#[46]⟩) := by
  have := (Boxed.new (((w.alloc (.cells C 9)).alloc (.cells #[.slice (some ⟨w.heap.size,0,none⟩) 0 ((txt s).count 46 + 1)] 43)).alloc (.cells #[.string s] 9)) 9 (.string ⟨#[46]⟩)).alloc (.cells #[.int .i64 0] 3)
  rw [hW0,World.size_alloc,World.size_alloc,World.size_alloc] at this
  exact this
 have hb2 : Boxed W0 (w.heap.size + 4) 3 (.int .i64 0) := by
  have := Boxed.new ((((w.alloc (.cells C 9)).alloc (.cells #[.slice (some ⟨w.heap.size,0,none⟩) 0 ((txt s).count 46 + 1)] 43)).alloc (.cells #[.string s] 9)).alloc (.cells #[.string ⟨#[46]⟩] 9)) 3 (.int .i64 0)
  rw [hW0,World.size_alloc,World.size_alloc,World.size_alloc,World.size_alloc] at this
  exact this
 have hrow0 : W0.ownsRow w.heap.size 9 1 (.slice (some ⟨w.heap.size,0,none⟩) 0 ((txt s).count 46 + 1)) 0 [] := by
  have := World.ownsRow_made (base := w.heap.size) (e := 9) (size := 1) w C ((txt s).count 46 + 1) (Nat.le_refl _) (by unfold maxLen; omega) (by omega)
  have := (((this.alloc (.cells #[.slice (some ⟨w.heap.size,0,none⟩) 0 ((txt s).count 46 + 1)] 43)).alloc (.cells #[.string s] 9)).alloc (.cells #[.string ⟨#[46]⟩] 9)).alloc (.cells #[.int .i64 0] 3)
  rw [hW0] at this
  exact this
 have hbel : Below w.heap.size w W0 := by
  rw [<- hW0]
  exact (((((Below.refl _ w).alloc (Nat.le_refl _) _).alloc (by simp) _).alloc (by simp; omega) _).alloc (by simp; omega) _).alloc (by simp; omega) _
 rw [hW0]
 clear hW0
 refine wpIn_range_box rfl (by decide) (gf := 379) (lb := #[.pointer (some ⟨w.heap.size + 2 + 1,0,none⟩),.pointer (some ⟨w.heap.size + 2,0,none⟩),.pointer (some ⟨w.heap.size + 2 + 2,0,none⟩)]) rfl trivial (enters_of Tryz.func379 (by kernel_rfl) rfl)
  (Bs := w.heap.size + 2) (lo := w.heap.size + 2) (by omega) (split_seq _ (by decide) (w.heap.size + 2) s hs W0 (by omega) hb0.cell hb0.frozen hb1.cell hb2.cell) (fun _ => rfl)
  (fun pre W => (pre.length <= (txt s).count 46 + 1 /\ w.heap.size + 5 <= W.heap.size) /\ Boxed W (w.heap.size + 1) 43 (.slice (some ⟨w.heap.size,0,none⟩) pre.length ((txt s).count 46 + 1)) /\ W.ownsRow w.heap.size 9 1 (.slice (some ⟨w.heap.size,0,none⟩) pre.length ((txt s).count 46 + 1)) pre.length (scells pre) /\ Below w.heap.size w W)
  ?own ⟨⟨by simp,by omega⟩,hbx,hrow0,hbel⟩
  (fun x => { tmps := #[.string s,undef,.slice none 0 0,.pointer (some ⟨w.heap.size + 1,0,none⟩),.string x,.string s,.bool false,.string s,.int .i64 ((txt s).count 46 : Nat),.int .i64 (((txt s).count 46 : Nat) + 1),.slice (some ⟨w.heap.size,0,none⟩) 0 ((txt s).count 46 + 1),.string s,
   .func (.func 379) #[] #[.pointer (some ⟨w.heap.size + 2 + 1,0,none⟩),.pointer (some ⟨w.heap.size + 2,0,none⟩),.pointer (some ⟨w.heap.size + 2 + 2,0,none⟩)],.string x,undef,undef,undef,undef,undef],defers := [] }) ?assign ?body ?done
 case own =>
  rintro pre A B row ⟨hle,hv,hr,hB⟩ hg hrow
  have n0 : some w.heap.size ≠ row := by
   intro e
   rcases hrow _ e.symm with h | ⟨h,_⟩ <;> omega
  have n1 : some (w.heap.size + 1) ≠ row := by
   intro e
   rcases hrow _ e.symm with h | ⟨h,_⟩ <;> omega
  refine ⟨⟨hle.1,Nat.le_trans hle.2 hg.size⟩,hv.kept hg n1,hr.kept hg (.inr (by simpa [Value.ownBlock] using n0)),hB.grown hg hB.size (fun k e => ?_)⟩
  rcases hrow _ e with h | ⟨h,_⟩ <;> omega
 case assign =>
  intro l x W K hK
  gi_wp2
  exact hK
 case body =>
  rintro l pre x W ⟨hle,hv,hrow,hB⟩ hlt
  have hl2 : pre.length < (txt s).count 46 + 1 := by omega
  have hc := hv.cell
  have hsW : w.heap.size + 5 <= W.heap.size := hle.2
  obtain ⟨i0,hi,hz0,hz1,hz2⟩ := elemS.info
  gi_wp2_with (gi_at_builtin; refine wpListIn_append_fits _ rfl _ _ 43 rfl w.heap.size 9 i0 1 Tryz.underlying43 hi hz1 w.heap.size pre.length _ (scells pre) rfl (hrow.alloc _) ⟨W.heap.size,0,none⟩ 1 1 [.string x] rfl rfl (cell_one_new _ _ _) (by simp [Value.oneCell']) (by omega) ?_; intro w1 hown' hgrow; have hv1 := (hv.alloc (.cells #[.string x] 9)).kept hgrow (by simp; try omega); have hc1 := hv1.cell; have hf1 := hv1.frozen)
  have hw1 := hgrow.size
  simp at hw1
  refine ⟨((KeepsOthers.alloc W _).from _).trans ((KeepsFrom.of_grownBy hgrow (fun j e => by cases e; omega)).trans ((KeepsOthers.setCell _ _ _).from _)),?_,⟨by omega,by omega⟩,hv1.set _,?_,?_⟩
  ·intro b h1 h2
   rw [(grownBy_setCell' w1 (w.heap.size + 1) _).block b (by omega) (by simp; omega),hgrow.block b (by simp; omega) (by simp; omega)]
   exact Below.heap_alloc W _ b (by omega)
  ·rw [scells_append]
   exact hown'.kept (grownBy_setCell' w1 _ _) (.inr (by simp [Value.ownBlock]))
  ·exact ((hB.alloc hB.size _).grown hgrow (by simp; omega) (fun k e => by cases e; exact Nat.le_refl _)).setCell (p := ⟨w.heap.size + 1,0,none⟩) (by show w.heap.size <= w.heap.size + 1; omega) _
 case done =>
  rintro D ys W hD rfl ⟨hle,hv,hrow,hB⟩ hK
  have hc := hv.cell
  gi_wp2
  refine ⟨by simp,.inl ⟨_,_,rfl,run_takeDeferred hK,?_⟩⟩
  refine ⟨_,results_tmp rfl _ _ _,_,rfl,?_,hB.trans (belowK_b (w := w) (Nat.le_refl _) W D _ _ (by omega) hK rfl rfl)⟩
  have := ownsRow_putObj hrow (.deferred none) hK rfl
  unfold Own1
  rw [scells_length]
  exact this
theorem wordsL_txt (s : ByteArray) (h : s ≠ ⟨#[]⟩) : wordsL (txt s) = pieces (txt s) := by
 unfold wordsL
 rw [if_neg]
 intro e
 apply h
 apply txt_inj
 rw [List.isEmpty_iff.1 e]; rfl
theorem words_any (s : ByteArray) (w : World) (hs : s.size <= 1000000) :
  Calls Tryz.prog 299 #[.string s] w fun e W' => ∃ v,e = .returned v /\ Own1 W' w.heap.size 9 v (scells (strs (wordsL (txt s)))) /\ Below w.heap.size w W' := by
 by_cases h : s = ⟨#[]⟩
 ·subst h
  go_enter Tryz.func299,Tryz.ntmps299
  go_wp2
  go_ret
  exact ⟨_,rfl,own1_nil _ _ _,Below.refl _ _⟩
 ·rw [wordsL_txt s h]
  exact callsIn_wide.1 (words_in s w hs h)
def cutP : Txt -> List Txt × Txt
 |[] => ([],[])
 |b :: l => let r := cutP l; if b = 46 then ([] :: r.1,r.2) else match r.1 with
  |[] => ([],b :: r.2)
  |p :: ps => ((b :: p) :: ps,r.2)
theorem pieces_cut (l : Txt) : pieces l = (cutP l).1 ++ [(cutP l).2] := by
 induction l with
 |nil => rfl
 |cons b l ih =>
  unfold pieces cutP
  rw [ih]
  split
  ·simp
  ·cases h : (cutP l).1 with
   |nil => simp [h]
   |cons p ps => simp [h]
theorem cutP_dot (l : Txt) : cutP (l ++ [46]) = ((cutP l).1 ++ [(cutP l).2],[]) := by
 induction l with
 |nil => rfl
 |cons b l ih =>
  rw [List.cons_append,cutP,cutP,ih]
  by_cases hb : b = 46
  ·simp [hb]
  ·cases h : (cutP l).1 with
   |nil => simp [hb]
   |cons p ps => simp [hb]
theorem cutP_snoc (l : Txt) (c : UInt8) (hc : c ≠ 46) : cutP (l ++ [c]) = ((cutP l).1,(cutP l).2 ++ [c]) := by
 induction l with
 |nil => simp [cutP,hc]
 |cons b l ih =>
  rw [List.cons_append,cutP,cutP,ih]
  by_cases hb : b = 46
  ·simp [hb]
  ·cases h : (cutP l).1 with
   |nil => simp [hb]
   |cons p ps => simp [hb]
theorem cutP_len (l : Txt) : (cutP l).1.length <= l.length /\ (cutP l).2.length <= l.length := by
 induction l with
 |nil => simp [cutP]
 |cons b l ih =>
  unfold cutP
  by_cases hb : b = 46
  ·simp [hb]; omega
  ·cases h : (cutP l).1 with
   |nil => simp [hb,h]; omega
   |cons p ps => simp [hb,h] at ih ⊢; omega
end Go.Proofs.YtjagaankkcbjmaaGreatDoor
namespace Go.Proofs.YtjagaankkcbjmaaGreatDoor
open Go.RowKit Go.Shelf
theorem strs_append (a b : List Txt) : strs (a ++ b) = strs a ++ strs b := by simp [strs]
theorem strs_length (a : List Txt) : (strs a).length = a.length := by simp [strs]
theorem run_sub {P : Program} (W : World) (t : TypeId) (h : P.underlying t = some .string) (s : ByteArray) (i j : Nat) (hij : i <= j) (hj : j <= s.size) (i' j' : Int) (hi' : i' = i) (hj' : j' = j) :
  (Instr.slice t (.string s) (some (.int .i64 i')) (some (.int .i64 j')) none).run P W = .ok (.string (s.extract i j)) W := by
 subst hi' hj'
 rw [run_slice_string_if W t s .i64 .i64 i j h,if_pos (by omega),if_pos (by omega)]
 simp
theorem run_plus {P : Program} (W : World) (a b : ByteArray) (ha : a.size <= 8388608) (hb : b.size <= 8388608) :
  (Op.stringOp .add a b).run P W = .ok (.string (str (txt a ++ txt b))) W := by
 rw [run_string_add W a b (by omega) (by omega)]
 congr 2
theorem rwords_in (s : ByteArray) (w : World) (hs : s.size <= 1000000) (hs0 : s ≠ ⟨#[]⟩) :
  Calls Tryz.prog 240 #[.string s] w fun e W' => ∃ v,e = .returned v /\ Own1 W' w.heap.size 9 v (scells (strs (pieces (txt s)))) /\ Below w.heap.size w W' := by
 have hne : s.toList.isEmpty = false := by
  rw [ByteArray.toList_eq]
  cases h : s.data.toList with
  |nil => exact absurd (txt_inj (show txt s = txt ⟨#[]⟩ from h)) hs0
  |cons b l => rfl
 have hpc := pieces_cut (txt s)
 go_enter Tryz.func240,Tryz.ntmps240
 go_wp2
 go_loopw [3,4,5] (fun l p i wr => ∃ k : Nat,k <= s.size /\ i = .int .i64 k /\ p = .string (str (cutP ((txt s).take k)).2) /\ Own1 wr w.heap.size 9 l (scells (strs (cutP ((txt s).take k)).1)) /\ Below w.heap.size w wr) (fun _ _ i _ => s.size - (intOf i).toNat)
 case atStart => exact ⟨0,Nat.zero_le _,rfl,rfl,own1_nil _ _ _,Below.refl _ _⟩
 case round =>
  obtain ⟨k,hk,rfl,rfl,hown,hB⟩ := hrel
  have hln := cutP_len ((txt s).take k)
  have hlk : ((txt s).take k).length <= k := List.length_take_le _ _
  have hsl := hB.size
  by_cases hlt : k < s.size
  ·have hsn := txt_snoc s k hlt
   by_cases hd : s[k] = 46
   ·have hcd := cutP_dot ((txt s).take k)
    rw [hd] at hsn
    rw [<- hsn] at hcd
    have HC : Hid _ := hcd
    clear hcd hsn
    go_wp2_with (at_builtin; refine wpList_append_row rfl _ _ 43 9 (.string ⟨#[]⟩) 16 elemS rfl w.heap.size _ _ (scells (strs (cutP ((txt s).take k)).1)) [.string (str (cutP ((txt s).take k)).2)] rfl rfl (hown.alloc _) (row_one _ _ _) (by simp [Value.oneCell']) (by simp [scells,strs]; omega) (by simp [scells,strs]; omega) (by simp; omega) ?_; intro v' w1 hown' hb1 hs1)
    go_roundw
    case rel =>
     refine ⟨k + 1,by omega,by go_num,by rw [HC.out]; rfl,?_,((hB.alloc hsl _).trans (hb1.mono (by omega)))⟩
     rw [HC.out,strs_append,scells_append]
     exact hown'
    case measure => simp [intOf]; omega
   ·have hd' : ¬ ((s[k].toNat : Int) = 46) := fun e => hd (UInt8.toNat_inj.1 (show s[k].toNat = 46 by omega))
    have hcd := cutP_snoc ((txt s).take k) s[k] hd
    rw [<- hsn] at hcd
    have HC : Hid _ := hcd
    clear hcd hsn
    have hsub : ∀ W,(Instr.slice 9 (.string s) (some (.int .i64 (k : Int))) (some (.int .i64 ((k : Int) + 1))) none).run Tryz.prog W = .ok (.string (s.extract k (k + 1))) W := fun W => run_sub W 9 Tryz.underlying9 s k (k + 1) (by omega) (by omega) _ _ rfl (by omega)
    have hadd : ∀ W,(Op.stringOp .add (str (cutP ((txt s).take k)).2) (s.extract k (k + 1))).run Tryz.prog W = .ok (.string (str ((cutP ((txt s).take k)).2 ++ [s[k]]))) W := fun W => by
     rw [run_plus W _ _ (by rw [<- txt_length,txt_str]; omega) (by rw [ByteArray.size_extract]; omega),txt_str,txt_extract]
     congr 4
     rw [show k + 1 - k = 1 by omega,List.drop_eq_getElem_cons (by rw [txt_length]; omega),List.take_succ_cons,List.take_zero]
     rfl
    go_wp2
    go_roundw
    case rel =>
     refine ⟨k + 1,by omega,by go_num,?_,by rw [HC.out]; exact hown,hB⟩
     rw [HC.out]
    case measure => simp [intOf]; omega
  ·have htk : (txt s).take k = txt s := List.take_of_length_le (by rw [txt_length]; omega)
   rw [htk] at hown hln ⊢
   clear htk hlk
   rw [txt_length] at hln
   have HP : Hid _ := hpc
   clear hpc
   go_wp2_with (at_builtin; refine wpList_append_row rfl _ _ 43 9 (.string ⟨#[]⟩) 16 elemS rfl w.heap.size _ _ (scells (strs (cutP (txt s)).1)) [.string (str (cutP (txt s)).2)] rfl rfl (hown.alloc _) (row_one _ _ _) (by simp [Value.oneCell']) (by simp [scells,strs]; omega) (by simp [scells,strs]; omega) (by simp; omega) ?_; intro v' w1 hown' hb1 hs1)
   go_ret
   refine ⟨_,rfl,?_,(hB.alloc hsl _).trans hb1⟩
   rw [HP.out,strs_append,scells_append]
   exact hown'
theorem rwords_any (s : ByteArray) (w : World) (hs : s.size <= 1000000) :
  Calls Tryz.prog 240 #[.string s] w fun e W' => ∃ v,e = .returned v /\ Own1 W' w.heap.size 9 v (scells (strs (wordsL (txt s)))) /\ Below w.heap.size w W' := by
 by_cases h : s = ⟨#[]⟩
 ·subst h
  go_enter Tryz.func240,Tryz.ntmps240
  go_wp2
  go_ret
  exact ⟨_,rfl,own1_nil _ _ _,Below.refl _ _⟩
 ·rw [wordsL_txt s h]
  exact rwords_in s w hs h
end Go.Proofs.YtjagaankkcbjmaaGreatDoor
