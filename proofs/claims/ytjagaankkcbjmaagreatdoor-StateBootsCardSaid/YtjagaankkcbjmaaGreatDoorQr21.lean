import Derived.Test.YtjagaankkcbjmaaGreatDoorQr1
import Derived.Test.YtjagaankkcbjmaaGreatDoorQr3
import Derived.Test.YtjagaankkcbjmaaGreatDoorQr16
import Derived.DeepKeys4
namespace Go.Proofs.YtjagaankkcbjmaaGreatDoor
open Go.RowKit Go.Maps
abbrev Pe := ByteArray × Nat
def ptrO : Option Nat -> Value
 |none => .pointer none
 |some b => .pointer (some ⟨b,0,none⟩)
def rdP (v : Value) : Option (DataW (Option Nat) × List MemPlace) := match v with
 | .pointer none => some (.held none,[])
 | .pointer (some a) => if a.off = 0 /\ a.spot = none then some (.held (some a.block),[]) else none
 |_ => none
theorem rdP_ptr (o : Option Nat) : rdP (ptrO o) = some (.held o,[]) := by cases o <;> simp [rdP,ptrO]
theorem rdP_inv {v : Value} {z : DataW (Option Nat) × List MemPlace} (h : rdP v = some z) : ∃ o,v = ptrO o /\ z = (.held o,[]) := by
 unfold rdP at h
 split at h
 ·injection h with h
  exact ⟨none,rfl,h.symm⟩
 ·rename_i a
  split at h
  ·rename_i ha
   injection h with h
   refine ⟨some a.block,?_,h.symm⟩
   obtain ⟨b,o,s⟩ := a
   obtain ⟨h1,h2⟩ := ha
   simp only at h1 h2
   subst h1 h2
   rfl
  ·cases h
 ·cases h
def pkl (x : Pe) : Lit := .string x.1.data.toList
def pd (x : Pe) : DataW (Option Nat) := .held (some x.2)
theorem sKeyed : Keyed Tryz.prog 9 := string_keyed Tryz.underlying9
theorem keyOf_str {s : ByteArray} (h : s.size <= maxLen) : keyOf Tryz.prog 9 (.string s) = some (.string s.data.toList) := by
 have hu := Tryz.underlying9
 simp [keyOf,hu,mapKey,h]
theorem skey_inv {key : Value} {z : Lit} (h : keyOf Tryz.prog 9 key = some z) : ∃ s : ByteArray,key = .string s /\ z = .string s.data.toList := by
 have hu := Tryz.underlying9
 simp only [keyOf,hu,mapKey] at h
 cases key <;> simp at h
 rename_i s
 exact ⟨s,rfl,h.2.symm⟩
theorem str_inj {a b : ByteArray} (h : Lit.string a.data.toList = .string b.data.toList) : a = b := by
 injection h with h
 exact B.arr_inj h
structure DL (l : List Pe) : Prop where
 diff : Diff pkl l
 fit : ∀ x ∈ l,x.1.size <= maxLen
theorem DL.keys {l : List Pe} (h : DL l) : ∀ x ∈ l,KeysOf Tryz.prog 9 (pkl x) := fun x hx => ⟨_,keyOf_str (h.fit x hx)⟩
theorem DL.perm {l l' : List Pe} (h : DL l) (hp : l'.Perm l) : DL l' := ⟨h.diff.perm hp,fun x hx => h.fit x (hp.mem_iff.1 hx)⟩
def DAt (w : World) (b : Nat) (l : List Pe) : Prop := w.ownsMap Tryz.prog 9 rdP b l.length (DofG pkl pd l)
theorem DAt.same {w w' : World} {b : Nat} {l : List Pe} (h : DAt w b l) (hs : w'.heap[b]? = w.heap[b]?) : DAt w' b l := by
 obtain ⟨es,clock,hb,r⟩ := h
 exact ⟨es,clock,by rw [hs]; exact hb,r⟩
theorem DAt.lt {w : World} {b : Nat} {l : List Pe} (h : DAt w b l) : b < w.heap.size := World.ownsMap.lt h
theorem dAt_new (w : World) : DAt (w.alloc (.map #[] 0)) w.heap.size [] := World.ownsMap_made w _ _ _
theorem DAt.perm {w : World} {b n : Nat} {l l' : List Pe} (h : w.ownsMap Tryz.prog 9 rdP b n (DofG pkl pd l')) (hl : DL l) (hp : l'.Perm l) : DAt w b l := by
 rw [DofG_perm sKeyed.one hl.keys hl.diff hp] at h
 exact ownsMapG_fit h
theorem DAt.permTo {w : World} {b : Nat} {l l' : List Pe} (h : DAt w b l') (hl : DL l) (hp : l'.Perm l) : DAt w b l := DAt.perm h hl hp
def findP (l : List Pe) (s : ByteArray) : Option Pe := l.find? fun x => decide (x.1 = s)
theorem findP_some {l : List Pe} {s : ByteArray} {x : Pe} (h : findP l s = some x) : x ∈ l /\ x.1 = s := ⟨List.mem_of_find?_eq_some h,by simpa using List.find?_some h⟩
theorem findP_none {l : List Pe} {s : ByteArray} (h : findP l s = none) : ∀ x ∈ l,x.1 ≠ s := fun x hx => by simpa using List.find?_eq_none.1 h x hx
theorem DAt.len {w : World} {b : Nat} {l : List Pe} (h : DAt w b l) (ty : TypeId) : (Builtin.len_ #[92] ty #[.map (some b)]).run Tryz.prog w = .ok (.int .i64 (l.length : Nat)) w := by
 have := World.ownsMap.len h Tryz.underlying92 ty
 rw [size_DofG] at this
 exact this
theorem DAt.look {w : World} {b : Nat} {l : List Pe} (h : DAt w b l) (hl : DL l) {s : ByteArray} (hs : s.size <= maxLen) :
  (Instr.lookup 92 (.map (some b)) (.string s) false).run Tryz.prog w = .ok (ptrO ((findP l s).map Prod.snd)) w := by
 obtain ⟨v,ps,h1,h2⟩ := World.ownsMap.lookup h sKeyed Tryz.underlying92 (Tryz.zeroValue153 w) (zd := .held none) (zp := []) (rdP_ptr none) (keyOf_str hs)
 obtain ⟨o,rfl,hx⟩ := rdP_inv h2
 rw [h1]
 cases hf : findP l s with
 |none =>
  have hne : ∀ y ∈ l,pkl y ≠ .string s.data.toList := fun y hy e => findP_none hf y hy (str_inj e)
  rw [atKey_none hne] at hx
  simp at hx
  rw [<- hx.1]
  rfl
 |some y =>
  obtain ⟨hy,rfl⟩ := findP_some hf
  rw [show Lit.string y.1.data.toList = pkl y from rfl,atKey_mem sKeyed.one hl.keys hl.diff hy] at hx
  simp [pd] at hx
  rw [<- hx.1]
  rfl
theorem DAt.look2 {w : World} {b : Nat} {l : List Pe} (h : DAt w b l) (hl : DL l) {s : ByteArray} (hs : s.size <= maxLen) :
  (Instr.lookup 92 (.map (some b)) (.string s) true).run Tryz.prog w = .ok (.tuple #[ptrO ((findP l s).map Prod.snd),.bool (findP l s).isSome]) w := by
 obtain ⟨v,ps,h1,h2⟩ := World.ownsMap.look_ok h sKeyed Tryz.underlying92 (Tryz.zeroValue153 w) (zd := .held none) (zp := []) (rdP_ptr none) (keyOf_str hs)
 obtain ⟨o,rfl,hx⟩ := rdP_inv h2
 rw [h1]
 cases hf : findP l s with
 |none =>
  have hne : ∀ y ∈ l,pkl y ≠ .string s.data.toList := fun y hy e => findP_none hf y hy (str_inj e)
  rw [atKey_none hne] at hx
  rw [has_DofG_false sKeyed.one ⟨_,keyOf_str hs⟩ hne]
  simp at hx
  rw [<- hx.1]
  rfl
 |some y =>
  obtain ⟨hy,rfl⟩ := findP_some hf
  rw [show Lit.string y.1.data.toList = pkl y from rfl,atKey_mem sKeyed.one hl.keys hl.diff hy] at hx
  rw [show Lit.string y.1.data.toList = pkl y from rfl,(has_DofG sKeyed.one (hl.keys y hy)).2 ⟨y,hy,rfl⟩]
  simp [pd] at hx
  rw [<- hx.1]
  rfl
theorem DAt.put {w : World} {b : Nat} {l : List Pe} (h : DAt w b l) (hl : DL l) {s : ByteArray} (hs : s.size <= maxLen) (q : Nat) (hn : ∀ y ∈ l,y.1 ≠ s) (hlen : l.length <= 1000000000) :
  ∃ w',(Instr.mapUpdate 92 (.map (some b)) (.string s) (.pointer (some ⟨q,0,none⟩))).run Tryz.prog w = .ok () w' /\ DAt w' b ((s,q) :: l) /\ w.grownBy w' (some b) := by
 obtain ⟨w',h1,h2,h3⟩ := World.ownsMap.update h sKeyed Tryz.underlying92 (by unfold maxLen; omega) (keyOf_str hs) (rdP_ptr (some q))
 refine ⟨w',h1,?_,h3⟩
 have e : (DofG pkl pd l).put (.string s.data.toList) (.held (some q)) = DofG pkl pd ((s,q) :: l) := put_new sKeyed.one hl.keys hl.diff (x := (s,q)) ⟨_,keyOf_str hs⟩ (fun y hy e => hn y hy (str_inj e))
 rw [e] at h2
 exact ownsMapG_fit h2
set_option maxRecDepth 20000 in
theorem DAt.del {w : World} {b : Nat} {l : List Pe} (h : DAt w b l) (hl : DL l) {s : ByteArray} (hs : s.size <= maxLen) :
  ∃ f : TypeId -> World,∀ ty,(Builtin.delete_ #[92,9] ty #[.map (some b),.string s]).run Tryz.prog w = .ok (.tuple #[]) (f ty) /\ DAt (f ty) b (l.filter fun y => !decide (y.1 = s)) /\ w.grownBy (f ty) (some b) := by
 have each : ∀ ty : TypeId,∃ w',(Builtin.delete_ #[92,9] ty #[.map (some b),.string s]).run Tryz.prog w = .ok (.tuple #[]) w' /\ DAt w' b (l.filter fun y => !decide (y.1 = s)) /\ w.grownBy w' (some b) := fun ty => by
  obtain ⟨w',h1,h2,h3⟩ := World.ownsMap.drop h sKeyed Tryz.underlying92 (keyOf_str hs) ty
  refine ⟨w',h1,?_,h3.grown⟩
  rw [del_DofG sKeyed.one hl.keys hl.diff] at h2
  have e : (l.filter fun y => !(pkl y).sameKey (.string s.data.toList)) = l.filter fun y => !decide (y.1 = s) := List.filter_congr fun y hy => by
   congr 1
   rw [Bool.eq_iff_iff,sameKey_iff sKeyed.one ⟨_,keyOf_str hs⟩,decide_eq_true_iff]
   exact ⟨fun e => str_inj e,fun e => by rw [<- e]; rfl⟩
  rw [e] at h2
  exact ownsMapG_fit h2
 obtain ⟨f,hf⟩ := Classical.axiomOfChoice each
 exact ⟨f,hf⟩
theorem p_entry {l : List Pe} (h : DL l) {z : Lit} {v : Value} {yd : DataW (Option Nat)} {yp : List MemPlace} (hv : rdP v = some (yd,yp)) (hat : ∀ zd,(DofG pkl pd l).atKey z zd = yd) : ∃ c ∈ l,pkl c = z /\ v = .pointer (some ⟨c.2,0,none⟩) := by
 obtain ⟨o,rfl,hz⟩ := rdP_inv hv
 simp at hz
 obtain ⟨rfl,rfl⟩ := hz
 by_cases hn : ∃ y ∈ l,pkl y = z
 ·obtain ⟨y,hy,rfl⟩ := hn
  have h1 := hat .nil
  rw [atKey_mem sKeyed.one h.keys h.diff hy] at h1
  injection h1 with h1
  exact ⟨y,hy,rfl,by rw [<- h1]; rfl⟩
 ·have h1 := hat .nil
  rw [atKey_none (fun y hy e => hn ⟨y,hy,e⟩)] at h1
  cases h1
end Go.Proofs.YtjagaankkcbjmaaGreatDoor
