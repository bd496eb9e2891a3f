/-
  THE MAPS of a desk in memory: seats by clients; the tags that a seat holds. Each told by a list, in whatever order.
-/
import Derived.Test.YtooaiomghbjpiaaGMap
import Derived.Test.YtooaiomghbjpiaaMoved
import Derived.DeepKeys4
namespace Go.Proofs.Ytooaiomghbjpiaa
open Go.RowKit Go.Maps

def ptrO : Option Nat → Value
  | none => .pointer none
  | some b => .pointer (some ⟨b, 0, none⟩)
/-- What a pointer to a seat reads as. -/
def rdP (v : Value) : Option (DataW (Option Nat) × List MemPlace) := match v with
  | .pointer none => some (.held none, [])
  | .pointer (some a) => if a.off = 0 ∧ a.spot = none then some (.held (some a.block), []) else none
  | _ => none
theorem rdP_ptr (o : Option Nat) : rdP (ptrO o) = some (.held o, []) := by cases o <;> simp [rdP, ptrO]
theorem rdP_inv {v : Value} {z : DataW (Option Nat) × List MemPlace} (h : rdP v = some z) : ∃ o, v = ptrO o ∧ z = (.held o, []) := by
  unfold rdP at h
  split at h
  · injection h with h
    exact ⟨none, rfl, h.symm⟩
  · rename_i a
    split at h
    · rename_i ha
      injection h with h
      refine ⟨some a.block, ?_, h.symm⟩
      obtain ⟨b, o, s⟩ := a
      obtain ⟨h1, h2⟩ := ha
      simp only at h1 h2
      subst h1 h2
      rfl
    · cases h
  · cases h

/-- A number that an int may be. -/
def I64 (n : Int) : Prop := -9223372036854775808 ≤ n ∧ n ≤ 9223372036854775807
theorem iKeyed : Keyed Try.prog 3 := int_keyed Try.underlying3
theorem keyOf_int {n : Int} (h : I64 n) : keyOf Try.prog 3 (.int .i64 n) = some (.int .i64 n) := by
  refine keyOf_int_mk Try.underlying3 ?_
  unfold I64 at h
  simp [Lit.wf, IntKind.min, IntKind.max, IntKind.signed, IntKind.bits]
  omega
theorem int_inj {k : IntKind} {a b : Int} (h : Lit.int k a = .int k b) : a = b := by injection h

/-- A client, and the block of its seat. -/
abbrev Pc := Int × Nat
def ckl (x : Pc) : Lit := .int .i64 x.1
def cd (x : Pc) : DataW (Option Nat) := .held (some x.2)
/-- Other clients, ints. -/
structure CL (l : List Pc) : Prop where
  diff : Diff ckl l
  fit : ∀ x ∈ l, I64 x.1
theorem CL.keys {l : List Pc} (h : CL l) : ∀ x ∈ l, KeysOf Try.prog 3 (ckl x) := fun x hx => ⟨_, keyOf_int (h.fit x hx)⟩
theorem CL.perm {l l' : List Pc} (h : CL l) (hp : l'.Perm l) : CL l' := ⟨h.diff.perm hp, fun x hx => h.fit x (hp.mem_iff.1 hx)⟩
def CAt (w : World) (b : Nat) (l : List Pc) : Prop := w.ownsMap Try.prog 3 rdP b l.length (DofG ckl cd l)
theorem CAt.same {w w' : World} {b : Nat} {l : List Pc} (h : CAt w b l) (hs : w'.heap[b]? = w.heap[b]?) : CAt w' b l := by
  obtain ⟨es, clock, hb, r⟩ := h
  exact ⟨es, clock, by rw [hs]; exact hb, r⟩
theorem CAt.lt {w : World} {b : Nat} {l : List Pc} (h : CAt w b l) : b < w.heap.size := World.ownsMap.lt h
theorem CAt.noCells {w : World} {b : Nat} {l : List Pc} (h : CAt w b l) {c : Array Value} {t : TypeId} {fz : Nat × Nat} : w.heap[b]? ≠ some (.cells c t fz) := fun e => by
  obtain ⟨es, clock, hb, _⟩ := h
  rw [e] at hb
  cases hb
theorem cAt_new (w : World) : CAt (w.alloc (.map #[] 0)) w.heap.size [] := World.ownsMap_made w _ _ _
theorem CAt.permTo {w : World} {b : Nat} {l l' : List Pc} (h : CAt w b l') (hl : CL l) (hp : l'.Perm l) : CAt w b l := by
  unfold CAt at h
  rw [DofG_perm iKeyed.one hl.keys hl.diff hp] at h
  exact ownsMapG_fit h
def findPc (l : List Pc) (n : Int) : Option Pc := l.find? fun x => decide (x.1 = n)
theorem findPc_some {l : List Pc} {n : Int} {x : Pc} (h : findPc l n = some x) : x ∈ l ∧ x.1 = n := ⟨List.mem_of_find?_eq_some h, by simpa using List.find?_some h⟩
theorem findPc_none {l : List Pc} {n : Int} (h : findPc l n = none) : ∀ x ∈ l, x.1 ≠ n := fun x hx => by simpa using List.find?_eq_none.1 h x hx
theorem CAt.len {w : World} {b : Nat} {l : List Pc} (h : CAt w b l) (ty : TypeId) : (Builtin.len_ #[57] ty #[.map (some b)]).run Try.prog w = .ok (.int .i64 (l.length : Nat)) w := by
  have := World.ownsMap.len h Try.underlying57 ty
  rw [size_DofG] at this
  exact this
theorem CAt.look {w : World} {b : Nat} {l : List Pc} (h : CAt w b l) (hl : CL l) {n : Int} (hn : I64 n) :
    (Instr.lookup 57 (.map (some b)) (.int .i64 n) false).run Try.prog w = .ok (ptrO ((findPc l n).map Prod.snd)) w := by
  obtain ⟨v, ps, h1, h2⟩ := World.ownsMap.lookup h iKeyed Try.underlying57 (Try.zeroValue78 w) (zd := .held none) (zp := []) (rdP_ptr none) (keyOf_int hn)
  obtain ⟨o, rfl, hx⟩ := rdP_inv h2
  rw [h1]
  cases hf : findPc l n with
  | none =>
    have hne : ∀ y ∈ l, ckl y ≠ .int .i64 n := fun y hy e => findPc_none hf y hy (int_inj e)
    rw [atKey_none hne] at hx
    simp at hx
    rw [← hx.1]
    rfl
  | some y =>
    obtain ⟨hy, rfl⟩ := findPc_some hf
    rw [show Lit.int .i64 y.1 = ckl y from rfl, atKey_mem iKeyed.one hl.keys hl.diff hy] at hx
    simp [cd] at hx
    rw [← hx.1]
    rfl
theorem CAt.put {w : World} {b : Nat} {l : List Pc} (h : CAt w b l) (hl : CL l) {n : Int} (hs : I64 n) (q : Nat) (hn : ∀ y ∈ l, y.1 ≠ n) (hlen : l.length ≤ 1000000000) :
    ∃ w', (Instr.mapUpdate 57 (.map (some b)) (.int .i64 n) (.pointer (some ⟨q, 0, none⟩))).run Try.prog w = .ok () w' ∧ CAt w' b ((n, q) :: l) ∧ w.grownBy w' (some b) := by
  obtain ⟨w', h1, h2, h3⟩ := World.ownsMap.update h iKeyed Try.underlying57 (by unfold maxLen; omega) (keyOf_int hs) (rdP_ptr (some q))
  refine ⟨w', h1, ?_, h3⟩
  have e : (DofG ckl cd l).put (.int .i64 n) (.held (some q)) = DofG ckl cd ((n, q) :: l) := put_new iKeyed.one hl.keys hl.diff (x := (n, q)) ⟨_, keyOf_int hs⟩ (fun y hy e => hn y hy (int_inj e))
  rw [e] at h2
  exact ownsMapG_fit h2
set_option maxRecDepth 20000 in
theorem CAt.del {w : World} {b : Nat} {l : List Pc} (h : CAt w b l) (hl : CL l) {n : Int} (hn : I64 n) :
    ∃ f : TypeId → World, ∀ ty, (Builtin.delete_ #[57, 3] ty #[.map (some b), .int .i64 n]).run Try.prog w = .ok (.tuple #[]) (f ty) ∧ CAt (f ty) b (l.filter fun y => !decide (y.1 = n)) ∧ w.grownBy (f ty) (some b) := by
  have each : ∀ ty : TypeId, ∃ w', (Builtin.delete_ #[57, 3] ty #[.map (some b), .int .i64 n]).run Try.prog w = .ok (.tuple #[]) w' ∧ CAt w' b (l.filter fun y => !decide (y.1 = n)) ∧ w.grownBy w' (some b) := fun ty => by
    obtain ⟨w', h1, h2, h3⟩ := World.ownsMap.drop h iKeyed Try.underlying57 (keyOf_int hn) ty
    refine ⟨w', h1, ?_, h3.grown⟩
    rw [del_DofG iKeyed.one hl.keys hl.diff] at h2
    have e : (l.filter fun y => !(ckl y).sameKey (.int .i64 n)) = l.filter fun y => !decide (y.1 = n) := List.filter_congr fun y hy => by
      congr 1
      rw [Bool.eq_iff_iff, sameKey_iff iKeyed.one ⟨_, keyOf_int hn⟩, decide_eq_true_iff]
      exact ⟨fun e => int_inj e, fun e => by rw [← e]; rfl⟩
    rw [e] at h2
    exact ownsMapG_fit h2
  obtain ⟨f, hf⟩ := Classical.axiomOfChoice each
  exact ⟨f, hf⟩

/-- A number that a uint64 may be. -/
def U64 (n : Int) : Prop := 0 ≤ n ∧ n < 18446744073709551616
theorem uKeyed : Keyed Try.prog 31 := int_keyed Try.underlying31
theorem keyOf_u {n : Int} (h : U64 n) : keyOf Try.prog 31 (.int .u64 n) = some (.int .u64 n) := by
  refine keyOf_int_mk Try.underlying31 ?_
  have h1 : IntKind.u64.min = 0 := rfl
  have h2 : IntKind.u64.max = 18446744073709551615 := rfl
  obtain ⟨h3, h4⟩ := h
  simp [Lit.wf, h1, h2]; omega
def tkl (x : Int) : Lit := .int .u64 x
def td (_ : Int) : DataW Unit := .agg []
structure TL (l : List Int) : Prop where
  diff : Diff tkl l
  fit : ∀ x ∈ l, U64 x
theorem TL.keys {l : List Int} (h : TL l) : ∀ x ∈ l, KeysOf Try.prog 31 (tkl x) := fun x hx => ⟨_, keyOf_u (h.fit x hx)⟩
theorem TL.perm {l l' : List Int} (h : TL l) (hp : l'.Perm l) : TL l' := ⟨h.diff.perm hp, fun x hx => h.fit x (hp.mem_iff.1 hx)⟩
theorem tl_of_up {l : List Int} (h : l.Pairwise (· < ·)) (hp : ∀ t ∈ l, 0 < t ∧ t < 18446744073709551616) : TL l :=
  ⟨h.imp fun {a b} hlt e => by have := int_inj e; omega, fun x hx => by have := hp x hx; exact ⟨by omega, this.2⟩⟩
def TAt (w : World) (b : Nat) (l : List Int) : Prop := w.ownsMap Try.prog 31 (unitElem (H := Unit)) b l.length (DofG tkl td l)
theorem TAt.same {w w' : World} {b : Nat} {l : List Int} (h : TAt w b l) (hs : w'.heap[b]? = w.heap[b]?) : TAt w' b l := by
  obtain ⟨es, clock, hb, r⟩ := h
  exact ⟨es, clock, by rw [hs]; exact hb, r⟩
theorem TAt.lt {w : World} {b : Nat} {l : List Int} (h : TAt w b l) : b < w.heap.size := World.ownsMap.lt h
theorem TAt.noCells {w : World} {b : Nat} {l : List Int} (h : TAt w b l) {c : Array Value} {t : TypeId} {fz : Nat × Nat} : w.heap[b]? ≠ some (.cells c t fz) := fun e => by
  obtain ⟨es, clock, hb, _⟩ := h
  rw [e] at hb
  cases hb
theorem tAt_new (w : World) : TAt (w.alloc (.map #[] 0)) w.heap.size [] := World.ownsMap_made w _ _ _
theorem TAt.permTo {w : World} {b : Nat} {l l' : List Int} (h : TAt w b l') (hl : TL l) (hp : l'.Perm l) : TAt w b l := by
  unfold TAt at h
  rw [DofG_perm uKeyed.one hl.keys hl.diff hp] at h
  exact ownsMapG_fit h
theorem TAt.len {w : World} {b : Nat} {l : List Int} (h : TAt w b l) (ty : TypeId) : (Builtin.len_ #[85] ty #[.map (some b)]).run Try.prog w = .ok (.int .i64 (l.length : Nat)) w := by
  have := World.ownsMap.len h Try.underlying85 ty
  rw [size_DofG] at this
  exact this
theorem TAt.look {w : World} {b : Nat} {l : List Int} (h : TAt w b l) {n : Int} (hn : U64 n) :
    (Instr.lookup 85 (.map (some b)) (.int .u64 n) true).run Try.prog w = .ok (.tuple #[.agg #[], .bool (l.any fun u => decide (u = n))]) w := by
  obtain ⟨v, ps, h1, h2⟩ := World.ownsMap.look_ok h uKeyed Try.underlying85 (Try.zeroValue91 w) (zd := .agg []) (zp := []) unitElem_mk (keyOf_u hn)
  obtain ⟨rfl, _⟩ := unitElem_inv h2
  have e : Maps.has (DofG tkl td l) (.int .u64 n) = l.any fun u => decide (u = n) := by
    rw [Bool.eq_iff_iff, has_DofG uKeyed.one ⟨_, keyOf_u hn⟩, List.any_eq_true]
    exact ⟨fun ⟨y, hy, e⟩ => ⟨y, hy, by simpa using int_inj e⟩, fun ⟨y, hy, e⟩ => ⟨y, hy, by rw [of_decide_eq_true e]; rfl⟩⟩
  rw [h1, e]
theorem TAt.put {w : World} {b : Nat} {l : List Int} (h : TAt w b l) (hl : TL l) {n : Int} (hs : U64 n) (hn : n ∉ l) (hlen : l.length ≤ 1000000000) :
    ∃ w', (Instr.mapUpdate 85 (.map (some b)) (.int .u64 n) (.agg #[])).run Try.prog w = .ok () w' ∧ TAt w' b (n :: l) ∧ w.grownBy w' (some b) := by
  obtain ⟨w', h1, h2, h3⟩ := World.ownsMap.update h uKeyed Try.underlying85 (by unfold maxLen; omega) (keyOf_u hs) unitElem_mk
  refine ⟨w', h1, ?_, h3⟩
  have e : (DofG tkl td l).put (.int .u64 n) (.agg []) = DofG tkl td (n :: l) := put_new uKeyed.one hl.keys hl.diff (x := n) ⟨_, keyOf_u hs⟩ (fun y hy e => hn (by rw [← int_inj e]; exact hy))
  rw [e] at h2
  exact ownsMapG_fit h2
set_option maxRecDepth 20000 in
theorem TAt.del {w : World} {b : Nat} {l : List Int} (h : TAt w b l) (hl : TL l) {n : Int} (hn : U64 n) :
    ∃ f : TypeId → World, ∀ ty, (Builtin.delete_ #[85, 31] ty #[.map (some b), .int .u64 n]).run Try.prog w = .ok (.tuple #[]) (f ty) ∧ TAt (f ty) b (l.filter fun y => !decide (y = n)) ∧ w.grownBy (f ty) (some b) := by
  have each : ∀ ty : TypeId, ∃ w', (Builtin.delete_ #[85, 31] ty #[.map (some b), .int .u64 n]).run Try.prog w = .ok (.tuple #[]) w' ∧ TAt w' b (l.filter fun y => !decide (y = n)) ∧ w.grownBy w' (some b) := fun ty => by
    obtain ⟨w', h1, h2, h3⟩ := World.ownsMap.drop h uKeyed Try.underlying85 (keyOf_u hn) ty
    refine ⟨w', h1, ?_, h3.grown⟩
    rw [del_DofG uKeyed.one hl.keys hl.diff] at h2
    have e : (l.filter fun y => !(tkl y).sameKey (.int .u64 n)) = l.filter fun y => !decide (y = n) := List.filter_congr fun y hy => by
      congr 1
      rw [Bool.eq_iff_iff, sameKey_iff uKeyed.one ⟨_, keyOf_u hn⟩, decide_eq_true_iff]
      exact ⟨fun e => int_inj e, fun e => by rw [← e]; rfl⟩
    rw [e] at h2
    exact ownsMapG_fit h2
  obtain ⟨f, hf⟩ := Classical.axiomOfChoice each
  exact ⟨f, hf⟩
end Go.Proofs.Ytooaiomghbjpiaa
