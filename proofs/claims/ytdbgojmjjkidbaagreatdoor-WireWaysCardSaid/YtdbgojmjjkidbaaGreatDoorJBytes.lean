/-
  WHAT IS OF NO PROGRAM: a slice of bytes in memory, told by the list of its bytes.
-/
import Derived.WalkKit
import Derived.WalkLawsBesides
import Derived.Handy
import Derived.Laws.IdiomStrings
import Derived.Laws.AppendOwnNone
import Derived.Laws.MakeOwn
namespace Go.Proofs.YtdbgojmjjkidbaaGreatDoor
open Go.RowKit


/-- The cells that hold these bytes. -/
def bcells (bs : List UInt8) : List Value := bs.map fun b => .int .u8 (b.toNat : Int)


theorem bcells_length (bs : List UInt8) : (bcells bs).length = bs.length := by simp [bcells]

theorem bcells_append (a b : List UInt8) : bcells (a ++ b) = bcells a ++ bcells b := by simp [bcells]

theorem bcells_one (bs : List UInt8) : ∀ u ∈ bcells bs, u.oneCell' = true := by
  intro u hu
  simp only [bcells, List.mem_map] at hu
  obtain ⟨b, _, rfl⟩ := hu
  rfl

theorem bcells_inj {a b : List UInt8} (h : bcells a = bcells b) : a = b := by
  unfold bcells at h
  refine List.map_inj_right (fun x y hxy => ?_) |>.1 h
  injection hxy with _ h2
  exact UInt8.toNat_inj.1 (by omega)


/-- In w the slice v holds just these bytes. -/
def Holds (w : World) (v : Value) (bs : List UInt8) : Prop :=
  (v = .slice none 0 0 ∧ bs = []) ∨
  ∃ a cap, v = .slice (some a) bs.length cap ∧ bs.length ≤ cap ∧ cap ≤ maxLen ∧ ∀ j u, (bcells bs)[j]? = some u → w.cell? (a.add j) = some u


theorem Addr.block_add (a : Addr) (j : Nat) : (a.add j).block = a.block := by unfold Addr.add; split <;> rfl


theorem Holds.below {B : Nat} {w w' : World} {v : Value} {bs : List UInt8} (h : Holds w v bs) (hb : Below B w w') (hB : w.heap.size ≤ B) : Holds w' v bs := by
  rcases h with h | ⟨a, cap, hv, h1, h2, h3⟩
  · exact .inl h
  · refine .inr ⟨a, cap, hv, h1, h2, fun j u hj => ?_⟩
    have hc := h3 j u hj
    have hlt := World.block_lt_of_cell? w _ hc
    rw [hb.cell (p := a.add j) (by omega)]
    exact hc


/-- A row of the call's own holds its bytes. -/
theorem holds_of_owns {w : World} {base : Nat} {e : TypeId} {v : Value} {bs : List UInt8} (h : w.ownsRow base e 1 v bs.length (bcells bs)) : Holds w v bs := by
  have h' := h
  rcases h.2 with ⟨rfl, hn⟩ | ⟨g, cap, cur, rfl, _, _, hnc, hcm, _, _⟩
  · exact .inl ⟨rfl, List.eq_nil_of_length_eq_zero hn⟩
  · exact .inr ⟨⟨g, 0, none⟩, cap, rfl, hnc, hcm, fun j u hj => h'.cells (g := g) rfl j u hj⟩


/-- 'string(b)'. -/
theorem run_string_of {P : Program} {w : World} {v : Value} {bs : List UInt8} (h : Holds w v bs) (src dst e : TypeId) (hs : P.underlying src = some (.slice e)) (he : P.underlying e = some (.int .u8)) (hd : P.underlying dst = some .string) :
    (convert src dst v).run P w = .ok (.string ⟨bs.toArray⟩) w := by
  rcases h with ⟨rfl, rfl⟩ | ⟨a, cap, rfl, h1, h2, h3⟩
  · rw [run_convert_bytes_string w src dst e none 0 0 hs he hd]
    simp [Conv.bytesToString]
    rfl
  · exact run_convert_bytes_back w src dst e a cap bs hs he hd (fun j hj => h3 j _ (by simp [bcells, hj]))


/-- t is the type of slices of bytes, e that of bytes. -/
structure U8 (P : Program) (t e : TypeId) : Prop where
  ht : P.underlying t = some (.slice e)
  he : P.underlying e = some (.int .u8)
  info : ∃ i, P.info? e = some i ∧ i.zero = some (.int .u8 0) ∧ i.size = 1 ∧ i.bytes = 1


/-- The slice v is a row of the call's own, from block number base on, and holds these bytes. -/
def Owns (w : World) (base : Nat) (e : TypeId) (v : Value) (bs : List UInt8) : Prop := w.ownsRow base e 1 v bs.length (bcells bs)


theorem Owns.holds {w : World} {base : Nat} {e : TypeId} {v : Value} {bs : List UInt8} (h : Owns w base e v bs) : Holds w v bs := holds_of_owns h


theorem Owns.below {w w' w0 : World} {base : Nat} {e : TypeId} {v : Value} {bs : List UInt8} (h : Owns w base e v bs) (hg : w.grownBy w' v.ownBlock) (h0 : Below base w0 w) (hb : base ≤ w.heap.size) : Below base w0 w' :=
  h0.grown hg hb (fun k hk => (h.lt k hk).1)


/-- 'append(v, src...)', v of the call's own, src whatever holds bytes. -/
theorem wpList_append_bytes {P : Program} {w : World} {ops : Array Oper} {rest : List Oper} {o : Oper} {a : Act} {Q : Exit → Act → World → Prop} (hgd : o.guard = none) (s x : Operand) (t e : TypeId) (U : U8 P t e)
    (ho : o.op = .call { callee := .builtin .append, args := #[s, x], argTypes := #[t, t] }) (base : Nat) (v src : Value) (xs ys : List UInt8) (hs : a.eval s = v) (hx : a.eval x = src)
    (hown : Owns w base e v xs) (hy : Holds w src ys) (hlen : xs.length + ys.length ≤ 140737488355328) (hbase : base ≤ w.heap.size)
    (h : ∀ v' w', Owns w' base e v' (xs ++ ys) → Below base w w' → base ≤ w'.heap.size → wpList P ops Q rest (a.put o.dst v') w') : wpList P ops Q (o :: rest) a w := by
  obtain ⟨i, hi, hz, hsz, hby⟩ := U.info
  rcases hy with ⟨rfl, rfl⟩ | ⟨ad, cap, rfl, h1, h2, h3⟩
  · refine wpList_append_own_none hgd s x t ho base e i 1 U.ht hi v xs.length (bcells xs) hs hown hx ?_
    exact h v w (by simpa [Owns] using hown) (Below.refl _ _) hbase
  · refine wpList_append_own w hgd s x t ho base e i (.int .u8 0) 1 1 U.ht hi hz hsz hby rfl (by decide) v xs.length (bcells xs) hs hown ad ys.length cap (bcells ys) hx (by simp [bcells]) h3 (bcells_one ys)
      (by unfold maxLen; omega) (by omega) hbase ?_
    intro v' w' ho' hg _
    refine h v' w' ?_ (Owns.below hown hg (Below.refl _ _) hbase) (Nat.le_trans hbase hg.size)
    unfold Owns
    rw [bcells_append, List.length_append]
    exact ho'


/-- 'make([]byte, 0, c)'. -/
theorem run_make_bytes {P : Program} (w : World) (t e : TypeId) (U : U8 P t e) (c : Nat) (hc : c ≤ 281474976710656) :
    ∃ C, (Instr.makeSlice t (.int .i64 0) (.int .i64 (c : Int))).run P w = .ok (.slice (some ⟨w.heap.size, 0, none⟩) 0 c) (w.alloc (.cells C e)) ∧ C.size = c := by
  obtain ⟨i, hi, hz, hsz, hby⟩ := U.info
  have hr := run_make (P := P) w t e i (.int .u8 0) U.ht hi hz .i64 .i64 0 c (Int.le_refl _) (by omega) (by rw [hby]; omega) (by omega)
  simp only [Int.toNat_zero, Int.toNat_natCast] at hr
  exact ⟨_, hr, by rw [size_madeCells, hsz]; omega⟩


theorem owns_made (w : World) (base : Nat) (e : TypeId) (C : Array Value) (c : Nat) (hb : base ≤ w.heap.size) (hc : c ≤ maxLen) (hs : C.size = c) :
    Owns (w.alloc (.cells C e)) base e (.slice (some ⟨w.heap.size, 0, none⟩) 0 c) [] :=
  World.ownsRow_made w C c hb hc (by omega)


/-- A new row of bytes, written out. -/
theorem owns_new (w : World) (base : Nat) (e : TypeId) (bs : List UInt8) (hb : base ≤ w.heap.size) (hc : bs.length ≤ maxLen) :
    Owns (w.alloc (.cells (bcells bs).toArray e)) base e (.slice (some ⟨w.heap.size, 0, none⟩) bs.length bs.length) bs :=
  ⟨by simp [bcells], .inr ⟨w.heap.size, bs.length, _, rfl, hb, heap_alloc_new w _, Nat.le_refl _, hc, by simp [bcells], List.take_of_length_le (by simp [bcells])⟩⟩


theorem holds_one (w : World) (e : TypeId) (x : Int) (h0 : 0 ≤ x) (h1 : x < 256) :
    Holds (w.alloc (.cells #[.int .u8 x] e)) (.slice (some ⟨w.heap.size, 0, none⟩) 1 1) [UInt8.ofNat x.toNat] := by
  have h := owns_new w w.heap.size e [UInt8.ofNat x.toNat] (Nat.le_refl _) (by simp [maxLen])
  have hx : (((UInt8.ofNat x.toNat).toNat : Nat) : Int) = x := by simp; omega
  simp only [bcells, List.map_cons, List.map_nil, List.length_cons, List.length_nil, hx] at h
  exact h.holds


end Go.Proofs.YtdbgojmjjkidbaaGreatDoor
