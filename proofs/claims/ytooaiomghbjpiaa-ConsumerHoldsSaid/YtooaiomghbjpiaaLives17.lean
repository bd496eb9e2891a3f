/-
  A desk of the call's own; lives, by its contract.
-/
import Derived.Test.YtooaiomghbjpiaaAdd17
namespace Go.Proofs.Ytooaiomghbjpiaa
open Go.RowKit Go.Maps Go.Sort Go.Shelf
set_option maxRecDepth 20000

/-- A desk that was made since w0; what lay in w0 is as it was. -/
def Lv (w0 W : World) (p : Nat) (L : List Se) : Prop := ∃ F, Dk W p F L ∧ LOk L ∧ Below w0.heap.size w0 W ∧ ∀ k, F k → w0.heap.size ≤ k
section
variable {w0 W W' : World} {p : Nat} {L L' : List Se}
theorem Lv.ok (h : Lv w0 W p L) : LOk L := by obtain ⟨F, _, h, _⟩ := h; exact h
theorem Lv.bel (h : Lv w0 W p L) : Below w0.heap.size w0 W := by obtain ⟨F, _, _, h, _⟩ := h; exact h
theorem Lv.go (h : Lv w0 W p L) (hb : Below W.heap.size W W') : Lv w0 W' p L := by
  obtain ⟨F, h1, h2, h3, h4⟩ := h
  exact ⟨F, h1.kept hb, h2, h3.trans (hb.mono h3.size), h4⟩
theorem Lv.to {F F' : Nat → Prop} (h4 : ∀ k, F k → w0.heap.size ≤ k) (h3 : Below w0.heap.size w0 W) (hd : Dk W' p F' L') (mv : Moved W W' F F') (ok : LOk L') : Lv w0 W' p L' := ⟨F', hd, ok, mv.below h4 h3 h3.size, mv.from h4 h3.size⟩
theorem Lv.new (w : World) : Calls Try.prog 8 #[] w fun e w' => ∃ p, e = .returned (.pointer (some ⟨p, 0, none⟩)) ∧ Lv w w' p [] := (new_any w).mono fun _ _ ⟨p, F, h1, h2, h3, h4⟩ => ⟨p, h1, F, h2, lok_nil, h3, h4⟩
theorem Lv.add (h : Lv w0 W p L) (c : Int) (q : ByteArray) (m : Int) (hc : I64 c) (hq : q.size ≤ maxLen) : Calls Try.prog 18 #[.pointer (some ⟨p, 0, none⟩), .int .i64 c, .string q, .int .i64 m] W fun e w' => e = .returned (.int .i64 (addE L c q m)) ∧ Lv w0 w' p (addL L c q m) := by
  obtain ⟨F, h1, h2, h3, h4⟩ := h
  exact (add_any p F L c q m W h1 h2 hc hq).mono fun _ _ ⟨e, F', hd, mv⟩ => ⟨e, Lv.to h4 h3 hd mv (h2.add c m q)⟩
theorem Lv.took (h : Lv w0 W p L) (c t : Int) (hc : I64 c) (ht : U64 t) : Calls Try.prog 20 #[.pointer (some ⟨p, 0, none⟩), .int .i64 c, .int .u64 t] W fun e w' => e = .returned (.int .i64 (tookE L c t)) ∧ Lv w0 w' p (tookL L c t) := by
  obtain ⟨F, h1, h2, h3, h4⟩ := h
  exact (took_any p F L c t W h1 h2 hc ht).mono fun _ _ ⟨e, F', hd, mv⟩ => ⟨e, Lv.to h4 h3 hd mv (h2.took c t ht)⟩
theorem Lv.settle (h : Lv w0 W p L) (c t : Int) (hc : I64 c) (ht : U64 t) : Calls Try.prog 22 #[.pointer (some ⟨p, 0, none⟩), .int .i64 c, .int .u64 t] W fun e w' => e = .returned (settleV L c t) ∧ Lv w0 w' p (settleL L c t) := by
  obtain ⟨F, h1, h2, h3, h4⟩ := h
  exact (settle_any p F L c t W h1 h2 hc ht).mono fun _ _ ⟨e, F', hd, mv⟩ => ⟨e, Lv.to h4 h3 hd mv (h2.settle c t)⟩
theorem Lv.next (h : Lv w0 W p L) (q : ByteArray) : Calls Try.prog 19 #[.pointer (some ⟨p, 0, none⟩), .string q] W fun e w' => e = .returned (nextV L q) ∧ Below W.heap.size W w' ∧ Lv w0 w' p L := by
  have h' := h
  obtain ⟨F, h1, h2, h3, h4⟩ := h
  exact (next_any p F L q W h1 h2).mono fun _ _ ⟨e, b⟩ => ⟨e, b, h'.go b⟩
end
theorem qv1 : addE [] 1 ⟨#[113]⟩ 1 = 0 ∧ addL [] 1 ⟨#[113]⟩ 1 = [⟨1, ⟨#[113]⟩, 1, []⟩] := by constructor <;> rfl
theorem qv2 : addE [⟨1, ⟨#[113]⟩, 1, []⟩] 2 ⟨#[113]⟩ 1 = 0 ∧ addL [⟨1, ⟨#[113]⟩, 1, []⟩] 2 ⟨#[113]⟩ 1 = [⟨1, ⟨#[113]⟩, 1, []⟩, ⟨2, ⟨#[113]⟩, 1, []⟩] := by constructor <;> rfl
theorem qv3 : nextV [⟨1, ⟨#[113]⟩, 1, []⟩, ⟨2, ⟨#[113]⟩, 1, []⟩] ⟨#[113]⟩ = .tuple #[.int .i64 1, .bool true] := by rfl
theorem qv4 : tookE [⟨1, ⟨#[113]⟩, 1, []⟩, ⟨2, ⟨#[113]⟩, 1, []⟩] 1 5 = 0 ∧ tookL [⟨1, ⟨#[113]⟩, 1, []⟩, ⟨2, ⟨#[113]⟩, 1, []⟩] 1 5 = [⟨2, ⟨#[113]⟩, 1, []⟩, ⟨1, ⟨#[113]⟩, 1, [5]⟩] := by constructor <;> rfl
theorem qv5 : nextV [⟨2, ⟨#[113]⟩, 1, []⟩, ⟨1, ⟨#[113]⟩, 1, [5]⟩] ⟨#[113]⟩ = .tuple #[.int .i64 2, .bool true] := by rfl
theorem qv6 : settleV [⟨2, ⟨#[113]⟩, 1, []⟩, ⟨1, ⟨#[113]⟩, 1, [5]⟩] 1 5 = .tuple #[.string ⟨#[113]⟩, .int .i64 0] := by rfl
theorem lives_any (w : World) : Calls Try.prog 10 #[] w fun e w' => e = .returned (.bool true) ∧ Below w.heap.size w w' := by
  have i1 : I64 1 := ⟨by decide, by decide⟩
  have i2 : I64 2 := ⟨by decide, by decide⟩
  have u5 : U64 5 := ⟨by decide, by decide⟩
  have hq : (⟨#[113]⟩ : ByteArray).size ≤ maxLen := by decide
  go_enter Try.func10, Try.ntmps10
  go_wp2_with fail
  refine (Lv.new w).mono ?_
  rintro e w1 ⟨p, rfl, h1⟩
  go_wp2_with fail
  refine (h1.add 1 ⟨#[113]⟩ 1 i1 hq).mono ?_
  rintro e w2 ⟨rfl, h2⟩
  rw [qv1.1]; rw [qv1.2] at h2
  go_wp2_with fail
  refine (h2.add 2 ⟨#[113]⟩ 1 i2 hq).mono ?_
  rintro e w3 ⟨rfl, h3⟩
  rw [qv2.1]; rw [qv2.2] at h3
  go_wp2_with fail
  refine (h3.next ⟨#[113]⟩).mono ?_
  rintro e w4 ⟨rfl, _, h4⟩
  rw [qv3]
  go_wp2_with fail
  refine (h4.took 1 5 i1 u5).mono ?_
  rintro e w5 ⟨rfl, h5⟩
  rw [qv4.1]; rw [qv4.2] at h5
  go_wp2_with fail
  refine (h5.next ⟨#[113]⟩).mono ?_
  rintro e w6 ⟨rfl, _, h6⟩
  rw [qv5]
  go_wp2_with fail
  refine (h6.settle 1 5 i1 u5).mono ?_
  rintro e w7 ⟨rfl, h7⟩
  rw [qv6]
  have b7 := h7.bel
  go_wp2
  go_ret
  exact ⟨rfl, b7⟩
end Go.Proofs.Ytooaiomghbjpiaa
