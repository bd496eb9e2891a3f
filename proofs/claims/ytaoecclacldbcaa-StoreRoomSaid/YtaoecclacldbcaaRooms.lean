/-
  WHAT THE LAW StoreRoom SAYS OF A STORE, told plainly. Of no program.
-/
import Derived.Test.YtaoecclacldbcaaChain
namespace Go.Proofs.Ytaoecclacldbcaa
open Go.RowKit

/-- The power is on, nothing is planned, and there is room for what is there. -/
structure Lit (n : Int) (m : M) : Prop where
  left : m.left = 0
  lit : m.dark = false
  room : m.room = n
  fit : (m.need : Int) ≤ n
def Steps (n : Int) (m : M) (r : Int × M) : Prop := Lit n r.2 ∧ r.2.Ok ∧ ((r.1 ≠ 0 ∧ r.2 = m) ∨ (r.1 = 0 ∧ r.2.count = m.count + 1))
theorem lit_step {n : Int} {m : M} (h : Lit n m) {f : M → M} (ok : (m.step f).2.Ok) (h1 : (f m.tick).left = m.tick.left) (h2 : (f m.tick).dark = m.tick.dark) (h3 : (f m.tick).room = m.tick.room) (h4 : (f m.tick).count = m.tick.count) (h5 : ((f m.tick).need : Int) ≤ n) : Steps n m (m.step f) := by
  have e : m.step f = (0, f m.tick) := by unfold M.step; rw [if_neg (by rw [h.left]; decide)]
  rw [e] at ok ⊢
  refine ⟨⟨?_, ?_, ?_, h5⟩, ok, .inr ⟨rfl, ?_⟩⟩
  · show (f m.tick).left = 0
    rw [h1]; show M.less m.left = 0; rw [h.left]; rfl
  · exact h2.trans h.lit
  · exact h3.trans h.room
  · exact h4
theorem lit_no {n : Int} {m : M} (h : Lit n m) (ok : m.Ok) {e : Int} (he : e ≠ 0) : Steps n m (e, m) := ⟨h, ok, .inl ⟨he, rfl⟩⟩
theorem needL_cut {m : M} {l : List En} (h : Ord cmpE l) (n : ByteArray) : m.needL (cutE l n) ≤ m.needL l := by
  cases hf : findE l n with
  | none => rw [M.cut_none hf]; exact Nat.le_refl _
  | some e => rw [M.needL_perm m (M.split_cut h hf), M.needL_cons]; omega
section
variable {n : Int} {m : M} (h : Lit n m) (ok : m.Ok)
include h ok
theorem lit_make (a : ByteArray) : Steps n m (m.make a) := by
  have o := M.make_ok ok a
  unfold M.make at o ⊢
  split
  · rename_i h1; exact lit_no h ok h1
  · rename_i h1
    rw [if_neg h1] at o
    split
    · exact lit_no h ok (by decide)
    · rename_i h2
      rw [if_neg h2] at o
      split
      · exact lit_no h ok (by decide)
      · rename_i h3
        rw [if_neg h3] at o
        refine lit_step h o rfl rfl rfl rfl ?_
        have hf : findE m.dir a = none := by
          cases hf : findE m.dir a with
          | none => rfl
          | some e => rw [hf] at h2; exact absurd rfl h2
        have : (M.add a m.tick).need = 16 + m.need := by
          show (M.add a m.tick).needL (putE m.dir a m.all.length) = _
          rw [M.needL_perm _ (putE_perm m.dir a m.all.length), M.needL_cons, M.cut_none hf, M.at_add, M.needL_congr (m := m.tick) (fun e _ => by rw [M.at_add])]
          have : m.tick.fl m.all.length = zeroFl := by show m.all.getD m.all.length zeroFl = _; simp
          rw [this]
          rfl
        rw [this]
        have := h.room
        omega
theorem lit_set (a : ByteArray) (x : Fl) (hf : m.first a true = 0) (o : (m.step (M.setF (m.place a) x)).2.Ok) (hx : (m.need : Int) + x.now.length - (m.fl (m.place a)).now.length ≤ n) : Steps n m (m.step (M.setF (m.place a) x)) := by
  obtain ⟨hd, hg, e, he, hp⟩ := M.first_true hf
  obtain ⟨hm, _⟩ := findE_some he
  have hi : m.place a < m.all.length := by rw [hp]; exact ok.fd e hm
  refine lit_step h o rfl rfl rfl rfl ?_
  have := need_set ok hi hm hp.symm x
  have h2 : (M.setF (m.place a) x m.tick).need = (M.setF (m.place a) x m).need := rfl
  rw [h2]
  omega
theorem lit_write (a : ByteArray) (b : List UInt8) : Steps n m (m.write a b) := by
  have o := M.write_ok ok a b
  unfold M.write at o ⊢
  split
  · rename_i h1; exact lit_no h ok h1
  · rename_i h1
    rw [if_neg h1] at o
    split
    · exact lit_no h ok (by decide)
    · rename_i h2
      rw [if_neg h2] at o
      refine lit_set h ok a _ (by simpa using h1) o ?_
      have := h.room
      simp
      omega
theorem lit_cut (a : ByteArray) (k : Int) : Steps n m (m.cut a k) := by
  have o := M.cut_ok ok a k
  unfold M.cut at o ⊢
  split
  · rename_i h1; exact lit_no h ok h1
  · rename_i h1
    rw [if_neg h1] at o
    split
    · exact lit_no h ok (by decide)
    · rename_i h2
      rw [if_neg h2] at o
      refine lit_set h ok a _ (by simpa using h1) o ?_
      have := h.fit
      simp only [List.length_take]
      omega
theorem lit_sync (a : ByteArray) : Steps n m (m.sync a) := by
  have o := M.sync_ok ok a
  unfold M.sync at o ⊢
  split
  · rename_i h1; exact lit_no h ok h1
  · rename_i h1
    rw [if_neg h1] at o
    refine lit_set h ok a _ (by simpa using h1) o ?_
    have := h.fit
    simp only
    omega
theorem lit_move (a b : ByteArray) : Steps n m (m.move a b) := by
  have o := M.move_ok ok a b
  unfold M.move at o ⊢
  split
  · exact lit_no h ok (by decide)
  · rename_i h1
    rw [if_neg h1] at o
    split
    · exact lit_no h ok (by decide)
    · rename_i h2
      rw [if_neg h2] at o
      split
      · exact lit_no h ok (by decide)
      · rename_i h3
        rw [if_neg h3] at o
        refine lit_step h o rfl rfl rfl rfl ?_
        cases hf : findE m.dir a with
        | none => rw [hf] at h3; exact absurd rfl h3
        | some e =>
          have hp := M.place_of hf
          have h5 : m.needL (putE (cutE m.dir a) b (m.place a)) ≤ m.need := by
            rw [M.needL_perm m (putE_perm (cutE m.dir a) b (m.place a)), M.needL_cons]
            have h6 : m.need = _ := M.needL_perm m (M.split_cut ok.od hf)
            rw [M.needL_cons] at h6
            have h7 : m.needL (cutE (cutE m.dir a) b) ≤ m.needL (cutE m.dir a) := needL_cut (cutE_ord ok.od a) b
            have h8 : (m.fl (En.mk b (m.place a)).f).now.length = (m.fl e.f).now.length := by rw [← hp]
            omega
          have h6 := h.fit
          show ((m.needL (putE (cutE m.dir a) b (m.place a)) : Nat) : Int) ≤ n
          omega
theorem lit_drop (a : ByteArray) : Steps n m (m.drop a) := by
  have o := M.drop_ok ok a
  unfold M.drop at o ⊢
  split
  · rename_i h1; exact lit_no h ok h1
  · rename_i h1
    rw [if_neg h1] at o
    refine lit_step h o rfl rfl rfl rfl ?_
    have h7 : m.needL (cutE m.dir a) ≤ m.need := needL_cut ok.od a
    have h6 := h.fit
    show ((m.needL (cutE m.dir a) : Nat) : Int) ≤ n
    omega
theorem lit_commit : Steps n m m.commit := by
  have o := M.commit_ok ok
  unfold M.commit at o ⊢
  split
  · exact lit_no h ok (by decide)
  · rename_i h1
    rw [if_neg h1] at o
    exact lit_step h o rfl rfl rfl rfl h.fit
/-- Dropping the first name. -/
theorem drop_first {e : En} {r : List En} (hd : m.dir = e :: r) : (m.drop e.name).1 = 0 ∧ (m.drop e.name).2.dir = r ∧ (m.drop e.name).2.count = m.count + 1 := by
  have hm : e ∈ m.dir := by rw [hd]; simp
  have hf : findE m.dir e.name = some e := findE_mem ok.od hm
  have h1 : m.first e.name true = 0 := first_some h.lit (ok.gd e hm) hf
  have e1 : m.drop e.name = (0, M.lose e.name m.tick) := by
    unfold M.drop
    rw [if_neg (by rw [h1]; simp)]
    unfold M.step
    rw [if_neg (by rw [h.left]; decide)]
  rw [e1]
  refine ⟨rfl, ?_, rfl⟩
  have h2 := M.split_cut ok.od hf
  have h3 : cutE m.dir e.name = r := by
    have ho := ok.od
    rw [hd] at ho ⊢
    obtain ⟨q1, q2⟩ := List.pairwise_cons.1 ho
    unfold cutE
    rw [List.filter_cons, if_neg (by simp), List.filter_eq_self]
    intro y hy
    have := q1 y hy
    have hne : y.name ≠ e.name := fun e' => by
      unfold cmpE at this
      rw [e', cmpS3.self] at this; omega
    simp [hne]
  exact h3
end
end Go.Proofs.Ytaoecclacldbcaa
