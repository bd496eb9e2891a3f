/-
  WHAT THE LAW StoreTurns SAYS OF A STORE: wherever the plan fails. Of no program.
-/
import Derived.Test.YtaoecclacldbcaaTurns
namespace Go.Proofs.Ytaoecclacldbcaa
open Go.RowKit

namespace M
theorem make_count (m : M) (n : ByteArray) : (m.make n).2.count ≤ m.count + 1 := by
  unfold M.make
  split
  · exact Nat.le_succ _
  · split
    · exact Nat.le_succ _
    · split
      · exact Nat.le_succ _
      · exact step_count m _ rfl
theorem write_count (m : M) (n : ByteArray) (b : List UInt8) : (m.write n b).2.count ≤ m.count + 1 := by
  unfold M.write
  split
  · exact Nat.le_succ _
  · split
    · exact Nat.le_succ _
    · exact step_count m _ rfl
theorem cut_count (m : M) (n : ByteArray) (k : Int) : (m.cut n k).2.count ≤ m.count + 1 := by
  unfold M.cut
  split
  · exact Nat.le_succ _
  · split
    · exact Nat.le_succ _
    · exact step_count m _ rfl
theorem sync_count (m : M) (n : ByteArray) : (m.sync n).2.count ≤ m.count + 1 := by
  unfold M.sync
  split
  · exact Nat.le_succ _
  · exact step_count m _ rfl
theorem move_count (m : M) (n t : ByteArray) : (m.move n t).2.count ≤ m.count + 1 := by
  unfold M.move
  split
  · exact Nat.le_succ _
  · split
    · exact Nat.le_succ _
    · split
      · exact Nat.le_succ _
      · exact step_count m _ rfl
theorem drop_count (m : M) (n : ByteArray) : (m.drop n).2.count ≤ m.count + 1 := by
  unfold M.drop
  split
  · exact Nat.le_succ _
  · exact step_count m _ rfl
theorem commit_count (m : M) : m.commit.2.count ≤ m.count + 1 := by
  unfold M.commit
  split
  · exact Nat.le_succ _
  · exact step_count m _ rfl
theorem dark_write {m : M} (h : m.dark = true) (n : ByteArray) (b : List UInt8) : m.write n b = (9, m) := by unfold M.write M.first; simp [h]
theorem dark_sync {m : M} (h : m.dark = true) (n : ByteArray) : m.sync n = (9, m) := by unfold M.sync M.first; simp [h]
theorem dark_move {m : M} (h : m.dark = true) (n t : ByteArray) : m.move n t = (9, m) := by unfold M.move; simp [h]
theorem dark_commit {m : M} (h : m.dark = true) : m.commit = (9, m) := by unfold M.commit; simp [h]
end M
def N6 (o : List UInt8) (l kp : Int) : M := ⟨100000, [⟨o, o⟩, ⟨[], []⟩], [⟨tA, 0⟩, ⟨tB, 1⟩], [⟨tA, 0⟩], false, 5, l, kp⟩
def N7 (o f : List UInt8) (l kp : Int) : M := ⟨100000, [⟨o, o⟩, ⟨f, []⟩], [⟨tA, 0⟩, ⟨tB, 1⟩], [⟨tA, 0⟩], false, 6, l, kp⟩
def N8 (o f : List UInt8) (l kp : Int) : M := ⟨100000, [⟨o, o⟩, ⟨f, f⟩], [⟨tA, 0⟩, ⟨tB, 1⟩], [⟨tA, 0⟩], false, 7, l, kp⟩
def N9 (o f : List UInt8) (l kp : Int) : M := ⟨100000, [⟨o, o⟩, ⟨f, f⟩], [⟨tA, 1⟩], [⟨tA, 0⟩], false, 8, l, kp⟩
def N10 (o f : List UInt8) (l kp : Int) : M := ⟨100000, [⟨o, o⟩, ⟨f, f⟩], [⟨tA, 1⟩], [⟨tA, 1⟩], false, 9, l, kp⟩
theorem N6_need (o : List UInt8) (l kp : Int) : (N6 o l kp).need = 32 + o.length := by simp [N6, M.need, M.needL, M.fl]; omega
theorem e6 (o : List UInt8) (k kp : Int) (h : o.length ≤ 5000) : (mOne ⟨o, o⟩ 4 k kp).make tB = if k = 1 then (9, (mOne ⟨o, o⟩ 4 k kp).tick.fail kp) else (0, N6 o (M.less k) kp) := by
  rw [make_go rfl rfl (by rw [mOne_need]; show ¬ (100000 : Int) - _ < _; simp; omega)]
  rfl
theorem e7 (o f : List UInt8) (k kp : Int) (h : o.length + f.length ≤ 5000) : (N6 o k kp).write tB f = if k = 1 then (9, (N6 o k kp).tick.fail kp) else (0, N7 o f (M.less k) kp) := by
  rw [write_go rfl (by rw [N6_need]; show ¬ (100000 : Int) - _ < _; simp; omega)]
  rfl
theorem e8 (o f : List UInt8) (k kp : Int) : (N7 o f k kp).sync tB = if k = 1 then (9, (N7 o f k kp).tick.fail kp) else (0, N8 o f (M.less k) kp) := rfl
theorem e9 (o f : List UInt8) (k kp : Int) : (N8 o f k kp).move tB tA = if k = 1 then (9, (N8 o f k kp).tick.fail kp) else (0, N9 o f (M.less k) kp) := rfl
theorem e10 (o f : List UInt8) (k kp : Int) : (N9 o f k kp).commit = if k = 1 then (9, (N9 o f k kp).tick.fail kp) else (0, N10 o f (M.less k) kp) := rfl
/-- Dark, and behind it the old bytes. -/
def Back (o : List UInt8) (m : M) : Prop := m.dark = true ∧ m.power.read tA = (o, 0)
theorem fo (o : List UInt8) (kp : Int) : ((failF kp ⟨o, o⟩).now, (0 : Int)) = (o, 0) := by rw [failF_sure kp rfl]
theorem d6 (o : List UInt8) (k kp : Int) : Back o ((mOne ⟨o, o⟩ 4 k kp).tick.fail kp) := ⟨rfl, (show _ = ((failF kp ⟨o, o⟩).now, (0 : Int)) from rfl).trans (fo o kp)⟩
theorem d7 (o : List UInt8) (k kp : Int) : Back o ((N6 o k kp).tick.fail kp) := ⟨rfl, (show _ = ((failF kp ⟨o, o⟩).now, (0 : Int)) from rfl).trans (fo o kp)⟩
theorem d8 (o f : List UInt8) (k kp : Int) : Back o ((N7 o f k kp).tick.fail kp) := ⟨rfl, (show _ = ((failF kp ⟨o, o⟩).now, (0 : Int)) from rfl).trans (fo o kp)⟩
theorem d9 (o f : List UInt8) (k kp : Int) : Back o ((N8 o f k kp).tick.fail kp) := ⟨rfl, (show _ = ((failF kp ⟨o, o⟩).now, (0 : Int)) from rfl).trans (fo o kp)⟩
theorem d10 (o f : List UInt8) (k kp : Int) : Back o ((N9 o f k kp).tick.fail kp) := ⟨rfl, (show _ = ((failF kp ⟨o, o⟩).now, (0 : Int)) from rfl).trans (fo o kp)⟩
theorem d11 (o f : List UInt8) (k kp : Int) : ((N10 o f k kp).fail kp).power.read tA = (f, 0) := (show _ = ((failF kp ⟨f, f⟩).now, (0 : Int)) from rfl).trans (fo f kp)
theorem turn_fin (o f : List UInt8) (h : o.length + f.length ≤ 5000) (k kp : Int) (h0 : 0 ≤ k) (h7 : k < 7) (c : Int × M)
    (hc : (((((mOne ⟨o, o⟩ 4 k kp).make tB).2.write tB f).2.sync tB).2.move tB tA).2.commit = c) :
    ((k = 0 ∨ k = 6) ∧ c.1 = 0 ∧ c.2.dark = false ∧ (c.2.fail kp).power.read tA = (f, 0)) ∨ ((¬ k = 0 ∧ ¬ k = 6) ∧ c.1 = 9 ∧ c.2.dark = true ∧ c.2.power.read tA = (o, 0)) := by
  have dk : ∀ m, Back o m → m.commit = c → (¬ k = 0 ∧ ¬ k = 6) → ((k = 0 ∨ k = 6) ∧ c.1 = 0 ∧ c.2.dark = false ∧ (c.2.fail kp).power.read tA = (f, 0)) ∨ ((¬ k = 0 ∧ ¬ k = 6) ∧ c.1 = 9 ∧ c.2.dark = true ∧ c.2.power.read tA = (o, 0)) := fun m hb hm hk => by
    rw [M.dark_commit hb.1] at hm
    subst hm
    exact .inr ⟨hk, rfl, hb.1, hb.2⟩
  rw [e6 o k kp (by omega)] at hc
  by_cases k1 : k = 1
  · have D := d6 o k kp
    rw [if_pos k1] at hc
    rw [M.dark_write D.1, M.dark_sync D.1, M.dark_move D.1] at hc
    exact dk _ D hc (by omega)
  rw [if_neg k1] at hc
  simp only at hc
  rw [e7 o f _ kp h] at hc
  by_cases k2 : M.less k = 1
  · have D := d7 o (M.less k) kp
    rw [if_pos k2] at hc
    rw [M.dark_sync D.1, M.dark_move D.1] at hc
    exact dk _ D hc (by unfold M.less at k2; split at k2 <;> omega)
  rw [if_neg k2] at hc
  simp only at hc
  rw [e8] at hc
  by_cases k3 : M.less (M.less k) = 1
  · have D := d8 o f (M.less (M.less k)) kp
    rw [if_pos k3] at hc
    rw [M.dark_move D.1] at hc
    exact dk _ D hc (by unfold M.less at k3; (repeat' split at k3) <;> omega)
  rw [if_neg k3] at hc
  simp only at hc
  rw [e9] at hc
  by_cases k4 : M.less (M.less (M.less k)) = 1
  · have D := d9 o f (M.less (M.less (M.less k))) kp
    rw [if_pos k4] at hc
    exact dk _ D hc (by unfold M.less at k4; (repeat' split at k4) <;> omega)
  rw [if_neg k4] at hc
  simp only at hc
  rw [e10] at hc
  by_cases k5 : M.less (M.less (M.less (M.less k))) = 1
  · have D := d10 o f (M.less (M.less (M.less (M.less k)))) kp
    rw [if_pos k5] at hc
    subst hc
    exact .inr ⟨by unfold M.less at k5; (repeat' split at k5) <;> omega, rfl, D.1, D.2⟩
  rw [if_neg k5] at hc
  subst hc
  refine .inl ⟨?_, rfl, rfl, d11 o f _ kp⟩
  unfold M.less at k2 k3 k4 k5
  rcases (show k = 0 ∨ k = 1 ∨ k = 2 ∨ k = 3 ∨ k = 4 ∨ k = 5 ∨ k = 6 by omega) with rfl | rfl | rfl | rfl | rfl | rfl | rfl <;> simp_all
end Go.Proofs.Ytaoecclacldbcaa
