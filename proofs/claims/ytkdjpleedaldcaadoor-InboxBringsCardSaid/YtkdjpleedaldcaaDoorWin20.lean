/-
  A WINDOW, of no program: its numbers, what was sent, what is there, and when; what is done to it; how it lies in memory.
-/
import Derived.Test.YtkdjpleedaldcaaDoorRanges
import Derived.Test.YtkdjpleedaldcaaDoorSets2
import Derived.Test.YtkdjpleedaldcaaDoorFar
namespace Go.Proofs.YtkdjpleedaldcaaDoor.W
open Go.RowKit


theorem cell_on {w w' : World} {b j : Nat} {v : Value} (hb : Below w.heap.size w w') (h : w.cell? ⟨b, j, none⟩ = some v) : w'.cell? ⟨b, j, none⟩ = some v := (hb.cell (p := ⟨b, j, none⟩) (World.block_lt_of_cell? w _ h)).trans h


structure Wn where
  s : Nat
  t : Nat
  b : Nat
  sent : Nat
  there : Nat
  tick : Nat → Nat


/-- What a window that a call made always is. -/
structure Wn.Ok (m : Wn) : Prop where
  s1 : 1 ≤ m.s
  s2 : m.s ≤ 32
  t1 : 1 ≤ m.t
  t2 : m.t ≤ 1000
  b2 : m.b < 65536
  near : ∀ i, m.sent.testBit i = true → i < m.s
  sub : ∀ i, m.there.testBit i = true → m.sent.testBit i = true
  early : ∀ i, m.tick i ≤ 1125899906842624


theorem Wn.Ok.setS {m : Wn} (h : m.Ok) : IsSet m.sent := set_lt fun i hi => by
  cases hb : m.sent.testBit i with
  | false => rfl
  | true => have h1 := h.near i hb; have h2 := h.s2; omega

theorem Wn.Ok.setT {m : Wn} (h : m.Ok) : IsSet m.there := set_lt fun i hi => by
  cases hb : m.there.testBit i with
  | false => rfl
  | true => have h1 := h.near i (h.sub i hb); have h2 := h.s2; omega


/-- A new one. -/
def newW (s t : Nat) : Wn := ⟨s, t, 0, 0, 0, fun _ => 0⟩

theorem newW_ok {s t : Nat} (h1 : 1 ≤ s) (h2 : s ≤ 32) (h3 : 1 ≤ t) (h4 : t ≤ 1000) : (newW s t).Ok := ⟨h1, h2, h3, h4, by simp [newW], by simp [newW], by simp [newW], by simp [newW]⟩


/-- Is a place to be sent now? -/
def dueB (m : Wn) (now k : Nat) : Bool := !m.there.testBit k && !(m.sent.testBit k && decide ((now : Int) - m.tick k < m.t))

/-- A place is sent. -/
def putW (m : Wn) (k now : Nat) : Wn := { m with sent := withS m.sent k, tick := fun i => if i = k then now else m.tick i }

/-- The first K places are gone through. -/
def sendM (m : Wn) (now : Nat) : Nat → Wn
  | 0 => m
  | k + 1 => if dueB (sendM m now k) now k then putW (sendM m now k) k now else sendM m now k

def sendL (m : Wn) (now : Nat) : Nat → List Int
  | 0 => []
  | k + 1 => if dueB (sendM m now k) now k then sendL m now k ++ [(k : Int)] else sendL m now k

/-- How many places are looked at. -/
def lookN (m : Wn) (hv : Int) : Nat := (min hv m.s).toNat

/-- A tick within bounds. -/
def nowN (now : Int) : Nat := (min (max now 0) 1125899906842624).toNat

theorem nowN_le (now : Int) : nowN now ≤ 1125899906842624 := by unfold nowN; omega

theorem lookN_le (m : Wn) (hv : Int) : lookN m hv ≤ m.s := by unfold lookN; omega


theorem putW_ok {m : Wn} (h : m.Ok) {k now : Nat} (hk : k < m.s) (hn : now ≤ 1125899906842624) : (putW m k now).Ok := by
  have hs := h.s2
  refine ⟨h.s1, h.s2, h.t1, h.t2, h.b2, fun i hi => ?_, fun i hi => ?_, fun i => ?_⟩
  · simp only [putW, withS_test, Bool.or_eq_true, decide_eq_true_eq] at hi ⊢
    rcases hi with hi | hi
    · exact h.near i hi
    · omega
  · simp only [putW, withS_test, Bool.or_eq_true, decide_eq_true_eq] at hi ⊢
    exact .inl (h.sub i hi)
  · simp only [putW]
    split
    · exact hn
    · exact h.early i

theorem sendM_same (m : Wn) (now k : Nat) : (sendM m now k).s = m.s ∧ (sendM m now k).t = m.t ∧ (sendM m now k).b = m.b ∧ (sendM m now k).there = m.there := by
  induction k with
  | zero => exact ⟨rfl, rfl, rfl, rfl⟩
  | succ k ih => unfold sendM; split <;> exact ih

theorem sendM_ok {m : Wn} (h : m.Ok) {now : Nat} (hn : now ≤ 1125899906842624) (k : Nat) (hk : k ≤ m.s) : (sendM m now k).Ok := by
  induction k with
  | zero => exact h
  | succ k ih =>
    unfold sendM
    split
    · exact putW_ok (ih (by omega)) (by rw [(sendM_same m now k).1]; omega) hn
    · exact ih (by omega)

theorem sendM_tick (m : Wn) (now k i : Nat) : (sendM m now k).tick i = if i < k ∧ dueB m now i = true then now else m.tick i := by
  induction k generalizing i with
  | zero => simp [sendM]
  | succ k ih =>
    have hd : dueB (sendM m now k) now k = dueB m now k ∧ ((sendM m now k).sent.testBit k = m.sent.testBit k) := by
      have hs : ∀ j, (sendM m now j).sent.testBit k = if j ≤ k then m.sent.testBit k else (sendM m now j).sent.testBit k := by
        intro j
        induction j with
        | zero => simp [sendM]
        | succ j ihj =>
          by_cases hj : j + 1 ≤ k
          · rw [if_pos hj]
            rw [if_pos (by omega)] at ihj
            unfold sendM
            split
            · simp only [putW, withS_test, ihj]
              rw [decide_eq_false (by omega), Bool.or_false]
            · exact ihj
          · rw [if_neg hj]
      have h1 := hs k
      rw [if_pos (Nat.le_refl k)] at h1
      refine ⟨?_, h1⟩
      unfold dueB
      rw [(sendM_same m now k).2.2.2, h1, ih k, (sendM_same m now k).2.1]
      simp
    unfold sendM
    rw [hd.1]
    by_cases hb : dueB m now k = true
    · rw [if_pos hb]
      show (if i = k then now else (sendM m now k).tick i) = _
      by_cases hik : i = k
      · subst hik
        rw [if_pos rfl, if_pos ⟨by omega, hb⟩]
      · rw [if_neg hik, ih i]
        have : (i < k + 1) ↔ (i < k) := by omega
        simp only [this]
    · rw [if_neg hb, ih i]
      by_cases hik : i = k
      · subst hik
        rw [if_neg (by omega), if_neg (by simp [hb])]
      · have : (i < k + 1) ↔ (i < k) := by omega
        simp only [this]

theorem sendM_sent (m : Wn) (now k : Nat) (hk : k ≤ 64) (i : Nat) : (sendM m now k).sent.testBit i = (m.sent.testBit i || (decide (i < k) && dueB m now i)) := by
  induction k generalizing i with
  | zero => simp [sendM]
  | succ k ih =>
    have hd : dueB (sendM m now k) now k = dueB m now k := by
      unfold dueB
      rw [(sendM_same m now k).2.2.2, ih (by omega) k, sendM_tick m now k k, (sendM_same m now k).2.1]
      simp
    unfold sendM
    rw [hd]
    by_cases hb : dueB m now k = true
    · rw [if_pos hb]
      show (withS (sendM m now k).sent (k : Int)).testBit i = _
      rw [withS_test, ih (by omega) i]
      by_cases hik : i = k
      · subst hik
        simp [hb]
        omega
      · rw [show decide ((i : Int) = (k : Int) ∧ i < 64) = false from decide_eq_false (by omega), Bool.or_false]
        have : decide (i < k + 1) = decide (i < k) := decide_eq_decide.2 (by omega)
        rw [this]
    · rw [if_neg hb, ih (by omega) i]
      by_cases hik : i = k
      · subst hik
        simp [hb]
      · have : decide (i < k + 1) = decide (i < k) := decide_eq_decide.2 (by omega)
        rw [this]

theorem sendM_due (m : Wn) (now k : Nat) (hk : k < 64) : dueB (sendM m now k) now k = dueB m now k := by
  unfold dueB
  rw [(sendM_same m now k).2.2.2, sendM_sent m now k (by omega) k, sendM_tick m now k k, (sendM_same m now k).2.1]
  simp

theorem sendL_eq (m : Wn) (now k : Nat) (hk : k ≤ 64) : sendL m now k = ((List.range k).filter (dueB m now)).map fun i : Nat => (i : Int) := by
  induction k with
  | zero => rfl
  | succ k ih =>
    unfold sendL
    rw [sendM_due m now k (by omega), ih (by omega), List.range_succ, List.filter_append, List.map_append]
    cases hb : dueB m now k <;> simp [hb]

theorem sendL_len (m : Wn) (now k : Nat) : (sendL m now k).length ≤ k := by
  induction k with
  | zero => exact Nat.le_refl _
  | succ k ih =>
    unfold sendL
    split
    · simp; omega
    · omega


/-- What is open. -/
def openS (m : Wn) : Nat := m.sent &&& (18446744073709551615 - m.there)

theorem openS_test {m : Wn} (h : IsSet m.there) (i : Nat) : (openS m).testBit i = (m.sent.testBit i && (decide (i < 64) && !m.there.testBit i)) := by
  unfold openS
  rw [Nat.testBit_and]
  congr 1
  have h1 : (18446744073709551615 - m.there) = 2 ^ 64 - (m.there + 1) := by omega
  rw [h1, Nat.testBit_two_pow_sub_succ h]

theorem openS_set {m : Wn} (hs : IsSet m.sent) : IsSet (openS m) := Nat.lt_of_le_of_lt Nat.and_le_left hs

def openN (m : Wn) : Nat := (listN (openS m)).length


/-- May there be a first n, and was each of them sent? -/
def mayA (m : Wn) (n : Int) : Bool := decide (0 ≤ n ∧ n ≤ m.s ∧ n ≤ runS m.sent)

def theresS (m : Wn) (n : Nat) (set : Nat) : Nat := m.there ||| (slideS set (-((n : Int) + 1)) &&& m.sent)

def slidM (m : Wn) (n : Nat) : Wn := ⟨m.s, m.t, (m.b + n) % 65536, slideS m.sent n, slideS m.there n, fun i => if i + n < 32 then m.tick (i + n) else m.tick i⟩

def ackM (m : Wn) (n set : Nat) : Wn := slidM { m with there := theresS m n set } n

theorem theres_ok {m : Wn} (h : m.Ok) (n set : Nat) : ({ m with there := theresS m n set } : Wn).Ok := by
  refine ⟨h.s1, h.s2, h.t1, h.t2, h.b2, h.near, fun i hi => ?_, h.early⟩
  unfold theresS at hi
  simp only [Nat.testBit_or, Nat.testBit_and, Bool.or_eq_true, Bool.and_eq_true] at hi
  rcases hi with hi | hi
  · exact h.sub i hi
  · exact hi.2

theorem slid_ok {m : Wn} (h : m.Ok) (n : Nat) : (slidM m n).Ok := by
  have hs2 := h.s2
  refine ⟨h.s1, h.s2, h.t1, h.t2, Nat.mod_lt _ (by decide), fun i hi => ?_, fun i hi => ?_, fun i => ?_⟩
  · simp only [slidM, slideS_test _ h.setS, Bool.and_eq_true] at hi
    have h1 := h.near _ hi.2
    simp only [slidM]
    omega
  · simp only [slidM, slideS_test _ h.setS, slideS_test _ h.setT, Bool.and_eq_true] at hi ⊢
    exact ⟨hi.1, h.sub _ hi.2⟩
  · simp only [slidM]
    split <;> exact h.early _

theorem ack_ok {m : Wn} (h : m.Ok) (n set : Nat) : (ackM m n set).Ok := slid_ok (theres_ok h n set) n


/-- A window's cells. -/
def wf (m : Wn) : Nat → Value
  | 0 => .int .i64 m.s
  | 1 => .int .i64 m.t
  | 2 => .int .u16 m.b
  | 3 => .int .u64 m.sent
  | 4 => .int .u64 m.there
  | k + 5 => .int .i64 (m.tick k)

def wcells (m : Wn) : List Value := (List.range 37).map (wf m)

/-- A window in memory. -/
def WAt (w : World) (p : Nat) (m : Wn) : Prop := w.heap[p]? = some (.cells (wcells m).toArray 50 (0, 0))

theorem WAt.cell {w : World} {p : Nat} {m : Wn} (h : WAt w p m) {i : Nat} (hi : i < 37) : w.cell? ⟨p, i, none⟩ = some (wf m i) := by
  rw [cell_of_row w p i _ 50 (0, 0) h]
  simp [wcells, hi]

theorem WAt.tick {w : World} {p : Nat} {m : Wn} (h : WAt w p m) {i : Nat} (hi : i < 32) : w.cell? ⟨p, 5 + i, none⟩ = some (.int .i64 (m.tick i)) := by
  rw [h.cell (by omega), show 5 + i = i + 5 by omega]; rfl

theorem WAt.lt {w : World} {p : Nat} {m : Wn} (h : WAt w p m) : p < w.heap.size := World.block_lt_of_cell? w _ (h.cell (i := 0) (by decide))

theorem WAt.same {w w' : World} {p : Nat} {m : Wn} (h : WAt w p m) (hs : w'.heap[p]? = w.heap[p]?) : WAt w' p m := by unfold WAt; rw [hs]; exact h

theorem WAt.below {w w' : World} {p B : Nat} {m : Wn} (h : WAt w p m) (hb : Below B w w') (hp : p < B) : WAt w' p m := h.same (hb.block p hp)

theorem WAt.free {w : World} {p : Nat} {m : Wn} (h : WAt w p m) (i : Nat) : w.frozen? ⟨p, i, none⟩ = false := by
  have : w.heap[p]? = some (.cells (wcells m).toArray 50 (0, 0)) := h
  simp [World.frozen?, this]

theorem WAt.set {w : World} {p : Nat} {m m' : Wn} (h : WAt w p m) (k : Nat) (v : Value) (hm : ∀ i, i < 37 → wf m' i = if i = k then v else wf m i) : WAt (w.setCell ⟨p, k, none⟩ v) p m' := by
  have h1 := heap_setCell_same w p k _ 50 v h
  unfold WAt
  rw [h1]
  congr 2
  apply Array.ext'
  apply List.ext_getElem?
  intro i
  unfold wcells
  simp only [Array.toList_setIfInBounds, List.getElem?_set, List.getElem?_map, List.length_map, List.length_range]
  by_cases hn : i < 37
  · have hmi := hm i hn
    simp only [List.getElem?_range hn, Option.map_some, hmi]
    by_cases hi : k = i
    · subst hi
      simp [hn]
    · rw [if_neg hi, if_neg (fun h : i = k => hi h.symm)]
  · by_cases hi : k = i
    · subst hi; simp [hn]
    · simp [hn, hi]

/-- Of what was there nothing but the block p has changed. -/
structure Only (p : Nat) (w w' : World) : Prop where
  os : w'.os = w.os
  tape : w'.tape = w.tape
  output : w'.output = w.output
  size : w.heap.size ≤ w'.heap.size
  block : ∀ k, k < w.heap.size → k ≠ p → w'.heap[k]? = w.heap[k]?

theorem Only.refl (p : Nat) (w : World) : Only p w w := ⟨rfl, rfl, rfl, Nat.le_refl _, fun _ _ _ => rfl⟩

theorem Only.trans {p : Nat} {a b c : World} (h : Only p a b) (k : Only p b c) : Only p a c :=
  ⟨k.os.trans h.os, k.tape.trans h.tape, k.output.trans h.output, Nat.le_trans h.size k.size, fun i hi hn => (k.block i (Nat.lt_of_lt_of_le hi h.size) hn).trans (h.block i hi hn)⟩

theorem Only.of_below {p : Nat} {w w' : World} (h : Below w.heap.size w w') : Only p w w' := ⟨h.os, h.tape, h.output, h.size, fun k hk _ => h.block k hk⟩

theorem Only.below {p B : Nat} {w w' : World} (h : Only p w w') (hp : B ≤ p) (hB : B ≤ w.heap.size) : Below B w w' := ⟨h.os, h.tape, h.output, h.size, fun k hk => h.block k (by omega) (by omega)⟩

theorem Only.set (w : World) (p k : Nat) (v : Value) : Only p w (w.setCell ⟨p, k, none⟩ v) := by
  have h : Below p w (w.setCell ⟨p, k, none⟩ v) := (Below.refl p w).setCell (p := ⟨p, k, none⟩) (Nat.le_refl _) _
  refine ⟨h.os, h.tape, h.output, by simp, fun i hi hn => ?_⟩
  exact Below.heap_setCell w ⟨p, k, none⟩ v i (by simpa using hn)

end Go.Proofs.YtkdjpleedaldcaaDoor.W
