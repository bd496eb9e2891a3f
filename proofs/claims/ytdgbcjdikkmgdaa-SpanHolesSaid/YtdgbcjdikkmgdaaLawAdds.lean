/-
  THE LAW SpanAdds.
-/
import Derived.Test.YtdgbcjdikkmgdaaLives
namespace Go.Proofs.Ytdgbcjdikkmgdaa
open Go.RowKit

/-- In w the slice v holds just these numbers. -/
def Nums (w : World) (v : Value) (l : List Nat) : Prop :=
  (v = .slice none 0 0 ∧ l = []) ∨ ∃ a cap, v = .slice (some a) l.length cap ∧ l.length ≤ cap ∧ cap ≤ maxLen ∧ ∀ i (h : i < l.length), w.cell? (a.add i) = some (.int .u64 (l[i] : Int))
theorem Nums.slice {w : World} {v : Value} {l : List Nat} (h : Nums w v l) : ∃ a cap, v = .slice a l.length cap ∧ l.length ≤ 9223372036854775807 := by
  rcases h with ⟨rfl, rfl⟩ | ⟨a, cap, rfl, h1, h2, _⟩
  · exact ⟨_, _, rfl, by simp⟩
  · exact ⟨_, _, rfl, by unfold maxLen at h2; omega⟩
theorem Nums.at {w : World} {a : Option Addr} {cap : Nat} {l : List Nat} (h : Nums w (.slice a l.length cap) l) (i : Nat) (hi : i < l.length) : ∃ b off, a = some ⟨b, off, none⟩ ∧ w.cell? ⟨b, off + i, none⟩ = some (.int .u64 (l[i] : Int)) := by
  rcases h with ⟨_, rfl⟩ | ⟨a', cap', hv, _, _, h3⟩
  · simp at hi
  · injection hv with hv1 _ _
    subst hv1
    obtain ⟨b, off, spot⟩ := a'
    have h0 := h3 i hi
    have hspot : spot = none := by simpa [Addr.add] using World.cell?_spot (h3 0 (by omega))
    subst hspot
    refine ⟨b, off, rfl, ?_⟩
    rw [← Go.WideShapes.add_plain]
    exact h0

set_option maxHeartbeats 400000 in
theorem alike_any (s lv : Value) (l : List (Nat × Nat)) (w : World) (hs : Lies w s l) (hr : Rng w lv l) (hl : Apart 1 l) (hlen : l.length ≤ 1000000) :
    Calls Try.prog 13 #[s, lv] w fun e w' => e = .returned (.bool true) ∧ Below w.heap.size w w' := by
  go_enter Try.func13, Try.ntmps13
  go_wp2_with fail
  refine (ranges_any s l w hs hlen).mono ?_
  rintro e w1 ⟨v1, rfl, o1, b1⟩
  obtain ⟨a1, c1, rfl⟩ := o1.rng.slice
  have hr1 := hr.below b1 (Nat.le_refl _)
  obtain ⟨a2, c2, rfl⟩ := hr.slice
  go_wp2_with fail
  refine (same_any _ _ l l w1 o1.rng hr1).mono ?_
  rintro e w2 ⟨rfl, b2⟩
  have hs2 := (hs.below b1 (Nat.le_refl _)).below b2 (Nat.le_refl _)
  have hr2 := hr1.below b2 (Nat.le_refl _)
  rw [decide_eq_true rfl]
  go_wp2_with fail
  refine (low_any s l w2 hs2).mono ?_
  rintro e w' ⟨rfl, rfl⟩
  go_wp2_with fail
  refine (rlow_any _ l _ hr2).mono ?_
  rintro e w' ⟨rfl, rfl⟩
  go_wp2_with fail
  refine (top_any s l _ hs2).mono ?_
  rintro e w' ⟨rfl, rfl⟩
  go_wp2_with fail
  refine (rtop_any _ l _ hr2).mono ?_
  rintro e w' ⟨rfl, rfl⟩
  go_wp2_with fail
  refine (gaps_any s l _ hs2 hl).mono ?_
  rintro e w' ⟨rfl, rfl⟩
  go_wp2_with fail
  refine (rgaps_any _ l _ hr2).mono ?_
  rintro e w3 ⟨rfl, b3⟩
  go_wp2
  go_ret
  exact ⟨rfl, (b1.trans (b2.mono b1.size)).trans (b3.mono (Nat.le_trans b1.size b2.size))⟩

/-- The document's Add and the program's tell the same ranges. -/
theorem put_eq_add {l : List (Nat × Nat)} {n : Nat} (h : Apart 1 l) (hn : ¬ (n = 0 ∨ Mem l n)) : putL l (n, n) = addL l n := by
  have h0 : n ≠ 0 := fun h0 => hn (.inl h0)
  obtain ⟨a1, a2, _⟩ := addL_ok h h0 (fun hm => hn (.inr hm))
  obtain ⟨p1, p2⟩ := putL_ok l (n, n) 1 h (by show 1 ≤ n; omega) (Nat.le_refl _)
  refine p1.unique a1 fun m => ?_
  rw [p2 m, a2 m]
  constructor
  · rintro (h | ⟨h1, h2⟩)
    · exact .inl h
    · exact .inr (Nat.le_antisymm h2 h1)
  · rintro (h | rfl)
    · exact .inl h
    · exact .inr ⟨Nat.le_refl _, Nat.le_refl _⟩
theorem addS_length {l : List (Nat × Nat)} {n : Nat} (h : Apart 1 l) : (addS l n).length ≤ l.length + 1 := by
  by_cases hh : n = 0 ∨ Mem l n
  · rw [addS_no hh]; omega
  · rw [addS_yes hh, ← put_eq_add h hh]; exact putL_length _ _

/-- A row of ranges keeps while a set is added to, whose row it is not. -/
theorem Own2.turned {w1 w2 : World} {b B : Nat} {lv v : Value} {l k : List (Nat × Nat)} (h : Own2 w1 b lv l) (hs : SetAt w1 B v k) (t : Turned w1 w2 B v) (hne : ∀ g, lv.ownBlock = some g → v.ownBlock ≠ some g) : Own2 w2 b lv l := by
  refine h.same fun g hg => t.block g (World.ownsRow.lt h g hg).2 (fun he => ?_) (hne g hg)
  subst he
  rcases h.2 with ⟨rfl, _⟩ | ⟨g', cap, cur, rfl, _, hgg, _⟩
  · simp [Value.ownBlock] at hg
  · simp only [Value.ownBlock, Option.some.injEq] at hg
    subst hg
    have := hs.blk
    rw [hgg] at this
    simp at this

set_option maxHeartbeats 1000000 in
theorem adds_law (v0 : Value) (nums : List Nat) (ask : Nat) (w : World) (hn : Nums w v0 nums) (hb : ∀ n ∈ nums, n < 18446744073709551616) :
    Calls Try.prog 3 #[v0, .int .u64 (ask : Int)] w fun e w' => e = .returned (.bool true) ∧ Below w.heap.size w w' := by
  obtain ⟨a, cap, rfl, hmax⟩ := hn.slice
  by_cases hlong : 200 < nums.length
  · have hl' : (200 : Int) < (nums.length : Int) := by omega
    clear hn
    go_enter Try.func3, Try.ntmps3
    go_wp2_with (go_at_call 9; refine (lives_any _).mono ?_; rintro e w' ⟨rfl, b⟩)
    go_ret
    exact ⟨rfl, b⟩
  · have hl' : ¬ (200 : Int) < (nums.length : Int) := by omega
    have HN : Hid (Nums w (.slice a nums.length cap) nums ∧ ∀ n ∈ nums, n < 18446744073709551616) := ⟨hn, hb⟩
    clear hn hb
    go_enter Try.func3, Try.ntmps3
    go_wp2_with (go_at_call 10; refine (new_any _).mono ?_; rintro e w0 ⟨rfl, _, rfl⟩)
    go_loopw [6, 21] (fun u6 u21 wr => ∃ (k : Nat) (v : Value) (l : List (Nat × Nat)), u21 = .int .i64 k ∧ k ≤ nums.length ∧ Hid (Mine w.heap.size w wr w.heap.size v l ∧ Fine l ∧ l.length ≤ k ∧ Own2 wr w.heap.size u6 l ∧ (∀ g, u6.ownBlock = some g → v.ownBlock ≠ some g))) (fun _ u21 _ => nums.length - (intOf u21).toNat)
    case atStart => exact ⟨0, .slice none 0 0, [], rfl, Nat.zero_le _, (⟨mine_new w, fine_nil, Nat.le_refl _, own2_nil _ _, fun g hg => by simp [Value.ownBlock] at hg⟩ : _ ∧ _)⟩
    case round =>
      obtain ⟨k, v, l, rfl, hk, HB⟩ := hrel
      by_cases hlt : k < nums.length
      · obtain ⟨b, off, rfl, hc⟩ := HN.out.1.at k hlt
        have hbw := World.block_lt_of_cell? w _ hc
        rw [← HB.out.1.bel.cell (p := ⟨b, off + k, none⟩) hbw] at hc
        have hnb := HN.out.2 nums[k] (List.getElem_mem hlt)
        generalize nums[k] = n at hc hnb
        obtain ⟨m1, f1, l1, o1, x1⟩ := HB.out
        obtain ⟨la, lc, rfl⟩ := o1.rng.slice
        go_wp2_with fail
        refine (add_any w.heap.size n v l wr m1.set f1.1 f1.2 hnb (by omega)).mono ?_
        rintro e w2 ⟨rfl, v2, s2, t2, n2⟩
        have m2 := m1.add s2 t2 n2
        have o2 := o1.turned m1.set t2 x1
        have f2 := f1.add hnb
        have l2 := addS_length (n := n) f1.1
        have x2 : ∀ g, (Value.slice la l.length lc).ownBlock = some g → v2.ownBlock ≠ some g := fun g hg he => by
          rcases n2 with e2 | ⟨g', e2, h2⟩
          · exact x1 g hg (by rw [← e2]; exact he)
          · rw [e2] at he
            injection he with he
            have := (World.ownsRow.lt o1 g hg).2
            omega
        clear s2 t2 n2 x1
        go_wp2_with fail
        refine (radd_any _ l n w2 o2.rng f1.1 f1.2 hnb (by omega)).mono ?_
        rintro e w3 ⟨b3, h3⟩
        have m3 := m2.go b3
        have key : ∃ lv' , e = .returned (.tuple #[lv', .bool (newB l n)]) ∧ Own2 w3 w.heap.size lv' (addS l n) ∧ (∀ g, lv'.ownBlock = some g → v2.ownBlock ≠ some g) := by
          rcases h3 with ⟨h, rfl⟩ | ⟨h, lv', rfl, o3⟩
          · refine ⟨_, ?_, ?_, x2⟩
            · rw [show newB l n = false by rw [Bool.eq_false_iff]; exact fun h' => (newB_true l n).1 h' h]
            · rw [addS_no h]; exact o2.kept b3 (Nat.le_refl _)
          · refine ⟨lv', ?_, ?_, fun g hg he => ?_⟩
            · rw [(newB_true l n).2 h]
            · rw [addS_yes h, ← put_eq_add f1.1 h]; exact o3.mono m2.sz
            · have h5 := (World.ownsRow.lt o3 g hg).1
              have h6 := (World.ownsRow.lt m2.set.own g he).2
              omega
        obtain ⟨lv3, rfl, o3, x3⟩ := key
        obtain ⟨la3, lc3, rfl⟩ := o3.rng.slice
        clear h3 o2 m2 x2 m1 o1
        have M3 : Hid _ := m3
        have O3 : Hid _ := o3
        generalize addS l n = l3 at *
        go_wp2_with fail
        refine (alike_any _ _ l3 w3 m3.set.lies o3.rng f2.1 (by omega)).mono ?_
        rintro e w4 ⟨rfl, b4⟩
        have m4 := m3.go b4
        have o4 := o3.kept b4 (Nat.le_refl _)
        go_wp2_with fail
        refine (has_any _ l3 ask w4 m4.set.lies f2.1 (by omega)).mono ?_
        rintro e w5 ⟨rfl, b5⟩
        have m5 := m4.go b5
        have o5 := o4.kept b5 (Nat.le_refl _)
        go_wp2_with fail
        refine (rhas_any _ l3 ask w5 o5.rng).mono ?_
        rintro e w6 ⟨rfl, b6⟩
        have m6 := m5.go b6
        have o6 := o5.kept b6 (Nat.le_refl _)
        go_wp2
        exact ⟨⟨k + 1, v2, l3, by go_num, by omega, (⟨m6, f2, by omega, o6, x3⟩ : _ ∧ _)⟩, by simp [intOf]; omega⟩
      · go_wp2_with (go_at_call 9; refine (lives_any _).mono ?_; rintro e w' ⟨rfl, b⟩)
        go_ret
        exact ⟨rfl, HB.out.1.bel.trans (b.mono HB.out.1.sz)⟩
end Go.Proofs.Ytdgbcjdikkmgdaa
