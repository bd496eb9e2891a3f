/-
  WHO GOES ONWARD: level by level. Of no program.
-/
import Derived.Test.YtcfagojkeholmaaRFar
namespace Go.Proofs.Ytcfagojkeholmaa

section
variable {S H o : Int} {l : List (Int × Int)}
theorem far_pred (hg : GoodT S l H) (ho : 1 ≤ o ∧ o ≤ S) {x : Int} {d : Nat} (h : far l o x = (d : Int) + 1) : ∃ a, (a, x) ∈ l ∧ far l o a = d := by
  have h1 := (far_le hg.1.2.1 hg.2.1 ho (d + 1) (x := x)).2 (by omega)
  rcases R_succ.1 h1 with h2 | ⟨⟨a, y⟩, he, h2, h3⟩
  · have := (far_le hg.1.2.1 hg.2.1 ho d (x := x)).1 h2; omega
  · simp only at h2 h3
    subst h3
    have h4 := (far_le hg.1.2.1 hg.2.1 ho d (x := a)).1 h2
    refine ⟨a, he, ?_⟩
    apply Classical.byContradiction
    intro hne
    have h5 := (far_le hg.1.2.1 hg.2.1 ho (far l o a).toNat (x := a)).2 (by omega)
    have h6 : R l o ((far l o a).toNat + 1) y = true := R_succ.2 (.inr ⟨(a, y), he, h5, rfl⟩)
    have := (far_le hg.1.2.1 hg.2.1 ho _ (x := y)).1 h6
    omega
theorem far_succ (hg : GoodT S l H) (ho : 1 ≤ o ∧ o ≤ S) {a b : Int} (he : (a, b) ∈ l) (h : 0 ≤ far l o a) : 0 ≤ far l o b ∧ far l o b ≤ far l o a + 1 := by
  have h5 := (far_le hg.1.2.1 hg.2.1 ho (far l o a).toNat (x := a)).2 (by omega)
  have h6 : R l o ((far l o a).toNat + 1) b = true := R_succ.2 (.inr ⟨(a, b), he, h5, rfl⟩)
  have := (far_le hg.1.2.1 hg.2.1 ho _ (x := b)).1 h6
  omega
theorem far_chain (hg : GoodT S l H) (ho : 1 ≤ o ∧ o ≤ S) : ∀ (k : Nat) {x : Int}, far l o x = k → ∀ j : Nat, j ≤ k → ∃ y, far l o y = j
  | 0, x, h, j, hj => ⟨x, by rw [h]; omega⟩
  | k + 1, x, h, j, hj => by
    by_cases he : j = k + 1
    · exact ⟨x, by rw [he]; exact h⟩
    · obtain ⟨a, _, ha⟩ := far_pred hg ho (d := k) (by rw [h]; omega)
      exact far_chain hg ho k ha j (by omega)
theorem far_zero (hg : GoodT S l H) (ho : 1 ≤ o ∧ o ≤ S) {x : Int} (h : far l o x = 0) : x = o := by
  have := (far_le hg.1.2.1 hg.2.1 ho 0 (x := x)).2 (by omega)
  simpa [R] using this
theorem far_site (hg : GoodT S l H) (ho : 1 ≤ o ∧ o ≤ S) {x : Int} (h : 0 ≤ far l o x) : 1 ≤ x ∧ x ≤ S :=
  Classical.byContradiction fun hn => by have := far_out hg.2.1 ho hn; omega
theorem mem_onward (hg : GoodT S l H) (ho : 1 ≤ o ∧ o ≤ S) {a b : Int} (ha : 1 ≤ a ∧ a ≤ S) : b ∈ onwardT S l H o a ↔ (0 ≤ far l o a ∧ far l o a < H) ∧ (a, b) ∈ l ∧ b ≠ o := by
  unfold onwardT
  rw [show farT S l H o a = far l o a by rw [farT, if_pos ⟨hg, ho, ha⟩], nextT, if_pos hg]
  by_cases h : 0 ≤ far l o a ∧ far l o a < H
  · rw [if_pos h, List.mem_filter, mem_nextL hg.2.1]
    simp [h]
  · rw [if_neg h]; simp [h]
theorem onward_nodup (S H o a : Int) (l : List (Int × Int)) : (onwardT S l H o a).Nodup := by
  unfold onwardT nextT
  split
  · split
    · exact (nodup_of_lt (nextL_lt S l a)).filter _
    · simp
  · simp
theorem onward_short (S H o a : Int) (l : List (Int × Int)) : (onwardT S l H o a).length ≤ 8 := by
  unfold onwardT nextT
  split
  · refine Nat.le_trans (List.length_filter_le _ _) ?_
    split
    · rename_i hg
      have := hg.1
      unfold nextL
      refine Nat.le_trans (List.length_filter_le _ _) ?_
      simp [sites]; omega
    · simp
  · simp

/-- What is noted behind level L. -/
def atF (l : List (Int × Int)) (o H : Int) (L : Nat) (x : Int) : Int := if 0 ≤ far l o x ∧ far l o x ≤ L ∧ far l o x ≤ H then far l o x + 1 else 0
/-- The sites of level L. -/
structure NowOk (l : List (Int × Int)) (o H : Int) (L : Nat) (now : List Int) : Prop where
  nd : now.Nodup
  mem : ∀ x, x ∈ now ↔ far l o x = (L : Int) ∧ (L : Int) ≤ H
theorem now_start (hg : GoodT S l H) (ho : 1 ≤ o ∧ o ≤ S) : NowOk l o H 0 [o] := by
  refine ⟨by simp, fun x => ?_⟩
  rw [List.mem_singleton]
  constructor
  · rintro rfl; exact ⟨far_self l x, hg.1.2.2.1⟩
  · intro h; exact far_zero hg ho h.1
theorem atF_start (hg : GoodT S l H) (ho : 1 ≤ o ∧ o ≤ S) (x : Int) : atF l o H 0 x = if x = o then 1 else 0 := by
  unfold atF
  by_cases h : x = o
  · subst h
    have := hg.1
    rw [far_self, if_pos (by omega), if_pos rfl]; omega
  · rw [if_neg h, if_neg (fun h' => h (far_zero hg ho (by omega)))]
/-- In the midst of a level. -/
structure MidOk (S H o : Int) (l : List (Int × Int)) (L : Nat) (now : List Int) (i : Nat) (cur nx : List Int) : Prop where
  nd : nx.Nodup
  sub : ∀ b ∈ nx, far l o b = (L : Int) + 1 ∧ (L : Int) + 1 ≤ H
  cov : ∀ a ∈ now.take i, ∀ b ∈ onwardT S l H o a, far l o b = (L : Int) + 1 → b ∈ nx
  cur : ∀ b ∈ cur, far l o b = (L : Int) + 1 → b ∈ nx
/-- What is noted in the midst of a level. -/
def atM (l : List (Int × Int)) (o H : Int) (L : Nat) (nx : List Int) (x : Int) : Int := if x ∈ nx then (L : Int) + 2 else atF l o H L x
theorem mid_begin (S H o : Int) (l : List (Int × Int)) (L : Nat) (now : List Int) : MidOk S H o l L now 0 [] [] := ⟨by simp, by simp, by simp, by simp⟩
theorem atM_begin (l : List (Int × Int)) (o H : Int) (L : Nat) (x : Int) : atM l o H L [] x = atF l o H L x := by simp [atM]
theorem MidOk.short {L : Nat} {now cur nx : List Int} {i : Nat} (hg : GoodT S l H) (ho : 1 ≤ o ∧ o ≤ S) (h : MidOk S H o l L now i cur nx) : nx.length ≤ 8 := by
  have hs : ∀ b ∈ nx, b ∈ sites 8 := fun b hb => by
    have := h.sub b hb
    have := far_site hg ho (x := b) (by omega)
    have := hg.1
    exact mem_sites.2 (by omega)
  exact Nat.le_trans (nodup_le h.nd hs) (by decide)
/-- A place that is free is of the next level. -/
theorem mid_free {L : Nat} {now cur nx : List Int} {i : Nat} (hg : GoodT S l H) (ho : 1 ≤ o ∧ o ≤ S) (_h : MidOk S H o l L now i cur nx) {a b : Int} (ha : far l o a = L) (hb : b ∈ onwardT S l H o a) :
    atM l o H L nx b = 0 ↔ b ∉ nx ∧ far l o b = (L : Int) + 1 := by
  have hm := (mem_onward hg ho (far_site hg ho (x := a) (by omega))).1 hb
  have hs := far_succ hg ho hm.2.1 hm.1.1
  unfold atM
  by_cases hn : b ∈ nx
  · rw [if_pos hn]; simp [hn]; omega
  · rw [if_neg hn]
    unfold atF
    by_cases hl : far l o b ≤ L
    · rw [if_pos ⟨hs.1, hl, by omega⟩]
      constructor
      · intro h0; omega
      · intro h0; omega
    · rw [if_neg (by omega)]
      simp [hn]; omega
theorem MidOk.skip {L : Nat} {now cur nx : List Int} {i : Nat} {b : Int} (h : MidOk S H o l L now i cur nx) (hb : ¬ (b ∉ nx ∧ far l o b = (L : Int) + 1)) : MidOk S H o l L now i (cur ++ [b]) nx := by
  refine ⟨h.nd, h.sub, h.cov, fun c hc hf => ?_⟩
  rcases List.mem_append.1 hc with hc | hc
  · exact h.cur c hc hf
  · rw [List.mem_singleton] at hc
    subst hc
    exact Classical.byContradiction fun hn => hb ⟨hn, hf⟩
theorem MidOk.put {L : Nat} {now cur nx : List Int} {i : Nat} {b : Int} (h : MidOk S H o l L now i cur nx) (hb : b ∉ nx ∧ far l o b = (L : Int) + 1) (hH : (L : Int) < H) : MidOk S H o l L now i (cur ++ [b]) (nx ++ [b]) := by
  refine ⟨?_, fun c hc => ?_, fun a ha c hc hf => List.mem_append.2 (.inl (h.cov a ha c hc hf)), fun c hc hf => ?_⟩
  · rw [List.nodup_append]
    refine ⟨h.nd, by simp, fun c hc c' hc' => ?_⟩
    rw [List.mem_singleton] at hc'
    subst hc'
    rintro rfl
    exact hb.1 hc
  · rcases List.mem_append.1 hc with hc | hc
    · exact h.sub c hc
    · rw [List.mem_singleton] at hc
      subst hc
      exact ⟨hb.2, by omega⟩
  · rcases List.mem_append.1 hc with hc | hc
    · exact List.mem_append.2 (.inl (h.cur c hc hf))
    · exact List.mem_append.2 (.inr hc)
theorem atM_put {L : Nat} {nx : List Int} {b : Int} (x : Int) : atM l o H L (nx ++ [b]) x = if x = b then (L : Int) + 2 else atM l o H L nx x := by
  unfold atM
  by_cases h : x = b
  · rw [if_pos h, if_pos (by simp [h])]
  · rw [if_neg h]
    by_cases hn : x ∈ nx
    · rw [if_pos hn, if_pos (by simp [hn])]
    · rw [if_neg hn, if_neg (by simp [hn, h])]
theorem MidOk.next {L : Nat} {now nx : List Int} {i : Nat} (hi : i < now.length) (h : MidOk S H o l L now i (onwardT S l H o now[i]) nx) : MidOk S H o l L now (i + 1) [] nx := by
  refine ⟨h.nd, h.sub, fun a ha b hb hf => ?_, by simp⟩
  rw [List.take_succ_eq_append_getElem hi] at ha
  rcases List.mem_append.1 ha with ha | ha
  · exact h.cov a ha b hb hf
  · rw [List.mem_singleton] at ha
    subst ha
    exact h.cur b hb hf
theorem MidOk.done {L : Nat} {now nx : List Int} (hg : GoodT S l H) (ho : 1 ≤ o ∧ o ≤ S) (hn : NowOk l o H L now) (h : MidOk S H o l L now now.length [] nx) : NowOk l o H (L + 1) nx := by
  refine ⟨h.nd, fun x => ⟨fun hx => by have := h.sub x hx; exact ⟨by omega, by omega⟩, fun hx => ?_⟩⟩
  obtain ⟨a, he, ha⟩ := far_pred hg ho (x := x) (d := L) (by have := hx.1; omega)
  have hs := far_site hg ho (x := a) (by omega)
  have hno : a ∈ now := (hn.mem a).2 ⟨ha, by have := hx.2; omega⟩
  refine h.cov a (by rw [List.take_length]; exact hno) x ((mem_onward hg ho hs).2 ⟨⟨by omega, by have := hx.2; omega⟩, he, ?_⟩) (by have := hx.1; omega)
  rintro rfl
  have := far_self l x
  have := hx.1
  omega
theorem atM_done {L : Nat} {nx : List Int} (hn : NowOk l o H (L + 1) nx) (x : Int) : atM l o H L nx x = atF l o H (L + 1) x := by
  unfold atM
  by_cases hx : x ∈ nx
  · rw [if_pos hx]
    have := (hn.mem x).1 hx
    unfold atF
    rw [if_pos (by omega)]; omega
  · rw [if_neg hx]
    unfold atF
    by_cases h : 0 ≤ far l o x ∧ far l o x ≤ L ∧ far l o x ≤ H
    · rw [if_pos h, if_pos (by omega)]
    · rw [if_neg h, if_neg]
      intro h'
      exact hx ((hn.mem x).2 (by omega))
/-- What is noted in the end. -/
def atE (l : List (Int × Int)) (o H : Int) (x : Int) : Int := if 0 ≤ far l o x ∧ far l o x ≤ H then far l o x + 1 else 0
theorem atF_end {L : Nat} {now : List Int} (hg : GoodT S l H) (ho : 1 ≤ o ∧ o ≤ S) (hn : NowOk l o H L now) (h : now = [] ∨ 19 ≤ L) (x : Int) : atF l o H L x = atE l o H x := by
  have hr := far_range l o x
  unfold atF atE
  by_cases hx : 0 ≤ far l o x ∧ far l o x ≤ H
  · rw [if_pos hx, if_pos]
    refine ⟨hx.1, ?_, hx.2⟩
    rcases h with h | h
    · apply Classical.byContradiction
      intro hlt
      obtain ⟨y, hy⟩ := far_chain hg ho (far l o x).toNat (x := x) (by omega) L (by omega)
      have : y ∈ now := (hn.mem y).2 ⟨hy, by omega⟩
      rw [h] at this
      cases this
    · omega
  · rw [if_neg hx, if_neg (by omega)]

/-- Which edges were gone along: none of a site that was not come to. -/
def UsedOk (l : List (Int × Int)) (o : Int) (L : Nat) (u : Nat → Bool) : Prop := ∀ x y : Nat, x < 9 → y < 9 → u (x * 9 + y) = true → 0 ≤ far l o x ∧ far l o x < L
def UsedM (l : List (Int × Int)) (o : Int) (L : Nat) (now : List Int) (i : Nat) (a : Int) (cur : List Int) (u : Nat → Bool) : Prop := ∀ x y : Nat, x < 9 → y < 9 → u (x * 9 + y) = true → (0 ≤ far l o x ∧ far l o x < L) ∨ (x : Int) ∈ now.take i ∨ ((x : Int) = a ∧ (y : Int) ∈ cur)
theorem used_begin {L : Nat} {now : List Int} {u : Nat → Bool} (a : Int) (h : UsedOk l o L u) : UsedM l o L now 0 a [] u := fun x y hx hy hu => .inl (h x y hx hy hu)
theorem used_not {L : Nat} {now : List Int} {i : Nat} {u : Nat → Bool} (hn : NowOk l o H L now) (hi : i < now.length) {cur : List Int} (h : UsedM l o L now i now[i] cur u) {m n : Nat} (hm : (m : Int) = now[i]) (hm9 : m < 9) (hn9 : n < 9) (hc : (n : Int) ∉ cur) : u (m * 9 + n) = false := by
  cases hu : u (m * 9 + n)
  · rfl
  · exfalso
    have hf := ((hn.mem now[i]).1 (List.getElem_mem hi)).1
    rcases h m n hm9 hn9 hu with h1 | h1 | h1
    · rw [hm] at h1; omega
    · rw [hm] at h1
      have hnd := hn.nd
      rw [← List.take_append_drop i now, List.drop_eq_getElem_cons hi, List.nodup_append] at hnd
      exact hnd.2.2 _ h1 now[i] List.mem_cons_self rfl
    · exact hc h1.2
theorem used_put {L : Nat} {now : List Int} {i : Nat} {u : Nat → Bool} {a b : Int} {cur : List Int} (h : UsedM l o L now i a cur u) {m n : Nat} (hm : (m : Int) = a) (hn : (n : Int) = b) (hn9 : n < 9) : UsedM l o L now i a (cur ++ [b]) (fun c => if c = m * 9 + n then true else u c) := fun x y hx hy hu => by
  by_cases hc : x * 9 + y = m * 9 + n
  · have e1 : x = m := by omega
    have e2 : y = n := by omega
    subst e1
    subst e2
    exact .inr (.inr ⟨hm, List.mem_append.2 (.inr (by rw [hn]; simp))⟩)
  · simp only [if_neg hc] at hu
    rcases h x y hx hy hu with h1 | h1 | h1
    · exact .inl h1
    · exact .inr (.inl h1)
    · exact .inr (.inr ⟨h1.1, List.mem_append.2 (.inl h1.2)⟩)
theorem used_next {L : Nat} {now : List Int} {i : Nat} {u : Nat → Bool} (hi : i < now.length) {cur : List Int} (a' : Int) (h : UsedM l o L now i now[i] cur u) : UsedM l o L now (i + 1) a' [] u := fun x y hx hy hu => by
  rcases h x y hx hy hu with h1 | h1 | h1
  · exact .inl h1
  · exact .inr (.inl (by rw [List.take_succ_eq_append_getElem hi]; exact List.mem_append.2 (.inl h1)))
  · exact .inr (.inl (by rw [List.take_succ_eq_append_getElem hi, h1.1]; exact List.mem_append.2 (.inr List.mem_cons_self)))
theorem used_done {L : Nat} {now : List Int} {u : Nat → Bool} {a : Int} (hn : NowOk l o H L now) (h : UsedM l o L now now.length a [] u) : UsedOk l o (L + 1) u := fun x y hx hy hu => by
  rcases h x y hx hy hu with h1 | h1 | h1
  · omega
  · rw [List.take_length] at h1
    have := (hn.mem _).1 h1
    omega
  · cases h1.2
end
end Go.Proofs.Ytcfagojkeholmaa
