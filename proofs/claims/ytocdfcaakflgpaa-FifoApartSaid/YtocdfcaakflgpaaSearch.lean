/-
  PACKAGE fifo: place, has, rise, another, by their contracts.
-/
import Derived.Test.YtocdfcaakflgpaaItems
import Derived.Shelf.SlSorted.Search
import Derived.Shelf.SlSortCmp.QuietGrown
import Derived.Test.YtocdfcaakflgpaaShelf
namespace Go.Proofs.Ytocdfcaakflgpaa
open Go.RowKit Go.Sort

theorem cell_alloc_r {W : World} {a : Addr} {v : Value} (o : Obj) (h : W.cell? a = some v) : (W.alloc o).cell? a = some v := by
  have hb := World.block_lt_of_cell? _ _ h
  have := cell_grown hb h 0 #[o]
  rwa [show grow (W.drewN 0) #[o] = W.alloc o from (alloc_eq_grow W o).symm] at this
theorem cell_new_r (W : World) (v : Value) (t : TypeId) : (W.alloc (.cells #[v] t)).cell? ⟨W.heap.size, 0, none⟩ = some v := by
  rw [World.cell?_alloc_at _ _ _ _ (by simp)]; rfl
theorem below_grown_r (B : Nat) (w : World) (q : Nat) (os : Array Obj) (hB : B ≤ w.heap.size) : Below B w (grow (w.drewN q) os) :=
  ⟨rfl, rfl, rfl, by first | (simp [grow]; done) | (simp [grow]; omega), fun i hi => by
    show ((w.drewN q).heap ++ os)[i]? = _
    rw [Array.getElem?_append_left (by show i < w.heap.size; omega)]
    rfl⟩

set_option maxHeartbeats 1000000 in
theorem placec_any (bl bt b off n cap i t r : Nat) (W : World) (hl : W.cell? ⟨bl, 0, none⟩ = some (.slice (some ⟨b, off, none⟩) n cap)) (ht : W.cell? ⟨bt, 0, none⟩ = some (.int .u64 (t : Int))) (hlt : i < n)
    (c0 : W.cell? ⟨b, off + i * 8, none⟩ = some (.int .u64 (r : Int))) :
    Calls Try.prog 55 #[.int .i64 i, .pointer (some ⟨bl, 0, none⟩), .pointer (some ⟨bt, 0, none⟩)] W fun e w' => e = .returned (.bool (decide (t ≤ r))) ∧ ∃ q os', w' = grow (W.drewN q) os' := by
  have hlt' : (i : Int) < (n : Int) := by omega
  have hd : decide (t ≤ r) = decide ((t : Int) ≤ (r : Int)) := by simp
  rw [hd]
  go_enter Try.func55, Try.ntmps55
  go_wp2
  go_quiet (fail)
  go_wp2
  go_ret
  exact ⟨rfl, _, #[], by rw [grow_empty]⟩

set_option maxHeartbeats 1000000 in
/-- place: how many have a lesser tag. -/
theorem place_any (v : Value) (l : List It) (t : Nat) (w : World) (hr : Rows w v l) (hmono : ∀ a b (ha : a < l.length) (hb : b < l.length), a ≤ b → l[a].tag ≤ l[b].tag) (hlen : l.length ≤ 1000000) :
    Calls Try.prog 45 #[v, .int .u64 (t : Int)] w fun e w' => e = .returned (.int .i64 (l.countP fun x => decide (x.tag < t) : Nat)) ∧ Below w.heap.size w w' := by
  obtain ⟨a, cap, rfl⟩ := hr.slice
  obtain ⟨_, _, hA⟩ := hr.items
  obtain ⟨W0, hW0⟩ : ∃ W0, W0 = (w.alloc (.cells #[.slice a l.length cap] 47)).alloc (.cells #[.int .u64 (t : Int)] 29) := ⟨_, rfl⟩
  have hsize : W0.heap.size = w.heap.size + 1 + 1 := by rw [hW0]; simp
  have hB0 : Below w.heap.size w W0 := by rw [hW0]; exact ((Below.refl _ w).alloc (Nat.le_refl _) _).alloc (by simp) _
  have ca : W0.cell? ⟨w.heap.size, 0, none⟩ = some (.slice a l.length cap) := by rw [hW0]; exact cell_alloc_r _ (cell_new_r w _ _)
  have cx : W0.cell? ⟨w.heap.size + 1, 0, none⟩ = some (.int .u64 (t : Int)) := by
    rw [hW0]
    have := cell_new_r (w.alloc (.cells #[.slice a l.length cap] 47)) (.int .u64 (t : Int)) 29
    rwa [World.size_alloc] at this
  have eg2 : ∀ args w, (callFunc 55 args).run Try.prog w = .ok (.enter 55 args) w := enters_of Try.func55 (by kernel_rfl) rfl
  have hS := Any.sort_Search Try.search 55 #[.pointer (some ⟨w.heap.size, 0, none⟩), .pointer (some ⟨w.heap.size + 1, 0, none⟩)] l.length (fun i => decide (t ≤ (l.map (·.tag)).getD i 0)) W0 eg2 (by omega)
    (fun m os i hi => by
      obtain ⟨b, off, rfl, c⟩ := hA i hi
      rw [show (l.map (·.tag)).getD i 0 = l[i].tag by simp [List.getD, hi]]
      have hb := World.block_lt_of_cell? _ _ c.c0
      have c0' : (grow (W0.drewN m) os).cell? ⟨b, off + i * 8, none⟩ = some (.int .u64 (l[i].tag : Int)) := by
        rw [(hB0.trans (below_grown_r _ W0 m os (by omega))).cell (p := ⟨b, off + i * 8, none⟩) hb]; exact c.c0
      exact placec_any w.heap.size (w.heap.size + 1) b off l.length cap i t l[i].tag _ (cell_grown (by simp [hsize]; omega) ca m os) (cell_grown (by simp [hsize]) cx m os) hi c0')
    (fun a b hab hb h => by
      have ha : a < l.length := Nat.lt_of_le_of_lt hab hb
      have hm := hmono a b ha hb hab
      simp only [List.getD, List.getElem?_map, List.getElem?_eq_getElem hb, List.getElem?_eq_getElem ha, Option.map_some, Option.getD_some, decide_eq_true_eq] at h ⊢
      omega)
  have hcount : (List.range l.length).countP (fun i => !decide (t ≤ (l.map (·.tag)).getD i 0)) = l.countP fun x => decide (x.tag < t) := by
    have h : l.map (·.tag) = (List.range l.length).map (fun i => (l.map (·.tag)).getD i 0) := by
      apply List.ext_getElem
      · simp
      · intro i h1 h2
        simp only [List.length_map] at h1
        simp [List.getD, h1]
    have h2 : (l.countP fun x => decide (x.tag < t)) = (l.map (·.tag)).countP fun n => decide (n < t) := by rw [List.countP_map]; rfl
    rw [h2]
    conv => rhs; rw [h, List.countP_map]
    refine List.countP_congr fun i _ => ?_
    simp
  rw [hcount] at hS
  change Calls Try.prog 54 _ _ _ at hS
  clear hA ca cx hr hcount hmono
  generalize l.countP (fun x => decide (x.tag < t)) = r at hS ⊢
  go_enter Try.func45, Try.ntmps45
  go_wp2_with (go_at_call 54; rw [← hW0]; refine hS.mono ?_; rintro e w' ⟨rfl, q, os, rfl⟩)
  go_ret
  refine ⟨rfl, ?_⟩
  rw [← hW0]
  exact hB0.trans (below_grown_r w.heap.size W0 q os (by omega))

/-- Tags that rise. -/
def Rise (l : List It) : Prop := l.Pairwise fun a b => a.tag < b.tag
theorem Rise.le {l : List It} (h : Rise l) : ∀ a b (ha : a < l.length) (hb : b < l.length), a ≤ b → l[a].tag ≤ l[b].tag := by
  intro a b ha hb hab
  rcases Nat.eq_or_lt_of_le hab with rfl | hlt
  · exact Nat.le_refl _
  · exact Nat.le_of_lt (List.pairwise_iff_getElem.1 h a b ha hb hlt)
/-- Is one with this tag there? -/
def hasT (l : List It) (t : Nat) : Bool := l.any fun x => x.tag == t
/-- How many have a lesser tag. -/
def lessT (l : List It) (t : Nat) : Nat := l.countP fun x => decide (x.tag < t)
theorem lessT_le (l : List It) (t : Nat) : lessT l t ≤ l.length := List.countP_le_length
theorem hasT_iff {l : List It} (h : Rise l) (t : Nat) : hasT l t = if hl : lessT l t < l.length then (l[lessT l t].tag == t) else false := by
  induction l with
  | nil => simp [hasT, lessT]
  | cons x r ih =>
    obtain ⟨h1, h2⟩ := List.pairwise_cons.1 h
    have ih := ih h2
    by_cases hx : x.tag < t
    · have e1 : lessT (x :: r) t = lessT r t + 1 := by unfold lessT; rw [List.countP_cons]; simp [hx]
      have e2 : hasT (x :: r) t = hasT r t := by
        unfold hasT; rw [List.any_cons]
        have : (x.tag == t) = false := by simp; omega
        rw [this]; rfl
      rw [e2, ih]
      by_cases hl : lessT r t < r.length
      · rw [dif_pos hl, dif_pos (by rw [e1]; simpa using hl)]
        simp [e1]
      · rw [dif_neg hl, dif_neg (by rw [e1]; simpa using hl)]
    · have e0 : lessT r t = 0 := by
        unfold lessT
        rw [List.countP_eq_zero]
        intro y hy
        have := h1 y hy
        simp; omega
      have e1 : lessT (x :: r) t = 0 := by unfold lessT at e0 ⊢; rw [List.countP_cons, e0]; simp [hx]
      simp only [e1]
      rw [dif_pos (by simp)]
      simp only [List.getElem_cons_zero]
      by_cases hq : x.tag = t
      · simp [hasT, hq]
      · have e2 : hasT r t = false := by
          unfold hasT
          rw [List.any_eq_false]
          intro y hy
          have := h1 y hy
          simp; omega
        have : (x.tag == t) = false := by simpa using hq
        unfold hasT at e2 ⊢
        rw [List.any_cons, e2, this]; rfl

set_option maxHeartbeats 400000 in
theorem has_any (v : Value) (l : List It) (t : Nat) (w : World) (hr : Rows w v l) (hl : Rise l) (hlen : l.length ≤ 1000000) :
    Calls Try.prog 40 #[v, .int .u64 (t : Int)] w fun e w' => e = .returned (.bool (hasT l t)) ∧ Below w.heap.size w w' := by
  have hP := place_any v l t w hr hl.le hlen
  obtain ⟨R, hR⟩ : ∃ R, R = hasT l t := ⟨_, rfl⟩
  rw [← hR]
  rw [hasT_iff hl] at hR
  obtain ⟨a, cap, rfl⟩ := hr.slice
  obtain ⟨_, _, hA⟩ := hr.items
  have hle := lessT_le l t
  change Calls _ _ _ _ fun e w' => e = .returned (.int .i64 (lessT l t : Nat)) ∧ _ at hP
  by_cases hh : lessT l t < l.length
  · rw [dif_pos hh] at hR
    obtain ⟨b, off, rfl, hi⟩ := hA _ hh
    have HI : Hid (ItAt w b (off + lessT l t * 8) l[lessT l t]) := hi
    generalize l[lessT l t] = x at *
    generalize lessT l t = i at *
    have hh' : (i : Int) < (l.length : Int) := by omega
    have hq : (x.tag == t) = ((x.tag : Int) == (t : Int)) := by rw [Bool.eq_iff_iff, beq_iff_eq, beq_iff_eq]; omega
    have HQ : Hid (R = ((x.tag : Int) == (t : Int))) := hR.trans hq
    clear hA hr hi hl hq hR
    go_enter Try.func40, Try.ntmps40
    go_wp2_with fail
    refine hP.mono ?_
    rintro e w1 ⟨rfl, b1⟩
    have c0 := (HI.out.below b1 (Nat.le_refl _)).c0
    go_wp2
    all_goals go_ret
    all_goals exact ⟨ret_bool HQ.out.symm, b1⟩
  · rw [dif_neg hh] at hR
    have he : lessT l t = l.length := by omega
    rw [he] at hP
    subst hR
    clear hA hr hl he hle hh
    go_enter Try.func40, Try.ntmps40
    go_wp2_with fail
    refine hP.mono ?_
    rintro e w1 ⟨rfl, b1⟩
    go_wp2
    all_goals go_ret
    all_goals exact ⟨rfl, b1⟩

/-- Tags from lo + 1 on, below n, that rise. -/
def riseB (l : List It) (lo n : Nat) : Bool := match l with
  | [] => true
  | x :: r => decide (lo < x.tag) && decide (x.tag < n) && riseB r x.tag n

set_option maxHeartbeats 400000 in
theorem rise_any (v : Value) (l : List It) (n : Nat) (w : World) (hr : Rows w v l) (hlen : l.length ≤ 1000000) :
    Calls Try.prog 39 #[v, .int .u64 (n : Int)] w fun e w' => e = .returned (.bool (riseB l 0 n)) ∧ Below w.heap.size w w' := by
  obtain ⟨a, cap, rfl⟩ := hr.slice
  obtain ⟨_, _, hA⟩ := hr.items
  clear hr
  obtain ⟨R, hR⟩ : ∃ R, R = riseB l 0 n := ⟨_, rfl⟩
  rw [← hR]
  have HR : Hid (R = riseB l 0 n) := hR
  clear hR
  go_enter Try.func39, Try.ntmps39
  go_wp2
  go_loopw [5, 7, 10] (fun u5 u7 u10 wr => ∃ k la : Nat, u10 = .int .i64 k ∧ k ≤ l.length ∧ u5 = .int .u64 (la : Int) ∧ Below w.heap.size w wr ∧ Hid (R = riseB (l.drop k) la n)) (fun u5 u7 u10 wr => l.length - (intOf u10).toNat)
  case atStart => exact ⟨0, 0, rfl, Nat.zero_le _, rfl, Below.refl _ _, HR⟩
  case round =>
    obtain ⟨k, la, rfl, hk, rfl, hb, HK⟩ := hrel
    by_cases hlt2 : k < l.length
    · have hlt : (k : Int) < (l.length : Int) := by omega
      obtain ⟨b, off, rfl, hi⟩ := hA k hlt2
      obtain ⟨e0, e1, e2, e3, e4, e5, e6, e7⟩ := hi.below hb (Nat.le_refl _)
      have HK' : Hid (R = (decide (la < l[k].tag) && decide (l[k].tag < n) && riseB (l.drop (k + 1)) l[k].tag n)) := by
        have := HK.out
        rw [List.drop_eq_getElem_cons hlt2] at this
        exact this
      clear hA hi HK
      generalize l[k] = x at *
      by_cases h1 : la < x.tag
      · by_cases h2 : x.tag < n
        · have n1 : ¬ x.tag ≤ la := by omega
          have n2 : ¬ n ≤ x.tag := by omega
          go_wp2
          go_roundw
          case rel => exact ⟨k + 1, x.tag, by go_num, by omega, rfl, hb.alloc hb.size _, by show _ = _; rw [HK'.out]; simp [h1, h2]⟩
          case measure => simp [intOf]; omega
        · have n1 : ¬ x.tag ≤ la := by omega
          have n2 : n ≤ x.tag := by omega
          go_wp2
          go_ret
          exact ⟨ret_bool (by rw [HK'.out]; simp [h2]), hb.alloc hb.size _⟩
      · have n1 : x.tag ≤ la := by omega
        go_wp2
        go_ret
        exact ⟨ret_bool (by rw [HK'.out]; simp [h1]), hb.alloc hb.size _⟩
    · obtain rfl : k = l.length := by omega
      have hK := HK.out
      rw [List.drop_length] at hK
      go_wp2
      go_ret
      exact ⟨ret_bool hK.symm, hb⟩

set_option maxHeartbeats 400000 in
theorem another_any (v : Value) (l : List It) (w : World) (hr : Rows w v l) (hlen : l.length ≤ 1000000) :
    Calls Try.prog 30 #[v] w fun e w' => ∃ v', e = .returned v' ∧ Own8 w' w.heap.size v' l ∧ Below w.heap.size w w' := by
  obtain ⟨a, cap, rfl⟩ := hr.slice
  obtain ⟨i, hi, hz, hsz, hby⟩ := itemInfo
  go_enter Try.func30, Try.ntmps30
  go_wp2_with (at_builtin; refine wpList_append_rows (enc := icells) rfl (.const (.slice none 0 0)) (.tmp 3) 47 rfl Try.underlying47 i _ 88 hi hz hsz hby rfl w.heap.size (.slice none 0 0) _ [] l rfl rfl (ownOf_nil _ _) hr (by unfold maxLen; simp; omega) (by simp; omega) (Nat.le_refl _) ?_; intro v' w' own' grown' _; obtain ⟨va, vc, hva⟩ := own'.rng.slice; subst hva)
  all_goals go_ret
  all_goals exact ⟨_, rfl, own', ⟨grown'.os, grown'.tape, grown'.output, grown'.size, fun k hk => grown'.block k hk (by simp [Value.ownBlock])⟩⟩
end Go.Proofs.Ytocdfcaakflgpaa
