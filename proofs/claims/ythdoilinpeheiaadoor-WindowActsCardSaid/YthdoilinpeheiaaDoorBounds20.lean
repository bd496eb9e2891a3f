/-
  WHAT A WINDOW NEVER PASSES, of no program; acts in memory; the number that an ack says.
-/
import Derived.Test.YthdoilinpeheiaaDoorFacts20
import Derived.Test.YthdoilinpeheiaaDoorSlabs
namespace Go.Proofs.YthdoilinpeheiaaDoor
open Go.RowKit
set_option maxRecDepth 20000

theorem listN_sub {a b : Nat} (h : ∀ i, a.testBit i = true → b.testBit i = true) : (listN a).length ≤ (listN b).length := by
  rw [listN_count, listN_count]
  exact List.countP_mono_left fun i _ hi => h i hi
/-- Never more than it has. -/
theorem open_le {m : Wn} (h : m.Ok) : openN m ≤ m.s := by
  have hs := h.s2
  have h1 : (listN (openS m)).length ≤ (listN (2 ^ m.s - 1)).length := listN_sub fun i hi => by
    rw [openS_test h.setT] at hi
    simp only [Bool.and_eq_true] at hi
    rw [Nat.testBit_two_pow_sub_one]
    exact decide_eq_true (h.near i hi.1)
  have h2 : ∀ k : Fin 33, (listN (2 ^ k.val - 1)).length = k.val := by decide +kernel
  rw [h2 ⟨m.s, by omega⟩] at h1
  exact h1
/-- An ack opens none. -/
theorem ack_open {m : Wn} (h : m.Ok) (n set : Nat) (hn : n ≤ 32) : openN (ackM m n set) ≤ openN m := by
  have h1 : openN (ackM m n set) ≤ (listN (slideS (openS m) n)).length := listN_sub fun i hi => by
    have hk : (ackM m n set).Ok := ack_ok h n set
    rw [openS_test hk.setT] at hi
    simp only [ackM, slidM, Bool.and_eq_true, slideS_test _ h.setS, slideS_test _ (theres_ok h n set).setT] at hi
    obtain ⟨⟨a1, a2⟩, a3, a4⟩ := hi
    rw [slideS_test _ (openS_set h.setS), openS_test h.setT, a1, a2]
    simp only [decide_eq_true_eq] at a1
    simp only [a1.1, a1.2, and_self, decide_true, Bool.true_and, Bool.not_eq_true', theresS, Nat.testBit_or, Bool.or_eq_false_iff] at a4 ⊢
    have h2 := h.near _ a2
    have h3 := h.s2
    rw [a4.1, decide_eq_true (by omega)]
    rfl
  have h2 : (listN (slideS (openS m) n)).length = (listN (restS (openS m) n)).length := slide_size n (openS_set h.setS) (by omega)
  have h3 : (listN (restS (openS m) n)).length ≤ (listN (openS m)).length := listN_sub fun i hi => by
    rw [restS_test _ (openS_set h.setS)] at hi
    simp only [Bool.and_eq_true] at hi
    exact hi.1
  unfold openN at h1 ⊢
  omega
theorem ackW_open {m : Wn} (h : m.Ok) (num set : Nat) : openN (ackW m num set) ≤ openN m := by
  unfold ackW
  split
  · rename_i hm
    have := mayA_in hm
    have := h.s2
    exact ack_open h _ _ (by omega)
  · exact Nat.le_refl _
theorem ackN_in {m : Wn} (h : m.Ok) (num : Nat) : 0 ≤ ackN m num ∧ ackN m num ≤ m.s := by
  have h2 := h.s2
  unfold ackN
  split
  · rename_i hm
    have := mayA_in hm
    omega
  · omega
theorem ackW_s (m : Wn) (num set : Nat) : (ackW m num set).s = m.s := by
  unfold ackW
  split <;> rfl
theorem ack_far2 {m : Wn} (h : m.Ok) (num set : Nat) (hk : 0 < ackN m num) : farI m.b (ackW m num set).b = ackN m num := by
  have h2 := h.s2
  have h3 := h.b2
  unfold ackN at hk ⊢
  unfold ackW
  cases hm : mayA m (farI m.b num) with
  | false => rw [hm, if_neg (by decide)] at hk; omega
  | true =>
    have := mayA_in hm
    rw [if_pos rfl, if_pos rfl]
    obtain ⟨n, hn⟩ : ∃ n : Nat, farI m.b num = n := ⟨(farI m.b num).toNat, by omega⟩
    rw [hn, Int.toNat_natCast]
    show farI (m.b : Int) (((m.b + n) % 65536 : Nat) : Int) = n
    unfold farI
    omega
theorem send_s (m : Wn) (now k : Nat) : (sendM m now k).s = m.s := (sendM_same m now k).1
/-- What is sent lies within, and rises. -/
theorem sendL_in {m : Wn} (h : m.Ok) (now : Nat) (hv : Int) : ∀ i (hi : i < (sendL m now (lookN m hv)).length), 0 ≤ (sendL m now (lookN m hv))[i] ∧ (sendL m now (lookN m hv))[i] < m.s ∧ (sendL m now (lookN m hv))[i] < hv := fun i hi => by
  have hl := lookN_le m hv
  have h2 := h.s2
  have hm : (sendL m now (lookN m hv))[i] ∈ sendL m now (lookN m hv) := List.getElem_mem hi
  generalize (sendL m now (lookN m hv))[i] = x at hm
  rw [sendL_eq _ _ _ (by omega)] at hm
  simp only [List.mem_map, List.mem_filter, List.mem_range] at hm
  obtain ⟨a, ⟨ha, _⟩, rfl⟩ := hm
  unfold lookN at ha
  omega
theorem sendL_up {m : Wn} (h : m.Ok) (now : Nat) (hv : Int) : (sendL m now (lookN m hv)).Pairwise (· < ·) := by
  have hl := lookN_le m hv
  have h2 := h.s2
  rw [sendL_eq _ _ _ (by omega)]
  rw [List.pairwise_map]
  exact (List.Pairwise.filter _ List.pairwise_lt_range).imp fun {a b} hab => by show (a : Int) < b; omega

instance : K.Enc acells 5 where
  len _ := rfl
  one r u hu := by
    simp only [acells, List.mem_cons, List.not_mem_nil, or_false] at hu
    rcases hu with rfl | rfl | rfl | rfl | rfl <;> rfl
  pos := by decide
/-- Acts that are there lie at plain addresses. -/
theorem acs_at {w : World} {a : Option Addr} {n cap : Nat} {l : List Ac} (h : K.RowOf acells w (.slice a n cap) l) : n = l.length ∧ l.length ≤ maxLen ∧ ∀ i (hi : i < l.length), ∃ b off, a = some ⟨b, off, none⟩ ∧ b < w.heap.size ∧ w.cell? ⟨b, off + i * 5, none⟩ = some (.int .i64 l[i].kind) ∧ w.cell? ⟨b, off + i * 5 + 1, none⟩ = some (.int .i64 l[i].hv) ∧ w.cell? ⟨b, off + i * 5 + 2, none⟩ = some (.int .i64 l[i].now) ∧ w.cell? ⟨b, off + i * 5 + 3, none⟩ = some (.int .u16 l[i].num) ∧ w.cell? ⟨b, off + i * 5 + 4, none⟩ = some (.int .u64 l[i].set) := by
  have hn : n = l.length := by
    obtain ⟨a', cap', hv⟩ := h.slice
    injection hv
  have hcm : l.length ≤ maxLen := by
    rcases h with ⟨hv, rfl⟩ | ⟨_, _, hv, h1, h2, _⟩
    · exact Nat.zero_le _
    · omega
  refine ⟨hn, hcm, fun i hi => ?_⟩
  obtain ⟨b, off, cap', hv, _, _, hc⟩ := h.at (by omega)
  injection hv with hv1 _ _
  have h0 : w.cell? ⟨b, off + i * 5, none⟩ = some (.int .i64 l[i].kind) := by simpa using K.row_cell hc i hi 0 (by decide) _ rfl
  exact ⟨b, off, hv1, World.block_lt_of_cell? _ _ h0, h0, K.row_cell hc i hi 1 (by decide) _ rfl, K.row_cell hc i hi 2 (by decide) _ rfl, K.row_cell hc i hi 3 (by decide) _ rfl, K.row_cell hc i hi 4 (by decide) _ rfl⟩

/-- The number that an ack says. -/
def numA (a : Ac) (b : Nat) : Nat := if a.kind = 2 then (b + a.num % 40) % 65536 else a.num
theorem numA_lt {a : Ac} (h : a.Fits) (b : Nat) : numA a b < 65536 := by
  have := h.num
  unfold numA
  split <;> omega
theorem num_any (a : Ac) (b : Nat) (w : World) (hf : a.Fits) : Calls Tryd.prog 14 #[acv a, .int .u16 b] w fun e w' => e = .returned (.int .u16 (numA a b)) ∧ Below w.heap.size w w' := by
  have hn := hf.num
  have bB : Below w.heap.size w (w.alloc (.cells #[.int .i64 a.kind, .int .i64 a.hv, .int .i64 a.now, .int .u16 a.num, .int .u64 a.set] 31)) := (Below.refl _ w).alloc (Nat.le_refl _) _
  by_cases h2 : a.kind = 2
  · have e : numA a b = (b + a.num % 40) % 65536 := by unfold numA; rw [if_pos h2]
    rw [h2] at bB
    rw [e]
    clear e
    go_enter Tryd.func14, Tryd.ntmps14
    go_wp2
    go_ret
    exact ⟨ret_int (by rw [IntKind.wrap_u16]; omega), bB⟩
  · have e : numA a b = a.num := by unfold numA; rw [if_neg h2]
    rw [e]
    go_enter Tryd.func14, Tryd.ntmps14
    go_wp2
    go_ret
    exact ⟨rfl, bB⟩
end Go.Proofs.YthdoilinpeheiaaDoor
