/-
  A WINDOW AND AN INBOX, of no program: what stays true of both, whatever is lost; and how soon all is brought where nothing is.
-/
import Derived.Test.YtkdjpleedaldcaaDoorOrder21
import Derived.Test.YtkdjpleedaldcaaDoorLives20
namespace Go.Proofs.YtkdjpleedaldcaaDoor
open Go.RowKit Go.Maps W

theorem run_sent21 {m : Wn} (h : m.Ok) (n : Nat) : (∀ i, i < n → m.sent.testBit i = true) → n ≤ runS m.sent := by
  intro hb
  rcases Nat.lt_or_ge (runS m.sent) n with h1 | h1
  · have := runS_end h.setS
    rw [hb _ h1] at this
    cases this
  · exact h1

/-- T messages in all, both of n places, d of them are done. -/
structure Bq (T n d now : Nat) (m : Wn) (x : Ib) : Prop where
  wok : m.Ok
  ws : m.s = n
  wt : m.t = 2
  wb : m.b = d
  own : Own3 x
  xs : x.s = n
  T30 : T < 30
  le : d ≤ x.n
  tot : ∀ j, inI x j = true → j < T
  a : ∀ i, m.sent.testBit i = true → d + i < T
  b : ∀ i, m.there.testBit i = true → inI x (d + i) = true
  c : ∀ j, inI x j = true → d ≤ j → m.sent.testBit (j - d) = true
  e : ∀ i, m.sent.testBit i = true → m.tick i < now

section
variable {T n d now : Nat} {m : Wn} {x : Ib}
theorem Bq.xn (h : Bq T n d now m x) : x.n ≤ T := by
  rcases Nat.lt_or_ge T x.n with h1 | h1
  · have : inI x T = true := by unfold inI; rw [decide_eq_true h1]; rfl
    have := h.tot _ this
    omega
  · exact h1
theorem bq_new {T n : Nat} (hT : T < 30) (h1 : 1 ≤ n) (h2 : n ≤ 8) : Bq T n 0 0 (newW n 2) (newI n) :=
  { wok := newW_ok h1 (by omega) (by decide) (by decide), ws := rfl, wt := rfl, wb := rfl, own := own3_new h1 (by omega), xs := rfl, T30 := hT, le := Nat.zero_le _,
    tot := fun j h => (by rw [inI_new] at h; cases h), a := fun i h => (by simp [newW] at h), b := fun i h => (by simp [newW] at h), c := fun j h => (by rw [inI_new] at h; cases h), e := fun i h => (by simp [newW] at h) }
theorem now_is {now : Nat} (h : now ≤ 1000) : nowN (now : Int) = now := by unfold nowN; omega
theorem look_is (h : Bq T n d now m x) : lookN m ((T : Int) - d) = min (T - d) n := by
  have := h.le
  have := h.xn
  have := h.ws
  unfold lookN; omega
/-- All that is due is sent. -/
theorem Bq.send (h : Bq T n d now m x) (hn : now ≤ 1000) : Bq T n d (now + 1) (sendM m now (min (T - d) n)) x := by
  have hs := h.ws
  have hs2 := h.wok.s2
  obtain ⟨h1, h2, h3, h4⟩ := sendM_same m now (min (T - d) n)
  have hsent := sendM_sent m now (min (T - d) n) (by omega)
  refine ⟨sendM_ok h.wok (by omega) _ (by omega), h1.trans h.ws, h2.trans h.wt, h3.trans h.wb, h.own, h.xs, h.T30, h.le, h.tot, fun i hi => ?_, fun i hi => ?_, fun j hj hd => ?_, fun i hi => ?_⟩
  · rw [hsent] at hi
    simp only [Bool.or_eq_true, Bool.and_eq_true, decide_eq_true_eq] at hi
    rcases hi with hi | hi
    · exact h.a i hi
    · omega
  · rw [h4] at hi
    exact h.b i hi
  · rw [hsent, h.c j hj hd]
    rfl
  · rw [sendM_tick]
    split
    · omega
    · rename_i hnd
      rw [hsent] at hi
      simp only [Bool.or_eq_true, Bool.and_eq_true, decide_eq_true_eq] at hi
      rcases hi with hi | hi
      · have := h.e i hi
        omega
      · exact absurd hi hnd
/-- What is sent: places that were looked at, each of them sent now. -/
theorem Bq.list (h : Bq T n d now m x) {i : Int} (hi : i ∈ sendL m now (min (T - d) n)) : ∃ k : Nat, i = k ∧ k < n ∧ d + k < T ∧ (sendM m now (min (T - d) n)).sent.testBit k = true := by
  have hs := h.ws
  have hs2 := h.wok.s2
  rw [sendL_eq _ _ _ (by omega)] at hi
  obtain ⟨k, hk, rfl⟩ := List.mem_map.1 hi
  rw [List.mem_filter, List.mem_range] at hk
  refine ⟨k, rfl, by omega, by omega, ?_⟩
  rw [sendM_sent _ _ _ (by omega), hk.2, decide_eq_true hk.1]
  simp
theorem Bq.first (h : Bq T n d now m x) (h1 : 1 ≤ n) (hd : d < T) (hdue : dueB m now 0 = true) : (0 : Int) ∈ sendL m now (min (T - d) n) := by
  have hs := h.ws
  have hs2 := h.wok.s2
  rw [sendL_eq _ _ _ (by omega)]
  exact List.mem_map.2 ⟨0, by rw [List.mem_filter, List.mem_range]; exact ⟨by omega, hdue⟩, rfl⟩
/-- One that was sent comes. -/
theorem Bq.take (h : Bq T n d now m x) {k : Nat} (hk : k < n) (hT : d + k < T) (hs : m.sent.testBit k = true) :
    Bq T n d now m (takeM x (d + k) (msgM (((d + k : Nat)) : Int))) ∧ (takeM x (d + k) (msgM ((d + k : Nat) : Int))).n = x.n ∧ (∀ j, inI x j = true → inI (takeM x (d + k) (msgM ((d + k : Nat) : Int))) j = true) ∧ inI (takeM x (d + k) (msgM ((d + k : Nat) : Int))) (d + k) = true := by
  have h30 := h.T30
  have hle := h.le
  have hxs := h.xs
  have hn3 : d + k < 300 := by omega
  cases hm : mayT x (d + k) with
  | true =>
    obtain ⟨o, hin⟩ := own3_put h.own hn3 hm
    have hx := takeM_s x (d + k) (msgM ((d + k : Nat) : Int))
    refine ⟨⟨h.wok, h.ws, h.wt, h.wb, o, hx.1.trans h.xs, h.T30, by rw [hx.2]; exact h.le, fun j hj => ?_, h.a, fun i hi => ?_, fun j hj hd => ?_, h.e⟩, hx.2, fun j hj => ?_, ?_⟩
    · rw [hin] at hj
      split at hj
      · omega
      · exact h.tot j hj
    · rw [hin]
      split
      · rfl
      · exact h.b i hi
    · rw [hin] at hj
      split at hj
      · rename_i hjk
        rw [show j - d = k by omega]
        exact hs
      · exact h.c j hj hd
    · rw [hin]
      split
      · rfl
      · exact hj
    · rw [hin, if_pos rfl]
  | false =>
    have e : takeM x (d + k) (msgM ((d + k : Nat) : Int)) = x := by unfold takeM; rw [hm]; rfl
    rw [e]
    refine ⟨h, rfl, fun j hj => hj, ?_⟩
    unfold inI
    by_cases hlt : d + k < x.n
    · rw [decide_eq_true hlt]; rfl
    · have hf := far3 h.own hn3
      have hl : lookI x (d + k) = x.h (d + k - x.n) := by
        unfold lookI
        rw [hf, if_pos ⟨by omega, by omega⟩]
        congr 1
        omega
      unfold mayT nearI at hm
      rw [hf, decide_eq_true (by omega), Bool.true_and, hl] at hm
      rw [decide_eq_false hlt, Bool.false_or]
      cases hh : x.h (d + k - x.n) with
      | none => rw [hh] at hm; cases hm
      | some y => rfl
/-- The next one goes. -/
theorem Bq.pop (h : Bq T n d now m x) (hh : (x.h 0).isSome = true) : Bq T n d now m (popM x) ∧ (popM x).n = x.n + 1 ∧ (∀ j, inI (popM x) j = inI x j) ∧ (x.h 0).getD zM = msgM x.n := by
  obtain ⟨h1, h2, h3, h4, h5, h6⟩ := own3_pop h.own hh
  have hle := h.le
  exact ⟨⟨h.wok, h.ws, h.wt, h.wb, h4, (popM_s x).trans h.xs, h.T30, by rw [h5]; omega, fun j hj => h.tot j ((h6 j).symm.trans hj), h.a, fun i hi => (h6 _).trans (h.b i hi), fun j hj hd => h.c j ((h6 j).symm.trans hj) hd, h.e⟩, h5, h6, h2⟩
/-- What is there is told. -/
theorem Bq.ack (h : Bq T n d now m x) :
    ackN m x.n = ((x.n - d : Nat) : Int) ∧ Bq T n x.n now (ackW m x.n (ackS x)) x ∧ (x.n = d → (ackW m x.n (ackS x)).sent.testBit 0 = m.sent.testBit 0 ∧ (ackW m x.n (ackS x)).tick 0 = m.tick 0) := by
  have hle := h.le
  have hxn := h.xn
  have h30 := h.T30
  have hs := h.ws
  have hs2 := h.wok.s2
  have hb := h.wb
  have hin : ∀ i, d + i < x.n → inI x (d + i) = true := fun i hi => by unfold inI; rw [decide_eq_true hi]; rfl
  have hall : ∀ i, i < x.n - d → m.sent.testBit i = true := fun i hi => by
    have := h.c (d + i) (hin i (by omega)) (by omega)
    rwa [show d + i - d = i by omega] at this
  have hf : farI m.b x.n = ((x.n - d : Nat) : Int) := by unfold farI; omega
  have hna : x.n - d ≤ n := by
    rcases Nat.eq_zero_or_pos (x.n - d) with h0 | h0
    · omega
    · have := h.wok.near (x.n - d - 1) (hall _ (by omega))
      omega
  have hmay : mayA m ((x.n - d : Nat) : Int) = true := by
    have := run_sent21 h.wok _ hall
    unfold mayA
    exact decide_eq_true ⟨by omega, by omega, by omega⟩
  have eN : ackN m x.n = ((x.n - d : Nat) : Int) := by unfold ackN; rw [hf, if_pos hmay]
  have eW : ackW m x.n (ackS x) = ackM m (x.n - d) (ackS x) := by unfold ackW; rw [hf, if_pos hmay, Int.toNat_natCast]
  have hok := ackW_ok h.wok x.n (ackS x)
  rw [eW] at hok
  have hset : IsSet (ackS x) := ackS_set x
  generalize hna2 : x.n - d = na at *
  have hsent : ∀ i, (ackM m na (ackS x)).sent.testBit i = (decide (i < 64) && m.sent.testBit (i + na)) := fun i => by
    show (slideS m.sent na).testBit i = _
    rw [slideS_test _ h.wok.setS, show ((i : Int) + (na : Int)).toNat = i + na by omega]
    congr 1
    exact decide_eq_decide.2 (by omega)
  have hthere : ∀ i, (ackM m na (ackS x)).there.testBit i = true → m.there.testBit (i + na) = true ∨ (1 ≤ i ∧ (ackS x).testBit (i - 1) = true) := fun i hi => by
    have hi' : (slideS (theresS m na (ackS x)) na).testBit i = true := hi
    rw [slideS_test _ (theres_ok h.wok na (ackS x)).setT, show ((i : Int) + (na : Int)).toNat = i + na by omega] at hi'
    rw [Bool.and_eq_true, decide_eq_true_eq] at hi'
    obtain ⟨_, hi'⟩ := hi'
    unfold theresS at hi'
    rw [Nat.testBit_or, Nat.testBit_and, Bool.or_eq_true, Bool.and_eq_true, slideS_test _ hset, Bool.and_eq_true, decide_eq_true_eq] at hi'
    rcases hi' with hi' | ⟨⟨h1, h2⟩, _⟩
    · exact .inl hi'
    · refine .inr ⟨by omega, ?_⟩
      rwa [show (((i + na : Nat) : Int) + -((na : Int) + 1)).toNat = i - 1 by omega] at h2
  have hb2 : (ackM m na (ackS x)).b = x.n := by
    show (m.b + na) % 65536 = x.n
    omega
  refine ⟨eN, ?_, fun hx => ?_⟩
  · rw [eW]
    refine ⟨hok, hs, h.wt, hb2, h.own, h.xs, h.T30, Nat.le_refl _, h.tot, fun i hi => ?_, fun i hi => ?_, fun j hj hd => ?_, fun i hi => ?_⟩
    · rw [hsent, Bool.and_eq_true] at hi
      have := h.a _ hi.2
      omega
    · rcases hthere i hi with h1 | ⟨h1, h2⟩
      · have := h.b _ h1
        rwa [show d + (i + na) = x.n + i by omega] at this
      · rw [ackS_test h.own.ok, show i - 1 + 1 = i by omega] at h2
        unfold inI
        rw [show x.n + i - x.n = i by omega, h2, Bool.or_true]
    · rw [hsent, show j - x.n + na = j - d by omega, h.c j hj (by omega)]
      have : j < T := h.tot j hj
      rw [decide_eq_true (by omega)]
      rfl
    · rw [hsent, Bool.and_eq_true] at hi
      have h1 := h.wok.near _ hi.2
      show (if i + na < 32 then m.tick (i + na) else m.tick i) < now
      rw [if_pos (by omega)]
      exact h.e _ hi.2
  · rw [eW]
    obtain rfl : na = 0 := by omega
    refine ⟨?_, ?_⟩
    · rw [hsent]
      simp
    · show (if 0 + 0 < 32 then m.tick (0 + 0) else m.tick 0) = _
      simp

/-- Must one wait a round? -/
def waitW (m : Wn) (now : Nat) : Nat := if m.sent.testBit 0 = true ∧ now < m.tick 0 + 2 then 1 else 0
theorem waitW_le (m : Wn) (now : Nat) : waitW m now ≤ 1 := by unfold waitW; split <;> omega
/-- How soon, behind t0 rounds in which some were lost. -/
def Soon (T t0 now d : Nat) (m : Wn) (x : Ib) : Prop := t0 < now → x.n = d ∧ (d < T → now - t0 - 1 + waitW m now ≤ 2 * d + 1)
/-- A round in which nothing is lost. -/
theorem soon_next {t0 : Nat} {y : Ib} (h1 : 1 ≤ n) (h : Bq T n d now m x) (hx : (x.h 0).isSome = false) (hS : Soon T t0 now d m x) (h' : Bq T n d (now + 1) (sendM m now (min (T - d) n)) y) (hy : (y.h 0).isSome = false)
    (hall : ∀ k : Nat, (k : Int) ∈ sendL m now (min (T - d) n) → inI y (d + k) = true) : Soon T t0 (now + 1) y.n (ackW (sendM m now (min (T - d) n)) y.n (ackS y)) y := by
  intro ht
  refine ⟨rfl, fun hT => ?_⟩
  have hle := h'.le
  obtain ⟨_, _, hA⟩ := h'.ack
  have hw := waitW_le (ackW (sendM m now (min (T - d) n)) y.n (ackS y)) (now + 1)
  rcases Nat.lt_or_ge t0 now with h0 | h0
  · obtain ⟨hxn, hS2⟩ := hS h0
    have hS3 := hS2 (by omega)
    have hw0 := waitW_le m now
    rcases Nat.lt_or_ge d y.n with h3 | h3
    · omega
    · have hyd : y.n = d := by omega
      obtain ⟨hs, htk⟩ := hA hyd
      have hno : inI y d = false := by rw [← hyd]; exact own3_end hy
      have hnd : dueB m now 0 = false := by
        cases hd : dueB m now 0 with
        | false => rfl
        | true =>
          have := hall 0 (h.first h1 (by omega) hd)
          rw [Nat.add_zero, hno] at this
          cases this
      have hth : m.there.testBit 0 = false := by
        cases hd : m.there.testBit 0 with
        | false => rfl
        | true =>
          have h5 := h.b 0 hd
          have h6 := own3_end hx
          rw [hxn] at h6
          rw [Nat.add_zero, h6] at h5
          cases h5
      have hd2 := hnd
      unfold dueB at hd2
      rw [hth, h.wt] at hd2
      simp only [Bool.not_false, Bool.true_and, Bool.not_eq_false', Bool.and_eq_true, decide_eq_true_eq] at hd2
      have he := h.e 0 hd2.1
      have hw1 : waitW m now = 1 := by unfold waitW; rw [if_pos ⟨hd2.1, by omega⟩]
      have htk2 : (sendM m now (min (T - d) n)).tick 0 = m.tick 0 := by
        rw [sendM_tick, hnd]
        simp
      have hw2 : waitW (ackW (sendM m now (min (T - d) n)) y.n (ackS y)) (now + 1) = 0 := by
        unfold waitW
        rw [if_neg]
        rintro ⟨_, h8⟩
        rw [htk, htk2] at h8
        omega
      omega
  · omega
/-- All is brought. -/
theorem soon_end {t0 : Nat} (h : Bq T n d now m x) (hS : Soon T t0 now d m x) (hn : now = t0 + 3 * T + 10) : d = T ∧ x.n = T := by
  obtain ⟨h1, h2⟩ := hS (by omega)
  have := h.le
  have := h.xn
  rcases Nat.lt_or_ge d T with h3 | h3
  · have := h2 h3
    omega
  · omega
end
end Go.Proofs.YtkdjpleedaldcaaDoor
