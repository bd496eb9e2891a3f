/-
  THE DOCUMENT's Ack, by its contract.
-/
import Derived.Test.YthdoilinpeheiaaDoorROpen20
namespace Go.Proofs.YthdoilinpeheiaaDoor
open Go.RowKit
set_option maxRecDepth 100000

/-- The first n were sent just if the run is as long. -/
theorem run_sent {m : Wn} (h : m.Ok) (n : Nat) (_hn : n ≤ m.s) : (∀ i, i < n → m.sent.testBit i = true) ↔ n ≤ runS m.sent := by
  constructor
  · intro ha
    rcases Nat.lt_or_ge (runS m.sent) n with hlt | hge
    · have := ha _ hlt
      rw [runS_end h.setS] at this
      cases this
    · exact hge
  · intro hle i hi
    exact runS_all _ _ (by omega)
/-- What is there when the first j of a set's numbers are gone through. -/
def thereJ (m : Wn) (n set j : Nat) : Nat := m.there ||| (ofS (((listS set).take j).map fun x => (n : Int) + 1 + x) &&& m.sent)
theorem thereJ_zero (m : Wn) (n set : Nat) : thereJ m n set 0 = m.there := by
  unfold thereJ
  rw [List.take_zero, List.map_nil]
  show m.there ||| (0 &&& m.sent) = m.there
  simp
theorem thereJ_test (m : Wn) (n set j i : Nat) : (thereJ m n set j).testBit i = (m.there.testBit i || (decide ((i : Int) ∈ ((listS set).take j).map (fun x => (n : Int) + 1 + x) ∧ i < 64) && m.sent.testBit i)) := by
  unfold thereJ
  rw [Nat.testBit_or, Nat.testBit_and, ofS_test]
theorem thereJ_succ {m : Wn} (h : m.Ok) (n set j : Nat) (hj : j < (listS set).length) (x : Nat) (hx : (listS set)[j] = x) : thereJ m n set (j + 1) = if n + 1 + x < m.s ∧ m.sent.testBit (n + 1 + x) = true then withS (thereJ m n set j) ((n + 1 + x : Nat) : Int) else thereJ m n set j := by
  have hs := h.s2
  refine Nat.eq_of_testBit_eq fun i => ?_
  rw [thereJ_test]
  have hmem : ((i : Int) ∈ ((listS set).take (j + 1)).map (fun x => (n : Int) + 1 + x)) ↔ ((i : Int) ∈ ((listS set).take j).map (fun x => (n : Int) + 1 + x) ∨ i = n + 1 + x) := by
    rw [List.take_succ_eq_append_getElem hj, List.map_append, List.mem_append, List.map_singleton, List.mem_singleton, hx]
    constructor
    · rintro (h1 | h1)
      · exact .inl h1
      · exact .inr (by omega)
    · rintro (h1 | h1)
      · exact .inl h1
      · exact .inr (by omega)
  by_cases hc : n + 1 + x < m.s ∧ m.sent.testBit (n + 1 + x) = true
  · rw [if_pos hc, withS_test, thereJ_test]
    by_cases hi : i = n + 1 + x
    · subst hi
      rw [hc.2, decide_eq_true (show ((n + 1 + x : Nat) : Int) = ((n + 1 + x : Nat) : Int) ∧ n + 1 + x < 64 by omega), Bool.or_true]
      rw [decide_eq_true (show _ ∧ n + 1 + x < 64 from ⟨hmem.2 (.inr rfl), by omega⟩)]
      simp
    · rw [show decide ((i : Int) = ((n + 1 + x : Nat) : Int) ∧ i < 64) = false from decide_eq_false (by omega), Bool.or_false]
      have : decide ((i : Int) ∈ ((listS set).take (j + 1)).map (fun x => (n : Int) + 1 + x) ∧ i < 64) = decide ((i : Int) ∈ ((listS set).take j).map (fun x => (n : Int) + 1 + x) ∧ i < 64) := decide_eq_decide.2 (by rw [hmem]; simp [hi])
      rw [this]
  · rw [if_neg hc, thereJ_test]
    by_cases hi : i = n + 1 + x
    · subst hi
      have hf : m.sent.testBit (n + 1 + x) = false := by
        cases hb : m.sent.testBit (n + 1 + x) with
        | false => rfl
        | true => exact (hc ⟨h.near _ hb, hb⟩).elim
      rw [hf]; simp
    · have : decide ((i : Int) ∈ ((listS set).take (j + 1)).map (fun x => (n : Int) + 1 + x) ∧ i < 64) = decide ((i : Int) ∈ ((listS set).take j).map (fun x => (n : Int) + 1 + x) ∧ i < 64) := decide_eq_decide.2 (by rw [hmem]; simp [hi])
      rw [this]
theorem thereJ_all {m : Wn} (_h : m.Ok) (n set : Nat) (hset : IsSet set) : thereJ m n set (listS set).length = theresS m n set := by
  refine Nat.eq_of_testBit_eq fun i => ?_
  rw [thereJ_test, List.take_length]
  unfold theresS
  rw [Nat.testBit_or, Nat.testBit_and, slideS_test _ hset]
  congr 2
  rw [Bool.eq_iff_iff]
  simp only [decide_eq_true_eq, Bool.and_eq_true, List.mem_map]
  constructor
  · rintro ⟨⟨x, hx, he⟩, hi⟩
    have hb := listS_bound hx
    obtain ⟨y, rfl⟩ := Int.eq_ofNat_of_zero_le hb.1
    have hx' : set.testBit y = true := (listS_mem hset y).1 hx
    refine ⟨⟨by omega, hi⟩, ?_⟩
    rw [show ((i : Int) + -((n : Int) + 1)).toNat = y by omega]
    exact hx'
  · rintro ⟨⟨h1, h2⟩, h3⟩
    refine ⟨⟨(((i : Int) + -((n : Int) + 1)).toNat : Int), (listS_mem hset _).2 h3, by omega⟩, h2⟩

/-- How the document's Ack ends. -/
def RAckP (w : World) (q : Nat) (v : Value) (m : Wn) (w' : World) : Prop := ∃ v' g', RAt w' q v' m g' ∧ Only q w w' ∧ (v' = v ∨ ∃ k, v'.ownBlock = some k ∧ w.heap.size ≤ k)
set_option maxHeartbeats 2000000 in
theorem rack_at {w : World} {q : Nat} {v : Value} {m : Wn} {g : Nat → Nat} (h : RAt w q v m g) (ok : m.Ok) (num set : Nat) (hnum : num < 65536) (hset : IsSet set) : Calls Tryd.prog 16 #[.pointer (some ⟨q, 0, none⟩), .int .u16 num, .int .u64 set] w fun e w' =>
    e = .returned (.int .i64 (ackN m num)) ∧ RAckP w q v (ackW m num set) w' := by
  have hs1 := ok.s1
  have hs2 := ok.s2
  have hb2 := ok.b2
  have hlt := h.lt
  obtain ⟨c0, c1, c2, c3⟩ := h.cells
  have hF := rfar_any m.b num w
  have hsame : Hid (RAckP w q v m w) := ⟨v, g, h, Only.refl _ _, .inl rfl⟩
  have hmay : ∀ n : Int, mayA m n = decide (0 ≤ n ∧ n ≤ m.s ∧ n ≤ runS m.sent) := fun _ => rfl
  have hnb : (m.b + (farI m.b num).toNat) % 65536 = num ∨ farI m.b num < 0 := by unfold farI; omega
  unfold ackN ackW
  generalize farI m.b num = n at *
  cases hm : mayA m n with
  | false =>
    rw [if_neg (by decide), if_neg (by decide)]
    by_cases hr : 0 ≤ n ∧ n ≤ m.s
    · obtain ⟨N, rfl⟩ : ∃ N : Nat, n = N := ⟨n.toNat, by omega⟩
      have hN : N ≤ m.s := by omega
      have hnot : ¬ N ≤ runS m.sent := fun hle => by rw [hmay] at hm; exact (of_decide_eq_false hm) (by omega)
      have hrs := run_sent ok N hN
      obtain ⟨va, vc, hvv⟩ := h.row.slice
      rw [PL_len] at hvv
      subst hvv
      have HP : Hid (∀ i, i < m.s → ∃ b o, va = some ⟨b, o, none⟩ ∧ w.cell? ⟨b, o + i * 3, none⟩ = some (.bool (m.sent.testBit i))) := fun i hi => by
        obtain ⟨b, o, e, p0, _, _⟩ := (pls_at h.row).2 i (by rw [PL_len]; exact hi)
        rw [PL_get] at p0
        exact ⟨b, o, e, p0⟩
      have hn0 : ¬ (N : Int) < 0 := by omega
      have hn1 : ¬ (m.s : Int) < (N : Int) := by omega
      have HNOT : Hid (¬ ∀ i, i < N → m.sent.testBit i = true) := fun ha => hnot (hrs.1 ha)
      clear h ok hmay hnb hrs hr hm hnot
      go_enter Tryd.func16, Tryd.ntmps16
      go_wp2_with (go_at_call 34; refine hF.mono ?_; rintro e w ⟨rfl, rfl⟩)
      go_loopg [8] N (fun g' u8 wr => ∃ k : Nat, u8 = .int .i64 k ∧ k ≤ N ∧ g' = N - k ∧ wr = w ∧ Hid (∀ i, i < k → m.sent.testBit i = true))
      case atStart => exact ⟨0, rfl, Nat.zero_le _, rfl, rfl, fun i hi => by omega⟩
      case round =>
        obtain ⟨k, rfl, hk, rfl, hw, hall⟩ := hrel
        subst hw
        by_cases hlt2 : k < N
        · have hlt3 : (k : Int) < (N : Int) := by omega
          have hk63 : (k : Int) < (m.s : Int) := by omega
          obtain ⟨b, o, rfl, p0⟩ := HP.out k (by omega)
          cases hs : m.sent.testBit k with
          | true =>
            rw [hs] at p0
            go_wp2
            go_roundg (N - (k + 1))
            case measure => omega
            case rel => exact ⟨k + 1, by go_num, by omega, rfl, rfl, fun i hi => by
              by_cases hik : i = k
              · rw [hik]; exact hs
              · exact hall.out i (by omega)⟩
          | false =>
            rw [hs] at p0
            go_wp2
            go_ret
            exact ⟨rfl, hsame.out⟩
        · obtain rfl : k = N := by omega
          exact (HNOT.out hall.out).elim
    · clear h ok hmay hnb hm
      go_enter Tryd.func16, Tryd.ntmps16
      by_cases hr0 : n < 0
      · go_wp2_with (go_at_call 34; refine hF.mono ?_; rintro e w ⟨rfl, rfl⟩)
        go_ret
        exact ⟨rfl, hsame.out⟩
      · have hr1 : (m.s : Int) < n := by omega
        go_wp2_with (go_at_call 34; refine hF.mono ?_; rintro e w ⟨rfl, rfl⟩)
        go_ret
        exact ⟨rfl, hsame.out⟩
  | true =>
    rw [if_pos rfl, if_pos rfl]
    have hin := mayA_in hm
    obtain ⟨N, rfl⟩ : ∃ N : Nat, n = N := ⟨n.toNat, by omega⟩
    rw [Int.toNat_natCast] at *
    have hN : N ≤ m.s := by omega
    have hnb2 : (m.b + N) % 65536 = num := by omega
    have hall : Hid (∀ i, i < N → m.sent.testBit i = true) := (run_sent ok N hN).2 (by omega)
    obtain ⟨va, vc, hvv⟩ := h.row.slice
    rw [PL_len] at hvv
    subst hvv
    have HP : Hid (∀ i, i < m.s → ∃ b o, va = some ⟨b, o, none⟩ ∧ w.cell? ⟨b, o + i * 3, none⟩ = some (.bool (m.sent.testBit i))) := fun i hi => by
      obtain ⟨b, o, e, p0, _, _⟩ := (pls_at h.row).2 i (by rw [PL_len]; exact hi)
      rw [PL_get] at p0
      exact ⟨b, o, e, p0⟩
    have hn0 : ¬ (N : Int) < 0 := by omega
    have hn1 : ¬ (m.s : Int) < (N : Int) := by omega
    have hA : Hid (RAt w q (.slice va m.s vc) m g) := h
    have hO : Hid m.Ok := ok
    obtain ⟨i0, hi0, hz0, hsz0, hb0⟩ := info_parts placeInfo
    clear h ok hmay hnb hm hin hsame
    go_enter Tryd.func16, Tryd.ntmps16
    go_wp2_with (go_at_call 34; refine hF.mono ?_; rintro e w ⟨rfl, rfl⟩)
    go_loopg [8] N (fun g' u8 wr => ∃ k : Nat, u8 = .int .i64 k ∧ k ≤ N ∧ g' = N - k ∧ wr = w)
    case atStart => exact ⟨0, rfl, Nat.zero_le _, rfl, rfl⟩
    case round =>
      obtain ⟨k, rfl, hk, rfl, hw⟩ := hrel
      subst hw
      by_cases hlt2 : k < N
      · have hlt3 : (k : Int) < (N : Int) := by omega
        have hk63 : (k : Int) < (m.s : Int) := by omega
        obtain ⟨b, o, rfl, p0⟩ := HP.out k (by omega)
        rw [hall.out k hlt2] at p0
        go_wp2
        go_roundg (N - (k + 1))
        case measure => omega
        case rel => exact ⟨k + 1, by go_num, by omega, rfl, rfl⟩
      · obtain rfl : k = N := by omega
        clear HP hall hlt2 hk
        obtain ⟨W0, hW0⟩ : ∃ z, z = wr := ⟨_, rfl⟩
        subst hW0
        go_upto_region 9 with fail
        have eA : Hid (K.OwnOf pcells 3 62 (W0.alloc (.cells #[] 62)) W0.heap.size (.slice (some ⟨W0.heap.size, 0, none⟩) 0 0) []) := K.ownOf_empty W0 W0.heap.size (Nat.le_refl _)
        have eB : Hid (K.RowOf pcells (W0.alloc (.cells #[] 62)) (.slice va m.s vc) (PL m g)) := hA.out.row.below ((Below.refl _ _).alloc (Nat.le_refl _) _) (Nat.le_refl _)
        have l1 : ([] : List Pl).length + (PL m g).length ≤ maxLen := by rw [PL_len]; unfold maxLen; simp only [List.length_nil]; omega
        have l2 : (([] : List Pl).length + (PL m g).length) * 24 ≤ 140737488355328 := by rw [PL_len]; simp only [List.length_nil]; omega
        have HL : Hid _ := And.intro l1 l2
        clear l1 l2
        go_upto_region 10 with (at_builtin; refine K.wpList_append_rows (enc := pcells) rfl (.tmp 43) (.tmp 47) 36 rfl Tryd.underlying36 i0 _ 24 hi0 hz0 hsz0 hb0 rfl W0.heap.size _ _ [] (PL m g) rfl rfl eA.out eB.out HL.out.1 HL.out.2 (by simp) ?_; intro vl w2 own2 gr2 nw2)
        have bel2 : Below W0.heap.size W0 w2 := eA.out.below gr2 ((Below.refl _ W0).alloc (Nat.le_refl _) _) (by simp) (Nat.le_refl _)
        clear gr2 nw2 eA eB HL hi0 hz0 hsz0 hb0
        rw [List.nil_append] at own2
        obtain ⟨gl, cp, hgl, hglt, rfl⟩ : ∃ gl cp, W0.heap.size ≤ gl ∧ gl < w2.heap.size ∧ vl = .slice (some ⟨gl, 0, none⟩) m.s cp := by
          rcases own2.split with ⟨_, he⟩ | ⟨gl, cp, R, hvl, hgl, hblk, _, _, _⟩
          · have := PL_len m g; rw [he] at this; simp at this; omega
          · rw [PL_len] at hvl
            exact ⟨gl, cp, hgl, (own2.lt (g := gl) (by rw [hvl]; rfl)).2, hvl⟩
        have hcp : m.s ≤ cp ∧ cp ≤ maxLen := by
          rcases own2.split with ⟨hv1, _⟩ | ⟨_, _, _, hvl, _, _, h5, h6, _⟩
          · cases hv1
          · injection hvl with _ _ h7; subst h7; rw [PL_len] at h5; exact ⟨h5, h6⟩
        have hB2 : Hid (Below W0.heap.size W0 w2) := bel2
        have hO2 : Hid (K.OwnOf pcells 3 62 w2 W0.heap.size (.slice (some ⟨gl, 0, none⟩) m.s cp) (PL m g)) := own2
        have hL := rlist_any set w2 hset
        have hqg : q ≠ gl := by omega
        clear own2 bel2 hF hn0 hn1 c0 c1 c2 c3
        go_wp2_with (go_at_call 35; refine hL.mono ?_; rintro e w3 ⟨vL, rfl, ownL, bel3⟩; obtain ⟨aL, cL, hvL⟩ := ownL.row.sliceInts; subst hvL)
        have hB3 : Hid (Below W0.heap.size W0 w3) := hB2.out.trans (bel3.mono hB2.out.size)
        have hO3 : Hid (K.OwnOf pcells 3 62 w3 W0.heap.size (.slice (some ⟨gl, 0, none⟩) m.s cp) (PL m g)) := own_kept3 hO2.out (bel3.block gl hglt)
        have hLl : (listS set).length ≤ 64 := by rw [listS_length]; exact listN_length set
        have hg3 : gl < w3.heap.size := Nat.lt_of_lt_of_le hglt bel3.size
        have HLc : Hid (∀ j (hj : j < (listS set).length), ∃ b o, aL = some ⟨b, o, none⟩ ∧ b ≠ gl ∧ b < w3.heap.size ∧ w3.cell? ⟨b, o + j, none⟩ = some (.int .i64 (listS set)[j])) := fun j hj => by
          obtain ⟨b, o, cp', hv, _, _, hc⟩ := ownL.row.atInts (by omega)
          injection hv with h1 _ _
          have hlt2 := World.ownsRow.lt ownL b (by rw [h1]; rfl)
          exact ⟨b, o, h1, by omega, hlt2.2, hc j hj⟩
        have HT : Hid _ := thereJ_all hO.out k set hset
        have hstep : Hid (∀ j (hj : j < (listS set).length) (x : Nat), (listS set)[j] = x → thereJ m k set (j + 1) = if k + 1 + x < m.s ∧ m.sent.testBit (k + 1 + x) = true then withS (thereJ m k set j) ((k + 1 + x : Nat) : Int) else thereJ m k set j) := fun j hj x hx => thereJ_succ hO.out k set j hj x hx
        have hbd : Hid (∀ j (hj : j < (listS set).length), 0 ≤ (listS set)[j] ∧ (listS set)[j] < 64) := fun j hj => listS_bound (List.getElem_mem hj)
        have hq3 : q < w3.heap.size := Nat.lt_of_lt_of_le hlt hB3.out.size
        have hblk : Hid (w3.heap[q]? = some (.cells #[.int .i64 m.s, .int .i64 m.t, .int .u16 m.b, .slice va m.s vc] 38 (0, 0))) := (hB3.out.block q hlt).trans hA.out.blk
        clear ownL bel3 hL hO2 hB2
        generalize listS set = LS at *
        go_loopg [52] LS.length (fun g' u52 wr => ∃ j : Nat, u52 = .int .i64 j ∧ j ≤ LS.length ∧ g' = LS.length - j ∧ Hid (K.OwnOf pcells 3 62 wr W0.heap.size (.slice (some ⟨gl, 0, none⟩) m.s cp) (PL { m with there := thereJ m k set j } g) ∧ Only gl w3 wr))
        case atStart => exact ⟨0, rfl, Nat.zero_le _, rfl, by rw [thereJ_zero]; exact hO3.out, Only.refl _ _⟩
        case round =>
          obtain ⟨j, rfl, hj, rfl, hS⟩ := hrel
          have hqs : wr.heap[q]? = some (.cells #[.int .i64 m.s, .int .i64 m.t, .int .u16 m.b, .slice va m.s vc] 38 (0, 0)) := (hS.out.2.block q hq3 hqg).trans hblk.out
          by_cases hlt2 : j < LS.length
          · have hlt3 : (j : Int) < (LS.length : Int) := by omega
            obtain ⟨e0, e2, e3, _⟩ := qcells20 hqs
            obtain ⟨bL, oL, rfl, hbg, hbl, hx⟩ := HLc.out j hlt2
            replace hx := (cell_of_block hS.out.2 hbg hbl (oL + j)).trans hx
            obtain ⟨x0, x1⟩ := hbd.out j hlt2
            have hst := hstep.out j hlt2
            obtain ⟨x, hxe⟩ : ∃ x : Nat, LS[j] = x := ⟨LS[j].toNat, by omega⟩
            have HST : Hid _ := hst x hxe
            rw [hxe] at hx x1
            clear hst x0 hxe
            obtain ⟨i, hi⟩ : ∃ i : Nat, i = k + 1 + x := ⟨_, rfl⟩
            have hi' : (k : Int) + 1 + (x : Int) = (i : Int) := by omega
            rw [← hi] at HST
            clear hqs hi
            by_cases his : i < m.s
            · have his' : (i : Int) < (m.s : Int) := by omega
              have hR := hS.out.1
              have hi3 : i < (PL { m with there := thereJ m k set j } g).length := by rw [PL_len]; exact his
              obtain ⟨b3, o3, h3, p0, p1, p2⟩ := (pls_at hR.rng).2 i hi3
              injection h3 with h3
              injection h3 with h4 h5 _
              subst h4 h5
              rw [PL_get] at p0 p1 p2
              simp only [Nat.zero_add] at p0 p1 p2
              have f2 := own_free3 hR (by omega) (i * 3 + 2)
              have s2 : Hid (K.OwnOf pcells 3 62 (wr.setCell ⟨gl, i * 3 + 2, none⟩ (.bool true)) W0.heap.size (.slice (some ⟨gl, 0, none⟩) m.s cp) (PL { m with there := withS (thereJ m k set j) (i : Int) } g)) := by
                have h7 := own_set3 hR (i := i) (j := 2) hi3 (by decide) (.bool true) ⟨m.sent.testBit i, g i, true⟩ (by rw [PL_get]; rfl)
                rw [PL_there { m with there := thereJ m k set j } g i his (by show m.s ≤ 32; omega)] at h7
                exact h7
              clear hR hi3 p1
              cases hs : m.sent.testBit i with
              | false =>
                rw [hs] at p0
                have HST2 : Hid (thereJ m k set (j + 1) = thereJ m k set j) := show _ = _ by rw [HST.out, if_neg (by rw [hs]; simp)]
                clear s2 HST
                go_wp2
                go_roundg (LS.length - (j + 1))
                case measure => omega
                case rel => exact ⟨j + 1, by go_num, by omega, rfl, by rw [HST2.out]; exact hS.out.1, hS.out.2⟩
              | true =>
                rw [hs] at p0
                have HST2 : Hid (thereJ m k set (j + 1) = withS (thereJ m k set j) (i : Int)) := show _ = _ by rw [HST.out, if_pos ⟨his, hs⟩]
                clear HST
                go_wp2
                go_roundg (LS.length - (j + 1))
                case measure => omega
                case rel => exact ⟨j + 1, by go_num, by omega, rfl, by rw [HST2.out]; exact s2.out, hS.out.2.trans (Only.set wr gl (i * 3 + 2) _)⟩
            · have his' : ¬ (i : Int) < (m.s : Int) := by omega
              have HST2 : Hid (thereJ m k set (j + 1) = thereJ m k set j) := show _ = _ by rw [HST.out, if_neg (by simp [his])]
              clear HST
              go_wp2
              go_roundg (LS.length - (j + 1))
              case measure => omega
              case rel => exact ⟨j + 1, by go_num, by omega, rfl, by rw [HST2.out]; exact hS.out.1, hS.out.2⟩
          · obtain rfl : j = LS.length := by omega
            have hR : K.OwnOf pcells 3 62 wr W0.heap.size (.slice (some ⟨gl, 0, none⟩) m.s cp) (PL { m with there := theresS m k set } g) := by
              have := hS.out.1
              rw [HT.out] at this
              exact this
            have hOn := hS.out.2
            have hm2 := theres_ok hO.out k set
            obtain ⟨off, hoff, hSl⟩ : ∃ off, (off = k * 3 ∨ (off = 0 ∧ cp = k)) ∧ ∀ X, (Instr.slice 36 (.slice (some ⟨gl, 0, none⟩) m.s cp) (some (.int .i64 (k : Int))) none none).run Tryd.prog X = .ok (.slice (some ⟨gl, off, none⟩) (m.s - k) (cp - k)) X := by
              have hso : ∀ X, (sizeOf (Tryd.prog.elem 36)).run Tryd.prog X = .ok 3 X := fun X => by kernel_rfl
              have hut : Tryd.prog.underlying 36 = some (.slice (Tryd.prog.elem 36)) := by kernel_rfl
              have hrun : ∀ X, (Instr.slice 36 (.slice (some ⟨gl, 0, none⟩) m.s cp) (some (.int .i64 (k : Int))) none none).run Tryd.prog X = .ok (sliced (some ⟨gl, 0, none⟩) k m.s cp 3) X := fun X => by
                rw [run_slice_l X 36 (some ⟨gl, 0, none⟩) m.s cp hut .i64 (k : Int) (by omega) (by omega), hso, Int.toNat_natCast]
                rfl
              by_cases hc : cp = k
              · exact ⟨0, .inr ⟨rfl, hc⟩, fun X => by rw [hrun X]; unfold sliced; simp [hc]⟩
              · exact ⟨k * 3, .inl rfl, fun X => by rw [hrun X]; unfold sliced; simp [hc, Go.WideShapes.add_plain]⟩
            obtain ⟨R, hcur⟩ : ∃ R, wr.heap[gl]? = some (.cells (K.cellsOf pcells (PL { m with there := theresS m k set } g) ++ R).toArray 62 (0, 0)) ∧ R.length = cp * 3 - m.s * 3 := by
              rcases hR.split with ⟨hv1, _⟩ | ⟨g', c', R, hvl, _, hblk2, _, _, hRl⟩
              · cases hv1
              · injection hvl with h1 h2 h3
                injection h1 with h1
                injection h1 with h1 _ _
                subst h1 h3
                rw [PL_len] at hRl
                exact ⟨R, hblk2, hRl⟩
            have hpl : (K.cellsOf pcells (PL { m with there := theresS m k set } g)).length = m.s * 3 := by rw [K.cellsOf_length, PL_len]
            obtain ⟨v', w5, hrun, hrow5, ho5, hob⟩ := append_zeros wr 36 gl off (m.s - k) (cp - k) k ((PL { m with there := theresS m k set } g).drop k) _ hcur.1 (by
                rw [List.length_append, hpl, hcur.2]; omega) (by rw [List.length_drop, PL_len]) (by omega) (by omega) (fun i u hu => by
                rcases hoff with rfl | ⟨rfl, hck⟩
                · rw [cell_of_row wr gl (k * 3 + i) _ 62 (0, 0) hcur.1]
                  rw [← K.cellsOf_drop, List.getElem?_drop] at hu
                  have hlt4 := (List.getElem?_eq_some_iff.1 hu).1
                  simp only [List.getElem?_toArray]
                  rw [List.getElem?_append_left hlt4]
                  exact hu
                · rw [List.drop_eq_nil_of_le (by rw [PL_len]; show m.s ≤ k; omega)] at hu
                  simp [K.cellsOf_nil] at hu) (by omega) (by omega)
            rw [PL_slid hm2 g k hN] at hrow5
            obtain ⟨vb, vcp, hv'⟩ := hrow5.slice
            generalize (PL (slidM { m with there := theresS m k set } k) (slidG m.s k g)).length = ln at hv'
            subst hv'
            have hq5 : Hid (w5.heap[q]? = some (.cells #[.int .i64 m.s, .int .i64 m.t, .int .u16 m.b, .slice va m.s vc] 38 (0, 0))) := (ho5.block q (Nat.lt_of_lt_of_le hq3 hOn.size) hqg).trans hqs
            obtain ⟨w6, hw6⟩ : ∃ X, w5.setCell ⟨q, 3, none⟩ (.slice vb ln vcp) = X := ⟨_, rfl⟩
            obtain ⟨w7, hw7⟩ : ∃ X, w6.setCell ⟨q, 2, none⟩ (.int .u16 num) = X := ⟨_, rfl⟩
            have hq6 : Hid (w6.heap[q]? = some (.cells #[.int .i64 m.s, .int .i64 m.t, .int .u16 m.b, (.slice vb ln vcp)] 38 (0, 0))) := by rw [← hw6]; exact heap_setCell_same _ q 3 _ _ _ hq5.out
            have hq7 : Hid (w7.heap[q]? = some (.cells #[.int .i64 m.s, .int .i64 m.t, .int .u16 num, (.slice vb ln vcp)] 38 (0, 0))) := by rw [← hw7]; exact heap_setCell_same _ q 2 _ _ _ hq6.out
            have hob2 : ∃ j, (Value.slice vb ln vcp).ownBlock = some j ∧ W0.heap.size ≤ j := by
              rcases hob with h1 | ⟨j, h1, h2⟩
              · exact ⟨gl, h1, hgl⟩
              · exact ⟨j, h1, Nat.le_trans (Nat.le_trans hB3.out.size hOn.size) h2⟩
            have hfin : Hid (RAckP W0 q (.slice va m.s vc) (ackM m k set) w7) := by
              obtain ⟨jb, hj1, hj2⟩ := hob2
              have hne : (Value.slice vb ln vcp).ownBlock ≠ some q := by rw [hj1]; intro he; injection he with he; omega
              refine ⟨(.slice vb ln vcp), slidG m.s k g, ⟨?_, ?_, ?_, hne⟩, ?_, .inr ⟨jb, hj1, hj2⟩⟩
              · rw [hq7.out]
                show some (Obj.cells #[.int .i64 m.s, .int .i64 m.t, .int .u16 num, (.slice vb ln vcp)] _ _) = some (Obj.cells #[.int .i64 m.s, .int .i64 m.t, .int .u16 (((m.b + k) % 65536 : Nat) : Int), (.slice vb ln vcp)] _ _)
                rw [hnb2]
              · refine hrow5.same fun jj hjj => ?_
                have hjq : jj ≠ q := fun he => hne (by rw [hjj, he])
                rw [← hw7, ← hw6]
                exact (Below.heap_setCell _ ⟨q, 2, none⟩ _ jj hjq).trans (Below.heap_setCell _ ⟨q, 3, none⟩ _ jj hjq)
              · intro i hi
                have hsb : (slideS m.sent (k : Int)).testBit i = true := hi
                rw [slideS_test _ hO.out.setS, show ((i : Int) + (k : Int)).toNat = i + k by omega] at hsb
                simp only [Bool.and_eq_true] at hsb
                have hlt5 := hO.out.near _ hsb.2
                show slidG m.s k g i = if i + k < 32 then m.tick (i + k) else m.tick i
                unfold slidG
                rw [if_pos hlt5, if_pos (by omega)]
                exact hA.out.tick _ hsb.2
              · have o1 : Only q W0 w5 := ⟨ho5.os.trans (hOn.os.trans hB3.out.os), ho5.tape.trans (hOn.tape.trans hB3.out.tape), ho5.output.trans (hOn.output.trans hB3.out.output), Nat.le_trans hB3.out.size (Nat.le_trans hOn.size ho5.size), fun i hi _ => (ho5.block i (Nat.lt_of_lt_of_le hi (Nat.le_trans hB3.out.size hOn.size)) (by omega)).trans ((hOn.block i (Nat.lt_of_lt_of_le hi hB3.out.size) (by omega)).trans (hB3.out.block i hi))⟩
                rw [← hw7, ← hw6]
                exact o1.trans ((Only.set _ q 3 _).trans (Only.set _ q 2 _))
            obtain ⟨_, a2, a3, af⟩ := qcells20 hq5.out
            have af3 := af 3
            obtain ⟨_, b2, b3, bf⟩ := qcells20 hq6.out
            have bf2 := bf 2
            have hk63 : (k : Int) ≤ (m.s : Int) := by omega
            clear hR hOn hm2 hcur hpl hrow5 ho5 hob hob2 hqs af bf hq7 HLc HT hstep hbd hoff
            go_wp2_with (at_builtin; refine Lib.wpList_append_run _ rfl (.tmp 81) (.tmp 82) 36 3 rfl _ _ rfl rfl _ _ hrun ?_)
            go_ret
            exact ⟨rfl, hfin.out⟩
end Go.Proofs.YthdoilinpeheiaaDoor
