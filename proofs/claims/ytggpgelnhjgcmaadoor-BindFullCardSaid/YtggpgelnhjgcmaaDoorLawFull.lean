/-
  THE STATEMENT BindFull, walked.
-/
import Derived.Test.YtggpgelnhjgcmaaDoorFull
import Derived.Deep.RegionHeld3
import Derived.BigRegion
import Derived.Deep.CutRange
namespace Go.Proofs.YtggpgelnhjgcmaaDoor
open Go.RowKit Go.Sort Go.Maps Go.Shelf

theorem at_third (w : World) (o1 o2 o3 : Obj) : ((((w.alloc o1).alloc o2).alloc o3).drew).heap[w.heap.size + 1 + 1]? = some o3 := by
  have h := heap_alloc_new ((w.alloc o1).alloc o2) o3
  rw [World.size_alloc, World.size_alloc] at h
  exact h
theorem at_second (w : World) (o1 o2 o3 : Obj) : ((((w.alloc o1).alloc o2).alloc o3).drew).heap[w.heap.size + 1]? = some o2 := by
  have h := heap_alloc_new (w.alloc o1) o2
  rw [World.size_alloc] at h
  exact (Below.heap_alloc ((w.alloc o1).alloc o2) o3 (w.heap.size + 1) (by simp)).trans h
theorem at_first (w : World) (o1 o2 o3 : Obj) : ((((w.alloc o1).alloc o2).alloc o3).drew).heap[w.heap.size]? = some o1 :=
  (Below.heap_alloc ((w.alloc o1).alloc o2) o3 w.heap.size (by simp; omega)).trans ((Below.heap_alloc (w.alloc o1) o2 w.heap.size (by simp)).trans (heap_alloc_new w o1))
theorem belThree (w : World) (o1 o2 o3 : Obj) : Below w.heap.size w ((((w.alloc o1).alloc o2).alloc o3).drew) :=
  ((((Below.refl _ w).alloc (Nat.le_refl _) o1).alloc (by simp) o2).alloc (by simp; omega) o3).drew
theorem cat_q (a b : UInt8) : (⟨#[113]⟩ : ByteArray) ++ ⟨#[a, b]⟩ = ⟨#[113, a, b]⟩ := by
  apply ByteArray.ext
  simp
def qb : Bd := ⟨let1 0, ⟨#[113]⟩, ⟨#[]⟩⟩
theorem q_ne (i : Nat) : (⟨#[113]⟩ : ByteArray) ≠ mkq i := fun h => by
  have := congrArg ByteArray.size h
  exact absurd this (by show ¬ (1 : Nat) = 3; decide)
theorem qb_out {s : Tb} {k : Int} {n i : Nat} (h : L2 s k n i) : qb ∉ s.bs := fun hin => by
  obtain ⟨j, _, e⟩ := (h.mem _).1 hin
  exact q_ne j (congrArg Bd.que e)
theorem qb_full {s : Tb} {k : Int} (hk : Kd3 k) {n : Nat} (h : L2 s k n 32) : s.bind qb = (5, s) := by
  unfold Tb.bind
  rw [if_neg (by show ¬ nameB (txt ⟨#[113]⟩) = false; decide)]
  rw [show qb.ex = let1 0 from rfl, mem_find h.xs (by omega)]
  simp only
  rw [if_neg (by rw [show (mkx k 0).kind = k from rfl, show qb.pat = ⟨#[]⟩ from rfl, may_nil hk]; decide), if_neg (qb_out h), if_pos (by rw [h.len]; omega)]
theorem keep31 {s : Tb} {k : Int} {n : Nat} (h : L2 s k n 32) : (keepB (fun b => b.que.toList == (mkq 0).toList) s.bs).length = 31 := by
  have := filter_one_less (Ord.nodup cmpB3 h.ok.ob) ((h.mem _).2 ⟨0, by omega, rfl⟩) (p := fun b => b.que.toList == (mkq 0).toList) (fun y hy => by
    simp only [baList_eq, decide_eq_true_iff]
    obtain ⟨j, hj, rfl⟩ := (h.mem y).1 hy
    constructor
    · intro e
      rw [mkq_inj hj (by omega) e]
    · intro e; rw [e]; rfl)
  rw [h.len] at this
  have e : (keepB (fun b => b.que.toList == (mkq 0).toList) s.bs).length + 1 = 32 := this
  omega
theorem qb_new {s : Tb} {k : Int} (hk : Kd3 k) {n : Nat} (h : L2 s k n 32) : ({ s with bs := keepB (fun b => b.que.toList == (mkq 0).toList) s.bs } : Tb).bind qb = (0, { s with bs := insC cmpB qb (keepB (fun b => b.que.toList == (mkq 0).toList) s.bs) }) := by
  have hl := keep31 h
  unfold Tb.bind
  rw [if_neg (by show ¬ nameB (txt ⟨#[113]⟩) = false; decide)]
  simp only
  rw [show qb.ex = let1 0 from rfl, mem_find h.xs (by omega)]
  simp only
  rw [if_neg (by rw [show (mkx k 0).kind = k from rfl, show qb.pat = ⟨#[]⟩ from rfl, may_nil hk]; decide), if_neg (fun hin : qb ∈ keepB _ _ => qb_out h (List.mem_filter.1 hin).1), if_neg (by rw [hl]; omega)]
theorem drop_a {s : Tb} {k : Int} (hx : ∀ x, x ∈ s.xs ↔ ∃ j, j < 8 ∧ x = mkx k j) (ox : Ord cmpX s.xs) (hl : s.xs.length = 8) : (s.drop (let1 0)).1 = 0 ∧ (s.drop (let1 0)).2.xs.length = 7 := by
  have := filter_one_less (Ord.nodup cmpX3 ox) ((hx _).2 ⟨0, by omega, rfl⟩) (p := fun x => decide (x.name = let1 0)) (fun y hy => by
    simp only [decide_eq_true_iff]
    obtain ⟨j, hj, rfl⟩ := (hx y).1 hy
    constructor
    · intro e
      rw [let1_inj (i := j) (j := 0) (by omega) (by omega) e]
    · intro e; rw [e]; rfl)
  rw [hl] at this
  unfold Tb.drop
  rw [mem_find hx (by omega)]
  have e : (s.xs.filter fun x => !decide (x.name = let1 0)).length + 1 = 8 := this
  exact ⟨rfl, by show (s.xs.filter fun x => !decide (x.name = let1 0)).length = 7; omega⟩
theorem conv_back (W : World) (g cap : Nat) (bs : List UInt8) (hc : ∀ j (hj : j < bs.length), W.cell? ⟨g, j, none⟩ = some (.int .u8 (bs[j].toNat : Int))) :
    (convert 27 9 (.slice (some ⟨g, 0, none⟩) bs.length cap)).run Tryd.prog W = .ok (.string ⟨bs.toArray⟩) W :=
  run_convert_bytes_back W 27 9 5 ⟨g, 0, none⟩ cap bs Tryd.underlying27 Tryd.underlying5 Tryd.underlying9 (fun j hj => by rw [Addr.add_lit, Nat.zero_add]; exact hc j hj)
theorem toNat_let {a : Nat} (h : a < 256) : ((UInt8.ofNat a).toNat : Int) = (a : Int) := by rw [UInt8.toNat_ofNat']; omega
theorem conv1 {i : Nat} (hi : i < 100) (W : World) (g : Nat) (h : W.cell? ⟨g, 0, none⟩ = some (.int .u8 (97 + (i : Int)))) : (convert 27 9 (.slice (some ⟨g, 0, none⟩) 1 1)).run Tryd.prog W = .ok (.string (let1 i)) W :=
  conv_back W g 1 [UInt8.ofNat (97 + i)] (fun j hj => by
    obtain rfl : j = 0 := by simpa using hj
    rw [h]
    simp only [List.getElem_cons_zero]
    rw [toNat_let (by omega)]
    simp)
theorem conv2 {a b : Nat} (ha : a < 100) (hb : b < 100) (W : World) (g : Nat) (h0 : W.cell? ⟨g, 0, none⟩ = some (.int .u8 (97 + (a : Int)))) (h1 : W.cell? ⟨g, 1, none⟩ = some (.int .u8 (97 + (b : Int)))) : (convert 27 9 (.slice (some ⟨g, 0, none⟩) 2 2)).run Tryd.prog W = .ok (.string ⟨#[UInt8.ofNat (97 + a), UInt8.ofNat (97 + b)]⟩) W :=
  conv_back W g 2 [UInt8.ofNat (97 + a), UInt8.ofNat (97 + b)] (fun j hj => by
    have : j = 0 ∨ j = 1 := by simp at hj; omega
    rcases this with rfl | rfl
    · rw [h0]; simp only [List.getElem_cons_zero]; rw [toNat_let (by omega)]; simp
    · rw [h1]; simp only [List.getElem_cons_succ, List.getElem_cons_zero]; rw [toNat_let (by omega)]; simp)

set_option maxRecDepth 20000 in
set_option maxHeartbeats 8000000 in
theorem full_law (kd nm : Nat) (w : World) (hkd : kd < 18446744073709551616) (hnm : nm < 18446744073709551616) :
    Calls Tryd.prog 3 #[.int .u64 (kd : Int), .int .u64 (nm : Int)] w fun e w' => e = .returned (.bool true) ∧ Below w.heap.size w w' := by
  obtain ⟨k, hk⟩ : ∃ k : Int, 1 + (((kd % 3 : Nat) : Int)) = k := ⟨_, rfl⟩
  obtain ⟨n, hn⟩ : ∃ n : Nat, 1 + nm % 8 = n := ⟨_, rfl⟩
  have hk3 : Kd3 k := by unfold Kd3; omega
  have a1 : (kd : Int) % 3 = ((kd % 3 : Nat) : Int) := by omega
  have a2 : IntKind.i64.wrap ((kd % 3 : Nat) : Int) = ((kd % 3 : Nat) : Int) := by rw [IntKind.wrap_i64]; omega
  have a3 : IntKind.i64.wrap (1 + ((kd % 3 : Nat) : Int)) = k := by rw [IntKind.wrap_i64]; omega
  have hm3 : kd % 3 < 3 := Nat.mod_lt _ (by decide)
  generalize kd % 3 = km at *
  go_enter Tryd.func3, Tryd.ntmps3
  go_wp2_with fail
  refine (new_any w).mono ?_
  rintro e w1 ⟨p, rfl, F1, q1, hF, b1⟩
  have H1 : HoldT w w1 p F1 newT := ⟨q1, newT_ok, hF, b1⟩
  clear q1 hF b1
  go_wp2
  go_loopg [7] 8 (fun g u7 wr => ∃ i : Nat, u7 = .int .i64 i ∧ i ≤ 8 ∧ g = 8 - i ∧ ∃ F s, HoldT w wr p F s ∧ Hid (L1 s k i))
  case atStart => exact ⟨0, rfl, Nat.zero_le _, rfl, F1, newT, H1, l1_new k⟩
  case round =>
    clear H1
    obtain ⟨i, rfl, hi, rfl, F2, s, H2, HL⟩ := hrel
    by_cases hi8 : i < 8
    · have hi8' : (i : Int) < 8 := by omega
      have w1' : IntKind.i64.wrap (97 + (i : Int)) = ((97 + i : Nat) : Int) := by rw [IntKind.wrap_i64]; omega
      have w2' : IntKind.u8.wrap ((97 + i : Nat) : Int) = ((97 + i : Nat) : Int) := by rw [IntKind.wrap_u8]; omega
      have cv := conv1 (i := i) (by omega) (wr.alloc (.cells #[.int .u8 (97 + (i : Int))] 5)) wr.heap.size (cell_of_list (C := [.int .u8 (97 + (i : Int))]) (heap_alloc_new wr _) 0)
      have HS := HL.out.step hk3 hi8
      have H3 := H2.below (wr' := wr.alloc (.cells #[.int .u8 (97 + (i : Int))] 5)) ((Below.refl _ _).alloc (Nat.le_refl _) _)
      have hD := declare_any p F2 s (mkx k i) _ H3.t H3.ok (by show (1 : Nat) ≤ maxLen; unfold maxLen; omega)
      rw [HS.1] at hD
      have HN : Hid _ := HS.2
      clear HS
      go_wp2_with fail
      refine hD.mono ?_
      rintro e w5 ⟨rfl, F5, t5, m5⟩
      have H5 := H3.go t5 m5 HN.out.ok
      go_wp2
      go_roundg (8 - (i + 1))
      case measure => omega
      case rel => exact ⟨i + 1, by go_num, by omega, rfl, F5, _, H5, HN⟩
    · obtain rfl : i = 8 := by omega
      have zl : let1 25 = ⟨#[122]⟩ := rfl
      have al : let1 0 = ⟨#[97]⟩ := rfl
      have hD1 := declare_any p F2 s (mkx k 25) wr H2.t H2.ok (by show (1 : Nat) ≤ maxLen; unfold maxLen; omega)
      rw [HL.out.full hk3] at hD1
      have k4 : Hid (Kd3 (k % 3 + 1) ∧ k ≠ k % 3 + 1) := by unfold Kd3 at *; show (_ ∨ _) ∧ _; omega
      have k5 : IntKind.i64.wrap (k % 3 + 1) = k % 3 + 1 := by unfold Kd3 at hk3; rw [IntKind.wrap_i64]; omega
      have k6 : k.tmod 3 = k % 3 := by unfold Kd3 at hk3; rcases hk3 with rfl | rfl | rfl <;> rfl
      go_wp2_with fail
      refine hD1.mono ?_
      rintro e w5 ⟨rfl, F5, t5, m5⟩
      have H5 := H2.go t5 m5 HL.out.ok
      have hD2 := declare_any p F5 s (mkx k 0) w5 H5.t H5.ok (by show (1 : Nat) ≤ maxLen; unfold maxLen; omega)
      rw [HL.out.again hk3] at hD2
      clear t5 m5 hD1
      go_wp2_with fail
      refine hD2.mono ?_
      rintro e w6 ⟨rfl, F6, t6, m6⟩
      have H6 := H5.go t6 m6 HL.out.ok
      have hD3 := declare_any p F6 s (mkx (k % 3 + 1) 0) w6 H6.t H6.ok (by show (1 : Nat) ≤ maxLen; unfold maxLen; omega)
      rw [HL.out.other k4.out.1 k4.out.2] at hD3
      clear t6 m6 hD2
      go_wp2_with fail
      refine hD3.mono ?_
      rintro e w7 ⟨rfl, F7, t7, m7⟩
      have H7 := H6.go t7 m7 HL.out.ok
      have a4 : (nm : Int) % 8 = ((nm % 8 : Nat) : Int) := by omega
      have a5 : IntKind.i64.wrap ((nm % 8 : Nat) : Int) = ((nm % 8 : Nat) : Int) := by rw [IntKind.wrap_i64]; omega
      have a6 : IntKind.i64.wrap (1 + ((nm % 8 : Nat) : Int)) = (n : Int) := by rw [IntKind.wrap_i64]; omega
      have hn1 : 1 ≤ n := by omega
      have hn8 : n ≤ 8 := by omega
      generalize nm % 8 = nn at *
      have HL2 : Hid (L2 s k n 0) := HL.out.l2 n
      clear t7 m7 hD3 H2 H5 H6 HL
      go_wp2
      go_loopg [9, 10] 32 (fun g u9 u10 wr => ∃ i : Nat, u9 = .int .i64 i ∧ i ≤ 32 ∧ g = 32 - i ∧ ∃ F s, HoldT w wr p F s ∧ Hid (L2 s k n i))
      case atStart => exact ⟨0, rfl, Nat.zero_le _, rfl, F7, s, H7, HL2⟩
      case round =>
        clear H7 HL2 a1 a2 a3 a4 a5 a6
        obtain ⟨i, rfl, hi, rfl, F2, s, H2, HL⟩ := hrel
        by_cases hi32 : i < 32
        · have hi32' : (i : Int) < 32 := by omega
          have HS := HL.out.step hk3 hn1 hn8 hi32
          have HST : Hid _ := HS
          clear HS
          have hr8 : i % n < 8 := Nat.lt_of_lt_of_le (Nat.mod_lt _ hn1) hn8
          have r1 : (i : Int) % (n : Int) = ((i % n : Nat) : Int) := by first | (push_cast; rfl) | simp
          have r1' : (i : Int).tmod (n : Int) = ((i % n : Nat) : Int) := by rw [Int.tmod_eq_emod_of_nonneg (by omega)]; exact r1
          have r2' : (i : Int).tdiv 16 = ((i / 16 : Nat) : Int) := by rw [Int.tdiv_eq_ediv_of_nonneg (by omega)]; omega
          have r2 : (i : Int) / 16 = ((i / 16 : Nat) : Int) := by omega
          have r3' : (i : Int).tmod 16 = ((i % 16 : Nat) : Int) := by rw [Int.tmod_eq_emod_of_nonneg (by omega)]; omega
          have r3 : (i : Int) % 16 = ((i % 16 : Nat) : Int) := by omega
          have hn0 : ¬ (n : Int) = 0 := by omega
          have hn0' : ¬ n = 0 := by omega
          obtain ⟨r, hr⟩ : ∃ r, i % n = r := ⟨_, rfl⟩
          obtain ⟨d, hd⟩ : ∃ d, i / 16 = d := ⟨_, rfl⟩
          obtain ⟨m, hm⟩ : ∃ m, i % 16 = m := ⟨_, rfl⟩
          have hd2 : d < 2 := by omega
          have hm16 : m < 16 := by omega
          rw [hr] at r1 r1' hr8
          rw [hd] at r2 r2'
          rw [hm] at r3 r3'
          obtain ⟨A, hA⟩ : ∃ A, let1 r = A := ⟨_, rfl⟩
          obtain ⟨Q, hQ⟩ : ∃ Q, (⟨#[113, UInt8.ofNat (97 + d), UInt8.ofNat (97 + m)]⟩ : ByteArray) = Q := ⟨_, rfl⟩
          have HAQ : Hid (let1 r = A ∧ (⟨#[113, UInt8.ofNat (97 + d), UInt8.ofNat (97 + m)]⟩ : ByteArray) = Q) := ⟨hA, hQ⟩
          have HB : Hid (mkb n i = ⟨A, Q, ⟨#[]⟩⟩) := by show mkb n i = _; unfold mkb mkq; rw [hr, hd, hm, hA, hQ]
          clear hA hQ
          have v1 : IntKind.i64.wrap (97 + (r : Int)) = 97 + (r : Int) := by rw [IntKind.wrap_i64]; omega
          have v2 : IntKind.u8.wrap (97 + (r : Int)) = 97 + (r : Int) := by rw [IntKind.wrap_u8]; omega
          have v3 : IntKind.i64.wrap (97 + (d : Int)) = 97 + (d : Int) := by rw [IntKind.wrap_i64]; omega
          have v4 : IntKind.u8.wrap (97 + (d : Int)) = 97 + (d : Int) := by rw [IntKind.wrap_u8]; omega
          have v5 : IntKind.i64.wrap (97 + (m : Int)) = 97 + (m : Int) := by rw [IntKind.wrap_i64]; omega
          have v6 : IntKind.u8.wrap (97 + (m : Int)) = 97 + (m : Int) := by rw [IntKind.wrap_u8]; omega
          have v7 : IntKind.i64.wrap (d : Int) = (d : Int) := by rw [IntKind.wrap_i64]; omega
          have v8 : IntKind.i64.wrap (m : Int) = (m : Int) := by rw [IntKind.wrap_i64]; omega
          have v9 : IntKind.i64.wrap (r : Int) = (r : Int) := by rw [IntKind.wrap_i64]; omega
          obtain ⟨B2, hB2⟩ : ∃ B2, (⟨#[UInt8.ofNat (97 + d), UInt8.ofNat (97 + m)]⟩ : ByteArray) = B2 := ⟨_, rfl⟩
          have cvA := conv1 (i := r) (by omega)
          have cvB := conv2 (a := d) (b := m) (by omega) (by omega)
          have ccat := cat_q (UInt8.ofNat (97 + d)) (UInt8.ofNat (97 + m))
          have hB2s : B2.size = 2 := by rw [← hB2]; rfl
          rw [hB2] at ccat
          rw [HAQ.out.2] at ccat
          have hplus : ∀ W, (Op.stringOp .add ⟨#[113]⟩ B2).run Tryd.prog W = .ok (.string Q) W := fun W => by
            rw [run_string_add W ⟨#[113]⟩ B2 (by show ((1 : Nat) : Int) ≤ _; omega) (by omega), ccat]
          clear hB2s
          simp only [HAQ.out.1] at cvA
          simp only [hB2] at cvB
          clear hB2
          have fB0 := fun o2 o3 => cell_allocK o3 (cell_allocK o2 (cell_of_list (C := [.int .u8 (97 + (d : Int)), .int .u8 (97 + (m : Int))]) (heap_alloc_new wr (.cells #[.int .u8 (97 + (d : Int)), .int .u8 (97 + (m : Int))] 5)) 0))
          have gB0 := fun o2 => cell_allocK o2 (cell_of_list (C := [.int .u8 (97 + (d : Int)), .int .u8 (97 + (m : Int))]) (heap_alloc_new wr (.cells #[.int .u8 (97 + (d : Int)), .int .u8 (97 + (m : Int))] 5)) 0)
          have hB0 : ∀ o1 o3, (((wr.alloc o1).alloc (.cells #[.int .u8 (97 + (d : Int)), .int .u8 (97 + (m : Int))] 5)).alloc o3).cell? ⟨wr.heap.size + 1, 0, none⟩ = some (.int .u8 (97 + (d : Int))) := fun o1 o3 => cell_allocK o3 (by rw [← World.size_alloc wr o1]; exact cell_of_list (C := [.int .u8 (97 + (d : Int)), .int .u8 (97 + (m : Int))]) (heap_alloc_new _ _) 0)
          have fB1 := fun o2 o3 => cell_allocK o3 (cell_allocK o2 (cell_of_list (C := [.int .u8 (97 + (d : Int)), .int .u8 (97 + (m : Int))]) (heap_alloc_new wr (.cells #[.int .u8 (97 + (d : Int)), .int .u8 (97 + (m : Int))] 5)) 1))
          have gB1 := fun o2 => cell_allocK o2 (cell_of_list (C := [.int .u8 (97 + (d : Int)), .int .u8 (97 + (m : Int))]) (heap_alloc_new wr (.cells #[.int .u8 (97 + (d : Int)), .int .u8 (97 + (m : Int))] 5)) 1)
          have hB1' : ∀ o1 o3, (((wr.alloc o1).alloc (.cells #[.int .u8 (97 + (d : Int)), .int .u8 (97 + (m : Int))] 5)).alloc o3).cell? ⟨wr.heap.size + 1, 1, none⟩ = some (.int .u8 (97 + (m : Int))) := fun o1 o3 => cell_allocK o3 (by rw [← World.size_alloc wr o1]; exact cell_of_list (C := [.int .u8 (97 + (d : Int)), .int .u8 (97 + (m : Int))]) (heap_alloc_new _ _) 1)
          have fR0 := fun o2 o3 => cell_allocK o3 (cell_allocK o2 (cell_of_list (C := [.int .u8 (97 + (r : Int))]) (heap_alloc_new wr (.cells #[.int .u8 (97 + (r : Int))] 5)) 0))
          have gR0 := fun o2 => cell_allocK o2 (cell_of_list (C := [.int .u8 (97 + (r : Int))]) (heap_alloc_new wr (.cells #[.int .u8 (97 + (r : Int))] 5)) 0)
          have hR0 : ∀ o1 o3, (((wr.alloc o1).alloc (.cells #[.int .u8 (97 + (r : Int))] 5)).alloc o3).cell? ⟨wr.heap.size + 1, 0, none⟩ = some (.int .u8 (97 + (r : Int))) := fun o1 o3 => cell_allocK o3 (by rw [← World.size_alloc wr o1]; exact cell_of_list (C := [.int .u8 (97 + (r : Int))]) (heap_alloc_new _ _) 0)
          have hFl := H2.t.lts
          have HFl : Hid (∀ k, F2 k → k < wr.heap.size) := hFl
          clear hr hd hm hFl
          go_wp2
          go_cut [10] from 57 to 89 (fun s10 wx => ∃ g, s10 = .pointer (some ⟨g, 0, none⟩) ∧ wr.heap.size ≤ g ∧ Below wr.heap.size wr wx ∧ wx.heap[g]? = some (.cells #[.string A, .string Q, .string ⟨#[]⟩] 31 (0, 0)))
          case first =>
            go_region
            all_goals go_wp2
            all_goals go_meet
            all_goals first
              | exact ⟨_, rfl, by omega, belThree _ _ _ _, at_third _ _ _ _⟩
              | exact ⟨_, rfl, by omega, belThree _ _ _ _, at_second _ _ _ _⟩
              | exact ⟨_, rfl, by omega, belThree _ _ _ _, at_first _ _ _ _⟩
          case rest =>
            clear fB0 fB1 gB0 gB1 hB0 hB1' fR0 gR0 hR0
            clear cvA cvB ccat hplus v1 v2 v3 v4 v5 v6 v7 v8 v9 r1 r1' r2 r2' r3 r3' hn0 hn0'
            obtain ⟨g, rfl, hg, b3, hz⟩ := hcut
            have z0 : wc.cell? ⟨g, 0, none⟩ = some (.string A) := cell_of_list (C := [.string A, .string Q, .string ⟨#[]⟩]) hz 0
            have z1 : wc.cell? ⟨g, 1, none⟩ = some (.string Q) := cell_of_list (C := [.string A, .string Q, .string ⟨#[]⟩]) hz 1
            have z2 : wc.cell? ⟨g, 2, none⟩ = some (.string ⟨#[]⟩) := cell_of_list (C := [.string A, .string Q, .string ⟨#[]⟩]) hz 2
            have H3 := H2.below b3
            have hB1 := bind_any p F2 s (mkb n i) wc H3.t H3.ok (mkb_fit n i)
            rw [HST.out.1] at hB1
            have hgl := (Array.getElem?_eq_some_iff.1 hz).1
            rw [HB.out] at hB1
            go_wp2_with fail
            refine hB1.mono ?_
            rintro e w5 ⟨rfl, F5, t5, m5⟩
            have H5 := H3.go t5 (by exact m5) (by have := HST.out.2.2.ok; rw [HB.out] at this; exact this)
            have hsm : w5.heap[g]? = wc.heap[g]? := m5.block g hgl (fun hf => by have := HFl.out _ hf; omega)
            have y0 := (cell_same hsm 0).trans z0
            have y1 := (cell_same hsm 1).trans z1
            have y2 := (cell_same hsm 2).trans z2
            have hB2 := bind_any p F5 _ (mkb n i) w5 H5.t H5.ok (mkb_fit n i)
            have hS2 := HST.out.2.1
            rw [HB.out] at hB2 hS2
            rw [hS2] at hB2
            clear z0 z1 z2 hz t5 m5 hB1 hsm
            go_wp2_with fail
            refine hB2.mono ?_
            rintro e w6 ⟨rfl, F6, t6, m6⟩
            have H6 := H5.go t6 m6 H5.ok
            go_wp2
            go_roundg (32 - (i + 1))
            case measure => omega
            case rel => exact ⟨i + 1, by go_num, by omega, rfl, F6, _, H6, by have := HST.out.2.2; rw [HB.out] at this; exact this⟩
        · obtain rfl : i = 32 := by omega
          have hB := bind_any p F2 s qb wr H2.t H2.ok (by refine ⟨?_, ?_, ?_⟩ <;> (show _ ≤ maxLen; unfold maxLen; decide))
          rw [qb_full hk3 HL.out] at hB
          have hl32 := HL.out.len
          go_wp2_with fail
          refine hB.mono ?_
          rintro e w5 ⟨rfl, F5, t5, m5⟩
          have H5 := H2.go t5 m5 H2.ok
          have hbs := bindings_any p F5 s w5 H5.t H5.ok
          clear t5 m5 hB
          go_wp2_with fail
          refine hbs.mono ?_
          rintro e w6 ⟨v6, rfl, own6, b6⟩
          have H6 := H5.below b6
          obtain ⟨va, vc, hv6⟩ := own6.rng.slice
          rw [hl32] at hv6
          subst hv6
          have hFo := forget_any p F5 s (mkq 0) w6 H6.t H6.ok
          rw [keep31 HL.out, hl32] at hFo
          have hsub : ((32 : Nat) : Int) - ((31 : Nat) : Int) = 1 := by decide
          rw [hsub] at hFo
          clear own6 b6 hbs
          go_wp2_with fail
          refine hFo.mono ?_
          rintro e w7 ⟨rfl, F7, t7, m7⟩
          have H7 := H6.go t7 m7 (H6.ok.keep _)
          have hqf : qb.Fit := by refine ⟨?_, ?_, ?_⟩ <;> (show _ ≤ maxLen; unfold maxLen; decide)
          have hB := bind_any p F7 _ qb w7 H7.t H7.ok hqf
          have okB := H7.ok.bind hqf
          rw [qb_new hk3 HL.out] at hB okB
          clear t7 m7 hFo
          go_wp2_with fail
          refine hB.mono ?_
          rintro e w8 ⟨rfl, F8, t8, m8⟩
          have H8 := H7.go t8 m8 okB
          have hda := drop_a (s := { s with bs := insC cmpB qb (keepB (fun b => b.que.toList == (mkq 0).toList) s.bs) }) HL.out.xs HL.out.ok.ox HL.out.xl
          have hDr := drop_any p F8 _ (let1 0) w8 H8.t H8.ok (by show (1 : Nat) ≤ maxLen; unfold maxLen; omega)
          have okD := H8.ok.drop (let1 0)
          rw [hda.1] at hDr
          have h7 : Hid _ := hda.2
          clear hda t8 m8 hB okB
          generalize (Tb.drop _ (let1 0)).2 = s9 at hDr okD h7
          go_wp2_with fail
          refine hDr.mono ?_
          rintro e w9 ⟨rfl, F9, t9, m9⟩
          have H9 := H8.go t9 m9 okD
          have hxs := exchanges_any p F9 s9 w9 H9.t H9.ok
          clear t9 m9 hDr
          go_wp2_with fail
          refine hxs.mono ?_
          rintro e w10 ⟨v10, rfl, own10, b10⟩
          have H10 := H9.below b10
          obtain ⟨va2, vc2, hv10⟩ := own10.rng.slice
          rw [h7.out] at hv10
          subst hv10
          go_wp2_with fail
          refine (lives_any w10).mono ?_
          rintro e w11 ⟨rfl, b11⟩
          go_wp2
          go_ret
          exact ⟨rfl, (H10.below b11).bel⟩
end Go.Proofs.YtggpgelnhjgcmaaDoor
