/-
  THE WALKS of Open and of the document's Open.
-/
import Derived.Test.YtdbgojmjjkidbaaGreatDoorJSeal
import Derived.OwnWalk
namespace Go.Proofs.YtdbgojmjjkidbaaGreatDoor
open Go.RowKit


theorem holds_empty (w : World) (a : Addr) (c : Nat) (hc : c ≤ maxLen) : Holds w (.slice (some a) 0 c) [] :=
  .inr ⟨a, c, rfl, Nat.zero_le _, hc, fun j u hj => by simp [bcells] at hj⟩

/-- A part of bytes. -/
theorem holds_part {w : World} {b off n cap : Nat} {bs : List UInt8} (hcell : ∀ j (hj : j < bs.length), w.cell? ⟨b, off + j, none⟩ = some (.int .u8 (bs[j].toNat : Int))) (i : Nat) (hi : i + n ≤ bs.length) (hn : n ≤ cap) (hcap : cap ≤ maxLen) :
    Holds w (.slice (some ⟨b, off + i, none⟩) n cap) ((bs.drop i).take n) := by
  have hl : ((bs.drop i).take n).length = n := by simp; omega
  refine .inr ⟨⟨b, off + i, none⟩, cap, by rw [hl], by omega, hcap, fun j u hj => ?_⟩
  have hj' : j < n := by
    have := (List.getElem?_eq_some_iff.1 hj).1
    rw [bcells_length, hl] at this
    exact this
  rw [Go.WideShapes.add_plain]
  have hc := hcell (i + j) (by omega)
  have hu : u = .int .u8 (bs[i + j].toNat : Int) := by
    simp only [bcells, List.getElem?_map, List.getElem?_take, hj', if_true, List.getElem?_drop] at hj
    rw [List.getElem?_eq_getElem (by omega)] at hj
    simpa using hj.symm
  rw [hu, ← hc, Nat.add_assoc]


/-- The count that bytes begin with. -/
def cntO (bs : List UInt8) : Nat := getN (bs.take 4)

/-- The sum that they bear, behind the content. -/
def bornO (bs : List UInt8) : Nat := getN ((bs.drop (4 + cntO bs)).take 4)

/-- What Open answers: the error, the content, how many bytes. -/
def errO (bs : List UInt8) : Nat :=
  if bs.length < 4 then 8 else if 1048576 < cntO bs then 5 else if bs.length < cntO bs + 8 then 8 else if bornO bs = crc (bs.take (4 + cntO bs)) then 0 else 7

def contO (bs : List UInt8) : List UInt8 := if errO bs = 0 then (bs.drop 4).take (cntO bs) else []

def sizeO (bs : List UInt8) : Nat := if errO bs = 0 then cntO bs + 8 else 0

theorem cntO_lt (bs : List UInt8) (h : 4 ≤ bs.length) : cntO bs < 4294967296 := getN_lt bs 4 h

/-- Open fails. -/
theorem openO_bad (bs : List UInt8) (n : Nat) (h : errO bs = n) (hn : n ≠ 0) : contO bs = [] ∧ sizeO bs = 0 := by
  unfold contO sizeO; rw [h, if_neg hn, if_neg hn]; exact ⟨rfl, rfl⟩

theorem openO_good (bs : List UInt8) (h : errO bs = 0) : contO bs = (bs.drop 4).take (cntO bs) ∧ sizeO bs = cntO bs + 8 := by
  unfold contO sizeO; rw [if_pos h, if_pos h]; exact ⟨rfl, rfl⟩

theorem errO_short (bs : List UInt8) (h : bs.length < 4) : errO bs = 8 := by unfold errO; rw [if_pos h]

theorem errO_limit (bs : List UInt8) (h : ¬ bs.length < 4) (h2 : 1048576 < cntO bs) : errO bs = 5 := by unfold errO; rw [if_neg h, if_pos h2]

theorem errO_cut (bs : List UInt8) (h : ¬ bs.length < 4) (h2 : ¬ 1048576 < cntO bs) (h3 : bs.length < cntO bs + 8) : errO bs = 8 := by unfold errO; rw [if_neg h, if_neg h2, if_pos h3]

theorem errO_sum (bs : List UInt8) (h : ¬ bs.length < 4) (h2 : ¬ 1048576 < cntO bs) (h3 : ¬ bs.length < cntO bs + 8) (h4 : ¬ bornO bs = crc (bs.take (4 + cntO bs))) : errO bs = 7 := by unfold errO; rw [if_neg h, if_neg h2, if_neg h3, if_neg h4]

theorem errO_ok (bs : List UInt8) (h : ¬ bs.length < 4) (h2 : ¬ 1048576 < cntO bs) (h3 : ¬ bs.length < cntO bs + 8) (h4 : bornO bs = crc (bs.take (4 + cntO bs))) : errO bs = 0 := by unfold errO; rw [if_neg h, if_neg h2, if_neg h3, if_pos h4]


theorem get4_good (s : Value) (bs : List UInt8) (w : World) (ht : Tab w) (hs : Holds w s bs) (hn : 4 ≤ bs.length) :
    Calls Tryz.prog 87 #[s, .int .i64 4] w fun e w' => e = .returned (.tuple #[.int .u64 (getN (bs.take 4)), .bool true]) ∧ w' = w := by
  simpa using get_good s bs 4 w ht hs rfl hn


theorem get4_bad (s : Value) (bs : List UInt8) (w : World) (ht : Tab w) (hs : Holds w s bs) (hn : bs.length < 4) :
    Calls Tryz.prog 87 #[s, .int .i64 4] w fun e w' => e = .returned (.tuple #[.int .u64 0, .bool false]) ∧ w' = w :=
  get_bad s bs 4 w ht hs (by unfold getB; simp; omega)


theorem rget4_good (s : Value) (bs : List UInt8) (w : World) (hs : Holds w s bs) (hn : 4 ≤ bs.length) :
    Calls Tryz.prog 91 #[s, .int .i64 4] w fun e w' => e = .returned (.tuple #[.int .u64 (getN (bs.take 4)), .bool true]) ∧ w' = w := by
  simpa using rget_good s bs 4 w hs rfl hn


theorem rget4_bad (s : Value) (bs : List UInt8) (w : World) (hs : Holds w s bs) (hn : bs.length < 4) :
    Calls Tryz.prog 91 #[s, .int .i64 4] w fun e w' => e = .returned (.tuple #[.int .u64 0, .bool false]) ∧ w' = w :=
  rget_bad s bs 4 w hs (by unfold getB; simp; omega)


/-- 'make([]byte, n)', n a uint64. -/
theorem run_make_full {P : Program} (w : World) (t e : TypeId) (U : U8 P t e) (c : Nat) (hc : c ≤ 281474976710656) :
    ∃ C, (Instr.makeSlice t (.int .u64 (c : Int)) (.int .u64 (c : Int))).run P w = .ok (.slice (some ⟨w.heap.size, 0, none⟩) c c) (w.alloc (.cells C e)) ∧ C.size = c := by
  obtain ⟨i, hi, hz, hsz, hby⟩ := U.info
  have hr := run_make (P := P) w t e i (.int .u8 0) U.ht hi hz .u64 .u64 c c (by omega) (Int.le_refl _) (by rw [hby]; omega) (by omega)
  simp only [Int.toNat_natCast] at hr
  exact ⟨_, hr, by rw [size_madeCells, hsz]; omega⟩


/-- How Open ends. -/
def Opened (w : World) (bs : List UInt8) (e : Ending) (w' : World) : Prop :=
  ∃ v, e = .returned (.tuple #[v, .int .i64 (sizeO bs), .int .i64 (errO bs)]) ∧ Owns w' w.heap.size 5 v (contO bs) ∧ Below w.heap.size w w'

theorem opened_bad (w : World) (bs : List UInt8) (n : Nat) (h : errO bs = n) (hn : n ≠ 0) : Opened w bs (.returned (.tuple #[.slice none 0 0, .int .i64 0, .int .i64 (n : Int)])) w := by
  obtain ⟨h1, h2⟩ := openO_bad bs n h hn
  exact ⟨_, by rw [h2, h]; rfl, by rw [h1]; exact owns_nil _ _ _, Below.refl _ _⟩


set_option maxRecDepth 20000 in
set_option maxHeartbeats 400000 in
theorem open_any (s : Value) (bs : List UInt8) (w : World) (ht : Tab w) (hs : Holds w s bs) :
    Calls Tryz.prog 66 #[s] w (Opened w bs) := by
  by_cases h1 : bs.length < 4
  · go_enter Tryz.func66, Tryz.ntmps66
    go_wp2_with fail
    refine (get4_bad _ bs _ ht hs h1).mono ?_
    rintro e w1 ⟨rfl, rfl⟩
    go_wp2
    go_ret3
    exact opened_bad w1 bs 8 (errO_short bs h1) (by decide)
  obtain ⟨b, off, cap, rfl, hc1, hc2, hcell⟩ := hs.at (by omega)
  have hc3 : cap ≤ maxLen := hc2
  unfold maxLen at hc2
  have hcnt := cntO_lt bs (by omega)
  have hg1 := get4_good _ bs w ht hs (by omega)
  rw [show getN (bs.take 4) = cntO bs from rfl] at hg1
  by_cases h2 : 1048576 < cntO bs
  · go_enter Tryz.func66, Tryz.ntmps66
    go_wp2_with fail
    refine hg1.mono ?_
    rintro e w1 ⟨rfl, rfl⟩
    go_wp2
    go_ret3
    exact opened_bad w1 bs 5 (errO_limit bs h1 h2) (by decide)
  by_cases h3 : bs.length < cntO bs + 8
  · have hend := opened_bad w bs 8 (errO_cut bs h1 h2 h3) (by decide)
    by_cases h4 : 4 + cntO bs ≤ bs.length
    · by_cases h5 : 4 + cntO bs < cap
      · skip
        go_enter Tryz.func66, Tryz.ntmps66
        go_wp2_with fail
        refine hg1.mono ?_
        rintro e w1 ⟨rfl, rfl⟩
        go_wp2_with fail
        refine (get4_bad _ _ _ ht (holds_part hcell (4 + cntO bs) (n := bs.length - (4 + cntO bs)) (by omega) (by omega) (by omega)) (by simp; omega)).mono ?_
        rintro e w2 ⟨rfl, rfl⟩
        go_wp2
        go_ret3
        exact hend
      · skip
        obtain rfl : cap = bs.length := by omega
        have h6 : 4 + cntO bs = bs.length := by omega
        go_enter Tryz.func66, Tryz.ntmps66
        go_wp2_with fail
        refine hg1.mono ?_
        rintro e w1 ⟨rfl, rfl⟩
        go_wp2_with fail
        refine (get4_bad _ [] _ ht (holds_empty _ _ _ (by omega)) (by simp)).mono ?_
        rintro e w2 ⟨rfl, rfl⟩
        go_wp2
        go_ret3
        exact hend
    · by_cases h5 : bs.length < cap
      · skip
        go_enter Tryz.func66, Tryz.ntmps66
        go_wp2_with fail
        refine hg1.mono ?_
        rintro e w1 ⟨rfl, rfl⟩
        go_wp2_with fail
        refine (get4_bad _ [] _ ht (holds_empty _ _ _ (by omega)) (by simp)).mono ?_
        rintro e w2 ⟨rfl, rfl⟩
        go_wp2
        go_ret3
        exact hend
      · obtain rfl : cap = bs.length := by omega
        go_enter Tryz.func66, Tryz.ntmps66
        go_wp2_with fail
        refine hg1.mono ?_
        rintro e w1 ⟨rfl, rfl⟩
        go_wp2_with fail
        refine (get4_bad _ [] _ ht (holds_empty _ _ _ (by omega)) (by simp)).mono ?_
        rintro e w2 ⟨rfl, rfl⟩
        go_wp2
        go_ret3
        exact hend
  · have hg2 := get4_good _ _ w ht (holds_part hcell (4 + cntO bs) (n := bs.length - (4 + cntO bs)) (cap := cap - (4 + cntO bs)) (by omega) (by omega) (by omega)) (by simp; omega)
    rw [List.take_take, Nat.min_eq_left (by omega), show getN ((bs.drop (4 + cntO bs)).take 4) = bornO bs from rfl] at hg2
    have hs3 := holds_part hcell 0 (n := 4 + cntO bs) (cap := cap) (by omega) (by omega) (by omega)
    rw [List.drop_zero, Nat.add_zero] at hs3
    have hblt : bornO bs < 4294967296 := by
      have := getN_lt (bs.drop (4 + cntO bs)) 4 (by simp; omega)
      exact this
    have hclt := crc_lt (bs.take (4 + cntO bs))
    by_cases h4 : bornO bs = crc (bs.take (4 + cntO bs))
    · obtain ⟨hk1, hk2⟩ := openO_good bs (errO_ok bs h1 h2 h3 h4)
      have hk0 := errO_ok bs h1 h2 h3 h4
      have HK : Hid (contO bs = (bs.drop 4).take (cntO bs) ∧ sizeO bs = cntO bs + 8 ∧ errO bs = 0) := ⟨hk1, hk2, hk0⟩
      clear hk0 hk1 hk2
      obtain ⟨X, hX⟩ : ∃ X, X = (bs.drop 4).take (cntO bs) := ⟨_, rfl⟩
      have hXl : X.length = cntO bs := by rw [hX]; simp; omega
      have hXc : ∀ j u, (bcells X)[j]? = some u → w.cell? ((⟨b, off + 4, none⟩ : Addr).add j) = some u := by
        have hs4 := holds_part hcell 4 (n := cntO bs) (cap := cap - 4) (by omega) (by omega) (by omega)
        rw [← hX] at hs4
        rcases hs4 with ⟨h, _⟩ | ⟨a, c, h, _, _, hh⟩
        · cases h
        · injection h with h _ _
          injection h with h
          subst h
          exact hh
      rw [← hX] at HK
      clear hX
      have HXc : Hid _ := hXc
      have hXc1 := bcells_length X
      clear hXc
      obtain ⟨C, hmk, hC⟩ := run_make_full (P := Tryz.prog) w 78 5 isU8W (cntO bs) (by omega)
      go_enter Tryz.func66, Tryz.ntmps66
      go_wp2_with fail
      refine hg1.mono ?_
      rintro e w1 ⟨rfl, rfl⟩
      go_wp2_with fail
      refine hg2.mono ?_
      rintro e w2 ⟨rfl, rfl⟩
      go_wp2_with fail
      refine (sum_any _ _ _ hs3).mono ?_
      rintro e w3 ⟨rfl, rfl⟩
      go_wp2_with (refine wpList_copy_splice rfl (.tmp 43) (.tmp 46) 78 78 rfl 5 Tryz.underlying78 (by kernel_rfl) _ _ _ _ _ _ rfl rfl w3.heap.size 0 C.toList 5 ?q1 (bcells X) ?q2 ?q3 ?q4 (bcells_one X) w3.heap.size w3 ((Below.refl _ _).alloc (Nat.le_refl _) _) (Nat.le_refl _) ?_; rotate_left 4; intro w4 HG hb4)
      case q1 => rw [Array.toArray_toList]; exact heap_alloc_new _ _
      case q2 => rw [hXc1, hXl]; simp
      case q3 =>
        intro _ j v hj
        have hv := HXc.out j v hj
        rw [Go.WideShapes.add_plain] at hv
        rw [((Below.refl w3.heap.size w3).alloc (Nat.le_refl _) _).cell (World.block_lt_of_cell? w3 _ hv)]
        exact hv
      case q4 => rw [hXc1, hXl]; simp; omega
      go_ret3
      obtain ⟨k1, k2, k3⟩ := HK.out
      refine ⟨_, by rw [k2, k3, show ((cntO bs + 8 : Nat) : Int) = 4 + (cntO bs : Int) + 4 by omega]; rfl, ?_, hb4⟩
      rw [k1]
      refine ⟨by rw [hXc1]; omega, .inr ⟨w3.heap.size, cntO bs, _, by rw [hXl]; rfl, Nat.le_refl _, HG.out, by omega, by unfold maxLen; omega, ?_, ?_⟩⟩
      · rw [List.size_toArray, length_splice _ _ _ (by rw [hXc1, hXl]; simp; omega)]
        simp; omega
      · simp only [splice, List.take_zero, List.nil_append]
        rw [List.drop_of_length_le (by simp; omega), List.append_nil]
        exact List.take_of_length_le (by rw [hXc1]; omega)
    · have hend := opened_bad w bs 7 (errO_sum bs h1 h2 h3 h4) (by decide)
      have hne : ((bornO bs : Int) != (crc (bs.take (4 + cntO bs)) : Int)) = true := by simp; omega
      go_enter Tryz.func66, Tryz.ntmps66
      go_wp2_with fail
      refine hg1.mono ?_
      rintro e w1 ⟨rfl, rfl⟩
      go_wp2_with fail
      refine hg2.mono ?_
      rintro e w2 ⟨rfl, rfl⟩
      go_wp2_with fail
      refine (sum_any _ _ _ hs3).mono ?_
      rintro e w3 ⟨rfl, rfl⟩
      go_wp2
      go_ret3
      exact hend

end Go.Proofs.YtdbgojmjjkidbaaGreatDoor
