/-
  THE WALKS of Open and of the document's Open.
-/
import Derived.Test.YtjgdmbfkondakaaGreatDoorJSeal
import Derived.OwnWalk
import Derived.Test.YtjgdmbfkondakaaGreatDoorJRow
namespace Go.Proofs.YtjgdmbfkondakaaGreatDoor
open Go.RowKit

theorem holds_empty (w : World) (a : Addr) (c : Nat) (hc : c ≤ maxLen) : Holds w (.slice (some a) 0 c) [] :=
  .inr ⟨a, c, rfl, Nat.zero_le _, hc, fun j u hj => by simp [bcells] at hj⟩
/-- A part of bytes. -/
theorem holds_part {w : World} {b off n cap : Nat} {bs : List UInt8} (hcell : ∀ j (hj : j < bs.length), w.cell? ⟨b, off + j, none⟩ = some (.int .u8 (bs[j].toNat : Int))) (i : Nat) (hi : i + n ≤ bs.length) (hn : n ≤ cap) (hcap : cap ≤ maxLen) :
    Holds w (.slice (some ⟨b, off + i, none⟩) n cap) ((bs.drop i).take n) := by
  have hl : ((bs.drop i).take n).length = n := by simp; omega
  refine .inr ⟨⟨b, off + i, none⟩, cap, by rw [hl], by omega, hcap, fun j u hj => ?_⟩
  have hj' : j < n := by
    have := (List.getElem?_eq_some_iff.1 hj).1
    rw [bcells_length, hl] at this
    exact this
  rw [Go.WideShapes.add_plain]
  have hc := hcell (i + j) (by omega)
  have hu : u = .int .u8 (bs[i + j].toNat : Int) := by
    simp only [bcells, List.getElem?_map, List.getElem?_take, hj', if_true, List.getElem?_drop] at hj
    rw [List.getElem?_eq_getElem (by omega)] at hj
    simpa using hj.symm
  rw [hu, ← hc, Nat.add_assoc]

/-- The count that bytes begin with. -/
def cntO (bs : List UInt8) : Nat := getN (bs.take 4)
/-- The sum that they bear, behind the content. -/
def bornO (bs : List UInt8) : Nat := getN ((bs.drop (4 + cntO bs)).take 4)
/-- What Open answers: the error, the content, how many bytes. -/
def errO (bs : List UInt8) : Nat :=
  if bs.length < 4 then 8 else if 1048576 < cntO bs then 5 else if bs.length < cntO bs + 8 then 8 else if bornO bs = crc (bs.take (4 + cntO bs)) then 0 else 7
def contO (bs : List UInt8) : List UInt8 := if errO bs = 0 then (bs.drop 4).take (cntO bs) else []
def sizeO (bs : List UInt8) : Nat := if errO bs = 0 then cntO bs + 8 else 0
theorem cntO_lt (bs : List UInt8) (h : 4 ≤ bs.length) : cntO bs < 4294967296 := getN_lt bs 4 h
/-- Open fails. -/
theorem openO_bad (bs : List UInt8) (n : Nat) (h : errO bs = n) (hn : n ≠ 0) : contO bs = [] ∧ sizeO bs = 0 := by
  unfold contO sizeO; rw [h, if_neg hn, if_neg hn]; exact ⟨rfl, rfl⟩
theorem openO_good (bs : List UInt8) (h : errO bs = 0) : contO bs = (bs.drop 4).take (cntO bs) ∧ sizeO bs = cntO bs + 8 := by
  unfold contO sizeO; rw [if_pos h, if_pos h]; exact ⟨rfl, rfl⟩
theorem errO_short (bs : List UInt8) (h : bs.length < 4) : errO bs = 8 := by unfold errO; rw [if_pos h]
theorem errO_limit (bs : List UInt8) (h : ¬ bs.length < 4) (h2 : 1048576 < cntO bs) : errO bs = 5 := by unfold errO; rw [if_neg h, if_pos h2]
theorem errO_cut (bs : List UInt8) (h : ¬ bs.length < 4) (h2 : ¬ 1048576 < cntO bs) (h3 : bs.length < cntO bs + 8) : errO bs = 8 := by unfold errO; rw [if_neg h, if_neg h2, if_pos h3]
theorem errO_sum (bs : List UInt8) (h : ¬ bs.length < 4) (h2 : ¬ 1048576 < cntO bs) (h3 : ¬ bs.length < cntO bs + 8) (h4 : ¬ bornO bs = crc (bs.take (4 + cntO bs))) : errO bs = 7 := by unfold errO; rw [if_neg h, if_neg h2, if_neg h3, if_neg h4]
theorem errO_ok (bs : List UInt8) (h : ¬ bs.length < 4) (h2 : ¬ 1048576 < cntO bs) (h3 : ¬ bs.length < cntO bs + 8) (h4 : bornO bs = crc (bs.take (4 + cntO bs))) : errO bs = 0 := by unfold errO; rw [if_neg h, if_neg h2, if_neg h3, if_pos h4]

theorem get4_good (s : Value) (bs : List UInt8) (w : World) (ht : Tab w) (hs : Holds w s bs) (hn : 4 ≤ bs.length) :
    Calls Tryz.prog 69 #[s, .int .i64 4] w fun e w' => e = .returned (.tuple #[.int .u64 (getN (bs.take 4)), .bool true]) ∧ w' = w := by
  simpa using get_good s bs 4 w ht hs rfl hn

theorem get4_bad (s : Value) (bs : List UInt8) (w : World) (ht : Tab w) (hs : Holds w s bs) (hn : bs.length < 4) :
    Calls Tryz.prog 69 #[s, .int .i64 4] w fun e w' => e = .returned (.tuple #[.int .u64 0, .bool false]) ∧ w' = w :=
  get_bad s bs 4 w ht hs (by unfold getB; simp; omega)

/-- 'make([]byte, n)', n a uint64. -/
theorem run_make_full {P : Program} (w : World) (t e : TypeId) (U : U8 P t e) (c : Nat) (hc : c ≤ 281474976710656) :
    ∃ C, (Instr.makeSlice t (.int .u64 (c : Int)) (.int .u64 (c : Int))).run P w = .ok (.slice (some ⟨w.heap.size, 0, none⟩) c c) (w.alloc (.cells C e)) ∧ C.size = c := by
  obtain ⟨i, hi, hz, hsz, hby⟩ := U.info
  have hr := run_make (P := P) w t e i (.int .u8 0) U.ht hi hz .u64 .u64 c c (by omega) (Int.le_refl _) (by rw [hby]; omega) (by omega)
  simp only [Int.toNat_natCast] at hr
  exact ⟨_, hr, by rw [size_madeCells, hsz]; omega⟩

/-- How Open ends. -/
def Opened (w : World) (bs : List UInt8) (e : Ending) (w' : World) : Prop :=
  ∃ v, e = .returned (.tuple #[v, .int .i64 (sizeO bs), .int .i64 (errO bs)]) ∧ Owns w' w.heap.size 5 v (contO bs) ∧ Below w.heap.size w w'
theorem opened_bad (w : World) (bs : List UInt8) (n : Nat) (h : errO bs = n) (hn : n ≠ 0) : Opened w bs (.returned (.tuple #[.slice none 0 0, .int .i64 0, .int .i64 (n : Int)])) w := by
  obtain ⟨h1, h2⟩ := openO_bad bs n h hn
  exact ⟨_, by rw [h2, h]; rfl, by rw [h1]; exact owns_nil _ _ _, Below.refl _ _⟩

set_option maxRecDepth 20000 in
set_option maxHeartbeats 400000 in
theorem open_any (s : Value) (bs : List UInt8) (w : World) (ht : Tab w) (hs : Holds w s bs) :
    Calls Tryz.prog 68 #[s] w (Opened w bs) := by
  by_cases h1 : bs.length < 4
  · go_enter Tryz.func68, Tryz.ntmps68
    go_wp2_with fail
    refine (get4_bad _ bs _ ht hs h1).mono ?_
    rintro e w1 ⟨rfl, rfl⟩
    go_wp2
    go_ret3
    exact opened_bad w1 bs 8 (errO_short bs h1) (by decide)
  obtain ⟨b, off, cap, rfl, hc1, hc2, hcell⟩ := hs.at (by omega)
  have hc3 : cap ≤ maxLen := hc2
  unfold maxLen at hc2
  have hcnt := cntO_lt bs (by omega)
  have hg1 := get4_good _ bs w ht hs (by omega)
  rw [show getN (bs.take 4) = cntO bs from rfl] at hg1
  by_cases h2 : 1048576 < cntO bs
  · go_enter Tryz.func68, Tryz.ntmps68
    go_wp2_with fail
    refine hg1.mono ?_
    rintro e w1 ⟨rfl, rfl⟩
    go_wp2
    go_ret3
    exact opened_bad w1 bs 5 (errO_limit bs h1 h2) (by decide)
  by_cases h3 : bs.length < cntO bs + 8
  · have hend := opened_bad w bs 8 (errO_cut bs h1 h2 h3) (by decide)
    by_cases h4 : 4 + cntO bs ≤ bs.length
    · by_cases h5 : 4 + cntO bs < cap
      · skip
        go_enter Tryz.func68, Tryz.ntmps68
        go_wp2_with fail
        refine hg1.mono ?_
        rintro e w1 ⟨rfl, rfl⟩
        go_wp2_with fail
        refine (get4_bad _ _ _ ht (holds_part hcell (4 + cntO bs) (n := bs.length - (4 + cntO bs)) (by omega) (by omega) (by omega)) (by simp; omega)).mono ?_
        rintro e w2 ⟨rfl, rfl⟩
        go_wp2
        go_ret3
        exact hend
      · skip
        obtain rfl : cap = bs.length := by omega
        have h6 : 4 + cntO bs = bs.length := by omega
        go_enter Tryz.func68, Tryz.ntmps68
        go_wp2_with fail
        refine hg1.mono ?_
        rintro e w1 ⟨rfl, rfl⟩
        go_wp2_with fail
        refine (get4_bad _ [] _ ht (holds_empty _ _ _ (by omega)) (by simp)).mono ?_
        rintro e w2 ⟨rfl, rfl⟩
        go_wp2
        go_ret3
        exact hend
    · by_cases h5 : bs.length < cap
      · skip
        go_enter Tryz.func68, Tryz.ntmps68
        go_wp2_with fail
        refine hg1.mono ?_
        rintro e w1 ⟨rfl, rfl⟩
        go_wp2_with fail
        refine (get4_bad _ [] _ ht (holds_empty _ _ _ (by omega)) (by simp)).mono ?_
        rintro e w2 ⟨rfl, rfl⟩
        go_wp2
        go_ret3
        exact hend
      · obtain rfl : cap = bs.length := by omega
        go_enter Tryz.func68, Tryz.ntmps68
        go_wp2_with fail
        refine hg1.mono ?_
        rintro e w1 ⟨rfl, rfl⟩
        go_wp2_with fail
        refine (get4_bad _ [] _ ht (holds_empty _ _ _ (by omega)) (by simp)).mono ?_
        rintro e w2 ⟨rfl, rfl⟩
        go_wp2
        go_ret3
        exact hend
  · have hg2 := get4_good _ _ w ht (holds_part hcell (4 + cntO bs) (n := bs.length - (4 + cntO bs)) (cap := cap - (4 + cntO bs)) (by omega) (by omega) (by omega)) (by simp; omega)
    rw [List.take_take, Nat.min_eq_left (by omega), show getN ((bs.drop (4 + cntO bs)).take 4) = bornO bs from rfl] at hg2
    have hs3 := holds_part hcell 0 (n := 4 + cntO bs) (cap := cap) (by omega) (by omega) (by omega)
    rw [List.drop_zero, Nat.add_zero] at hs3
    have hblt : bornO bs < 4294967296 := by
      have := getN_lt (bs.drop (4 + cntO bs)) 4 (by simp; omega)
      exact this
    have hclt := crc_lt (bs.take (4 + cntO bs))
    by_cases h4 : bornO bs = crc (bs.take (4 + cntO bs))
    · obtain ⟨hk1, hk2⟩ := openO_good bs (errO_ok bs h1 h2 h3 h4)
      have hk0 := errO_ok bs h1 h2 h3 h4
      have HK : Hid (contO bs = (bs.drop 4).take (cntO bs) ∧ sizeO bs = cntO bs + 8 ∧ errO bs = 0) := ⟨hk1, hk2, hk0⟩
      clear hk0 hk1 hk2
      obtain ⟨X, hX⟩ : ∃ X, X = (bs.drop 4).take (cntO bs) := ⟨_, rfl⟩
      have hXl : X.length = cntO bs := by rw [hX]; simp; omega
      have hXc : ∀ j u, (bcells X)[j]? = some u → w.cell? ((⟨b, off + 4, none⟩ : Addr).add j) = some u := by
        have hs4 := holds_part hcell 4 (n := cntO bs) (cap := cap - 4) (by omega) (by omega) (by omega)
        rw [← hX] at hs4
        rcases hs4 with ⟨h, _⟩ | ⟨a, c, h, _, _, hh⟩
        · cases h
        · injection h with h _ _
          injection h with h
          subst h
          exact hh
      rw [← hX] at HK
      clear hX
      have HXc : Hid _ := hXc
      have hXc1 := bcells_length X
      clear hXc
      obtain ⟨C, hmk, hC⟩ := run_make_full (P := Tryz.prog) w 31 5 isU8W (cntO bs) (by omega)
      go_enter Tryz.func68, Tryz.ntmps68
      go_wp2_with fail
      refine hg1.mono ?_
      rintro e w1 ⟨rfl, rfl⟩
      go_wp2_with fail
      refine hg2.mono ?_
      rintro e w2 ⟨rfl, rfl⟩
      go_wp2_with fail
      refine (sum_any _ _ _ hs3).mono ?_
      rintro e w3 ⟨rfl, rfl⟩
      go_wp2_with (refine wpList_copy_splice rfl (.tmp 43) (.tmp 46) 31 31 rfl 5 Tryz.underlying31 (by kernel_rfl) _ _ _ _ _ _ rfl rfl w3.heap.size 0 C.toList 5 ?q1 (bcells X) ?q2 ?q3 ?q4 (bcells_one X) w3.heap.size w3 ((Below.refl _ _).alloc (Nat.le_refl _) _) (Nat.le_refl _) ?_; rotate_left 4; intro w4 HG hb4)
      case q1 => rw [Array.toArray_toList]; exact heap_alloc_new _ _
      case q2 => rw [hXc1, hXl]; simp
      case q3 =>
        intro _ j v hj
        have hv := HXc.out j v hj
        rw [Go.WideShapes.add_plain] at hv
        rw [((Below.refl w3.heap.size w3).alloc (Nat.le_refl _) _).cell (World.block_lt_of_cell? w3 _ hv)]
        exact hv
      case q4 => rw [hXc1, hXl]; simp; omega
      go_ret3
      obtain ⟨k1, k2, k3⟩ := HK.out
      refine ⟨_, by rw [k2, k3, show ((cntO bs + 8 : Nat) : Int) = 4 + (cntO bs : Int) + 4 by omega]; rfl, ?_, hb4⟩
      rw [k1]
      refine ⟨by rw [hXc1]; omega, .inr ⟨w3.heap.size, cntO bs, _, by rw [hXl]; rfl, Nat.le_refl _, HG.out, by omega, by unfold maxLen; omega, ?_, ?_⟩⟩
      · rw [List.size_toArray, length_splice _ _ _ (by rw [hXc1, hXl]; simp; omega)]
        simp; omega
      · simp only [splice, List.take_zero, List.nil_append]
        rw [List.drop_of_length_le (by simp; omega), List.append_nil]
        exact List.take_of_length_le (by rw [hXc1]; omega)
    · have hend := opened_bad w bs 7 (errO_sum bs h1 h2 h3 h4) (by decide)
      have hne : ((bornO bs : Int) != (crc (bs.take (4 + cntO bs)) : Int)) = true := by simp; omega
      go_enter Tryz.func68, Tryz.ntmps68
      go_wp2_with fail
      refine hg1.mono ?_
      rintro e w1 ⟨rfl, rfl⟩
      go_wp2_with fail
      refine hg2.mono ?_
      rintro e w2 ⟨rfl, rfl⟩
      go_wp2_with fail
      refine (sum_any _ _ _ hs3).mono ?_
      rintro e w3 ⟨rfl, rfl⟩
      go_wp2
      go_ret3
      exact hend
end Go.Proofs.YtjgdmbfkondakaaGreatDoor

/-
  THE WALK of the document's Open.
-/
namespace Go.Proofs.YtjgdmbfkondakaaGreatDoor
open Go.RowKit

end Go.Proofs.YtjgdmbfkondakaaGreatDoor

/-
  THE CLOSURE that gathers contents, by its contract; lists of lists of bytes in memory.
-/
namespace Go.Proofs.YtjgdmbfkondakaaGreatDoor
open Go.RowKit

theorem isRows : Elem Tryz.prog 32 31 (.slice none 0 0) 24 := by
  have hinfo : (Tryz.prog.info? 31).map (fun i => (i.zero, i.size, i.bytes)) = some (some (.slice none 0 0), 1, 24) := by kernel_rfl
  obtain ⟨i0, hi, hz0, hz1, hz2⟩ := info_parts hinfo
  exact ⟨Tryz.underlying32, ⟨i0, hi, hz0, hz1, hz2⟩, rfl⟩

/-- Each of the slices cs is a row of bytes of the call's own, of the bytes that ls tells. -/
def OwnsAll (w : World) (base : Nat) (cs : List Value) (ls : List (List UInt8)) : Prop :=
  cs.length = ls.length ∧ ∀ (j : Nat) (v : Value) (l : List UInt8), cs[j]? = some v → ls[j]? = some l → Owns w base 5 v l

theorem ownsAll_nil (w : World) (base : Nat) : OwnsAll w base [] [] := ⟨rfl, fun j v l h => by simp at h⟩
theorem OwnsAll.snoc {w : World} {base : Nat} {cs : List Value} {ls : List (List UInt8)} {c : Value} {l : List UInt8} (h : OwnsAll w base cs ls) (hc : Owns w base 5 c l) : OwnsAll w base (cs ++ [c]) (ls ++ [l]) := by
  refine ⟨by simp [h.1], fun j v x hv hx => ?_⟩
  by_cases hj : j < cs.length
  · rw [List.getElem?_append_left hj] at hv
    rw [List.getElem?_append_left (by rw [← h.1]; exact hj)] at hx
    exact h.2 j v x hv hx
  · rw [List.getElem?_append_right (by omega)] at hv
    rw [List.getElem?_append_right (by rw [← h.1]; omega)] at hx
    have h1 := (List.getElem?_eq_some_iff.1 hv).1
    have h0 : j - cs.length = 0 := by simpa using h1
    rw [h0] at hv
    rw [← h.1, h0] at hx
    simp at hv hx
    subst hv hx
    exact hc
theorem OwnsAll.kept {w w' : World} {b B : Nat} {cs : List Value} {ls : List (List UInt8)} (h : OwnsAll w b cs ls) (hb : Below B w w') (hB : w.heap.size ≤ B) : OwnsAll w' b cs ls :=
  ⟨h.1, fun j v l hv hl => (h.2 j v l hv hl).kept hb hB⟩
/-- A row of bytes lies elsewhere than a row of rows. -/
theorem Owns.keptRow {w w' : World} {b b' : Nat} {c v : Value} {l : List UInt8} {cs : List Value} (h : Owns w b 5 c l) (hv : Own1 w b' 31 v cs) (hg : w.grownBy w' v.ownBlock) : Owns w' b 5 c l := by
  refine World.ownsRow.kept h hg ?_
  rcases h.2 with ⟨rfl, _⟩ | ⟨g, cap, cur, rfl, _, hgg, _⟩
  · exact .inl rfl
  · right
    rcases hv.2 with ⟨rfl, _⟩ | ⟨g2, cap2, cur2, rfl, _, hgg2, _⟩
    · simp [Value.ownBlock]
    · intro he
      simp only [Value.ownBlock, Option.some.injEq] at he
      subst he
      rw [hgg] at hgg2
      simp at hgg2
theorem OwnsAll.keptRow {w w' : World} {b b' : Nat} {v : Value} {cs vs : List Value} {ls : List (List UInt8)} (h : OwnsAll w b cs ls) (hv : Own1 w b' 31 v vs) (hg : w.grownBy w' v.ownBlock) : OwnsAll w' b cs ls :=
  ⟨h.1, fun j u l hu hl => (h.2 j u l hu hl).keptRow hv hg⟩

theorem cell1 {w : World} {b : Nat} {u : Value} {t : TypeId} (h : w.heap[b]? = some (.cells #[u] t (0, 0))) : w.cell? ⟨b, 0, none⟩ = some u := by simp [World.cell?, h]
theorem free1 {w : World} {b : Nat} {u : Value} {t : TypeId} (h : w.heap[b]? = some (.cells #[u] t (0, 0))) : w.frozen? ⟨b, 0, none⟩ = false := by simp [World.frozen?, h]
theorem set1 {w : World} {b : Nat} {u : Value} {t : TypeId} (u' : Value) (h : w.heap[b]? = some (.cells #[u] t (0, 0))) : (w.setCell ⟨b, 0, none⟩ u').heap[b]? = some (.cells #[u'] t (0, 0)) := by
  have := heap_setCell_same w b 0 #[u] t u' h
  simpa using this

/-- What the closure writes: the list of contents at B, the count of bytes behind it. -/
structure Gath (w : World) (B : Nat) (v : Value) (n : Nat) (cs : List Value) (ls : List (List UInt8)) : Prop where
  c0 : w.heap[B]? = some (.cells #[v] 32 (0, 0))
  c1 : w.heap[B + 1]? = some (.cells #[.int .i64 (n : Int)] 3 (0, 0))
  own : Own1 w (B + 2) 31 v cs
  all : OwnsAll w (B + 2) cs ls

theorem Gath.kept {w w' : World} {B C : Nat} {v : Value} {n : Nat} {cs : List Value} {ls : List (List UInt8)} (h : Gath w B v n cs ls) (hb : Below C w w') (hC : w.heap.size ≤ C) : Gath w' B v n cs ls := by
  have l0 := (Array.getElem?_eq_some_iff.1 h.c0).1
  have l1 := (Array.getElem?_eq_some_iff.1 h.c1).1
  refine ⟨by rw [hb.block B (by omega)]; exact h.c0, by rw [hb.block (B + 1) (by omega)]; exact h.c1, ?_, h.all.kept hb hC⟩
  have ho := h.own
  refine ⟨ho.1, ?_⟩
  rcases ho.2 with hn | ⟨g, cap, cur, hv, hbg, hg, rest⟩
  · exact .inl hn
  · refine .inr ⟨g, cap, cur, hv, hbg, ?_, rest⟩
    rw [hb.block g (by have := (Array.getElem?_eq_some_iff.1 hg).1; omega)]
    exact hg

/-- Behind an append to the list, in a world where something new was laid first. -/
theorem Gath.grown {w w1 w2 : World} {B : Nat} {v : Value} {n : Nat} {cs : List Value} {ls : List (List UInt8)} (h : Gath w B v n cs ls) (hb : Below w.heap.size w w1) (hg : w1.grownBy w2 v.ownBlock) :
    w2.heap[B]? = some (.cells #[v] 32 (0, 0)) ∧ w2.heap[B + 1]? = some (.cells #[.int .i64 (n : Int)] 3 (0, 0)) ∧ Below B w w2 ∧ B + 2 ≤ w.heap.size := by
  have l1 := (Array.getElem?_eq_some_iff.1 h.c1).1
  have hk := h.own.lt
  have hs := hb.size
  have hne : ∀ k, k < B + 2 → some k ≠ v.ownBlock := fun k hk2 he => by have := (hk k he.symm).1; omega
  refine ⟨?_, ?_, ?_, by omega⟩
  · rw [hg.block B (by omega) (hne B (by omega)), hb.block B (by omega)]; exact h.c0
  · rw [hg.block (B + 1) (by omega) (hne _ (by omega)), hb.block (B + 1) (by omega)]; exact h.c1
  · exact (hb.mono (by omega)).grown hg (by omega) (fun k he => by have := (hk k he).1; omega)
theorem Own1.below2 {w w' : World} {b : Nat} {e : TypeId} {v : Value} {cs : List Value} (h : Own1 w b e v cs) (hb : ∀ k, b ≤ k → w'.heap[k]? = w.heap[k]?) : Own1 w' b e v cs := by
  refine ⟨h.1, ?_⟩
  rcases h.2 with hn | ⟨g, cap, cur, hv, hbg, hg, rest⟩
  · exact .inl hn
  · exact .inr ⟨g, cap, cur, hv, hbg, by rw [hb g hbg]; exact hg, rest⟩
theorem Owns.below2 {w w' : World} {b : Nat} {e : TypeId} {v : Value} {l : List UInt8} (h : Owns w b e v l) (hb : ∀ k, b ≤ k → w'.heap[k]? = w.heap[k]?) : Owns w' b e v l := by
  refine ⟨h.1, ?_⟩
  rcases h.2 with hn | ⟨g, cap, cur, hv, hbg, hg, rest⟩
  · exact .inl hn
  · exact .inr ⟨g, cap, cur, hv, hbg, by rw [hb g hbg]; exact hg, rest⟩
theorem own_slice {w : World} {b n : Nat} {e : TypeId} {v : Value} {xs : List Value} (h : w.ownsRow b e 1 v n xs) : ∃ a c, v = .slice a n c := by
  rcases h.2 with ⟨rfl, rfl⟩ | ⟨g, cap, cur, rfl, _⟩
  · exact ⟨_, _, rfl⟩
  · exact ⟨_, _, rfl⟩
/-- Both variables written. -/
theorem gath_set {w2 : World} {B n m : Nat} {v v' c : Value} {cs : List Value} {ls : List (List UInt8)} {l : List UInt8} (h0 : w2.heap[B]? = some (.cells #[v] 32 (0, 0))) (h1 : w2.heap[B + 1]? = some (.cells #[.int .i64 (n : Int)] 3 (0, 0)))
    (own : Own1 w2 (B + 2) 31 v' (cs ++ [c])) (all : OwnsAll w2 (B + 2) cs ls) (hc : Owns w2 (B + 2) 5 c l) :
    Gath ((w2.setCell ⟨B, 0, none⟩ v').setCell ⟨B + 1, 0, none⟩ (.int .i64 ((n + m : Nat) : Int))) B v' (n + m) (cs ++ [c]) (ls ++ [l]) := by
  have hk : ∀ k, B + 2 ≤ k → ((w2.setCell ⟨B, 0, none⟩ v').setCell ⟨B + 1, 0, none⟩ (.int .i64 ((n + m : Nat) : Int))).heap[k]? = w2.heap[k]? := fun k hk => by
    rw [heap_setCell_other _ _ _ _ (by show k ≠ B + 1; omega), heap_setCell_other _ _ _ _ (by show k ≠ B; omega)]
  refine ⟨?_, ?_, own.below2 hk, ?_⟩
  · rw [heap_setCell_other _ _ _ _ (by show B ≠ B + 1; omega)]; exact set1 v' h0
  · refine set1 (u := .int .i64 (n : Int)) _ ?_
    rw [heap_setCell_other _ _ _ _ (by show B + 1 ≠ B; omega)]; exact h1
  · have h2 := all.snoc hc
    exact ⟨h2.1, fun j u x hu hx => (h2.2 j u x hu hx).below2 hk⟩

set_option maxRecDepth 20000 in
set_option maxHeartbeats 400000 in
theorem gather_any (B n m : Nat) (v c : Value) (cs : List Value) (ls : List (List UInt8)) (l : List UInt8) (w : World) (h : Gath w B v n cs ls) (hc : Owns w (B + 2) 5 c l) (hcs : cs.length ≤ 100000000) (hn : n + m ≤ 100000000) :
    Calls Tryz.prog 99 #[c, .int .i64 m, .pointer (some ⟨B, 0, none⟩), .pointer (some ⟨B + 1, 0, none⟩)] w fun e w' => e = .returned (.tuple #[]) ∧ (∃ v', Gath w' B v' (n + m) (cs ++ [c]) (ls ++ [l])) ∧ Below B w w' := by
  obtain ⟨ca, cc, rfl⟩ := hc.holds.slice
  obtain ⟨va, vc, rfl⟩ := h.own.row.slice
  have cC := cell1 h.c0
  have l1 := (Array.getElem?_eq_some_iff.1 h.c1).1
  obtain ⟨i, hi, hz, hsz, hby⟩ := isRows.info
  have hone : ∀ u ∈ [Value.slice ca l.length cc], u.oneCell' = true := by
    intro u hu
    obtain rfl : u = Value.slice ca l.length cc := by simpa using hu
    rfl
  go_enter Tryz.func99, Tryz.ntmps99
  go_wp2_with (at_builtin; refine wpList_append_own _ rfl (.tmp 6) (.tmp 8) 32 rfl (B + 2) 31 i _ 1 24 isRows.ht hi hz hsz hby rfl (by decide) _ cs.length cs rfl (World.ownsRow.alloc h.own _) ⟨w.heap.size, 0, none⟩ 1 1 [Value.slice ca l.length cc] rfl rfl ?q1 hone (by unfold maxLen; omega) (by omega) (by simp; omega) ?_; rotate_left; intro v' w2 own2 grown2 _; obtain ⟨va', vc', rfl⟩ : ∃ a c, v' = .slice a (cs.length + 1) c := own_slice own2; obtain ⟨d0, d1, dB, dS⟩ := h.grown ((Below.refl _ _).alloc (Nat.le_refl _) _) grown2; have e0 := cell1 d0; have e1 := free1 d0; have e2 : ∀ u, (w2.setCell ⟨B, 0, none⟩ u).cell? ⟨B + 1, 0, none⟩ = some (.int .i64 (n : Int)) := (fun u => cell1 (by rw [heap_setCell_other _ _ _ _ (by show B + 1 ≠ B; omega)]; exact d1)); have e3 : ∀ u, (w2.setCell ⟨B, 0, none⟩ u).frozen? ⟨B + 1, 0, none⟩ = false := (fun u => free1 (by rw [heap_setCell_other _ _ _ _ (by show B + 1 ≠ B; omega)]; exact d1)))
  case q1 =>
    intro j u hj
    have hr := row_one w 31 (Value.slice ca l.length cc)
    rcases hr with ⟨h, _⟩ | ⟨a, c, h, _, _, hh⟩
    · cases h
    · injection h with h _ _
      injection h with h
      subst h
      exact hh j u hj
  go_end0
  refine ⟨rfl, ⟨.slice va' (cs.length + 1) vc', ?_⟩, (dB.setCell (p := ⟨B, 0, none⟩) (Nat.le_refl _) _).setCell (p := ⟨B + 1, 0, none⟩) (Nat.le_succ _) _⟩
  have own2' : Own1 w2 (B + 2) 31 (.slice va' (cs.length + 1) vc') (cs ++ [.slice ca l.length cc]) := by
    unfold Own1
    rw [List.length_append]
    exact own2
  have hv0 : Own1 (w.alloc (.cells #[.slice ca l.length cc] 31)) (B + 2) 31 (.slice va cs.length vc) cs := World.ownsRow.alloc h.own _
  have bel : Below w.heap.size w (w.alloc (.cells #[.slice ca l.length cc] 31)) := (Below.refl _ _).alloc (Nat.le_refl _) _
  exact gath_set (m := m) d0 d1 own2' ((h.all.kept bel (Nat.le_refl _)).keptRow hv0 grown2) ((hc.kept bel (Nat.le_refl _)).keptRow hv0 grown2)
end Go.Proofs.YtjgdmbfkondakaaGreatDoor
