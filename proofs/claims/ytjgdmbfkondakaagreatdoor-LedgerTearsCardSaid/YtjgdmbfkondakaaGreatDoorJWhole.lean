/-
  THE WALK of Whole.
-/
import Derived.Test.YtjgdmbfkondakaaGreatDoorJOpen
import Derived.WalkMore
namespace Go.Proofs.YtjgdmbfkondakaaGreatDoor
open Go.RowKit

theorem errO_zero (bs : List UInt8) (h : errO bs = 0) : cntO bs + 8 ≤ bs.length ∧ cntO bs ≤ 1048576 ∧ bornO bs = crc (bs.take (4 + cntO bs)) := by
  unfold errO at h
  split at h
  · cases h
  · split at h
    · cases h
    · split at h
      · cases h
      · split at h
        · exact ⟨by omega, by omega, by assumption⟩
        · cases h
/-- All contents that bytes begin with. -/
def wholeC (bs : List UInt8) : List (List UInt8) := if _h : errO bs = 0 then contO bs :: wholeC (bs.drop (sizeO bs)) else []
termination_by bs.length
decreasing_by
  have h1 := errO_zero bs _h
  have h2 := (openO_good bs _h).2
  simp
  omega
/-- How many bytes they are. -/
def wholeS (bs : List UInt8) : Nat := if _h : errO bs = 0 then sizeO bs + wholeS (bs.drop (sizeO bs)) else 0
termination_by bs.length
decreasing_by
  have h1 := errO_zero bs _h
  have h2 := (openO_good bs _h).2
  simp
  omega
theorem wholeC_ok (bs : List UInt8) (h : errO bs = 0) : wholeC bs = contO bs :: wholeC (bs.drop (sizeO bs)) := by rw [wholeC, dif_pos h]
theorem wholeC_end (bs : List UInt8) (h : errO bs ≠ 0) : wholeC bs = [] := by rw [wholeC, dif_neg h]
theorem wholeS_ok (bs : List UInt8) (h : errO bs = 0) : wholeS bs = sizeO bs + wholeS (bs.drop (sizeO bs)) := by rw [wholeS, dif_pos h]
theorem wholeS_end (bs : List UInt8) (h : errO bs ≠ 0) : wholeS bs = 0 := by rw [wholeS, dif_neg h]

/-- So far: n bytes gone over, these contents. -/
structure SoFar (bs : List UInt8) (n : Nat) (ls : List (List UInt8)) : Prop where
  c : wholeC bs = ls ++ wholeC (bs.drop n)
  s : wholeS bs = n + wholeS (bs.drop n)
  le : n ≤ bs.length
  few : ls.length ≤ n
theorem soFar_start (bs : List UInt8) : SoFar bs 0 [] := ⟨by simp, by simp, by omega, by simp⟩
theorem SoFar.step {bs : List UInt8} {n : Nat} {ls : List (List UInt8)} (h : SoFar bs n ls) (he : errO (bs.drop n) = 0) : SoFar bs (n + sizeO (bs.drop n)) (ls ++ [contO (bs.drop n)]) := by
  have h1 := errO_zero _ he
  have h2 := (openO_good _ he).2
  have hl : (bs.drop n).length = bs.length - n := by simp
  have h0 := h.le
  refine ⟨?_, ?_, by omega, by simp; have := h.few; omega⟩
  · rw [h.c, wholeC_ok _ he, List.drop_drop]; simp
  · rw [h.s, wholeS_ok _ he, List.drop_drop]; omega
theorem SoFar.ends {bs : List UInt8} {n : Nat} {ls : List (List UInt8)} (h : SoFar bs n ls) (he : errO (bs.drop n) ≠ 0) : wholeC bs = ls ∧ wholeS bs = n :=
  ⟨by rw [h.c, wholeC_end _ he]; simp, by rw [h.s, wholeS_end _ he]; simp⟩
theorem SoFar.more {bs : List UInt8} {n : Nat} {ls : List (List UInt8)} (h : SoFar bs n ls) (he : errO (bs.drop n) = 0) : 8 ≤ sizeO (bs.drop n) ∧ n + sizeO (bs.drop n) ≤ bs.length := by
  have h1 := errO_zero _ he
  have h2 := (openO_good _ he).2
  have hl : (bs.drop n).length = bs.length - n := by simp
  have h0 := h.le
  omega

/-- How Whole ends. -/
def Wholed (w : World) (bs : List UInt8) (e : Ending) (w' : World) : Prop :=
  ∃ v cs, e = .returned (.tuple #[v, .int .i64 (wholeS bs)]) ∧ Row w' v cs ∧ OwnsAll w' w.heap.size cs (wholeC bs) ∧ Below w.heap.size w w'

def meas (len B : Nat) (wr : World) : Nat := len - (intOf ((wr.cell? ⟨B + 1, 0, none⟩).getD undef)).toNat

theorem OwnsAll.mono {w : World} {b b' : Nat} {cs : List Value} {ls : List (List UInt8)} (h : OwnsAll w b cs ls) (hb : b' ≤ b) : OwnsAll w b' cs ls := ⟨h.1, fun j v l hv hl => (h.2 j v l hv hl).mono hb⟩

set_option maxRecDepth 20000 in
set_option maxHeartbeats 400000 in
theorem whole_some (s : Value) (bs : List UInt8) (w : World) (ht : Tab w) (hs : Holds w s bs) (hl : bs.length ≤ 1000000) (hp : 0 < bs.length) :
    Calls Tryz.prog 73 #[s] w (Wholed w bs) := by
  obtain ⟨b, off, cap, rfl, hc1, hc2, hcell⟩ := hs.at hp
  have hc3 : cap ≤ maxLen := hc2
  unfold maxLen at hc2
  have hmf : ∀ (fn : Fn) (first cap : Array Value) (w : World), (Instr.makeFunc fn first cap).run Tryz.prog w = .ok (.func fn first cap) w := fun _ _ _ _ => rfl
  go_enter Tryz.func73, Tryz.ntmps73
  go_wp2_with fail
  go_step3
  go_wp2_with fail
  go_step3
  go_wp2_with fail
  go_loopw [9] (fun _ wr => ∃ v n cs ls, Gath wr w.heap.size v n cs ls ∧ SoFar bs n ls ∧ Below w.heap.size w wr) (fun _ wr => meas bs.length w.heap.size wr)
  case atStart =>
    have h0 : (w.alloc (.cells #[.slice none 0 0] 32)).heap.size = w.heap.size + 1 := by simp
    refine ⟨_, 0, [], [], ⟨?_, ?_, own1_nil _ _ _, ownsAll_nil _ _⟩, soFar_start bs, ((Below.refl _ _).alloc (Nat.le_refl _) _).alloc (by omega) _⟩
    · rw [Below.heap_alloc _ _ _ (by omega)]; exact heap_alloc_new _ _
    · rw [← h0]; exact heap_alloc_new _ _
  case round =>
    obtain ⟨v, n, cs, ls, G, F, bel⟩ := hrel
    have hn := F.le
    have hc1 := cell1 G.c1
    have hc0 := cell1 G.c0
    obtain ⟨va, vc, rfl⟩ := G.own.row.slice
    have hlt : w.heap.size + 2 ≤ wr.heap.size := by have := (Array.getElem?_eq_some_iff.1 G.c1).1; omega
    have hcellr : ∀ j (hj : j < bs.length), wr.cell? ⟨b, off + j, none⟩ = some (.int .u8 (bs[j].toNat : Int)) := fun j hj => by
      have hx := hcell j hj
      rw [bel.cell (World.block_lt_of_cell? w _ hx)]
      exact hx
    have htr : Tab wr := ht.below bel ht.pos
    have hsz := bel.size
    rcases Nat.lt_or_ge n cap with hcap | hcap
    · have hold : Holds wr (.slice (some ⟨b, off + n, none⟩) (bs.length - n) (cap - n)) (bs.drop n) := by
        have h := holds_part hcellr n (n := bs.length - n) (cap := cap - n) (by omega) (by omega) (by omega)
        rwa [List.take_of_length_le (by simp)] at h
      have hopen := open_any _ _ wr htr hold
      by_cases he : errO (bs.drop n) = 0
      · have hmore := F.more he
        have hfew := F.few
        have hcsl := G.all.1
        go_wp2_with fail
        refine hopen.mono ?_
        rintro e w1 ⟨c, he1, ownc, belc⟩
        rw [he] at he1
        subst he1
        obtain ⟨ca, cc, rfl⟩ := ownc.holds.slice
        have G1 := G.kept belc (Nat.le_refl _)
        have hw1 := belc.size
        have cG1 := cell1 G1.c1
        go_wp2_with (go_at_call 99; refine (gather_any w.heap.size n (sizeO (bs.drop n)) _ _ cs ls _ _ G1 (ownc.mono hlt) (by omega) (by omega)).mono ?_; rintro e w2 ⟨rfl, ⟨v2, G2⟩, bel2⟩)
        refine ⟨⟨_, _, _, _, G2, F.step he, (bel.trans (belc.mono hsz)).trans bel2⟩, ?_⟩
        unfold meas
        rw [cell1 G2.c1, cell1 G.c1]
        simp [intOf]
        omega
      · obtain ⟨hC, hS⟩ := F.ends he
        go_wp2_with fail
        refine hopen.mono ?_
        rintro e w1 ⟨c, rfl, ownc, belc⟩
        obtain ⟨ca, cc, rfl⟩ := ownc.holds.slice
        have G1 := G.kept belc (Nat.le_refl _)
        have hw1 := belc.size
        have cG0 := cell1 G1.c0
        have cG1 := cell1 G1.c1
        have hne : ((errO (bs.drop n) : Int) == 0) = false := by simp; omega
        go_wp2
        go_region
        all_goals go_wp2
        all_goals try rw [Exit.noGoto_ret]
        all_goals go_ret2
        all_goals exact ⟨_, cs, by rw [hS]; rfl, G1.own.row, by rw [hC]; exact G1.all.mono (by omega), (bel.trans (belc.mono hsz)).drew⟩
    · have hnl : n = bs.length := by omega
      have hn0 : bs.length - n = 0 := by omega
      obtain rfl : cap = n := by omega
      have hdrop : bs.drop cap = [] := List.drop_of_length_le (by omega)
      have he0 : errO (bs.drop cap) = 8 := by rw [hdrop]; exact errO_short [] (by simp)
      have hopen := open_any _ _ wr htr (holds_empty wr ⟨b, off, none⟩ 0 (by simp [maxLen]))
      obtain ⟨hC, hS⟩ := F.ends (by rw [he0]; decide)
      go_wp2_with fail
      · refine hopen.mono ?_
        rintro e w1 ⟨c, rfl, ownc, belc⟩
        have hne : ((errO [] : Int) == 0) = false := by rw [errO_short [] (by simp)]; rfl
        obtain ⟨ca, cc, rfl⟩ := ownc.holds.slice
        have G1 := G.kept belc (Nat.le_refl _)
        have hw1 := belc.size
        have cG0 := cell1 G1.c0
        have cG1 := cell1 G1.c1
        go_wp2
        go_region
        all_goals go_wp2
        all_goals try rw [Exit.noGoto_ret]
        all_goals go_ret2
        all_goals exact ⟨_, cs, by rw [hS, hnl]; rfl, G1.own.row, by rw [hC]; exact G1.all.mono (by omega), (bel.trans (belc.mono hsz)).drew⟩

theorem errO_nil : errO [] = 8 := errO_short [] (by simp)
theorem gath_new (w : World) : Gath ((w.alloc (.cells #[.slice none 0 0] 32)).alloc (.cells #[.int .i64 0] 3)) w.heap.size (.slice none 0 0) 0 [] [] := by
  have h0 : (w.alloc (.cells #[.slice none 0 0] 32)).heap.size = w.heap.size + 1 := by simp
  refine ⟨?_, ?_, own1_nil _ _ _, ownsAll_nil _ _⟩
  · rw [Below.heap_alloc _ _ _ (by omega)]; exact heap_alloc_new _ _
  · rw [← h0]; exact heap_alloc_new _ _

set_option maxRecDepth 20000 in
set_option maxHeartbeats 400000 in
theorem whole_none (s : Value) (w : World) (ht : Tab w) (hs : Holds w s []) :
    Calls Tryz.prog 73 #[s] w (Wholed w []) := by
  have hmf : ∀ (fn : Fn) (first cap : Array Value) (w : World), (Instr.makeFunc fn first cap).run Tryz.prog w = .ok (.func fn first cap) w := fun _ _ _ _ => rfl
  have hG := gath_new w
  have hbel : Below w.heap.size w ((w.alloc (.cells #[.slice none 0 0] 32)).alloc (.cells #[.int .i64 0] 3)) := ((Below.refl _ _).alloc (Nat.le_refl _) _).alloc (by simp) _
  have ht2 := ht.below hbel ht.pos
  have hS : wholeS [] = 0 := wholeS_end _ (by rw [errO_nil]; decide)
  have hC : wholeC [] = [] := wholeC_end _ (by rw [errO_nil]; decide)
  have hc1 := cell1 hG.c1
  have hc0 := cell1 hG.c0
  rcases hs with ⟨rfl, _⟩ | ⟨a, cap, rfl, h1, h2, _⟩
  · skip
    go_enter Tryz.func73, Tryz.ntmps73
    go_wp2_with fail
    go_step3
    go_wp2_with fail
    go_step3
    go_wp2_with fail
    go_loopw [9] (fun _ wr => wr = ((w.alloc (.cells #[.slice none 0 0] 32)).alloc (.cells #[.int .i64 0] 3))) (fun _ _ => 0)
    case atStart => rfl
    case round =>
      subst hrel
      go_wp2_with (go_at_call 68; refine (open_any _ [] _ ht2 (.inl ⟨rfl, rfl⟩)).mono ?_; rintro e w1 ⟨c, rfl, ownc, belc⟩; obtain ⟨ca, cc, rfl⟩ := ownc.holds.slice; have G1 := hG.kept belc (Nat.le_refl _); have hw1 := belc.size; have cG0 := cell1 G1.c0; have cG1 := cell1 G1.c1; have hne : ((errO [] : Int) == 0) = false := (by rw [errO_nil]; rfl))
      all_goals go_region
      all_goals go_wp2
      all_goals try rw [Exit.noGoto_ret]
      all_goals go_ret2
      all_goals exact ⟨_, [], by rw [hS]; rfl, G1.own.row, by rw [hC]; exact G1.all.mono (by omega), (hbel.trans (belc.mono (by simp; omega))).drew⟩
  · skip
    go_enter Tryz.func73, Tryz.ntmps73
    go_wp2_with fail
    go_step3
    go_wp2_with fail
    go_step3
    go_wp2_with fail
    go_loopw [9] (fun _ wr => wr = ((w.alloc (.cells #[.slice none 0 0] 32)).alloc (.cells #[.int .i64 0] 3))) (fun _ _ => 0)
    case atStart => rfl
    case round =>
      subst hrel
      go_wp2_with (go_at_call 68; refine (open_any _ [] _ ht2 (holds_empty _ _ _ (by first | exact h2 | simp [maxLen]))).mono ?_; rintro e w1 ⟨c, rfl, ownc, belc⟩; obtain ⟨ca, cc, rfl⟩ := ownc.holds.slice; have G1 := hG.kept belc (Nat.le_refl _); have hw1 := belc.size; have cG0 := cell1 G1.c0; have cG1 := cell1 G1.c1; have hne : ((errO [] : Int) == 0) = false := (by rw [errO_nil]; rfl))
      all_goals go_region
      all_goals go_wp2
      all_goals try rw [Exit.noGoto_ret]
      all_goals go_ret2
      all_goals exact ⟨_, [], by rw [hS]; rfl, G1.own.row, by rw [hC]; exact G1.all.mono (by omega), (hbel.trans (belc.mono (by simp; omega))).drew⟩

theorem whole_any (s : Value) (bs : List UInt8) (w : World) (ht : Tab w) (hs : Holds w s bs) (hl : bs.length ≤ 1000000) : Calls Tryz.prog 73 #[s] w (Wholed w bs) := by
  by_cases hp : 0 < bs.length
  · exact whole_some s bs w ht hs hl hp
  · obtain rfl : bs = [] := List.eq_nil_of_length_eq_zero (by omega)
    exact whole_none s w ht hs
end Go.Proofs.YtjgdmbfkondakaaGreatDoor

/-
  THE WALK of the document's Whole.
-/
namespace Go.Proofs.YtjgdmbfkondakaaGreatDoor
open Go.RowKit

theorem own1_one (w : World) (c : Value) : ∀ j u, [c][j]? = some u → (w.alloc (.cells #[c] 31)).cell? ((⟨w.heap.size, 0, none⟩ : Addr).add j) = some u := by
  intro j u hj
  have hr := row_one w 31 c
  rcases hr with ⟨h, _⟩ | ⟨a, c, h, _, _, hh⟩
  · cases h
  · injection h with h _ _
    injection h with h
    subst h
    exact hh j u hj

/-- So far, in memory. -/
structure Far (w wr : World) (bs : List UInt8) (n : Nat) (v : Value) (cs : List Value) (ls : List (List UInt8)) : Prop where
  own : Own1 wr w.heap.size 31 v cs
  all : OwnsAll wr w.heap.size cs ls
  f : SoFar bs n ls
  bel : Below w.heap.size w wr

theorem Own1.kept {w w' : World} {b B : Nat} {e : TypeId} {v : Value} {cs : List Value} (h : Own1 w b e v cs) (hb : Below B w w') (hB : w.heap.size ≤ B) : Own1 w' b e v cs := by
  refine ⟨h.1, ?_⟩
  rcases h.2 with hn | ⟨g, cap, cur, hv, hbg, hg, rest⟩
  · exact .inl hn
  · refine .inr ⟨g, cap, cur, hv, hbg, ?_, rest⟩
    rw [hb.block g (by have := (Array.getElem?_eq_some_iff.1 hg).1; omega)]
    exact hg
theorem Far.kept {w wr w1 : World} {bs : List UInt8} {n : Nat} {v : Value} {cs : List Value} {ls : List (List UInt8)} (h : Far w wr bs n v cs ls) (hb : Below wr.heap.size wr w1) : Far w w1 bs n v cs ls :=
  ⟨h.own.kept hb (Nat.le_refl _), h.all.kept hb (Nat.le_refl _), h.f, h.bel.trans (hb.mono h.bel.size)⟩
theorem Far.step {w w1 w2 : World} {bs : List UInt8} {n : Nat} {v v' c : Value} {cs : List Value} {ls : List (List UInt8)} (h : Far w w1 bs n v cs ls) (he : errO (bs.drop n) = 0) (hc : Owns w1 w.heap.size 5 c (contO (bs.drop n)))
    (hg : (w1.alloc (.cells #[c] 31)).grownBy w2 v.ownBlock) (own2 : w2.ownsRow w.heap.size 31 1 v' (cs.length + 1) (cs ++ [c])) : Far w w2 bs (n + sizeO (bs.drop n)) v' (cs ++ [c]) (ls ++ [contO (bs.drop n)]) := by
  have hsz := h.bel.size
  have bel : Below w1.heap.size w1 (w1.alloc (.cells #[c] 31)) := (Below.refl _ _).alloc (Nat.le_refl _) _
  have hv0 : Own1 (w1.alloc (.cells #[c] 31)) w.heap.size 31 v cs := World.ownsRow.alloc h.own _
  refine ⟨by unfold Own1; rw [List.length_append]; exact own2, ?_, h.f.step he, ?_⟩
  · exact ((h.all.kept bel (Nat.le_refl _)).keptRow hv0 hg).snoc ((hc.kept bel (Nat.le_refl _)).keptRow hv0 hg)
  · exact (h.bel.alloc hsz _).grown hg (by simp; omega) (fun k hk => (hv0.lt k hk).1)

end Go.Proofs.YtjgdmbfkondakaaGreatDoor

/-
  WHAT IS OF NO PROGRAM: what was sealed opens; cut, it is too short; one behind the other.
-/
namespace Go.Proofs.YtjgdmbfkondakaaGreatDoor

theorem getN4 (v : Nat) (h : v < 4294967296) : getN (putL 4 v) = v := by rw [getN_putL]; exact Nat.mod_eq_of_lt h

theorem sealL_eq (b : List UInt8) (h : b.length ≤ 1048576) : sealL b = headL b ++ putL 4 (crc (headL b)) := by unfold sealL; rw [if_pos h]
theorem cnt_seal (b rest : List UInt8) (h : b.length ≤ 1048576) : cntO (sealL b ++ rest) = b.length := by
  unfold cntO
  rw [sealL_eq b h, headL, List.append_assoc, List.append_assoc, List.take_left' (putL_length 4 _), getN4 _ (by omega)]
theorem born_seal (b rest : List UInt8) (h : b.length ≤ 1048576) : bornO (sealL b ++ rest) = crc (headL b) := by
  unfold bornO
  rw [cnt_seal b rest h, sealL_eq b h, List.append_assoc, List.drop_left' (by rw [headL_length]; omega), List.take_left' (putL_length 4 _), getN4 _ (crc_lt _)]
theorem open_seal (b rest : List UInt8) (h : b.length ≤ 1048576) : errO (sealL b ++ rest) = 0 := by
  have hl := sealL_length b h
  refine errO_ok _ (by simp; omega) (by rw [cnt_seal b rest h]; omega) (by rw [cnt_seal b rest h]; simp; omega) ?_
  rw [born_seal b rest h, cnt_seal b rest h, sealL_eq b h, List.append_assoc, List.take_left' (by rw [headL_length]; omega)]
theorem cont_seal (b rest : List UInt8) (h : b.length ≤ 1048576) : contO (sealL b ++ rest) = b := by
  rw [(openO_good _ (open_seal b rest h)).1, cnt_seal b rest h, sealL_eq b h, headL, List.append_assoc, List.append_assoc, List.drop_left' (putL_length 4 _), List.take_left' rfl]
theorem size_seal (b rest : List UInt8) (h : b.length ≤ 1048576) : sizeO (sealL b ++ rest) = b.length + 8 := by
  rw [(openO_good _ (open_seal b rest h)).2, cnt_seal b rest h]
theorem wholeC_seal (b rest : List UInt8) (h : b.length ≤ 1048576) : wholeC (sealL b ++ rest) = b :: wholeC rest := by
  rw [wholeC_ok _ (open_seal b rest h), cont_seal b rest h, size_seal b rest h, List.drop_left' (sealL_length b h)]
theorem wholeS_seal (b rest : List UInt8) (h : b.length ≤ 1048576) : wholeS (sealL b ++ rest) = b.length + 8 + wholeS rest := by
  rw [wholeS_ok _ (open_seal b rest h), size_seal b rest h, List.drop_left' (sealL_length b h)]
/-- Cut, it is too short. -/
theorem open_cut (b : List UInt8) (h : b.length ≤ 1048576) (k : Nat) (hk : k < b.length + 8) : errO ((sealL b).take k) = 8 := by
  have hl := sealL_length b h
  by_cases h4 : k < 4
  · exact errO_short _ (by rw [List.length_take]; omega)
  · have hc : cntO ((sealL b).take k) = b.length := by
      have := cnt_seal b [] h
      unfold cntO at this ⊢
      rw [List.append_nil] at this
      rw [List.take_take, Nat.min_eq_left (by omega)]
      exact this
    refine errO_cut _ (by rw [List.length_take]; omega) (by rw [hc]; omega) (by rw [hc, List.length_take]; omega)
theorem errO_few (bs : List UInt8) (h : bs.length < 8) : errO bs ≠ 0 := fun he => by have := errO_zero bs he; omega
theorem lives_c : wholeC (sealL [] ++ (sealL [1] ++ [7])) = [[], [1]] := by
  rw [wholeC_seal _ _ (by simp), wholeC_seal _ _ (by simp), wholeC_end _ (errO_few _ (by simp))]
theorem lives_s : wholeS (sealL [] ++ (sealL [1] ++ [7])) = 17 := by
  rw [wholeS_seal _ _ (by simp), wholeS_seal _ _ (by simp), wholeS_end _ (errO_few _ (by simp))]
  simp
end Go.Proofs.YtjgdmbfkondakaaGreatDoor

/-
  WHAT IS OF NO PROGRAM: things sealed one behind the other, and cut anywhere.
-/
namespace Go.Proofs.YtjgdmbfkondakaaGreatDoor

/-- Things sealed one behind the other. -/
def catL : List (List UInt8) → List UInt8
  | [] => []
  | x :: l => sealL x ++ catL l
theorem catL_append (a b : List (List UInt8)) : catL (a ++ b) = catL a ++ catL b := by
  induction a with
  | nil => rfl
  | cons x a ih => simp [catL, ih]
theorem catL_take (l : List (List UInt8)) (k : Nat) (h : k < l.length) : catL (l.take (k + 1)) = catL (l.take k) ++ sealL l[k] := by
  rw [List.take_succ_eq_append_getElem h, catL_append]
  simp [catL]
/-- All can be sealed. -/
def Small (l : List (List UInt8)) : Prop := ∀ x ∈ l, x.length ≤ 1048576
theorem whole_cat : ∀ (l : List (List UInt8)), Small l → wholeC (catL l) = l ∧ wholeS (catL l) = (catL l).length
  | [], _ => ⟨wholeC_end _ (errO_few _ (by simp [catL])), wholeS_end _ (errO_few _ (by simp [catL]))⟩
  | x :: l, h => by
    have hx := h x (by simp)
    have ih := whole_cat l (fun y hy => h y (by simp [hy]))
    have h1 : catL (x :: l) = sealL x ++ catL l := rfl
    rw [h1, wholeC_seal _ _ hx, wholeS_seal _ _ hx, ih.1, ih.2, List.length_append, sealL_length x hx]
    exact ⟨rfl, rfl⟩
/-- Cut anywhere: those that are whole. -/
theorem whole_cut : ∀ (l : List (List UInt8)) (k : Nat), Small l → k ≤ (catL l).length → ∃ p, p ≤ l.length ∧ wholeC ((catL l).take k) = l.take p ∧ wholeS ((catL l).take k) = (catL (l.take p)).length ∧ (catL (l.take p)).length ≤ k ∧ (p < l.length → k < (catL (l.take (p + 1))).length)
  | [], k, _, _ => by
    refine ⟨0, by simp, ?_, ?_, by simp [catL], by simp⟩
    · rw [wholeC_end _ (errO_few _ (by simp [catL]))]; rfl
    · rw [wholeS_end _ (errO_few _ (by simp [catL]))]; rfl
  | x :: l, k, h, hk => by
    have hx := h x (by simp)
    have hl := sealL_length x hx
    have h1 : catL (x :: l) = sealL x ++ catL l := rfl
    rw [h1] at hk ⊢
    rw [List.length_append, hl] at hk
    by_cases hs : k < x.length + 8
    · have h2 : (sealL x ++ catL l).take k = (sealL x).take k := List.take_append_of_le_length (by omega)
      have h3 : errO ((sealL x).take k) ≠ 0 := by rw [open_cut x hx k hs]; decide
      rw [h2, wholeC_end _ h3, wholeS_end _ h3]
      refine ⟨0, by simp, rfl, rfl, by simp [catL], fun _ => ?_⟩
      simp [catL, hl]
      exact hs
    · have h2 : (sealL x ++ catL l).take k = sealL x ++ (catL l).take (k - (x.length + 8)) := by
        rw [List.take_append, List.take_of_length_le (by omega), hl]
      obtain ⟨p, hp1, hp2, hp3, hp4, hp5⟩ := whole_cut l (k - (x.length + 8)) (fun y hy => h y (by simp [hy])) (by omega)
      rw [h2, wholeC_seal _ _ hx, wholeS_seal _ _ hx, hp2, hp3]
      refine ⟨p + 1, by simp; omega, by simp, ?_, ?_, fun hp => ?_⟩
      · simp [catL, hl]
      · simp [catL, hl]; omega
      · have := hp5 (by simpa using hp)
        simp [catL, hl]; omega
/-- Where each ends. -/
def endsL (l : List (List UInt8)) (k : Nat) : List Int := (List.range (k + 1)).map fun j => ((catL (l.take j)).length : Int)
theorem endsL_length (l : List (List UInt8)) (k : Nat) : (endsL l k).length = k + 1 := by simp [endsL]
theorem endsL_zero (l : List (List UInt8)) : endsL l 0 = [0] := by simp [endsL, catL]
theorem endsL_succ (l : List (List UInt8)) (k : Nat) : endsL l (k + 1) = endsL l k ++ [((catL (l.take (k + 1))).length : Int)] := by
  unfold endsL
  rw [List.range_succ, List.map_append]
  rfl
theorem endsL_get (l : List (List UInt8)) (k j : Nat) (h : j ≤ k) : (endsL l k)[j]? = some ((catL (l.take j)).length : Int) := by
  unfold endsL
  rw [List.getElem?_map, List.getElem?_range (by omega)]
  rfl
end Go.Proofs.YtjgdmbfkondakaaGreatDoor
