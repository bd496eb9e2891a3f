/-
  THE WALK of the document's Whole.
-/
import Derived.Test.YtpdmcodnnhbchaaDoorWhole
namespace Go.Proofs.YtpdmcodnnhbchaaDoor
open Go.RowKit

theorem own1_one (w : World) (c : Value) : ∀ j u, [c][j]? = some u → (w.alloc (.cells #[c] 22)).cell? ((⟨w.heap.size, 0, none⟩ : Addr).add j) = some u := by
  intro j u hj
  have hr := row_one w 22 c
  rcases hr with ⟨h, _⟩ | ⟨a, c, h, _, _, hh⟩
  · cases h
  · injection h with h _ _
    injection h with h
    subst h
    exact hh j u hj

/-- So far, in memory. -/
structure Far (w wr : World) (bs : List UInt8) (n : Nat) (v : Value) (cs : List Value) (ls : List (List UInt8)) : Prop where
  own : Own1 wr w.heap.size 22 v cs
  all : OwnsAll wr w.heap.size cs ls
  f : SoFar bs n ls
  bel : Below w.heap.size w wr

theorem Own1.kept {w w' : World} {b B : Nat} {e : TypeId} {v : Value} {cs : List Value} (h : Own1 w b e v cs) (hb : Below B w w') (hB : w.heap.size ≤ B) : Own1 w' b e v cs := by
  refine ⟨h.1, ?_⟩
  rcases h.2 with hn | ⟨g, cap, cur, hv, hbg, hg, rest⟩
  · exact .inl hn
  · refine .inr ⟨g, cap, cur, hv, hbg, ?_, rest⟩
    rw [hb.block g (by have := (Array.getElem?_eq_some_iff.1 hg).1; omega)]
    exact hg
theorem Far.kept {w wr w1 : World} {bs : List UInt8} {n : Nat} {v : Value} {cs : List Value} {ls : List (List UInt8)} (h : Far w wr bs n v cs ls) (hb : Below wr.heap.size wr w1) : Far w w1 bs n v cs ls :=
  ⟨h.own.kept hb (Nat.le_refl _), h.all.kept hb (Nat.le_refl _), h.f, h.bel.trans (hb.mono h.bel.size)⟩
theorem Far.step {w w1 w2 : World} {bs : List UInt8} {n : Nat} {v v' c : Value} {cs : List Value} {ls : List (List UInt8)} (h : Far w w1 bs n v cs ls) (he : errO (bs.drop n) = 0) (hc : Owns w1 w.heap.size 5 c (contO (bs.drop n)))
    (hg : (w1.alloc (.cells #[c] 22)).grownBy w2 v.ownBlock) (own2 : w2.ownsRow w.heap.size 22 1 v' (cs.length + 1) (cs ++ [c])) : Far w w2 bs (n + sizeO (bs.drop n)) v' (cs ++ [c]) (ls ++ [contO (bs.drop n)]) := by
  have hsz := h.bel.size
  have bel : Below w1.heap.size w1 (w1.alloc (.cells #[c] 22)) := (Below.refl _ _).alloc (Nat.le_refl _) _
  have hv0 : Own1 (w1.alloc (.cells #[c] 22)) w.heap.size 22 v cs := World.ownsRow.alloc h.own _
  refine ⟨by unfold Own1; rw [List.length_append]; exact own2, ?_, h.f.step he, ?_⟩
  · exact ((h.all.kept bel (Nat.le_refl _)).keptRow hv0 hg).snoc ((hc.kept bel (Nat.le_refl _)).keptRow hv0 hg)
  · exact (h.bel.alloc hsz _).grown hg (by simp; omega) (fun k hk => (hv0.lt k hk).1)

set_option maxHeartbeats 400000 in
theorem rwhole_some (s : Value) (bs : List UInt8) (w : World) (hs : Holds w s bs) (hl : bs.length ≤ 1000000) (hp : 0 < bs.length) :
    Calls Tryd.prog 20 #[s] w (Wholed w bs) := by
  obtain ⟨b, off, cap, rfl, hc1, hc2, hcell⟩ := hs.at hp
  have hc3 : cap ≤ maxLen := hc2
  unfold maxLen at hc2
  obtain ⟨i, hi, hz, hsz0, hby⟩ := isRows.info
  go_enter Tryd.func20, Tryd.ntmps20
  go_wp2_with fail
  go_loopw [4, 5] (fun v k wr => ∃ n cs ls, k = .int .i64 (n : Nat) ∧ Far w wr bs n v cs ls) (fun _ k _ => bs.length - (intOf k).toNat)
  case atStart => exact ⟨0, [], [], rfl, own1_nil _ _ _, ownsAll_nil _ _, soFar_start bs, Below.refl _ _⟩
  case round =>
    obtain ⟨n, cs, ls, rfl, G⟩ := hrel
    have hn := G.f.le
    obtain ⟨va, vc, hv⟩ := G.own.row.slice
    subst hv
    have hcellr : ∀ j (hj : j < bs.length), wr.cell? ⟨b, off + j, none⟩ = some (.int .u8 (bs[j].toNat : Int)) := fun j hj => by
      have hx := hcell j hj
      rw [G.bel.cell (World.block_lt_of_cell? w _ hx)]
      exact hx
    have hsz := G.bel.size
    rcases Nat.lt_or_ge n cap with hcap | hcap
    · have hold : Holds wr (.slice (some ⟨b, off + n, none⟩) (bs.length - n) (cap - n)) (bs.drop n) := by
        have h := holds_part hcellr n (n := bs.length - n) (cap := cap - n) (by omega) (by omega) (by omega)
        rwa [List.take_of_length_le (by simp)] at h
      have hopen := ropen_any _ _ wr hold
      by_cases he : errO (bs.drop n) = 0
      · have hmore := G.f.more he
        have hcsl : cs.length ≤ n := by rw [G.all.1]; exact G.f.few
        go_wp2_with fail
        refine hopen.mono ?_
        rintro e w1 ⟨c, he1, ownc, belc⟩
        rw [he] at he1
        subst he1
        obtain ⟨ca, cc, rfl⟩ := ownc.holds.slice
        have G1 := G.kept belc
        have hw1 := belc.size
        have hone : ∀ u ∈ [Value.slice ca (contO (bs.drop n)).length cc], u.oneCell' = true := by
          intro u hu
          obtain rfl : u = Value.slice ca (contO (bs.drop n)).length cc := by simpa using hu
          rfl
        go_wp2_with (at_builtin; refine wpList_append_own _ rfl (.tmp 21) (.tmp 23) 36 rfl w.heap.size 22 i _ 1 24 isRows.ht hi hz hsz0 hby rfl (by decide) _ cs.length cs rfl (World.ownsRow.alloc G1.own _) ⟨w1.heap.size, 0, none⟩ 1 1 [Value.slice ca (contO (bs.drop n)).length cc] rfl rfl (own1_one _ _) hone (by unfold maxLen; omega) (by omega) (by simp; omega) ?_; intro v' w2 own2 grown2 _; obtain ⟨va', vc', rfl⟩ := own_slice own2)
        refine ⟨⟨_, _, _, ?_, G1.step he (ownc.mono hsz) grown2 own2⟩, ?_⟩
        · go_num
        · simp [intOf]; omega
      · obtain ⟨hC, hS⟩ := G.f.ends he
        have hne : ((errO (bs.drop n) : Int) != 0) = true := by simp; omega
        go_wp2_with fail
        refine hopen.mono ?_
        rintro e w1 ⟨c, rfl, ownc, belc⟩
        obtain ⟨ca, cc, rfl⟩ := ownc.holds.slice
        have G1 := G.kept belc
        go_wp2
        go_ret2
        exact ⟨_, cs, by rw [hS]; rfl, G1.own.row, by rw [hC]; exact G1.all, G1.bel⟩
    · have hnl : n = bs.length := by omega
      obtain rfl : cap = n := by omega
      have hdrop : bs.drop cap = [] := List.drop_of_length_le (by omega)
      have he0 : errO (bs.drop cap) = 8 := by rw [hdrop]; exact errO_short [] (by simp)
      have hopen := ropen_any _ _ wr (holds_empty wr ⟨b, off, none⟩ 0 (by simp [maxLen]))
      obtain ⟨hC, hS⟩ := G.f.ends (by rw [he0]; decide)
      have hne : ((errO [] : Int) != 0) = true := by rw [errO_nil]; rfl
      go_wp2_with fail
      refine hopen.mono ?_
      rintro e w1 ⟨c, rfl, ownc, belc⟩
      obtain ⟨ca, cc, rfl⟩ := ownc.holds.slice
      have G1 := G.kept belc
      go_wp2
      go_ret2
      exact ⟨_, cs, by rw [hS, hnl]; rfl, G1.own.row, by rw [hC]; exact G1.all, G1.bel⟩

set_option maxHeartbeats 400000 in
theorem rwhole_none (s : Value) (w : World) (hs : Holds w s []) :
    Calls Tryd.prog 20 #[s] w (Wholed w []) := by
  have hS : wholeS [] = 0 := wholeS_end _ (by rw [errO_nil]; decide)
  have hC : wholeC [] = [] := wholeC_end _ (by rw [errO_nil]; decide)
  have hne : ((errO [] : Int) != 0) = true := by rw [errO_nil]; rfl
  rcases hs with ⟨rfl, _⟩ | ⟨a, cap, rfl, h1, h2, _⟩
  · skip
    go_enter Tryd.func20, Tryd.ntmps20
    go_wp2_with fail
    go_loopw [4, 5] (fun v k wr => v = .slice none 0 0 ∧ k = .int .i64 0 ∧ wr = w) (fun _ _ _ => 0)
    case atStart => exact ⟨rfl, rfl, rfl⟩
    case round =>
      obtain ⟨rfl, rfl, rfl⟩ := hrel
      go_wp2_with (go_at_call 18; refine (ropen_any _ [] _ (.inl ⟨rfl, rfl⟩)).mono ?_; rintro e w1 ⟨c, rfl, ownc, belc⟩; obtain ⟨ca, cc, rfl⟩ := ownc.holds.slice)
      all_goals go_ret2
      all_goals exact ⟨_, [], by rw [hS]; rfl, .inl ⟨rfl, rfl⟩, by rw [hC]; exact ownsAll_nil _ _, belc⟩
  · skip
    go_enter Tryd.func20, Tryd.ntmps20
    go_wp2_with fail
    go_loopw [4, 5] (fun v k wr => v = .slice none 0 0 ∧ k = .int .i64 0 ∧ wr = w) (fun _ _ _ => 0)
    case atStart => exact ⟨rfl, rfl, rfl⟩
    case round =>
      obtain ⟨rfl, rfl, rfl⟩ := hrel
      go_wp2_with (go_at_call 18; refine (ropen_any _ [] _ (holds_empty _ _ _ (by first | exact h2 | simp [maxLen]))).mono ?_; rintro e w1 ⟨c, rfl, ownc, belc⟩; obtain ⟨ca, cc, rfl⟩ := ownc.holds.slice)
      all_goals go_ret2
      all_goals exact ⟨_, [], by rw [hS]; rfl, .inl ⟨rfl, rfl⟩, by rw [hC]; exact ownsAll_nil _ _, belc⟩

theorem rwhole_any (s : Value) (bs : List UInt8) (w : World) (hs : Holds w s bs) (hl : bs.length ≤ 1000000) : Calls Tryd.prog 20 #[s] w (Wholed w bs) := by
  by_cases hp : 0 < bs.length
  · exact rwhole_some s bs w hs hl hp
  · obtain rfl : bs = [] := List.eq_nil_of_length_eq_zero (by omega)
    exact rwhole_none s w hs
end Go.Proofs.YtpdmcodnnhbchaaDoor
