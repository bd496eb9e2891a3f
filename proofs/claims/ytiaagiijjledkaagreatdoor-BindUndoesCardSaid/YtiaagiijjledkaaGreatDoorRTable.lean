/-
  THE DOCUMENT's TABLE in memory; its Good, may, Find, Has, ahead, by their contracts.
-/
import Derived.Test.YtiaagiijjledkaaGreatDoorBind
import Derived.Test.YtiaagiijjledkaaGreatDoorMoved
namespace Go.Proofs.YtiaagiijjledkaaGreatDoor
open Go.RowKit Go.Sort

structure XeAt (w : World) (b off : Nat) (x : Ex) : Prop where
  c0 : w.cell? ⟨b, off, none⟩ = some (.string x.name)
  c1 : w.cell? ⟨b, off + 1, none⟩ = some (.int .i64 x.kind)
  c2 : w.cell? ⟨b, off + 2, none⟩ = some (.bool x.fed)
structure BeAt (w : World) (b off : Nat) (x : Bd) : Prop where
  c0 : w.cell? ⟨b, off, none⟩ = some (.string x.ex)
  c1 : w.cell? ⟨b, off + 1, none⟩ = some (.string x.que)
  c2 : w.cell? ⟨b, off + 2, none⟩ = some (.string x.pat)
theorem XeAt.below {w w' : World} {B b off : Nat} {x : Ex} (h : XeAt w b off x) (hb : Below B w w') (hB : w.heap.size ≤ B) : XeAt w' b off x := by
  have hl' : b < B := Nat.lt_of_lt_of_le (World.block_lt_of_cell? _ _ h.c0) hB
  exact ⟨(hb.cell (p := ⟨b, off, none⟩) hl').trans h.c0, (hb.cell (p := ⟨b, off + 1, none⟩) hl').trans h.c1, (hb.cell (p := ⟨b, off + 2, none⟩) hl').trans h.c2⟩
theorem BeAt.below {w w' : World} {B b off : Nat} {x : Bd} (h : BeAt w b off x) (hb : Below B w w') (hB : w.heap.size ≤ B) : BeAt w' b off x := by
  have hl' : b < B := Nat.lt_of_lt_of_le (World.block_lt_of_cell? _ _ h.c0) hB
  exact ⟨(hb.cell (p := ⟨b, off, none⟩) hl').trans h.c0, (hb.cell (p := ⟨b, off + 1, none⟩) hl').trans h.c1, (hb.cell (p := ⟨b, off + 2, none⟩) hl').trans h.c2⟩
theorem row_num {α : Type} {enc : α → List Value} {K : Nat} [Enc enc K] {w : World} {a : Option Addr} {n cap : Nat} {l : List α} (h : RowOf enc w (.slice a n cap) l) : n = l.length ∧ l.length ≤ maxLen := by
  have hn : n = l.length := by
    obtain ⟨a', cap', hv⟩ := h.slice
    injection hv
  refine ⟨hn, ?_⟩
  rcases h with ⟨hv, rfl⟩ | ⟨_, _, hv, h1, h2, _⟩
  · exact Nat.zero_le _
  · omega
theorem RowOf.exs {w : World} {a : Option Addr} {n cap : Nat} {l : List Ex} (h : RowOf xcells w (.slice a n cap) l) : ∀ i (hi : i < l.length), ∃ b off, a = some ⟨b, off, none⟩ ∧ XeAt w b (off + i * 3) l[i] := fun i hi => by
  obtain ⟨b, off, cap', hv, _, _, hc⟩ := h.at (by omega)
  injection hv with hv1 _ _
  exact ⟨b, off, hv1, ⟨by simpa using row_cell hc i hi 0 (by decide) _ rfl, row_cell hc i hi 1 (by decide) _ rfl, row_cell hc i hi 2 (by decide) _ rfl⟩⟩
theorem RowOf.bds {w : World} {a : Option Addr} {n cap : Nat} {l : List Bd} (h : RowOf bcells w (.slice a n cap) l) : ∀ i (hi : i < l.length), ∃ b off, a = some ⟨b, off, none⟩ ∧ BeAt w b (off + i * 3) l[i] := fun i hi => by
  obtain ⟨b, off, cap', hv, _, _, hc⟩ := h.at (by omega)
  injection hv with hv1 _ _
  exact ⟨b, off, hv1, ⟨by simpa using row_cell hc i hi 0 (by decide) _ rfl, row_cell hc i hi 1 (by decide) _ rfl, row_cell hc i hi 2 (by decide) _ rfl⟩⟩

structure RTAt (w : World) (p : Nat) (vx vb : Value) (s : Tb) : Prop where
  blk : w.heap[p]? = some (.cells #[vx, vb] 29 (0, 0))
  x : RowOf xcells w vx s.xs
  b : RowOf bcells w vb s.bs
  nx : vx.ownBlock ≠ some p
  nb : vb.ownBlock ≠ some p
def rfootT (p : Nat) (vx vb : Value) (k : Nat) : Prop := k = p ∨ vx.ownBlock = some k ∨ vb.ownBlock = some k
/-- The document's table. -/
def RT (w : World) (p : Nat) (F : Nat → Prop) (s : Tb) : Prop := ∃ vx vb, RTAt w p vx vb s ∧ (∀ k, F k ↔ rfootT p vx vb k) ∧ ∀ k, F k → k < w.heap.size
theorem RTAt.same {w w' : World} {p : Nat} {vx vb : Value} {s : Tb} (h : RTAt w p vx vb s) (hs : ∀ k, rfootT p vx vb k → w'.heap[k]? = w.heap[k]?) : RTAt w' p vx vb s :=
  ⟨by rw [hs p (.inl rfl)]; exact h.blk, h.x.same fun g hg => hs g (.inr (.inl hg)), h.b.same fun g hg => hs g (.inr (.inr hg)), h.nx, h.nb⟩
theorem RT.lts {w : World} {p : Nat} {F : Nat → Prop} {s : Tb} (h : RT w p F s) : ∀ k, F k → k < w.heap.size := by
  obtain ⟨_, _, _, _, hl⟩ := h
  exact hl
theorem RT.same {w w' : World} {p : Nat} {F : Nat → Prop} {s : Tb} (h : RT w p F s) (hz : w.heap.size ≤ w'.heap.size) (hs : ∀ k, F k → w'.heap[k]? = w.heap[k]?) : RT w' p F s := by
  obtain ⟨vx, vb, hq, hF, hl⟩ := h
  exact ⟨vx, vb, hq.same fun k hk => hs k ((hF k).2 hk), hF, fun k hk => Nat.lt_of_lt_of_le (hl k hk) hz⟩
theorem RT.kept {w w' : World} {p : Nat} {F : Nat → Prop} {s : Tb} (h : RT w p F s) (hb : Below w.heap.size w w') : RT w' p F s := h.same hb.size fun k hk => hb.block k (h.lts k hk)
/-- Something else has moved. -/
theorem RT.beside {w w' : World} {p : Nat} {F G G' : Nat → Prop} {s : Tb} (h : RT w p F s) (m : Moved w w' G G') (ha : ∀ k, G k → ¬ F k) : RT w' p F s := h.same m.size fun k hk => m.block k (h.lts k hk) (fun hg => ha k hg hk)
theorem T.beside {w w' : World} {p : Nat} {F G G' : Nat → Prop} {s : Tb} (h : T w p F s) (m : Moved w w' G G') (ha : ∀ k, G k → ¬ F k) : T w' p F s := h.same fun k hk => m.block k (h.lts k hk) (fun hg => ha k hg hk)
theorem rt_new (w : World) : RT (w.alloc (.cells #[.slice none 0 0, .slice none 0 0] 29)) w.heap.size (fun k => k = w.heap.size) newT :=
  ⟨_, _, ⟨heap_alloc_new w _, rowOf_nil _, rowOf_nil _, by simp [Value.ownBlock], by simp [Value.ownBlock]⟩, fun k => by simp [rfootT, Value.ownBlock], fun k hk => by rw [hk]; simp⟩

set_option maxRecDepth 20000 in
set_option maxHeartbeats 1000000 in
theorem rgood_any (x : Ex) (w : World) (hs : x.name.size ≤ maxLen) : Calls Tryz.prog 22 #[xv x] w fun e w' => e = .returned (.bool (goodX x)) ∧ Below w.heap.size w w' := by
  have hN := fun w => rname_any x.name w hs
  have b0 : ∀ o, Below w.heap.size w (w.alloc o) := fun o => (Below.refl _ _).alloc (Nat.le_refl _) _
  have e : (decide (x.kind = 1) || decide (x.kind = 2) || decide (x.kind = 3)) = (decide (1 ≤ x.kind) && decide (x.kind ≤ 3)) := by
    rw [Bool.eq_iff_iff]; simp; omega
  unfold goodX
  rw [e]
  generalize nameB (txt x.name) = nb at hN ⊢
  cases nb
  all_goals go_enter Tryz.func22, Tryz.ntmps22
  all_goals go_wp2_with (go_at_call 44; refine (hN _).mono ?_; rintro e w' ⟨rfl, rfl⟩)
  all_goals go_ret
  all_goals exact ⟨retK_bool (by first | rfl | (simp; omega) | (rw [Bool.eq_iff_iff]; simp; omega) | simp_all), b0 _⟩

set_option maxRecDepth 20000 in
set_option maxHeartbeats 1000000 in
theorem rmay_any (k : Int) (p : ByteArray) (w : World) (hs : p.size ≤ maxLen) : Calls Tryz.prog 45 #[.int .i64 k, .string p] w fun e w' => e = .returned (.bool (mayP k p)) ∧ Below w.heap.size w w' := by
  have hK := fun w => rkey_any p w hs
  have hP := fun w => rpattern_any p w hs
  unfold mayP
  by_cases h1 : k = 1
  · rw [if_pos h1]
    go_enter Tryz.func45, Tryz.ntmps45
    go_wp2_with (go_at_call 63; refine (hK _).mono ?_; rintro e w' ⟨rfl, hb⟩)
    go_ret
    exact ⟨rfl, hb⟩
  · rw [if_neg h1]
    by_cases h2 : k = 2
    · rw [if_pos h2]
      go_enter Tryz.func45, Tryz.ntmps45
      go_wp2
      go_ret
      exact ⟨rfl, Below.refl _ _⟩
    · rw [if_neg h2]
      go_enter Tryz.func45, Tryz.ntmps45
      go_wp2_with (go_at_call 64; refine (hP _).mono ?_; rintro e w' ⟨rfl, hb⟩)
      go_ret
      exact ⟨rfl, hb⟩
end Go.Proofs.YtiaagiijjledkaaGreatDoor
