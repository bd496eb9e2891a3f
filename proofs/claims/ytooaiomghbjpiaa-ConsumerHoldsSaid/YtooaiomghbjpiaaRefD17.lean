/-
  THE DOCUMENT's DESK in memory; find, by its contract.
-/
import Derived.Test.YtooaiomghbjpiaaForget17
import Derived.Test.YtooaiomghbjpiaaActs17
namespace Go.Proofs.Ytooaiomghbjpiaa
open Go.RowKit Go.Maps Go.Sort Go.Shelf
set_option maxRecDepth 20000

/-- One of the document's: a seat, and where its tags lie. -/
structure Ro where
  s : Se
  a : Option Addr
  c : Nat
def Ro.tv (x : Ro) : Value := .slice x.a x.s.t.length x.c
def roc (x : Ro) : List Value := [.int .i64 x.s.c, .string x.s.q, .int .i64 x.s.m, .slice x.a x.s.t.length x.c]
instance : K.Enc roc 4 where
  len _ := rfl
  one r u hu := by
    simp only [roc, List.mem_cons, List.not_mem_nil, or_false] at hu
    rcases hu with rfl | rfl | rfl | rfl <;> rfl
  pos := by decide
structure RdAt (w : World) (p : Nat) (v : Value) (X : List Ro) : Prop where
  blk : w.heap[p]? = some (.cells #[v] 28 (0, 0))
  row : K.OwnOf roc 4 44 w 0 v X
  tags : ∀ x ∈ X, Own1 w 0 31 x.tv (ucells x.s.t)
def footR (p : Nat) (v : Value) (X : List Ro) (k : Nat) : Prop := k = p ∨ v.ownBlock = some k ∨ ∃ x ∈ X, x.tv.ownBlock = some k
def Rd (w : World) (p : Nat) (F : Nat → Prop) (L : List Se) : Prop := ∃ v X, RdAt w p v X ∧ X.map Ro.s = L ∧ F = footR p v X
theorem ownK_same {α : Type} {enc : α → List Value} {c : Nat} {T : TypeId} {w w' : World} {v : Value} {l : List α} (h : K.OwnOf enc c T w 0 v l) (hs : ∀ g, v.ownBlock = some g → w'.heap[g]? = w.heap[g]?) : K.OwnOf enc c T w' 0 v l := by
  unfold K.OwnOf at *
  obtain ⟨h1, h2⟩ := h
  refine ⟨h1, ?_⟩
  rcases h2 with h2 | ⟨g, cap, cur, rfl, h3, h4, h5⟩
  · exact .inl h2
  · exact .inr ⟨g, cap, cur, rfl, h3, (hs g rfl).trans h4, h5⟩
theorem ownK_blk {α : Type} {enc : α → List Value} {c : Nat} {T : TypeId} {w : World} {b : Nat} {v : Value} {l : List α} (h : K.OwnOf enc c T w b v l) {g : Nat} (hg : v.ownBlock = some g) : b ≤ g ∧ ∃ cur, w.heap[g]? = some (.cells cur T (0, 0)) := by
  rcases h.2 with ⟨rfl, _⟩ | ⟨g', cap, cur, rfl, h3, h4, h5⟩
  · simp [Value.ownBlock] at hg
  · simp only [Value.ownBlock, Option.some.injEq] at hg
    subst hg
    exact ⟨h3, cur, h4⟩
theorem ownK_lt {α : Type} {enc : α → List Value} {c : Nat} {T : TypeId} {w : World} {b : Nat} {v : Value} {l : List α} (h : K.OwnOf enc c T w b v l) {g : Nat} (hg : v.ownBlock = some g) : g < w.heap.size := by
  obtain ⟨_, cur, hc⟩ := ownK_blk h hg
  exact (Array.getElem?_eq_some_iff.1 hc).1
section
variable {w w' : World} {p : Nat} {v : Value} {X : List Ro} {F : Nat → Prop} {L : List Se}
theorem RdAt.lts (h : RdAt w p v X) : ∀ k, footR p v X k → k < w.heap.size := by
  rintro k (rfl | hk | ⟨x, hx, hk⟩)
  · exact (Array.getElem?_eq_some_iff.1 h.blk).1
  · exact ownK_lt h.row hk
  · exact own_lt (h.tags x hx) hk
theorem RdAt.same (h : RdAt w p v X) (hs : ∀ k, footR p v X k → w'.heap[k]? = w.heap[k]?) : RdAt w' p v X :=
  ⟨(hs p (.inl rfl)).trans h.blk, ownK_same h.row fun g hg => hs g (.inr (.inl hg)), fun x hx => own1_same (h.tags x hx) fun g hg => hs g (.inr (.inr ⟨x, hx, hg⟩))⟩
theorem RdAt.cell (h : RdAt w p v X) : w.cell? ⟨p, 0, none⟩ = some v ∧ w.frozen? ⟨p, 0, none⟩ = false := by simp [World.cell?, World.frozen?, h.blk]
theorem RdAt.kept (h : RdAt w p v X) (hb : Below w.heap.size w w') : RdAt w' p v X := h.same fun k hk => hb.block k (h.lts k hk)
theorem Rd.lts (h : Rd w p F L) : ∀ k, F k → k < w.heap.size := by
  obtain ⟨v, X, h, _, rfl⟩ := h
  exact h.lts
theorem Rd.same (h : Rd w p F L) (hs : ∀ k, F k → w'.heap[k]? = w.heap[k]?) : Rd w' p F L := by
  obtain ⟨v, X, h, h2, rfl⟩ := h
  exact ⟨v, X, h.same hs, h2, rfl⟩
theorem Rd.kept (h : Rd w p F L) (hb : Below w.heap.size w w') : Rd w' p F L := h.same fun k hk => hb.block k (h.lts k hk)
theorem Rd.beside {G G' : Nat → Prop} (h : Rd w p F L) (mv : Moved w w' G G') (ha : ∀ k, G k → ¬ F k) : Rd w' p F L := h.same fun k hk => mv.block k (h.lts k hk) (fun hg => ha k hg hk)
end
/-- Those that are there lie at plain addresses. -/
theorem ros_at {w : World} {a : Option Addr} {n cap : Nat} {l : List Ro} (h : K.RowOf roc w (.slice a n cap) l) : n = l.length ∧ l.length ≤ maxLen ∧ ∀ i (hi : i < l.length), ∃ b off, a = some ⟨b, off, none⟩ ∧ w.cell? ⟨b, off + i * 4, none⟩ = some (.int .i64 l[i].s.c) ∧ w.cell? ⟨b, off + i * 4 + 1, none⟩ = some (.string l[i].s.q) ∧ w.cell? ⟨b, off + i * 4 + 2, none⟩ = some (.int .i64 l[i].s.m) ∧ w.cell? ⟨b, off + i * 4 + 3, none⟩ = some (.slice l[i].a l[i].s.t.length l[i].c) := by
  have hn : n = l.length := by
    obtain ⟨a', cap', hv⟩ := h.slice
    injection hv
  have hcm : l.length ≤ maxLen := by
    rcases h with ⟨hv, rfl⟩ | ⟨_, _, hv, h1, h2, _⟩
    · exact Nat.zero_le _
    · omega
  refine ⟨hn, hcm, fun i hi => ?_⟩
  obtain ⟨b, off, cap', hv, _, _, hc⟩ := h.at (by omega)
  injection hv with hv1 _ _
  exact ⟨b, off, hv1, by simpa using K.row_cell hc i hi 0 (by decide) _ rfl, K.row_cell hc i hi 1 (by decide) _ rfl, K.row_cell hc i hi 2 (by decide) _ rfl, K.row_cell hc i hi 3 (by decide) _ rfl⟩
/-- A client's place in a line; below 0: none. -/
def posC (L : List Se) (c : Int) : Int := match L.findIdx? (fun s => decide (s.c = c)) with
  | some i => (i : Int)
  | none => -1
theorem posC_at {l : List Se} {c : Int} {k : Nat} (hk : k < l.length) (h0 : ∀ i (hi : i < l.length), i < k → l[i].c ≠ c) (h1 : l[k].c = c) : posC l c = (k : Int) := by
  have : l.findIdx? (fun e => decide (e.c = c)) = some k := by
    rw [List.findIdx?_eq_some_iff_getElem]
    exact ⟨hk, by simpa using h1, fun j hj => by simpa using h0 j (by omega) hj⟩
  unfold posC
  rw [this]
theorem posC_none {l : List Se} {c : Int} (h0 : ∀ i (hi : i < l.length), l[i].c ≠ c) : posC l c = -1 := by
  have : l.findIdx? (fun e => decide (e.c = c)) = none := by
    rw [List.findIdx?_eq_none_iff]
    intro x hx
    obtain ⟨i, hi, rfl⟩ := List.mem_iff_getElem.1 hx
    simpa using h0 i hi
  unfold posC
  rw [this]
theorem cell_on {w w' : World} (h : Below w.heap.size w w') {b i : Nat} {x : Value} (hc : w.cell? ⟨b, i, none⟩ = some x) : w'.cell? ⟨b, i, none⟩ = some x := (h.cell (p := ⟨b, i, none⟩) (World.block_lt_of_cell? _ _ hc)).trans hc
set_option maxHeartbeats 2000000 in
theorem rfind_at {w : World} {p : Nat} {v : Value} {X : List Ro} (h : RdAt w p v X) (c : Int) :
    Calls Try.prog 35 #[.pointer (some ⟨p, 0, none⟩), .int .i64 c] w fun e w' => e = .returned (.int .i64 (posC (X.map Ro.s) c)) ∧ Below w.heap.size w w' := by
  obtain ⟨c0, _⟩ := h.cell
  have hr := h.row.rng
  obtain ⟨va, vc, rfl⟩ := hr.slice
  obtain ⟨_, hlm, hat⟩ := ros_at hr
  have l63 : X.length ≤ 9223372036854775807 := by unfold maxLen at hlm; omega
  have HA : Hid _ := hat
  have hxl : (X.map Ro.s).length = X.length := by simp
  have HP1 : Hid (∀ k (hk : k < X.length), (∀ i (hi : i < X.length), i < k → X[i].s.c ≠ c) → X[k].s.c = c → posC (X.map Ro.s) c = (k : Int)) := fun k hk h0 h1 => posC_at (by simpa using hk) (fun i hi hik => by simpa using h0 i (by simpa using hi) hik) (by simpa using h1)
  have HP2 : Hid ((∀ i (hi : i < X.length), X[i].s.c ≠ c) → posC (X.map Ro.s) c = -1) := fun h0 => posC_none fun i hi => by simpa using h0 i (by simpa using hi)
  clear hr hat h hxl
  generalize posC (X.map Ro.s) c = P at *
  obtain ⟨n, hn⟩ : ∃ z, X.length = z := ⟨_, rfl⟩
  rw [hn] at c0 l63 hlm
  go_enter Try.func35, Try.ntmps35
  go_wp2
  go_loopw [12] (fun u12 wr => ∃ k : Nat, u12 = .int .i64 k ∧ k ≤ n ∧ Hid (∀ i (hi : i < X.length), i < k → X[i].s.c ≠ c) ∧ Below w.heap.size w wr) (fun u12 wr => n - (intOf u12).toNat)
  case atStart => exact ⟨0, rfl, Nat.zero_le _, fun i _ h => by omega, Below.refl _ _⟩
  case round =>
    obtain ⟨k, rfl, hk, HS, hB⟩ := hrel
    by_cases hlt : k < n
    · have hlt' : (k : Int) < (n : Int) := by omega
      have hkl : k < X.length := by omega
      obtain ⟨b, off, rfl, g0', g1', g2', g3'⟩ := HA.out k hkl
      have hB' := fun o => hB.alloc hB.size o
      have g0 := cell_on hB g0'
      have g1 := cell_on hB g1'
      have g2 := cell_on hB g2'
      have g3 := cell_on hB g3'
      obtain ⟨x, hx⟩ : ∃ z, X[k] = z := ⟨_, rfl⟩
      rw [hx] at g0 g1 g2 g3
      have HX : Hid (∀ i (hi : i < X.length), i < k + 1 → i ≠ k → X[i].s.c ≠ c) := fun i hi h1 h2 => HS.out i hi (by omega)
      have HC : Hid (X[k].s.c = x.s.c) := by show X[k].s.c = x.s.c; rw [hx]
      obtain ⟨xc, hxc⟩ : ∃ z, x.s.c = z := ⟨_, rfl⟩
      rw [hxc] at g0 HC
      clear g0' g1' g2' g3' hB hx hxc
      generalize x.s.t.length = tl at *
      generalize x.s.q = xq at *
      generalize x.s.m = xm at *
      by_cases he : xc = c
      · have hei : ((xc : Int) == c) = true := by simpa using he
        have HP : Hid (P = (k : Int)) := HP1.out k hkl HS.out (by rw [HC.out]; exact he)
        clear HS HX HP1 HP2
        go_wp2
        go_ret
        exact ⟨by rw [HP.out]; rfl, hB' _⟩
      · have hei : ((xc : Int) == c) = false := by simpa using he
        have HS' : Hid (∀ i (hi : i < X.length), i < k + 1 → X[i].s.c ≠ c) := fun i hi hik => by
          by_cases e : i = k
          · subst e; rw [HC.out]; exact he
          · exact HX.out i hi hik e
        clear HS HX
        go_wp2
        go_roundw
        case rel => exact ⟨k + 1, by go_num, by omega, HS', hB' _⟩
        case measure => simp [intOf]; omega
    · have hlt' : ¬ (k : Int) < (n : Int) := by omega
      have HP : Hid (P = -1) := HP2.out fun i hi => HS.out i hi (by omega)
      clear HS
      go_wp2
      go_ret
      exact ⟨by rw [HP.out]; rfl, hB⟩
end Go.Proofs.Ytooaiomghbjpiaa
