/-
  A window of the call's own; THE WALK of 'lives'.
-/
import Derived.Test.YtkdjpleedaldcaaDoorAck20
import Derived.Test.YtkdjpleedaldcaaDoorRefs
namespace Go.Proofs.YtkdjpleedaldcaaDoor.W
open Go.RowKit
set_option maxRecDepth 20000


/-- A window of the call's own: it lies from block B on, the call began in w0. -/
structure Lw (B : Nat) (w0 w : World) (p : Nat) (m : Wn) : Prop where
  «at» : WAt w p m
  ok : m.Ok
  low : B ≤ p
  bel : Below B w0 w
  tab : Tab w0
  pos : 0 < B


section

variable {B p : Nat} {w0 w : World} {m : Wn}

theorem Lw.size (h : Lw B w0 w p m) : B ≤ w.heap.size := Nat.le_of_lt (Nat.lt_of_le_of_lt h.low h.at.lt)

theorem Lw.tabs (h : Lw B w0 w p m) : Tab w := h.tab.below h.bel h.pos

theorem Lw.go {w' : World} (h : Lw B w0 w p m) (b : Below w.heap.size w w') : Lw B w0 w' p m := ⟨h.at.below b h.at.lt, h.ok, h.low, h.bel.trans (b.mono h.size), h.tab, h.pos⟩

theorem Lw.on {w' : World} {m' : Wn} (h : Lw B w0 w p m) (ha : WAt w' p m') (ho : Only p w w') (ok : m'.Ok) : Lw B w0 w' p m' := ⟨ha, ok, h.low, h.bel.trans (ho.below h.low h.size), h.tab, h.pos⟩

theorem Lw.send (h : Lw B w0 w p m) (hv now : Int) : Calls Tryd.prog 7 #[.pointer (some ⟨p, 0, none⟩), .int .i64 hv, .int .i64 now] w fun e w' =>
    ∃ a cap, e = .returned (.slice a (sendL m (nowN now) (lookN m hv)).length cap) ∧ Row w' (.slice a (sendL m (nowN now) (lookN m hv)).length cap) (icells (sendL m (nowN now) (lookN m hv))) ∧ Lw B w0 w' p (sendM m (nowN now) (lookN m hv)) := by
  refine (send_at h.at h.ok hv now).mono ?_
  rintro e w' ⟨v, rfl, r, a, o⟩
  obtain ⟨ad, cap, rfl⟩ := r.row.sliceInts
  exact ⟨ad, cap, rfl, r.row, h.on a o (sendM_ok h.ok (nowN_le now) _ (lookN_le m hv))⟩

theorem Lw.ack (h : Lw B w0 w p m) (num set : Nat) (hs : IsSet set) : Calls Tryd.prog 13 #[.pointer (some ⟨p, 0, none⟩), .int .u16 num, .int .u64 set] w fun e w' =>
    e = .returned (.int .i64 (ackN m num)) ∧ Lw B w0 w' p (ackW m num set) := by
  refine (ack_at h.at h.ok num set hs h.tabs).mono ?_
  rintro e w' ⟨rfl, a, o⟩
  exact ⟨rfl, h.on a o (ackW_ok h.ok _ _)⟩

theorem Lw.num (h : Lw B w0 w p m) (i : Int) : Calls Tryd.prog 8 #[.pointer (some ⟨p, 0, none⟩), .int .i64 i] w fun e w' => e = .returned (.int .u16 (moveI m.b i)) ∧ w' = w := num_at h.at h.ok.s1 i

theorem lw_new {B : Nat} {w0 w : World} (n t : Nat) (h1 : 1 ≤ n) (h2 : n ≤ 32) (h3 : 1 ≤ t) (h4 : t ≤ 1000) (hb : Below B w0 w) (hB : B ≤ w.heap.size) (hT : Tab w0) (h0 : 0 < B) :
    Calls Tryd.prog 4 #[.int .i64 n, .int .i64 t] w fun e w' => e = .returned (.pointer (some ⟨w.heap.size, 0, none⟩)) ∧ Lw B w0 w' w.heap.size (newW n t) := by
  refine (new_good n t w h1 h2 h3 h4).mono ?_
  rintro e w' ⟨rfl, a, b, _⟩
  exact ⟨rfl, a, newW_ok h1 h2 h3 h4, hB, hb.trans (b.mono hB), hT, h0⟩

end

end Go.Proofs.YtkdjpleedaldcaaDoor.W
