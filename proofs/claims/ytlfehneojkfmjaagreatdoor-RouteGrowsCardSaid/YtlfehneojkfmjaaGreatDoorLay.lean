/-
  lay: a table of ties, and the document's, by its contract.
-/
import Derived.Test.YtlfehneojkfmjaaGreatDoorLives8
import Derived.Test.YtlfehneojkfmjaaGreatDoorTies
import Derived.Test.YtlfehneojkfmjaaGreatDoorRBind
namespace Go.Proofs.YtlfehneojkfmjaaGreatDoor
open Go.RowKit Go.Sort Go.Shelf

/-- What a tie does to a table. -/
def stepT (s : Tb) (a : Ti) : Tb := ((s.declare a.x).2.bind a.b).2
def layT (l : List Ti) : Tb := l.foldl stepT newT
theorem layT_take {l : List Ti} {k : Nat} (h : k < l.length) : layT (l.take (k + 1)) = stepT (layT (l.take k)) l[k] := by
  unfold layT
  rw [List.take_succ_eq_append_getElem h, List.foldl_append]
  rfl
/-- Two tables of the call's own, the program's and the document's, apart. -/
structure Two (w wr : World) (pt : Nat) (Ft : Nat → Prop) (s1 : Tb) (pr : Nat) (Fr : Nat → Prop) (s2 : Tb) : Prop where
  t : T wr pt Ft s1
  r : RT wr pr Fr s2
  ok1 : s1.Ok
  ok2 : s2.Ok
  ft : ∀ k, Ft k → w.heap.size ≤ k
  fr : ∀ k, Fr k → w.heap.size ≤ k
  ap : ∀ k, Ft k → ¬ Fr k
  bel : Below w.heap.size w wr
theorem Two.goT {w wr wr' : World} {pt pr : Nat} {Ft Fr Ft' : Nat → Prop} {s1 s2 s1' : Tb} (h : Two w wr pt Ft s1 pr Fr s2) (t : T wr' pt Ft' s1') (m : Moved wr wr' Ft Ft') (ok : s1'.Ok) : Two w wr' pt Ft' s1' pr Fr s2 :=
  ⟨t, h.r.beside m h.ap, ok, h.ok2, m.from h.ft h.bel.size, h.fr, m.apart h.r.lts h.ap, m.below h.ft h.bel h.bel.size⟩
theorem Two.goR {w wr wr' : World} {pt pr : Nat} {Ft Fr Fr' : Nat → Prop} {s1 s2 s2' : Tb} (h : Two w wr pt Ft s1 pr Fr s2) (r : RT wr' pr Fr' s2') (m : Moved wr wr' Fr Fr') (ok : s2'.Ok) : Two w wr' pt Ft s1 pr Fr' s2' :=
  ⟨h.t.beside m (fun k hk ht => h.ap k ht hk), r, h.ok1, ok, h.ft, m.from h.fr h.bel.size, fun k ht hr => m.apart h.t.lts (fun k hk ht => h.ap k ht hk) k hr ht, m.below h.fr h.bel h.bel.size⟩
theorem Two.below {w wr wr' : World} {pt pr : Nat} {Ft Fr : Nat → Prop} {s1 s2 : Tb} (h : Two w wr pt Ft s1 pr Fr s2) (b : Below wr.heap.size wr wr') : Two w wr' pt Ft s1 pr Fr s2 := h.goT (h.t.kept b) (.of_below b) h.ok1
theorem Two.hold {w wr : World} {pt pr : Nat} {Ft Fr : Nat → Prop} {s1 s2 : Tb} (h : Two w wr pt Ft s1 pr Fr s2) : HoldT w wr pt Ft s1 := ⟨h.t, h.ok1, h.ft, h.bel⟩
theorem Moved.miss {w w' : World} {F F' : Nat → Prop} {b : Nat} (m : Moved w w' F F') (h : ¬ F b) (hb : b < w.heap.size) : ¬ F' b ∧ w'.heap[b]? = w.heap[b]? := ⟨fun hf => (m.sub b hf).elim h (by omega), m.block b hb h⟩
theorem TiAt.same {w w' : World} {b off : Nat} {x : Ti} (h : TiAt w b off x) (hb : w'.heap[b]? = w.heap[b]?) : TiAt w' b off x := by
  have e : ∀ j, w'.cell? ⟨b, j, none⟩ = w.cell? ⟨b, j, none⟩ := fun j => by simp [World.cell?, hb]
  exact ⟨(e _).trans h.c0, (e _).trans h.c1, (e _).trans h.c2, (e _).trans h.c3, (e _).trans h.c4, (e _).trans h.c5⟩

set_option maxRecDepth 20000 in
set_option maxHeartbeats 4000000 in
theorem lay_any (v : Value) (l : List Ti) (w : World) (hr : RowOf tcells w v l) (hf : ∀ a ∈ l, a.Fits) (hl : l.length ≤ 1000000) :
    Calls Tryz.prog 8 #[v] w fun e w' => ∃ pt pr Ft Fr, e = .returned (.tuple #[.pointer (some ⟨pt, 0, none⟩), .pointer (some ⟨pr, 0, none⟩)]) ∧ Two w w' pt Ft (layT l) pr Fr (layT l) := by
  obtain ⟨va, vc, rfl⟩ := hr.slice
  go_enter Tryz.func8, Tryz.ntmps8
  go_wp2_with fail
  refine (new_any w).mono ?_
  rintro e w1 ⟨pt, rfl, F1, q1, hF, b1⟩
  have H0 : HoldT w w1 pt F1 newT := ⟨q1, newT_ok, hF, b1⟩
  obtain ⟨W, fold⟩ : ∃ W, w1.alloc (.cells #[.slice none 0 0, .slice none 0 0] 54) = W := ⟨_, rfl⟩
  have bW : Below w1.heap.size w1 W := by rw [← fold]; exact (Below.refl _ _).alloc (Nat.le_refl _) _
  have H2 : Two w W pt F1 newT w1.heap.size (fun k => k = w1.heap.size) newT := by
    have h := H0.below bW
    refine ⟨h.t, by rw [← fold]; exact rt_new w1, newT_ok, newT_ok, h.frm, fun k hk => ?_, fun k hk he => ?_, h.bel⟩
    · have := b1.size
      rw [hk]; exact this
    · have := q1.lts k hk
      omega
  clear q1 hF H0
  go_wp2
  clear fold
  go_loopw [7, 13] (fun u7 u13 wr => ∃ (k : Nat) (Ft Fr : Nat → Prop), u13 = .int .i64 k ∧ k ≤ l.length ∧ Two w wr pt Ft (layT (l.take k)) w1.heap.size Fr (layT (l.take k))) (fun u7 u13 wr => l.length - (intOf u13).toNat)
  case atStart => exact ⟨0, _, _, rfl, Nat.zero_le _, H2⟩
  case round =>
    obtain ⟨k, Ft, Fr, rfl, hk, H⟩ := hrel
    clear H2
    by_cases hlt2 : k < l.length
    · have hlt : (k : Int) < (l.length : Int) := by omega
      obtain ⟨b, off, rfl, hi⟩ := (hr.below H.bel (Nat.le_refl _)).ties k hlt2
      have hfa := hf _ (List.getElem_mem hlt2)
      have hst := layT_take hlt2
      clear hr hf
      generalize l[k] = a at *
      obtain ⟨e0, e1, e2, e3, e4, e5⟩ := hi
      obtain ⟨X, foldX⟩ : ∃ X, wr.alloc (.cells #[.string a.x.name, .int .i64 a.x.kind, .bool a.x.fed, .string a.b.ex, .string a.b.que, .string a.b.pat] 43) = X := ⟨_, rfl⟩
      have bX : Below wr.heap.size wr X := by rw [← foldX]; exact (Below.refl _ _).alloc (Nat.le_refl _) _
      have hXs : Hid (wr.heap.size < X.heap.size) := by show _ < _; rw [← foldX]; simp
      have tX : TiAt X wr.heap.size 0 a := by
        have hb : X.heap[wr.heap.size]? = some (.cells (tcells a).toArray 43 (0, 0)) := by rw [← foldX]; exact heap_alloc_new wr _
        exact ⟨cell_of_list hb 0, cell_of_list hb 1, cell_of_list hb 2, cell_of_list hb 3, cell_of_list hb 4, cell_of_list hb 5⟩
      have HX := H.below bX
      have nt : Hid (¬ Ft wr.heap.size ∧ ¬ Fr wr.heap.size) := ⟨fun h => by have := H.t.lts _ h; omega, fun h => by have := H.r.lts _ h; omega⟩
      have hD := declare_any pt Ft _ a.x X HX.t HX.ok1 hfa.name
      have okD := HX.ok1.declare a.x
      have HST : Hid _ := hst
      have TX : Hid _ := tX
      generalize layT (l.take k) = s at *
      obtain ⟨x0, x1, x2, x3, x4, x5⟩ := tX
      simp only [Nat.zero_add] at x0 x1 x2 x3 x4 x5
      clear hst
      go_wp2_with fail
      refine hD.mono ?_
      rintro e w2 ⟨rfl, F2, t2, m2⟩
      have G2 := HX.goT t2 m2 okD
      obtain ⟨nt2, c2⟩ := m2.miss nt.out.1 hXs.out
      have s2 : Hid (wr.heap.size < w2.heap.size) := Nat.lt_of_lt_of_le hXs.out m2.size
      have T2 := (show TiAt X wr.heap.size 0 a from TX.out).same c2
      have TX2 : Hid _ := T2
      obtain ⟨y0, y1, y2, y3, y4, y5⟩ := T2
      simp only [Nat.zero_add] at y0 y1 y2 y3 y4 y5
      have hRD := rdeclare_any w1.heap.size Fr s a.x w2 G2.r G2.ok2 hfa.name
      have okRD := G2.ok2.declare a.x
      have NT2 : Hid _ := nt2
      clear foldX x0 x1 x2 x3 x4 x5 hD t2 m2 c2 nt2 e0 e1 e2 e3 e4 e5
      go_wp2_with fail
      refine hRD.mono ?_
      rintro e w3 ⟨rfl, F3, t3, m3⟩
      have G3 := G2.goR t3 m3 okRD
      obtain ⟨nt3, c3⟩ := m3.miss nt.out.2 s2.out
      have s3 : Hid (wr.heap.size < w3.heap.size) := Nat.lt_of_lt_of_le s2.out m3.size
      have T3 := (show TiAt w2 wr.heap.size 0 a from TX2.out).same c3
      have TX3 : Hid _ := T3
      obtain ⟨z0, z1, z2, z3, z4, z5⟩ := T3
      simp only [Nat.zero_add] at z0 z1 z2 z3 z4 z5
      have hB := bind_any pt F2 _ a.b w3 G3.t G3.ok1 hfa.fit
      have okB := G3.ok1.bind hfa.fit
      have NT3 : Hid _ := nt3
      clear y0 y1 y2 y3 y4 y5 hRD t3 m3 c3 nt3
      go_wp2_with fail
      refine hB.mono ?_
      rintro e w4 ⟨rfl, F4, t4, m4⟩
      have G4 := G3.goT t4 m4 okB
      obtain ⟨nt4, c4⟩ := m4.miss NT2.out s3.out
      have T4 := (show TiAt w3 wr.heap.size 0 a from TX3.out).same c4
      obtain ⟨z0, z1, z2, z3, z4, z5⟩ := T4
      simp only [Nat.zero_add] at z0 z1 z2 z3 z4 z5
      have hRB := rbind_any w1.heap.size F3 _ a.b w4 G4.r G4.ok2 hfa.fit
      have okRB := G4.ok2.bind hfa.fit
      clear hB t4 m4 c4 nt4
      go_wp2_with fail
      refine hRB.mono ?_
      rintro e w5 ⟨rfl, F5, t5, m5⟩
      have G5 := G4.goR t5 m5 okRB
      clear hRB t5 m5
      go_wp2
      go_roundw
      case rel => exact ⟨k + 1, F4, F5, by go_num, by omega, by rw [HST.out]; exact G5⟩
      case measure => simp [intOf]; omega
    · obtain rfl : k = l.length := by omega
      rw [List.take_length] at H
      clear hr
      go_wp2
      go_ret2
      exact ⟨_, _, _, _, rfl, H⟩
end Go.Proofs.YtlfehneojkfmjaaGreatDoor
