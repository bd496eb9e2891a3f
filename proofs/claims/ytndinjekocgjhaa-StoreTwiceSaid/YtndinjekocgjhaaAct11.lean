/-
  act: what is done to both stores, by its contract.
-/
import Derived.Test.YtndinjekocgjhaaRDoB
import Derived.Test.YtndinjekocgjhaaLight
import Derived.Test.YtndinjekocgjhaaNames2
import Derived.Deep.RegionHeld3
namespace Go.Proofs.Ytndinjekocgjhaa
open Go.RowKit

theorem rfail_any (p : Nat) (F : Nat → Prop) (m : M) (k : Int) (w : World) (h : R w p F m) (ok : m.Ok) (hc : m.count ≤ 1000000) (hk : -9223372036854775808 ≤ k ∧ k < 9223372036854775808) :
    Calls Try.prog 40 #[.pointer (some ⟨p, 0, none⟩), .int .i64 k] w fun e w' => e = .returned (.tuple #[]) ∧ ∃ F', R w' p F' (m.fail k) ∧ Moved w w' F F' := by
  obtain ⟨A, D, S, L, kp, h, rfl⟩ := h
  exact rfail_at h ok k hk hc
theorem rread_any (p : Nat) (F : Nat → Prop) (m : M) (n : ByteArray) (w : World) (h : R w p F m) (ok : m.Ok) (hs : n.size ≤ maxLen) :
    Calls Try.prog 37 #[.pointer (some ⟨p, 0, none⟩), .string n] w fun e w' => ∃ v, e = .returned (.tuple #[v, .int .i64 (m.read n).2]) ∧ Holds w' v (m.read n).1 ∧ Below w.heap.size w w' := by
  obtain ⟨A, D, S, L, kp, h, rfl⟩ := h
  exact rread_at h ok n hs
/-- Two stores of the call's own, the program's and the document's, apart. -/
structure Two (w wr : World) (p : Nat) (F : Nat → Prop) (m1 : M) (q : Nat) (G : Nat → Prop) (m2 : M) : Prop where
  t : St wr p F m1
  r : R wr q G m2
  ok1 : m1.Ok
  ok2 : m2.Ok
  ft : ∀ k, F k → w.heap.size ≤ k
  fr : ∀ k, G k → w.heap.size ≤ k
  ap : ∀ k, F k → ¬ G k
  bel : Below w.heap.size w wr
section
variable {w wr wr' : World} {p q : Nat} {F G F' G' : Nat → Prop} {m1 m2 m' : M}
theorem Two.goT (h : Two w wr p F m1 q G m2) (t : St wr' p F' m') (m : Moved wr wr' F F') (ok : m'.Ok) : Two w wr' p F' m' q G m2 :=
  ⟨t, h.r.beside m h.ap, ok, h.ok2, m.from h.ft h.bel.size, h.fr, m.apart h.r.lts h.ap, m.below h.ft h.bel h.bel.size⟩
theorem Two.goR (h : Two w wr p F m1 q G m2) (r : R wr' q G' m') (m : Moved wr wr' G G') (ok : m'.Ok) : Two w wr' p F m1 q G' m' :=
  ⟨h.t.beside m (fun k hk ht => h.ap k ht hk), r, h.ok1, ok, h.ft, m.from h.fr h.bel.size, fun k ht hr => m.apart h.t.lts (fun k hk ht => h.ap k ht hk) k hr ht, m.below h.fr h.bel h.bel.size⟩
theorem Two.below (h : Two w wr p F m1 q G m2) (b : Below wr.heap.size wr wr') : Two w wr' p F m1 q G m2 := h.goT (h.t.kept b) (.of_below b) h.ok1
end
theorem Moved.miss {w w' : World} {F F' : Nat → Prop} {b : Nat} (m : Moved w w' F F') (h : ¬ F b) (hb : b < w.heap.size) : ¬ F' b ∧ w'.heap[b]? = w.heap[b]? := ⟨fun hf => (m.sub b hf).elim h (by omega), m.block b hb h⟩
/-- An act's cells in a box. -/
structure Box6 (w : World) (b : Nat) (x : Ac) : Prop where
  c0 : w.cell? ⟨b, 0, none⟩ = some (.int .i64 x.kind)
  c1 : w.cell? ⟨b, 1, none⟩ = some (.string x.a)
  c2 : w.cell? ⟨b, 2, none⟩ = some (.string x.b)
  c3 : w.cell? ⟨b, 3, none⟩ = some (.slice x.da x.dl x.dc)
  c4 : w.cell? ⟨b, 4, none⟩ = some (.int .i64 x.n)
  c5 : w.cell? ⟨b, 5, none⟩ = some (.int .i64 x.m)
theorem Box6.same {w w' : World} {b : Nat} {x : Ac} (h : Box6 w b x) (hb : w'.heap[b]? = w.heap[b]?) : Box6 w' b x := by
  have e : ∀ j, w'.cell? ⟨b, j, none⟩ = w.cell? ⟨b, j, none⟩ := fun j => by simp [World.cell?, hb]
  exact ⟨(e _).trans h.c0, (e _).trans h.c1, (e _).trans h.c2, (e _).trans h.c3, (e _).trans h.c4, (e _).trans h.c5⟩
/-- The two stores beside it. -/
structure St6 (w wr : World) (p : Nat) (F : Nat → Prop) (m1 : M) (q : Nat) (G : Nat → Prop) (m2 : M) (bx : Nat) (x : Ac) : Prop where
  two : Two w wr p F m1 q G m2
  nt : ¬ F bx
  nr : ¬ G bx
  box : Box6 wr bx x
section
variable {w wr wr' : World} {p q bx : Nat} {F G F' G' : Nat → Prop} {m1 m2 m' : M} {x : Ac}
theorem St6.goT (h : St6 w wr p F m1 q G m2 bx x) (t : St wr' p F' m') (m : Moved wr wr' F F') (ok : m'.Ok) : St6 w wr' p F' m' q G m2 bx x := by
  obtain ⟨h1, h2⟩ := m.miss h.nt (World.block_lt_of_cell? _ _ h.box.c0)
  exact ⟨h.two.goT t m ok, h1, h.nr, h.box.same h2⟩
theorem St6.goR (h : St6 w wr p F m1 q G m2 bx x) (r : R wr' q G' m') (m : Moved wr wr' G G') (ok : m'.Ok) : St6 w wr' p F m1 q G' m' bx x := by
  obtain ⟨h1, h2⟩ := m.miss h.nr (World.block_lt_of_cell? _ _ h.box.c0)
  exact ⟨h.two.goR r m ok, h.nt, h1, h.box.same h2⟩
theorem St6.below (h : St6 w wr p F m1 q G m2 bx x) (b : Below wr.heap.size wr wr') : St6 w wr' p F m1 q G m2 bx x := h.goT (h.two.t.kept b) (.of_below b) h.two.ok1
theorem Two.box {X : World} (h : Two w wr p F m1 q G m2) (x : Ac) (hX : wr.alloc (.cells #[.int .i64 x.kind, .string x.a, .string x.b, .slice x.da x.dl x.dc, .int .i64 x.n, .int .i64 x.m] 31) = X) : St6 w X p F m1 q G m2 wr.heap.size x := by
  have bX : Below wr.heap.size wr X := by rw [← hX]; exact (Below.refl _ _).alloc (Nat.le_refl _) _
  obtain ⟨h0, h1, h2, h3, h4, h5⟩ := ac_box wr x hX
  exact ⟨h.below bX, fun hf => by have := h.t.lts _ hf; omega, fun hg => by have := h.r.lts _ hg; omega, ⟨h0, h1, h2, h3, h4, h5⟩⟩
end
theorem owns_moved {w w' : World} {F F' : Nat → Prop} {b : Nat} {t : TypeId} {v : Value} {bs : List UInt8} (h : Owns w b t v bs) (m : Moved w w' F F') (hF : ∀ k, F k → k < b) : Owns w' b t v bs := by
  unfold Owns World.ownsRow at *
  obtain ⟨h1, h2⟩ := h
  refine ⟨h1, ?_⟩
  rcases h2 with h2 | ⟨g, cap, cur, rfl, h3, h4, h5⟩
  · exact .inl h2
  · exact .inr ⟨g, cap, cur, rfl, h3, (m.block g (Array.getElem?_eq_some_iff.1 h4).1 (fun hf => by have := hF g hf; omega)).trans h4, h5⟩
/-- What an act does. -/
def actM (m : M) (x : Ac) (bl : List UInt8) : M :=
  if x.kind = 0 then (m.make x.a).2 else if x.kind = 1 then (m.write x.a bl).2 else if x.kind = 2 then (m.cut x.a x.n).2 else if x.kind = 3 then (m.sync x.a).2 else if x.kind = 4 then (m.move x.a x.b).2 else if x.kind = 5 then (m.drop x.a).2 else if x.kind = 6 then m.commit.2 else if x.kind = 8 then (m.plan x.n x.m).2 else if x.kind = 9 then m.fail x.n else if x.kind = 10 then m.power else m
theorem actM_ok {m : M} (ok : m.Ok) {W : World} {x : Ac} (hf : x.Fits W) (bl : List UInt8) : (actM m x bl).Ok := by
  unfold actM
  split
  · exact M.make_ok ok _
  split
  · exact M.write_ok ok _ _
  split
  · exact M.cut_ok ok _ _
  split
  · exact M.sync_ok ok _
  split
  · exact M.move_ok ok _ _
  split
  · exact M.drop_ok ok _
  split
  · exact M.commit_ok ok
  split
  · exact M.plan_ok ok _ _ hf.n.2 hf.m
  split
  · exact ok.fail _
  split
  · exact ok.power
  · exact ok
theorem actM_count (m : M) (x : Ac) (bl : List UInt8) : (actM m x bl).count ≤ m.count + 1 := by
  have hs : ∀ f : M → M, (f m.tick).count = m.tick.count → (m.step f).2.count ≤ m.count + 1 := fun f hf => M.step_count m f hf
  unfold actM M.make M.write M.cut M.sync M.move M.drop M.commit M.plan
  repeat' split
  all_goals first | exact Nat.le_succ _ | exact hs _ rfl | exact Nat.le_refl _
set_option maxRecDepth 20000 in
set_option maxHeartbeats 8000000 in
theorem act_any (x : Ac) (bl : List UInt8) (w0 w : World) (p q : Nat) (F G : Nat → Prop) (m : M) (H : Two w0 w p F m q G m) (hf : x.Fits w0) (hbl : Holds w0 (.slice x.da x.dl x.dc) bl) (hb6 : bl.length ≤ 1000000) (hc : m.count ≤ 900000) :
    Calls Try.prog 9 #[.pointer (some ⟨p, 0, none⟩), .pointer (some ⟨q, 0, none⟩), acv x] w fun e w' => e = .returned (.bool true) ∧ ∃ F' G', Two w0 w' p F' (actM m x bl) q G' (actM m x bl) := by
  have hal := hf.al
  have hbn := hf.bl
  have hnr := hf.n
  have hok := actM_ok H.ok1 hf bl
  obtain ⟨X, fold⟩ : ∃ X, w.alloc (.cells #[.int .i64 x.kind, .string x.a, .string x.b, .slice x.da x.dl x.dc, .int .i64 x.n, .int .i64 x.m] 31) = X := ⟨_, rfl⟩
  have HX := H.box x fold
  have HD : St6 w0 X.drew p F m q G m w.heap.size x := HX.below (Below.refl _ _).drew
  obtain ⟨e0, e1, e2, e3, e4, e5⟩ := HX.box
  have HK : Hid (∀ {V : World} {F' G' : Nat → Prop} {m1 m2 : M}, St6 w0 V p F' m1 q G' m2 w.heap.size x → Box6 V w.heap.size x) := fun h => h.box
  have HH : Hid (∀ {V : World} {F' G' : Nat → Prop} {m1 m2 : M}, St6 w0 V p F' m1 q G' m2 w.heap.size x → Holds V (.slice x.da x.dl x.dc) bl) := fun h => hbl.below h.two.bel (Nat.le_refl _)
  obtain ⟨kd, xa, xb, da, dl, dc, xn, xm⟩ := x
  simp only at e0 e1 e2 e3 e4 e5 hal hbn hnr fold
  show Calls Try.prog 9 #[.pointer (some ⟨p, 0, none⟩), .pointer (some ⟨q, 0, none⟩), .agg #[.int .i64 kd, .string xa, .string xb, .slice da dl dc, .int .i64 xn, .int .i64 xm]] w _
  by_cases k0 : kd = 0
  · subst k0
    have hA : actM m ⟨0, xa, xb, da, dl, dc, xn, xm⟩ bl = (m.make xa).2 := rfl
    rw [hA] at hok ⊢
    have kT : Calls Try.prog 21 #[.pointer (some ⟨p, 0, none⟩), .string xa] X.drew fun e w' => e = .returned (.int .i64 (m.make xa).1) ∧ ∃ F', St w' p F' (m.make xa).2 ∧ Moved X.drew w' F F' := make_any p F m xa X.drew HD.two.t HD.two.ok1 hc hal
    have kR : Hid (∀ V F' m1, St6 w0 V p F' m1 q G m w.heap.size ⟨0, xa, xb, da, dl, dc, xn, xm⟩ → Calls Try.prog 25 #[.pointer (some ⟨q, 0, none⟩), .string xa] V fun e w' => e = .returned (.int .i64 (m.make xa).1) ∧ ∃ F', R w' q F' (m.make xa).2 ∧ Moved V w' G F') := fun V F' m1 h => rmake_any q G m xa V h.two.r h.two.ok2 hc hal
    have OK : Hid _ := hok
    generalize (m.make xa).1 = z at kT kR
    generalize (m.make xa).2 = s' at *
    clear hA H HX hok hal hbn hnr hf hbl hb6 HH
    go_enter Try.func9, Try.ntmps9
    go_wp2
    first | (go_region_held3 (fun w' => w'.cell? ⟨w.heap.size, 0, none⟩ = some (.int .i64 0) ∧ w'.cell? ⟨w.heap.size, 1, none⟩ = some (.string xa) ∧ w'.cell? ⟨w.heap.size, 2, none⟩ = some (.string xb) ∧ w'.cell? ⟨w.heap.size, 3, none⟩ = some (.slice da dl dc) ∧ w'.cell? ⟨w.heap.size, 4, none⟩ = some (.int .i64 xn) ∧ w'.cell? ⟨w.heap.size, 5, none⟩ = some (.int .i64 xm)) (go_keep) (first
      | (go_at_call 21; refine kT.mono ?_; clear kT; rintro e wx ⟨rfl, Fx, tx, mx⟩; have Sx := HD.goT tx mx OK.out; obtain ⟨y0, y1, y2, y3, y4, y5⟩ := HK.out Sx; clear tx mx)
      | (go_at_call 25; refine (kR.out wx _ _ Sx).mono ?_; clear kR; rintro e wy ⟨rfl, Fy, ty, my⟩; have Sy := Sx.goR ty my OK.out; obtain ⟨v0, v1, v2, v3, v4, v5⟩ := HK.out Sy; clear ty my))) | fail
    all_goals go_wp2
    all_goals go_ret
    all_goals exact ⟨K.ret_bool (by simp), _, _, Sy.two⟩
  by_cases k2 : kd = 2
  · subst k2
    have hA : actM m ⟨2, xa, xb, da, dl, dc, xn, xm⟩ bl = (m.cut xa xn).2 := rfl
    rw [hA] at hok ⊢
    have kT : Calls Try.prog 29 #[.pointer (some ⟨p, 0, none⟩), .string xa, .int .i64 xn] X.drew fun e w' => e = .returned (.int .i64 (m.cut xa xn).1) ∧ ∃ F', St w' p F' (m.cut xa xn).2 ∧ Moved X.drew w' F F' := cut_any p F m xa xn X.drew HD.two.t HD.two.ok1 hc hal
    have kR : Hid (∀ V F' m1, St6 w0 V p F' m1 q G m w.heap.size ⟨2, xa, xb, da, dl, dc, xn, xm⟩ → Calls Try.prog 30 #[.pointer (some ⟨q, 0, none⟩), .string xa, .int .i64 xn] V fun e w' => e = .returned (.int .i64 (m.cut xa xn).1) ∧ ∃ F', R w' q F' (m.cut xa xn).2 ∧ Moved V w' G F') := fun V F' m1 h => rcut_any q G m xa xn V h.two.r h.two.ok2 hc hal
    have OK : Hid _ := hok
    generalize (m.cut xa xn).1 = z at kT kR
    generalize (m.cut xa xn).2 = s' at *
    clear hA H HX hok hal hbn hnr hf hbl hb6 HH
    go_enter Try.func9, Try.ntmps9
    go_wp2
    first | (go_region_held3 (fun w' => w'.cell? ⟨w.heap.size, 0, none⟩ = some (.int .i64 2) ∧ w'.cell? ⟨w.heap.size, 1, none⟩ = some (.string xa) ∧ w'.cell? ⟨w.heap.size, 2, none⟩ = some (.string xb) ∧ w'.cell? ⟨w.heap.size, 3, none⟩ = some (.slice da dl dc) ∧ w'.cell? ⟨w.heap.size, 4, none⟩ = some (.int .i64 xn) ∧ w'.cell? ⟨w.heap.size, 5, none⟩ = some (.int .i64 xm)) (go_keep) (first
      | (go_at_call 29; refine kT.mono ?_; clear kT; rintro e wx ⟨rfl, Fx, tx, mx⟩; have Sx := HD.goT tx mx OK.out; obtain ⟨y0, y1, y2, y3, y4, y5⟩ := HK.out Sx; clear tx mx)
      | (go_at_call 30; refine (kR.out wx _ _ Sx).mono ?_; clear kR; rintro e wy ⟨rfl, Fy, ty, my⟩; have Sy := Sx.goR ty my OK.out; obtain ⟨v0, v1, v2, v3, v4, v5⟩ := HK.out Sy; clear ty my))) | fail
    all_goals go_wp2
    all_goals go_ret
    all_goals exact ⟨K.ret_bool (by simp), _, _, Sy.two⟩
  by_cases k3 : kd = 3
  · subst k3
    have hA : actM m ⟨3, xa, xb, da, dl, dc, xn, xm⟩ bl = (m.sync xa).2 := rfl
    rw [hA] at hok ⊢
    have kT : Calls Try.prog 23 #[.pointer (some ⟨p, 0, none⟩), .string xa] X.drew fun e w' => e = .returned (.int .i64 (m.sync xa).1) ∧ ∃ F', St w' p F' (m.sync xa).2 ∧ Moved X.drew w' F F' := sync_any p F m xa X.drew HD.two.t HD.two.ok1 hc hal
    have kR : Hid (∀ V F' m1, St6 w0 V p F' m1 q G m w.heap.size ⟨3, xa, xb, da, dl, dc, xn, xm⟩ → Calls Try.prog 31 #[.pointer (some ⟨q, 0, none⟩), .string xa] V fun e w' => e = .returned (.int .i64 (m.sync xa).1) ∧ ∃ F', R w' q F' (m.sync xa).2 ∧ Moved V w' G F') := fun V F' m1 h => rsync_any q G m xa V h.two.r h.two.ok2 hc hal
    have OK : Hid _ := hok
    generalize (m.sync xa).1 = z at kT kR
    generalize (m.sync xa).2 = s' at *
    clear hA H HX hok hal hbn hnr hf hbl hb6 HH
    go_enter Try.func9, Try.ntmps9
    go_wp2
    first | (go_region_held3 (fun w' => w'.cell? ⟨w.heap.size, 0, none⟩ = some (.int .i64 3) ∧ w'.cell? ⟨w.heap.size, 1, none⟩ = some (.string xa) ∧ w'.cell? ⟨w.heap.size, 2, none⟩ = some (.string xb) ∧ w'.cell? ⟨w.heap.size, 3, none⟩ = some (.slice da dl dc) ∧ w'.cell? ⟨w.heap.size, 4, none⟩ = some (.int .i64 xn) ∧ w'.cell? ⟨w.heap.size, 5, none⟩ = some (.int .i64 xm)) (go_keep) (first
      | (go_at_call 23; refine kT.mono ?_; clear kT; rintro e wx ⟨rfl, Fx, tx, mx⟩; have Sx := HD.goT tx mx OK.out; obtain ⟨y0, y1, y2, y3, y4, y5⟩ := HK.out Sx; clear tx mx)
      | (go_at_call 31; refine (kR.out wx _ _ Sx).mono ?_; clear kR; rintro e wy ⟨rfl, Fy, ty, my⟩; have Sy := Sx.goR ty my OK.out; obtain ⟨v0, v1, v2, v3, v4, v5⟩ := HK.out Sy; clear ty my))) | fail
    all_goals go_wp2
    all_goals go_ret
    all_goals exact ⟨K.ret_bool (by simp), _, _, Sy.two⟩
  by_cases k4 : kd = 4
  · subst k4
    have hA : actM m ⟨4, xa, xb, da, dl, dc, xn, xm⟩ bl = (m.move xa xb).2 := rfl
    rw [hA] at hok ⊢
    have kT : Calls Try.prog 32 #[.pointer (some ⟨p, 0, none⟩), .string xa, .string xb] X.drew fun e w' => e = .returned (.int .i64 (m.move xa xb).1) ∧ ∃ F', St w' p F' (m.move xa xb).2 ∧ Moved X.drew w' F F' := move_any p F m xa xb X.drew HD.two.t HD.two.ok1 hc hal hbn
    have kR : Hid (∀ V F' m1, St6 w0 V p F' m1 q G m w.heap.size ⟨4, xa, xb, da, dl, dc, xn, xm⟩ → Calls Try.prog 33 #[.pointer (some ⟨q, 0, none⟩), .string xa, .string xb] V fun e w' => e = .returned (.int .i64 (m.move xa xb).1) ∧ ∃ F', R w' q F' (m.move xa xb).2 ∧ Moved V w' G F') := fun V F' m1 h => rmove_any q G m xa xb V h.two.r h.two.ok2 hc hal hbn
    have OK : Hid _ := hok
    generalize (m.move xa xb).1 = z at kT kR
    generalize (m.move xa xb).2 = s' at *
    clear hA H HX hok hal hbn hnr hf hbl hb6 HH
    go_enter Try.func9, Try.ntmps9
    go_wp2
    first | (go_region_held3 (fun w' => w'.cell? ⟨w.heap.size, 0, none⟩ = some (.int .i64 4) ∧ w'.cell? ⟨w.heap.size, 1, none⟩ = some (.string xa) ∧ w'.cell? ⟨w.heap.size, 2, none⟩ = some (.string xb) ∧ w'.cell? ⟨w.heap.size, 3, none⟩ = some (.slice da dl dc) ∧ w'.cell? ⟨w.heap.size, 4, none⟩ = some (.int .i64 xn) ∧ w'.cell? ⟨w.heap.size, 5, none⟩ = some (.int .i64 xm)) (go_keep) (first
      | (go_at_call 32; refine kT.mono ?_; clear kT; rintro e wx ⟨rfl, Fx, tx, mx⟩; have Sx := HD.goT tx mx OK.out; obtain ⟨y0, y1, y2, y3, y4, y5⟩ := HK.out Sx; clear tx mx)
      | (go_at_call 33; refine (kR.out wx _ _ Sx).mono ?_; clear kR; rintro e wy ⟨rfl, Fy, ty, my⟩; have Sy := Sx.goR ty my OK.out; obtain ⟨v0, v1, v2, v3, v4, v5⟩ := HK.out Sy; clear ty my))) | fail
    all_goals go_wp2
    all_goals go_ret
    all_goals exact ⟨K.ret_bool (by simp), _, _, Sy.two⟩
  by_cases k5 : kd = 5
  · subst k5
    have hA : actM m ⟨5, xa, xb, da, dl, dc, xn, xm⟩ bl = (m.drop xa).2 := rfl
    rw [hA] at hok ⊢
    have kT : Calls Try.prog 34 #[.pointer (some ⟨p, 0, none⟩), .string xa] X.drew fun e w' => e = .returned (.int .i64 (m.drop xa).1) ∧ ∃ F', St w' p F' (m.drop xa).2 ∧ Moved X.drew w' F F' := drop_any p F m xa X.drew HD.two.t HD.two.ok1 hc hal
    have kR : Hid (∀ V F' m1, St6 w0 V p F' m1 q G m w.heap.size ⟨5, xa, xb, da, dl, dc, xn, xm⟩ → Calls Try.prog 35 #[.pointer (some ⟨q, 0, none⟩), .string xa] V fun e w' => e = .returned (.int .i64 (m.drop xa).1) ∧ ∃ F', R w' q F' (m.drop xa).2 ∧ Moved V w' G F') := fun V F' m1 h => rdrop_any q G m xa V h.two.r h.two.ok2 hc hal
    have OK : Hid _ := hok
    generalize (m.drop xa).1 = z at kT kR
    generalize (m.drop xa).2 = s' at *
    clear hA H HX hok hal hbn hnr hf hbl hb6 HH
    go_enter Try.func9, Try.ntmps9
    go_wp2
    first | (go_region_held3 (fun w' => w'.cell? ⟨w.heap.size, 0, none⟩ = some (.int .i64 5) ∧ w'.cell? ⟨w.heap.size, 1, none⟩ = some (.string xa) ∧ w'.cell? ⟨w.heap.size, 2, none⟩ = some (.string xb) ∧ w'.cell? ⟨w.heap.size, 3, none⟩ = some (.slice da dl dc) ∧ w'.cell? ⟨w.heap.size, 4, none⟩ = some (.int .i64 xn) ∧ w'.cell? ⟨w.heap.size, 5, none⟩ = some (.int .i64 xm)) (go_keep) (first
      | (go_at_call 34; refine kT.mono ?_; clear kT; rintro e wx ⟨rfl, Fx, tx, mx⟩; have Sx := HD.goT tx mx OK.out; obtain ⟨y0, y1, y2, y3, y4, y5⟩ := HK.out Sx; clear tx mx)
      | (go_at_call 35; refine (kR.out wx _ _ Sx).mono ?_; clear kR; rintro e wy ⟨rfl, Fy, ty, my⟩; have Sy := Sx.goR ty my OK.out; obtain ⟨v0, v1, v2, v3, v4, v5⟩ := HK.out Sy; clear ty my))) | fail
    all_goals go_wp2
    all_goals go_ret
    all_goals exact ⟨K.ret_bool (by simp), _, _, Sy.two⟩
  by_cases k6 : kd = 6
  · subst k6
    have hA : actM m ⟨6, xa, xb, da, dl, dc, xn, xm⟩ bl = m.commit.2 := rfl
    rw [hA] at hok ⊢
    have kT : Calls Try.prog 24 #[.pointer (some ⟨p, 0, none⟩)] X fun e w' => e = .returned (.int .i64 m.commit.1) ∧ ∃ F', St w' p F' m.commit.2 ∧ Moved X w' F F' := commit_any p F m X HX.two.t HX.two.ok1 hc
    have kR : Hid (∀ V F' m1, St6 w0 V p F' m1 q G m w.heap.size ⟨6, xa, xb, da, dl, dc, xn, xm⟩ → Calls Try.prog 36 #[.pointer (some ⟨q, 0, none⟩)] V fun e w' => e = .returned (.int .i64 m.commit.1) ∧ ∃ F', R w' q F' m.commit.2 ∧ Moved V w' G F') := fun V F' m1 h => rcommit_any q G m V h.two.r h.two.ok2 hc
    have OK : Hid _ := hok
    generalize m.commit.1 = z at kT kR
    generalize m.commit.2 = s' at *
    clear hA H HD hok hal hbn hnr hf hbl hb6 HH
    go_enter Try.func9, Try.ntmps9
    go_wp2_with (first
      | (go_at_call 24; refine kT.mono ?_; clear kT; rintro e wx ⟨rfl, Fx, tx, mx⟩; have Sx := HX.goT tx mx OK.out; obtain ⟨y0, y1, y2, y3, y4, y5⟩ := HK.out Sx; clear tx mx)
      | (go_at_call 36; refine (kR.out wx _ _ Sx).mono ?_; clear kR; rintro e wy ⟨rfl, Fy, ty, my⟩; have Sy := Sx.goR ty my OK.out; obtain ⟨v0, v1, v2, v3, v4, v5⟩ := HK.out Sy; clear ty my))
    all_goals go_ret
    all_goals exact ⟨K.ret_bool (by simp), _, _, Sy.two⟩
  by_cases k8 : kd = 8
  · subst k8
    have hA : actM m ⟨8, xa, xb, da, dl, dc, xn, xm⟩ bl = (m.plan xn xm).2 := rfl
    rw [hA] at hok ⊢
    have kT : Calls Try.prog 38 #[.pointer (some ⟨p, 0, none⟩), .int .i64 xn, .int .i64 xm] X.drew fun e w' => e = .returned (.int .i64 (m.plan xn xm).1) ∧ ∃ F', St w' p F' (m.plan xn xm).2 ∧ Moved X.drew w' F F' := plan_any p F m xn xm X.drew HD.two.t
    have kR : Hid (∀ V F' m1, St6 w0 V p F' m1 q G m w.heap.size ⟨8, xa, xb, da, dl, dc, xn, xm⟩ → Calls Try.prog 39 #[.pointer (some ⟨q, 0, none⟩), .int .i64 xn, .int .i64 xm] V fun e w' => e = .returned (.int .i64 (m.plan xn xm).1) ∧ ∃ F', R w' q F' (m.plan xn xm).2 ∧ Moved V w' G F') := fun V F' m1 h => rplan_any q G m xn xm V h.two.r
    have OK : Hid _ := hok
    generalize (m.plan xn xm).1 = z at kT kR
    generalize (m.plan xn xm).2 = s' at *
    clear hA H HX hok hal hbn hnr hf hbl hb6 HH
    go_enter Try.func9, Try.ntmps9
    go_wp2
    first | (go_region_held3 (fun w' => w'.cell? ⟨w.heap.size, 0, none⟩ = some (.int .i64 8) ∧ w'.cell? ⟨w.heap.size, 1, none⟩ = some (.string xa) ∧ w'.cell? ⟨w.heap.size, 2, none⟩ = some (.string xb) ∧ w'.cell? ⟨w.heap.size, 3, none⟩ = some (.slice da dl dc) ∧ w'.cell? ⟨w.heap.size, 4, none⟩ = some (.int .i64 xn) ∧ w'.cell? ⟨w.heap.size, 5, none⟩ = some (.int .i64 xm)) (go_keep) (first
      | (go_at_call 38; refine kT.mono ?_; clear kT; rintro e wx ⟨rfl, Fx, tx, mx⟩; have Sx := HD.goT tx mx OK.out; obtain ⟨y0, y1, y2, y3, y4, y5⟩ := HK.out Sx; clear tx mx)
      | (go_at_call 39; refine (kR.out wx _ _ Sx).mono ?_; clear kR; rintro e wy ⟨rfl, Fy, ty, my⟩; have Sy := Sx.goR ty my OK.out; obtain ⟨v0, v1, v2, v3, v4, v5⟩ := HK.out Sy; clear ty my))) | fail
    all_goals go_wp2
    all_goals go_ret
    all_goals exact ⟨K.ret_bool (by simp), _, _, Sy.two⟩
  by_cases k9 : kd = 9
  · subst k9
    have hA : actM m ⟨9, xa, xb, da, dl, dc, xn, xm⟩ bl = (m.fail xn) := rfl
    rw [hA] at hok ⊢
    have kT : Calls Try.prog 18 #[.pointer (some ⟨p, 0, none⟩), .int .i64 xn] X fun e w' => e = .returned (.tuple #[]) ∧ ∃ F', St w' p F' (m.fail xn) ∧ Moved X w' F F' := fail_any p F m xn X HX.two.t HX.two.ok1 (by omega) hnr
    have kR : Hid (∀ V F' m1, St6 w0 V p F' m1 q G m w.heap.size ⟨9, xa, xb, da, dl, dc, xn, xm⟩ → Calls Try.prog 40 #[.pointer (some ⟨q, 0, none⟩), .int .i64 xn] V fun e w' => e = .returned (.tuple #[]) ∧ ∃ F', R w' q F' (m.fail xn) ∧ Moved V w' G F') := fun V F' m1 h => rfail_any q G m xn V h.two.r h.two.ok2 (by omega) hnr
    have OK : Hid _ := hok
    generalize (m.fail xn) = s' at *
    clear hA H HD hok hal hbn hnr hf hbl hb6 HH
    go_enter Try.func9, Try.ntmps9
    go_wp2_with (first
      | (go_at_call 18; refine kT.mono ?_; clear kT; rintro e wx ⟨rfl, Fx, tx, mx⟩; have Sx := HX.goT tx mx OK.out; obtain ⟨y0, y1, y2, y3, y4, y5⟩ := HK.out Sx; clear tx mx)
      | (go_at_call 40; refine (kR.out wx _ _ Sx).mono ?_; clear kR; rintro e wy ⟨rfl, Fy, ty, my⟩; have Sy := Sx.goR ty my OK.out; obtain ⟨v0, v1, v2, v3, v4, v5⟩ := HK.out Sy; clear ty my))
    go_ret
    exact ⟨rfl, _, _, Sy.two⟩
  by_cases k10 : kd = 10
  · subst k10
    have hA : actM m ⟨10, xa, xb, da, dl, dc, xn, xm⟩ bl = m.power := rfl
    rw [hA] at hok ⊢
    have kT : Calls Try.prog 17 #[.pointer (some ⟨p, 0, none⟩)] X fun e w' => e = .returned (.tuple #[]) ∧ ∃ F', St w' p F' m.power ∧ Moved X w' F F' := power_any p F m X HX.two.t
    have kR : Hid (∀ V F' m1, St6 w0 V p F' m1 q G m w.heap.size ⟨10, xa, xb, da, dl, dc, xn, xm⟩ → Calls Try.prog 41 #[.pointer (some ⟨q, 0, none⟩)] V fun e w' => e = .returned (.tuple #[]) ∧ ∃ F', R w' q F' m.power ∧ Moved V w' G F') := fun V F' m1 h => rpower_any q G m V h.two.r
    have OK : Hid _ := hok
    generalize m.power = s' at *
    clear hA H HD hok hal hbn hnr hf hbl hb6 HH
    go_enter Try.func9, Try.ntmps9
    go_wp2_with (first
      | (go_at_call 17; refine kT.mono ?_; clear kT; rintro e wx ⟨rfl, Fx, tx, mx⟩; have Sx := HX.goT tx mx OK.out; obtain ⟨y0, y1, y2, y3, y4, y5⟩ := HK.out Sx; clear tx mx)
      | (go_at_call 41; refine (kR.out wx _ _ Sx).mono ?_; clear kR; rintro e wy ⟨rfl, Fy, ty, my⟩; have Sy := Sx.goR ty my OK.out; obtain ⟨v0, v1, v2, v3, v4, v5⟩ := HK.out Sy; clear ty my))
    go_ret
    exact ⟨rfl, _, _, Sy.two⟩
  by_cases k7 : kd = 7
  · subst k7
    have hA : actM m ⟨7, xa, xb, da, dl, dc, xn, xm⟩ bl = m := rfl
    rw [hA] at hok ⊢
    have kT : Calls Try.prog 19 #[.pointer (some ⟨p, 0, none⟩), .string xa] X fun e w' => ∃ v, e = .returned (.tuple #[v, .int .i64 (m.read xa).2]) ∧ Holds w' v (m.read xa).1 ∧ Below X.heap.size X w' := read_any p F m xa X HX.two.t HX.two.ok1 hal
    have kR : Hid (∀ V F' m1, St6 w0 V p F' m1 q G m w.heap.size ⟨7, xa, xb, da, dl, dc, xn, xm⟩ → Calls Try.prog 37 #[.pointer (some ⟨q, 0, none⟩), .string xa] V fun e w' => ∃ v, e = .returned (.tuple #[v, .int .i64 (m.read xa).2]) ∧ Holds w' v (m.read xa).1 ∧ Below V.heap.size V w') := fun V F' m1 h => rread_any q G m xa V h.two.r h.two.ok2 hal
    generalize (m.read xa).1 = bb at *
    generalize (m.read xa).2 = zz at *
    have HSm : Hid (∀ V u v, Holds V u bb → Holds V v bb → Calls Try.prog 20 #[u, v] V fun e w' => e = .returned (.bool true) ∧ w' = V) := fun V u v h1 h2 => by
      have := same_any u v bb bb V h1 h2
      rwa [beq_self_eq_true] at this
    clear hA H HD hok hal hbn hnr hf hbl hb6 HH
    go_enter Try.func9, Try.ntmps9
    go_wp2_with fail
    refine kT.mono ?_
    rintro e wx ⟨v1, rfl, hv1, bx⟩
    have Sx := HX.below bx
    obtain ⟨y0, y1, y2, y3, y4, y5⟩ := HK.out Sx
    have hkR := kR.out wx _ _ Sx
    have HV1 : Hid (Holds wx v1 bb) := hv1
    clear kT kR hv1
    go_wp2_with fail
    refine hkR.mono ?_
    rintro e wy ⟨v2, rfl, hv2, by_⟩
    have Sy := Sx.below by_
    have hSm := HSm.out wy v1 v2 (HV1.out.below by_ (Nat.le_refl _)) hv2
    clear hkR HSm hv2
    go_wp2_with fail
    refine hSm.mono ?_
    rintro e wz ⟨rfl, rfl⟩
    clear hSm
    go_wp2
    go_ret
    exact ⟨K.ret_bool (by simp), _, _, Sy.two⟩
  by_cases k1 : kd = 1
  · subst k1
    have hA : actM m ⟨1, xa, xb, da, dl, dc, xn, xm⟩ bl = (m.write xa bl).2 := rfl
    rw [hA] at hok ⊢
    have kL := lend_any (.slice da dl dc) bl X (hbl.below HX.two.bel (Nat.le_refl _)) hb6
    have kT : Hid (∀ V v, St6 w0 V p F m q G m w.heap.size ⟨1, xa, xb, da, dl, dc, xn, xm⟩ → Holds V v bl → Calls Try.prog 22 #[.pointer (some ⟨p, 0, none⟩), .string xa, v] V fun e w' => e = .returned (.int .i64 (m.write xa bl).1) ∧ ∃ F', St w' p F' (m.write xa bl).2 ∧ Moved V w' F F') := fun V v h hv => write_any p F m xa v bl V h.two.t h.two.ok1 hc hal hv
    have kR : Hid (∀ V F' m1, St6 w0 V p F' m1 q G m w.heap.size ⟨1, xa, xb, da, dl, dc, xn, xm⟩ → Calls Try.prog 27 #[.pointer (some ⟨q, 0, none⟩), .string xa, .slice da dl dc] V fun e w' => e = .returned (.int .i64 (m.write xa bl).1) ∧ ∃ F', R w' q F' (m.write xa bl).2 ∧ Moved V w' G F') := fun V F' m1 h => rwrite_any q G m xa (.slice da dl dc) bl V h.two.r h.two.ok2 hc hal (hbl.below h.two.bel (Nat.le_refl _)) (fun V2 F2 mv => hbl.below (mv.below h.two.fr h.two.bel h.two.bel.size) (Nat.le_refl _))
    have OK : Hid _ := hok
    have HFG : Hid ((∀ k, F k → k < X.heap.size) ∧ (∀ k, G k → k < X.heap.size)) := ⟨HX.two.t.lts, HX.two.r.lts⟩
    have HKp : Hid (∀ V u, Holds V u ([167, 59] ++ bl ++ [94, 193]) → Holds V (.slice da dl dc) bl → Calls Try.prog 28 #[u, .slice da dl dc] V fun e w' => e = .returned (.bool true) ∧ Below V.heap.size V w') := fun V u h1 h2 => by
      have := kept_any u (.slice da dl dc) _ bl V h1 h2 hb6
      rwa [beq_self_eq_true] at this
    generalize (m.write xa bl).1 = z at kT kR
    generalize (m.write xa bl).2 = s' at *
    clear hA H HD hok hal hbn hnr hf hbl hb6
    go_enter Try.func9, Try.ntmps9
    go_wp2_with fail
    refine kL.mono ?_
    rintro e wl ⟨v1, v2, rfl, ow, ho, bl_⟩
    have Sl := HX.below bl_
    obtain ⟨q0, q1, q2, q3, q4, q5⟩ := HK.out Sl
    have Sd := Sl.below (Below.refl _ _).drew
    have kT' := kT.out wl.drew v2 Sd (ho.below (Below.refl _ _).drew (Nat.le_refl _))
    have HOw : Hid (Owns wl.drew X.heap.size 5 v1 ([167, 59] ++ bl ++ [94, 193])) := owns_moved ow (F := fun _ => False) (F' := fun _ => False) ⟨rfl, rfl, rfl, Nat.le_refl _, fun _ _ _ => rfl, fun _ h => h.elim⟩ (fun _ h => h.elim)
    clear kL kT ho ow bl_
    obtain ⟨va1, vn1, vc1, hv1⟩ : ∃ a n c, v1 = .slice a n c := by
      rcases HOw.out.2 with ⟨rfl, _⟩ | ⟨g, cap, cur, rfl, _⟩
      · exact ⟨_, _, _, rfl⟩
      · exact ⟨_, _, _, rfl⟩
    subst hv1
    generalize hW : [167, 59] ++ bl ++ [94, 193] = WW at *
    clear hW
    go_wp2
    first | (go_region_held3 (fun w' => w'.cell? ⟨w.heap.size, 0, none⟩ = some (.int .i64 1) ∧ w'.cell? ⟨w.heap.size, 1, none⟩ = some (.string xa) ∧ w'.cell? ⟨w.heap.size, 2, none⟩ = some (.string xb) ∧ w'.cell? ⟨w.heap.size, 3, none⟩ = some (.slice da dl dc) ∧ w'.cell? ⟨w.heap.size, 4, none⟩ = some (.int .i64 xn) ∧ w'.cell? ⟨w.heap.size, 5, none⟩ = some (.int .i64 xm)) (go_keep) (first
      | (go_at_call 22; refine kT'.mono ?_; clear kT'; rintro e wx ⟨rfl, Fx, tx, mx⟩; have Sx := Sd.goT tx mx OK.out; have HOx : Hid (Owns wx X.heap.size 5 (.slice va1 vn1 vc1) WW) := owns_moved HOw.out mx HFG.out.1; obtain ⟨y0, y1, y2, y3, y4, y5⟩ := HK.out Sx; clear tx mx)
      | (go_at_call 27; refine (kR.out wx _ _ Sx).mono ?_; clear kR; rintro e wy ⟨rfl, Fy, ty, my⟩; have Sy := Sx.goR ty my OK.out; have HOy : Hid (Owns wy X.heap.size 5 (.slice va1 vn1 vc1) WW) := owns_moved HOx.out my HFG.out.2; obtain ⟨v0, v1_, v2_, v3, v4, v5⟩ := HK.out Sy; clear ty my)
      | (go_at_call 28; refine (HKp.out _ _ HOy.out.holds (HH.out Sy)).mono ?_; clear HKp; rintro e wz ⟨rfl, bz⟩; have Sz := Sy.below bz; obtain ⟨r0, r1, r2, r3, r4, r5⟩ := HK.out Sz))) | fail
    all_goals go_wp2
    all_goals go_ret
    all_goals exact ⟨K.ret_bool (by simp), _, _, Sz.two⟩
  · have hA : actM m ⟨kd, xa, xb, da, dl, dc, xn, xm⟩ bl = m := by
      unfold actM
      simp only [k0, k1, k2, k3, k4, k5, k6, k8, k9, k10, if_false]
    rw [hA]
    clear hA H HD hok hal hbn hnr hf hbl hb6 HH
    go_enter Try.func9, Try.ntmps9
    go_wp2
    go_ret
    exact ⟨rfl, _, _, HX.two⟩
end Go.Proofs.Ytndinjekocgjhaa

