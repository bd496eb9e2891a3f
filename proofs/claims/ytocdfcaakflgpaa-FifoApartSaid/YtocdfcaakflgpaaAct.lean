/-
  act: what is done to both queues, by its contract.
-/
import Derived.Test.YtocdfcaakflgpaaActs
import Derived.Test.YtocdfcaakflgpaaRReset
import Derived.Deep.RegionHeld3
namespace Go.Proofs.Ytocdfcaakflgpaa
open Go.RowKit Go.Sort

/-- Two queues of the call's own, the program's and the document's, apart. -/
structure Two (w wr : World) (pt : Nat) (Ft : Nat → Prop) (s1 : St) (pr : Nat) (Fr : Nat → Prop) (s2 : St) : Prop where
  t : Q wr pt Ft s1
  r : R wr pr Fr s2
  ok1 : s1.Ok
  ok2 : s2.Ok
  ft : ∀ k, Ft k → w.heap.size ≤ k
  fr : ∀ k, Fr k → w.heap.size ≤ k
  ap : ∀ k, Ft k → ¬ Fr k
  bel : Below w.heap.size w wr
theorem Two.goT {w wr wr' : World} {pt pr : Nat} {Ft Fr Ft' : Nat → Prop} {s1 s2 s1' : St} (h : Two w wr pt Ft s1 pr Fr s2) (t : Q wr' pt Ft' s1') (m : Moved wr wr' Ft Ft') (ok : s1'.Ok) : Two w wr' pt Ft' s1' pr Fr s2 :=
  ⟨t, h.r.beside m h.ap, ok, h.ok2, m.from h.ft h.bel.size, h.fr, m.apart h.r.lts h.ap, m.below h.ft h.bel h.bel.size⟩
theorem Two.goR {w wr wr' : World} {pt pr : Nat} {Ft Fr Fr' : Nat → Prop} {s1 s2 s2' : St} (h : Two w wr pt Ft s1 pr Fr s2) (r : R wr' pr Fr' s2') (m : Moved wr wr' Fr Fr') (ok : s2'.Ok) : Two w wr' pt Ft s1 pr Fr' s2' :=
  ⟨h.t.beside m (fun k hk ht => h.ap k ht hk), r, h.ok1, ok, h.ft, m.from h.fr h.bel.size, fun k ht hr => m.apart h.t.lts (fun k hk ht => h.ap k ht hk) k hr ht, m.below h.fr h.bel h.bel.size⟩
theorem Two.below {w wr wr' : World} {pt pr : Nat} {Ft Fr : Nat → Prop} {s1 s2 : St} (h : Two w wr pt Ft s1 pr Fr s2) (b : Below wr.heap.size wr wr') : Two w wr' pt Ft s1 pr Fr s2 := h.goT (h.t.kept b) (.of_below b) h.ok1
theorem Moved.miss {w w' : World} {F F' : Nat → Prop} {b : Nat} (m : Moved w w' F F') (h : ¬ F b) (hb : b < w.heap.size) : ¬ F' b ∧ w'.heap[b]? = w.heap[b]? := ⟨fun hf => (m.sub b hf).elim h (by omega), m.block b hb h⟩
/-- An act's eight cells in a box. -/
structure Box8 (w : World) (b : Nat) (a : Ac) : Prop where
  c0 : w.cell? ⟨b, 0, none⟩ = some (.int .i64 a.kind)
  c1 : w.cell? ⟨b, 1, none⟩ = some (.int .i64 a.m.o)
  c2 : w.cell? ⟨b, 2, none⟩ = some (.int .u64 a.m.s)
  c3 : w.cell? ⟨b, 3, none⟩ = some (.int .i64 a.m.hop)
  c4 : w.cell? ⟨b, 4, none⟩ = some (.string a.m.ex)
  c5 : w.cell? ⟨b, 5, none⟩ = some (.string a.m.key)
  c6 : w.cell? ⟨b, 6, none⟩ = some (.string a.m.body)
  c7 : w.cell? ⟨b, 7, none⟩ = some (.int .u64 (a.tag : Int))
theorem Box8.same {w w' : World} {b : Nat} {a : Ac} (h : Box8 w b a) (hb : w'.heap[b]? = w.heap[b]?) : Box8 w' b a := by
  have e : ∀ j, w'.cell? ⟨b, j, none⟩ = w.cell? ⟨b, j, none⟩ := fun j => by simp [World.cell?, hb]
  exact ⟨(e _).trans h.c0, (e _).trans h.c1, (e _).trans h.c2, (e _).trans h.c3, (e _).trans h.c4, (e _).trans h.c5, (e _).trans h.c6, (e _).trans h.c7⟩
theorem box8_new (w : World) (a : Ac) : Box8 (w.alloc (.cells (acells a).toArray 35)) w.heap.size a := by
  constructor <;> simp [World.cell?_alloc_at, acells]
/-- The two queues beside it. -/
structure St8 (w wr : World) (pt : Nat) (Ft : Nat → Prop) (s1 : St) (pr : Nat) (Fr : Nat → Prop) (s2 : St) (bx : Nat) (a : Ac) : Prop where
  two : Two w wr pt Ft s1 pr Fr s2
  nt : ¬ Ft bx
  nr : ¬ Fr bx
  box : Box8 wr bx a
theorem St8.goT {w wr wr' : World} {pt pr bx : Nat} {a : Ac} {Ft Fr Ft' : Nat → Prop} {s1 s2 s1' : St} (h : St8 w wr pt Ft s1 pr Fr s2 bx a) (t : Q wr' pt Ft' s1') (m : Moved wr wr' Ft Ft') (ok : s1'.Ok) : St8 w wr' pt Ft' s1' pr Fr s2 bx a := by
  obtain ⟨h1, h2⟩ := m.miss h.nt (World.block_lt_of_cell? _ _ h.box.c0)
  exact ⟨h.two.goT t m ok, h1, h.nr, h.box.same h2⟩
theorem St8.goR {w wr wr' : World} {pt pr bx : Nat} {a : Ac} {Ft Fr Fr' : Nat → Prop} {s1 s2 s2' : St} (h : St8 w wr pt Ft s1 pr Fr s2 bx a) (r : R wr' pr Fr' s2') (m : Moved wr wr' Fr Fr') (ok : s2'.Ok) : St8 w wr' pt Ft s1 pr Fr' s2' bx a := by
  obtain ⟨h1, h2⟩ := m.miss h.nr (World.block_lt_of_cell? _ _ h.box.c0)
  exact ⟨h.two.goR r m ok, h.nt, h1, h.box.same h2⟩
theorem St8.below {w wr wr' : World} {pt pr bx : Nat} {a : Ac} {Ft Fr : Nat → Prop} {s1 s2 : St} (h : St8 w wr pt Ft s1 pr Fr s2 bx a) (b : Below wr.heap.size wr wr') : St8 w wr' pt Ft s1 pr Fr s2 bx a := h.goT (h.two.t.kept b) (.of_below b) h.two.ok1
theorem Two.box {w wr X : World} {pt pr : Nat} {Ft Fr : Nat → Prop} {s1 s2 : St} (h : Two w wr pt Ft s1 pr Fr s2) (a : Ac) (hX : wr.alloc (.cells (acells a).toArray 35) = X) : St8 w X pt Ft s1 pr Fr s2 wr.heap.size a := by
  have bX : Below wr.heap.size wr X := by rw [← hX]; exact (Below.refl _ _).alloc (Nat.le_refl _) _
  exact ⟨h.below bX, fun hf => by have := h.t.lts _ hf; omega, fun hg => by have := h.r.lts _ hg; omega, by rw [← hX]; exact box8_new wr a⟩
/-- What an act does. -/
def actT (s : St) (a : Ac) : St := if a.kind = 0 then (s.push a.m).2 else if a.kind = 1 then s.give.2.2 else if a.kind = 2 then (s.done a.tag).2 else if a.kind = 3 then (s.back a.tag).2 else if a.kind = 4 then s.reset.2 else s
theorem actT_ok {s : St} (ok : s.Ok) (a : Ac) : (actT s a).Ok := by
  unfold actT
  split
  · exact ok.push _
  · split
    · exact ok.give
    · split
      · exact ok.done _
      · split
        · exact ok.back _
        · split
          · exact ok.reset
          · exact ok
set_option maxRecDepth 20000 in
set_option maxHeartbeats 8000000 in
theorem act_any (a : Ac) (w0 w : World) (pt pr : Nat) (Ft Fr : Nat → Prop) (s : St) (H : Two w0 w pt Ft s pr Fr s) (hf : a.tag < 18446744073709551616) :
    Calls Try.prog 17 #[.pointer (some ⟨pt, 0, none⟩), .pointer (some ⟨pr, 0, none⟩), av a] w fun e w' => e = .returned (.bool true) ∧ ∃ Ft' Fr', Two w0 w' pt Ft' (actT s a) pr Fr' (actT s a) := by
  have hok := actT_ok H.ok1 a
  obtain ⟨X, fold⟩ : ∃ X, w.alloc (.cells (acells a).toArray 35) = X := ⟨_, rfl⟩
  have HX := H.box a fold
  have HD : St8 w0 X.drew pt Ft s pr Fr s w.heap.size a := HX.below (Below.refl _ _).drew
  obtain ⟨e0, e1, e2, e3, e4, e5, e6, e7⟩ := HX.box
  have HK : Hid (∀ {V : World} {Ft' Fr' : Nat → Prop} {s1 s2 : St}, St8 w0 V pt Ft' s1 pr Fr' s2 w.heap.size a → Box8 V w.heap.size a) := fun h => h.box
  obtain ⟨kd, m, tg⟩ := a
  unfold acells at fold
  simp only at e0 e1 e2 e3 e4 e5 e6 e7 fold hf
  show Calls Try.prog 17 #[.pointer (some ⟨pt, 0, none⟩), .pointer (some ⟨pr, 0, none⟩), .agg #[.int .i64 kd, .int .i64 m.o, .int .u64 m.s, .int .i64 m.hop, .string m.ex, .string m.key, .string m.body, .int .u64 (tg : Int)]] w _
  by_cases k0 : kd = 0
  · subst k0
    have hA : actT s ⟨0, m, tg⟩ = (s.push m).2 := rfl
    rw [hA] at hok ⊢
    have kT : Calls Try.prog 15 #[.pointer (some ⟨pt, 0, none⟩), mv m] X.drew fun e w' => e = .returned (.int .i64 (s.push m).1) ∧ ∃ F', Q w' pt F' (s.push m).2 ∧ Moved X.drew w' Ft F' := push_any pt Ft s m X.drew HD.two.t HD.two.ok1
    have kR : Hid (∀ V Ft' s1, St8 w0 V pt Ft' s1 pr Fr s w.heap.size ⟨0, m, tg⟩ → Calls Try.prog 33 #[.pointer (some ⟨pr, 0, none⟩), mv m] V fun e w' => e = .returned (.int .i64 (s.push m).1) ∧ ∃ F', R w' pr F' (s.push m).2 ∧ Moved V w' Fr F') := fun V Ft' s1 h => rpush_any pr Fr s m V h.two.r h.two.ok2
    have OK : Hid _ := hok
    have SX : Hid _ := HD
    generalize (s.push m).1 = z at kT kR
    generalize (s.push m).2 = s' at *
    clear hA H HX hok hf HD
    go_enter Try.func17, Try.ntmps17
    go_wp2
    first | (go_region_held3 (fun w' => w'.cell? ⟨w.heap.size, 0, none⟩ = some (.int .i64 0) ∧ w'.cell? ⟨w.heap.size, 1, none⟩ = some (.int .i64 m.o) ∧ w'.cell? ⟨w.heap.size, 2, none⟩ = some (.int .u64 m.s) ∧ w'.cell? ⟨w.heap.size, 3, none⟩ = some (.int .i64 m.hop) ∧ w'.cell? ⟨w.heap.size, 4, none⟩ = some (.string m.ex) ∧ w'.cell? ⟨w.heap.size, 5, none⟩ = some (.string m.key) ∧ w'.cell? ⟨w.heap.size, 6, none⟩ = some (.string m.body) ∧ w'.cell? ⟨w.heap.size, 7, none⟩ = some (.int .u64 (tg : Int))) (go_keep) (first
      | (go_at_call 15; refine kT.mono ?_; clear kT; rintro e wx ⟨rfl, Fx, tx, mx⟩; have Sx := SX.out.goT tx mx OK.out; obtain ⟨y0, y1, y2, y3, y4, y5, y6, y7⟩ := HK.out Sx; clear tx mx)
      | (go_at_call 33; refine (kR.out wx _ _ Sx).mono ?_; clear kR; rintro e wy ⟨rfl, Fy, ty, my⟩; have Sy := Sx.goR ty my OK.out; obtain ⟨v0, v1, v2, v3, v4, v5, v6, v7⟩ := HK.out Sy; clear ty my))) | fail
    all_goals go_wp2
    all_goals go_ret
    all_goals exact ⟨rfl, _, _, Sy.two⟩
  · skip
    by_cases k1 : kd = 1
    · subst k1
      have hA : actT s ⟨1, m, tg⟩ = s.give.2.2 := rfl
      rw [hA] at hok ⊢
      have kT : Calls Try.prog 14 #[.pointer (some ⟨pt, 0, none⟩)] X fun e w' => e = .returned (.tuple #[iv s.give.1, .bool s.give.2.1]) ∧ ∃ F', Q w' pt F' s.give.2.2 ∧ Moved X w' Ft F' := give_any pt Ft s X HX.two.t HX.two.ok1
      have kR : Hid (∀ V Ft' s1, St8 w0 V pt Ft' s1 pr Fr s w.heap.size ⟨1, m, tg⟩ → Calls Try.prog 34 #[.pointer (some ⟨pr, 0, none⟩)] V fun e w' => e = .returned (.tuple #[iv s.give.1, .bool s.give.2.1]) ∧ ∃ F', R w' pr F' s.give.2.2 ∧ Moved V w' Fr F') := fun V Ft' s1 h => rgive_any pr Fr s V h.two.r h.two.ok2
      have OK : Hid _ := hok
      have SX : Hid _ := HX
      generalize s.give.1 = gx at kT kR
      generalize s.give.2.1 = gb at kT kR
      generalize s.give.2.2 = s' at *
      clear hA H HX hok hf HD
      go_enter Try.func17, Try.ntmps17
      go_wp2_with fail
      refine kT.mono ?_
      clear kT
      rintro e wx ⟨rfl, Fx, tx, mx⟩
      have Sx := SX.out.goT tx mx OK.out
      obtain ⟨U, foldU⟩ : ∃ U, wx.alloc (.cells #[.int .u64 (gx.tag : Int), .int .i64 gx.m.o, .int .u64 gx.m.s, .int .i64 gx.m.hop, .string gx.m.ex, .string gx.m.key, .string gx.m.body, .bool gx.again] 38) = U := ⟨_, rfl⟩
      have bU : Below wx.heap.size wx U := by rw [← foldU]; exact below_alloc _ _
      have SU := Sx.below bU
      have iU : ItAt U wx.heap.size 0 gx := by rw [← foldU]; exact itAt_new wx gx _ rfl
      have nU : ¬ Fr wx.heap.size := fun hk => Nat.lt_irrefl _ (Sx.two.r.lts _ hk)
      have kRU := kR.out U _ _ SU
      clear Sx tx mx
      go_wp2_with fail
      refine kRU.mono ?_
      clear kRU
      rintro e wy ⟨rfl, Fy, ty, my⟩
      have Sy := SU.goR ty my OK.out
      obtain ⟨g0, g1, g2, g3, g4, g5, g6, g7⟩ := iU.same (my.miss nU (World.block_lt_of_cell? _ _ iU.c0)).2
      simp only [Nat.zero_add] at g0 g1 g2 g3 g4 g5 g6 g7
      have HY : Hid (∀ V, Below wy.heap.size wy V → ∃ Ft' Fr', Two w0 V pt Ft' s' pr Fr' s') := fun V b => ⟨_, _, (Sy.below b).two⟩
      have HB : Hid (∀ o, Below wy.heap.size wy (wy.alloc o)) := fun o => below_alloc _ _
      have h0 := fun o => cell_alloc_r (W := wy) o g0
      have h1 := fun o => cell_alloc_r (W := wy) o g1
      have h2 := fun o => cell_alloc_r (W := wy) o g2
      have h3 := fun o => cell_alloc_r (W := wy) o g3
      have h4 := fun o => cell_alloc_r (W := wy) o g4
      have h5 := fun o => cell_alloc_r (W := wy) o g5
      have h6 := fun o => cell_alloc_r (W := wy) o g6
      have h7 := fun o => cell_alloc_r (W := wy) o g7
      clear foldU bU SU iU ty my Sy nU
      go_wp2
      go_ret
      exact ⟨rfl, HY.out _ (HB.out _)⟩
    · skip
      by_cases k2 : kd = 2
      · subst k2
        have hA : actT s ⟨2, m, tg⟩ = (s.done tg).2 := rfl
        rw [hA] at hok ⊢
        have kT : Calls Try.prog 22 #[.pointer (some ⟨pt, 0, none⟩), .int .u64 (tg : Int)] X.drew fun e w' => e = .returned (.int .i64 (s.done tg).1) ∧ ∃ F', Q w' pt F' (s.done tg).2 ∧ Moved X.drew w' Ft F' := done_any pt Ft s tg X.drew HD.two.t HD.two.ok1 hf
        have kR : Hid (∀ V Ft' s1, St8 w0 V pt Ft' s1 pr Fr s w.heap.size ⟨2, m, tg⟩ → Calls Try.prog 35 #[.pointer (some ⟨pr, 0, none⟩), .int .u64 (tg : Int)] V fun e w' => e = .returned (.int .i64 (s.done tg).1) ∧ ∃ F', R w' pr F' (s.done tg).2 ∧ Moved V w' Fr F') := fun V Ft' s1 h => rdone_any pr Fr s tg V h.two.r h.two.ok2
        have OK : Hid _ := hok
        have SX : Hid _ := HD
        generalize (s.done tg).1 = z at kT kR
        generalize (s.done tg).2 = s' at *
        clear hA H HX hok hf HD
        go_enter Try.func17, Try.ntmps17
        go_wp2
        first | (go_region_held3 (fun w' => w'.cell? ⟨w.heap.size, 0, none⟩ = some (.int .i64 2) ∧ w'.cell? ⟨w.heap.size, 1, none⟩ = some (.int .i64 m.o) ∧ w'.cell? ⟨w.heap.size, 2, none⟩ = some (.int .u64 m.s) ∧ w'.cell? ⟨w.heap.size, 3, none⟩ = some (.int .i64 m.hop) ∧ w'.cell? ⟨w.heap.size, 4, none⟩ = some (.string m.ex) ∧ w'.cell? ⟨w.heap.size, 5, none⟩ = some (.string m.key) ∧ w'.cell? ⟨w.heap.size, 6, none⟩ = some (.string m.body) ∧ w'.cell? ⟨w.heap.size, 7, none⟩ = some (.int .u64 (tg : Int))) (go_keep) (first
          | (go_at_call 22; refine kT.mono ?_; clear kT; rintro e wx ⟨rfl, Fx, tx, mx⟩; have Sx := SX.out.goT tx mx OK.out; obtain ⟨y0, y1, y2, y3, y4, y5, y6, y7⟩ := HK.out Sx; clear tx mx)
          | (go_at_call 35; refine (kR.out wx _ _ Sx).mono ?_; clear kR; rintro e wy ⟨rfl, Fy, ty, my⟩; have Sy := Sx.goR ty my OK.out; obtain ⟨v0, v1, v2, v3, v4, v5, v6, v7⟩ := HK.out Sy; clear ty my))) | fail
        all_goals go_wp2
        all_goals go_ret
        all_goals exact ⟨rfl, _, _, Sy.two⟩
      · skip
        by_cases k3 : kd = 3
        · subst k3
          have hA : actT s ⟨3, m, tg⟩ = (s.back tg).2 := rfl
          rw [hA] at hok ⊢
          have kT : Calls Try.prog 23 #[.pointer (some ⟨pt, 0, none⟩), .int .u64 (tg : Int)] X.drew fun e w' => e = .returned (.int .i64 (s.back tg).1) ∧ ∃ F', Q w' pt F' (s.back tg).2 ∧ Moved X.drew w' Ft F' := back_any pt Ft s tg X.drew HD.two.t HD.two.ok1 hf
          have kR : Hid (∀ V Ft' s1, St8 w0 V pt Ft' s1 pr Fr s w.heap.size ⟨3, m, tg⟩ → Calls Try.prog 36 #[.pointer (some ⟨pr, 0, none⟩), .int .u64 (tg : Int)] V fun e w' => e = .returned (.int .i64 (s.back tg).1) ∧ ∃ F', R w' pr F' (s.back tg).2 ∧ Moved V w' Fr F') := fun V Ft' s1 h => rback_any pr Fr s tg V h.two.r h.two.ok2
          have OK : Hid _ := hok
          have SX : Hid _ := HD
          generalize (s.back tg).1 = z at kT kR
          generalize (s.back tg).2 = s' at *
          clear hA H HX hok hf HD
          go_enter Try.func17, Try.ntmps17
          go_wp2
          first | (go_region_held3 (fun w' => w'.cell? ⟨w.heap.size, 0, none⟩ = some (.int .i64 3) ∧ w'.cell? ⟨w.heap.size, 1, none⟩ = some (.int .i64 m.o) ∧ w'.cell? ⟨w.heap.size, 2, none⟩ = some (.int .u64 m.s) ∧ w'.cell? ⟨w.heap.size, 3, none⟩ = some (.int .i64 m.hop) ∧ w'.cell? ⟨w.heap.size, 4, none⟩ = some (.string m.ex) ∧ w'.cell? ⟨w.heap.size, 5, none⟩ = some (.string m.key) ∧ w'.cell? ⟨w.heap.size, 6, none⟩ = some (.string m.body) ∧ w'.cell? ⟨w.heap.size, 7, none⟩ = some (.int .u64 (tg : Int))) (go_keep) (first
            | (go_at_call 23; refine kT.mono ?_; clear kT; rintro e wx ⟨rfl, Fx, tx, mx⟩; have Sx := SX.out.goT tx mx OK.out; obtain ⟨y0, y1, y2, y3, y4, y5, y6, y7⟩ := HK.out Sx; clear tx mx)
            | (go_at_call 36; refine (kR.out wx _ _ Sx).mono ?_; clear kR; rintro e wy ⟨rfl, Fy, ty, my⟩; have Sy := Sx.goR ty my OK.out; obtain ⟨v0, v1, v2, v3, v4, v5, v6, v7⟩ := HK.out Sy; clear ty my))) | fail
          all_goals go_wp2
          all_goals go_ret
          all_goals exact ⟨rfl, _, _, Sy.two⟩
        · skip
          by_cases k4 : kd = 4
          · subst k4
            have hA : actT s ⟨4, m, tg⟩ = s.reset.2 := rfl
            rw [hA] at hok ⊢
            have kT : Calls Try.prog 16 #[.pointer (some ⟨pt, 0, none⟩)] X fun e w' => e = .returned (.int .i64 s.reset.1) ∧ ∃ F', Q w' pt F' s.reset.2 ∧ Moved X w' Ft F' := reset_any pt Ft s X HX.two.t HX.two.ok1
            have kR : Hid (∀ V Ft' s1, St8 w0 V pt Ft' s1 pr Fr s w.heap.size ⟨4, m, tg⟩ → Calls Try.prog 37 #[.pointer (some ⟨pr, 0, none⟩)] V fun e w' => e = .returned (.int .i64 s.reset.1) ∧ ∃ F', R w' pr F' s.reset.2 ∧ Moved V w' Fr F') := fun V Ft' s1 h => rreset_any pr Fr s V h.two.r h.two.ok2
            have OK : Hid _ := hok
            have SX : Hid _ := HX
            generalize s.reset.1 = z at kT kR
            generalize s.reset.2 = s' at *
            clear hA H HX hok hf HD
            go_enter Try.func17, Try.ntmps17
            go_wp2_with fail
            refine kT.mono ?_
            rintro e wx ⟨rfl, Fx, tx, mx⟩
            have Sx := SX.out.goT tx mx OK.out
            have kRU := kR.out wx _ _ Sx
            go_wp2_with fail
            refine kRU.mono ?_
            rintro e wy ⟨rfl, Fy, ty, my⟩
            have Sy := Sx.goR ty my OK.out
            go_wp2
            go_ret
            exact ⟨rfl, _, _, Sy.two⟩
          · skip
            have n0 : (kd == 0) = false := beq_eq_false_iff_ne.2 k0
            have n1 : (kd == 1) = false := beq_eq_false_iff_ne.2 k1
            have n2 : (kd == 2) = false := beq_eq_false_iff_ne.2 k2
            have n3 : (kd == 3) = false := beq_eq_false_iff_ne.2 k3
            have n4 : (kd == 4) = false := beq_eq_false_iff_ne.2 k4
            have hA : actT s ⟨kd, m, tg⟩ = s := by unfold actT; rw [if_neg k0, if_neg k1, if_neg k2, if_neg k3, if_neg k4]
            rw [hA] at hok ⊢
            have HE : Hid (∃ Ft' Fr', Two w0 X pt Ft' s pr Fr' s) := ⟨_, _, HX.two⟩
            clear hA H HX hok hf HD HK
            go_enter Try.func17, Try.ntmps17
            go_wp2
            go_ret
            exact ⟨rfl, HE.out⟩
end Go.Proofs.Ytocdfcaakflgpaa
