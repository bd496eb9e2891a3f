/-
  act: what is done to both tables, by its contract.
-/
import Derived.Test.YtiaagiijjledkaaGreatDoorActs
import Derived.Test.YtiaagiijjledkaaGreatDoorCopy
import Derived.Test.YtiaagiijjledkaaGreatDoorRBind
import Derived.Test.YtiaagiijjledkaaGreatDoorRDrop
import Derived.Test.YtiaagiijjledkaaGreatDoorRUnbind
import Derived.Test.YtiaagiijjledkaaGreatDoorRForget
import Derived.Deep.RegionHeld3
namespace Go.Proofs.YtiaagiijjledkaaGreatDoor
open Go.RowKit Go.Sort Go.Shelf

/-- Two tables of the call's own, the program's and the document's, apart. -/
structure Two (w wr : World) (pt : Nat) (Ft : Nat → Prop) (s1 : Tb) (pr : Nat) (Fr : Nat → Prop) (s2 : Tb) : Prop where
  t : T wr pt Ft s1
  r : RT wr pr Fr s2
  ok1 : s1.Ok
  ok2 : s2.Ok
  ft : ∀ k, Ft k → w.heap.size ≤ k
  fr : ∀ k, Fr k → w.heap.size ≤ k
  ap : ∀ k, Ft k → ¬ Fr k
  bel : Below w.heap.size w wr
theorem Two.goT {w wr wr' : World} {pt pr : Nat} {Ft Fr Ft' : Nat → Prop} {s1 s2 s1' : Tb} (h : Two w wr pt Ft s1 pr Fr s2) (t : T wr' pt Ft' s1') (m : Moved wr wr' Ft Ft') (ok : s1'.Ok) : Two w wr' pt Ft' s1' pr Fr s2 :=
  ⟨t, h.r.beside m h.ap, ok, h.ok2, m.from h.ft h.bel.size, h.fr, m.apart h.r.lts h.ap, m.below h.ft h.bel h.bel.size⟩
theorem Two.goR {w wr wr' : World} {pt pr : Nat} {Ft Fr Fr' : Nat → Prop} {s1 s2 s2' : Tb} (h : Two w wr pt Ft s1 pr Fr s2) (r : RT wr' pr Fr' s2') (m : Moved wr wr' Fr Fr') (ok : s2'.Ok) : Two w wr' pt Ft s1 pr Fr' s2' :=
  ⟨h.t.beside m (fun k hk ht => h.ap k ht hk), r, h.ok1, ok, h.ft, m.from h.fr h.bel.size, fun k ht hr => m.apart h.t.lts (fun k hk ht => h.ap k ht hk) k hr ht, m.below h.fr h.bel h.bel.size⟩
theorem Two.below {w wr wr' : World} {pt pr : Nat} {Ft Fr : Nat → Prop} {s1 s2 : Tb} (h : Two w wr pt Ft s1 pr Fr s2) (b : Below wr.heap.size wr wr') : Two w wr' pt Ft s1 pr Fr s2 := h.goT (h.t.kept b) (.of_below b) h.ok1
theorem Moved.miss {w w' : World} {F F' : Nat → Prop} {b : Nat} (m : Moved w w' F F') (h : ¬ F b) (hb : b < w.heap.size) : ¬ F' b ∧ w'.heap[b]? = w.heap[b]? := ⟨fun hf => (m.sub b hf).elim h (by omega), m.block b hb h⟩
/-- An act's seven cells in a box. -/
structure Box7 (w : World) (b : Nat) (a : Ac) : Prop where
  c0 : w.cell? ⟨b, 0, none⟩ = some (.int .i64 a.kind)
  c1 : w.cell? ⟨b, 1, none⟩ = some (.string a.x.name)
  c2 : w.cell? ⟨b, 2, none⟩ = some (.int .i64 a.x.kind)
  c3 : w.cell? ⟨b, 3, none⟩ = some (.bool a.x.fed)
  c4 : w.cell? ⟨b, 4, none⟩ = some (.string a.b.ex)
  c5 : w.cell? ⟨b, 5, none⟩ = some (.string a.b.que)
  c6 : w.cell? ⟨b, 6, none⟩ = some (.string a.b.pat)
theorem Box7.same {w w' : World} {b : Nat} {a : Ac} (h : Box7 w b a) (hb : w'.heap[b]? = w.heap[b]?) : Box7 w' b a := by
  have e : ∀ j, w'.cell? ⟨b, j, none⟩ = w.cell? ⟨b, j, none⟩ := fun j => by simp [World.cell?, hb]
  exact ⟨(e _).trans h.c0, (e _).trans h.c1, (e _).trans h.c2, (e _).trans h.c3, (e _).trans h.c4, (e _).trans h.c5, (e _).trans h.c6⟩
theorem box7_new (w : World) (a : Ac) : Box7 (w.alloc (.cells (acells a).toArray 37)) w.heap.size a := by
  have hb := heap_alloc_new w (.cells (acells a).toArray 37)
  exact ⟨cell_of_list hb 0, cell_of_list hb 1, cell_of_list hb 2, cell_of_list hb 3, cell_of_list hb 4, cell_of_list hb 5, cell_of_list hb 6⟩
/-- The two tables beside it. -/
structure St7 (w wr : World) (pt : Nat) (Ft : Nat → Prop) (s1 : Tb) (pr : Nat) (Fr : Nat → Prop) (s2 : Tb) (bx : Nat) (a : Ac) : Prop where
  two : Two w wr pt Ft s1 pr Fr s2
  nt : ¬ Ft bx
  nr : ¬ Fr bx
  box : Box7 wr bx a
theorem St7.goT {w wr wr' : World} {pt pr bx : Nat} {a : Ac} {Ft Fr Ft' : Nat → Prop} {s1 s2 s1' : Tb} (h : St7 w wr pt Ft s1 pr Fr s2 bx a) (t : T wr' pt Ft' s1') (m : Moved wr wr' Ft Ft') (ok : s1'.Ok) : St7 w wr' pt Ft' s1' pr Fr s2 bx a := by
  obtain ⟨h1, h2⟩ := m.miss h.nt (World.block_lt_of_cell? _ _ h.box.c0)
  exact ⟨h.two.goT t m ok, h1, h.nr, h.box.same h2⟩
theorem St7.goR {w wr wr' : World} {pt pr bx : Nat} {a : Ac} {Ft Fr Fr' : Nat → Prop} {s1 s2 s2' : Tb} (h : St7 w wr pt Ft s1 pr Fr s2 bx a) (r : RT wr' pr Fr' s2') (m : Moved wr wr' Fr Fr') (ok : s2'.Ok) : St7 w wr' pt Ft s1 pr Fr' s2' bx a := by
  obtain ⟨h1, h2⟩ := m.miss h.nr (World.block_lt_of_cell? _ _ h.box.c0)
  exact ⟨h.two.goR r m ok, h.nt, h1, h.box.same h2⟩
theorem St7.below {w wr wr' : World} {pt pr bx : Nat} {a : Ac} {Ft Fr : Nat → Prop} {s1 s2 : Tb} (h : St7 w wr pt Ft s1 pr Fr s2 bx a) (b : Below wr.heap.size wr wr') : St7 w wr' pt Ft s1 pr Fr s2 bx a := h.goT (h.two.t.kept b) (.of_below b) h.two.ok1
theorem Two.box {w wr X : World} {pt pr : Nat} {Ft Fr : Nat → Prop} {s1 s2 : Tb} (h : Two w wr pt Ft s1 pr Fr s2) (a : Ac) (hX : wr.alloc (.cells (acells a).toArray 37) = X) : St7 w X pt Ft s1 pr Fr s2 wr.heap.size a := by
  have bX : Below wr.heap.size wr X := by rw [← hX]; exact (Below.refl _ _).alloc (Nat.le_refl _) _
  exact ⟨h.below bX, fun hf => by have := h.t.lts _ hf; omega, fun hg => by have := h.r.lts _ hg; omega, by rw [← hX]; exact box7_new wr a⟩
/-- What an act does. -/
def actT (s : Tb) (a : Ac) : Tb := if a.kind = 0 then (s.declare a.x).2 else if a.kind = 1 then (s.drop a.x.name).2 else if a.kind = 2 then (s.bind a.b).2 else if a.kind = 3 then (s.unbind a.b).2 else if a.kind = 4 then { s with bs := keepB (fun b => b.que.toList == a.b.que.toList) s.bs } else s
theorem actT_ok {s : Tb} (ok : s.Ok) (a : Ac) (hf : a.b.Fit) : (actT s a).Ok := by
  unfold actT
  split
  · exact ok.declare _
  · split
    · exact ok.drop _
    · split
      · exact ok.bind hf
      · split
        · exact ok.unbind _
        · split
          · exact ok.keep _
          · exact ok
theorem Ac.Fits.fit {a : Ac} (h : a.Fits) : a.b.Fit ∧ a.x.name.size ≤ maxLen := by
  obtain ⟨h1, h2, h3, h4⟩ := h
  unfold Bd.Fit maxLen
  exact ⟨⟨by omega, by omega, by omega⟩, by omega⟩
set_option maxRecDepth 20000 in
set_option maxHeartbeats 8000000 in
theorem act_any (a : Ac) (w0 w : World) (pt pr : Nat) (Ft Fr : Nat → Prop) (s : Tb) (H : Two w0 w pt Ft s pr Fr s) (hf : a.Fits) :
    Calls Tryz.prog 9 #[.pointer (some ⟨pt, 0, none⟩), .pointer (some ⟨pr, 0, none⟩), acv a] w fun e w' => e = .returned (.bool true) ∧ ∃ Ft' Fr', Two w0 w' pt Ft' (actT s a) pr Fr' (actT s a) := by
  obtain ⟨hb, hn⟩ := hf.fit
  have hok := actT_ok H.ok1 a hb
  obtain ⟨X, fold⟩ : ∃ X, w.alloc (.cells (acells a).toArray 37) = X := ⟨_, rfl⟩
  have HX := H.box a fold
  have HD : St7 w0 X.drew pt Ft s pr Fr s w.heap.size a := HX.below (Below.refl _ _).drew
  obtain ⟨e0, e1, e2, e3, e4, e5, e6⟩ := HX.box
  have HK : Hid (∀ {V : World} {Ft' Fr' : Nat → Prop} {s1 s2 : Tb}, St7 w0 V pt Ft' s1 pr Fr' s2 w.heap.size a → Box7 V w.heap.size a) := fun h => h.box
  obtain ⟨kd, x, b⟩ := a
  unfold acells at fold
  simp only at e0 e1 e2 e3 e4 e5 e6 hb hn fold
  show Calls Tryz.prog 9 #[.pointer (some ⟨pt, 0, none⟩), .pointer (some ⟨pr, 0, none⟩), .agg #[.int .i64 kd, .string x.name, .int .i64 x.kind, .bool x.fed, .string b.ex, .string b.que, .string b.pat]] w _
  by_cases k0 : kd = 0
  · subst k0
    have hA : actT s ⟨0, x, b⟩ = (s.declare x).2 := rfl
    rw [hA] at hok ⊢
    have kT : Calls Tryz.prog 20 #[.pointer (some ⟨pt, 0, none⟩), xv x] X.drew fun e w' => e = .returned (.int .i64 (s.declare x).1) ∧ ∃ F', T w' pt F' ((s.declare x).2) ∧ Moved X.drew w' Ft F' := declare_any pt Ft s x X.drew HD.two.t HD.two.ok1 hn
    have kR : Hid (∀ V Ft' s1, St7 w0 V pt Ft' s1 pr Fr s w.heap.size ⟨0, x, b⟩ → Calls Tryz.prog 21 #[.pointer (some ⟨pr, 0, none⟩), xv x] V fun e w' => e = .returned (.int .i64 (s.declare x).1) ∧ ∃ F', RT w' pr F' ((s.declare x).2) ∧ Moved V w' Fr F') := fun V Ft' s1 h => rdeclare_any pr Fr s x V h.two.r h.two.ok2 hn
    have OK : Hid _ := hok
    have kG : Hid (∀ V, Calls Tryz.prog 14 #[xv x] V fun e w' => e = .returned (.bool (goodX x)) ∧ Below V.heap.size V w') := fun V => good_any x V hn
    have kRG : Hid (∀ V, Calls Tryz.prog 22 #[xv x] V fun e w' => e = .returned (.bool (goodX x)) ∧ Below V.heap.size V w') := fun V => rgood_any x V hn
    generalize goodX x = g at kG kRG
    generalize (s.declare x).1 = z at kT kR
    generalize (s.declare x).2 = s' at *
    clear hA H HX hok hn hf hb
    go_enter Tryz.func9, Tryz.ntmps9
    go_wp2
    first | (go_region_held3 (fun w' => w'.cell? ⟨w.heap.size, 0, none⟩ = some (.int .i64 0) ∧ w'.cell? ⟨w.heap.size, 1, none⟩ = some (.string x.name) ∧ w'.cell? ⟨w.heap.size, 2, none⟩ = some (.int .i64 x.kind) ∧ w'.cell? ⟨w.heap.size, 3, none⟩ = some (.bool x.fed) ∧ w'.cell? ⟨w.heap.size, 4, none⟩ = some (.string b.ex) ∧ w'.cell? ⟨w.heap.size, 5, none⟩ = some (.string b.que) ∧ w'.cell? ⟨w.heap.size, 6, none⟩ = some (.string b.pat)) (go_keep) (first
      | (go_at_call 20; refine kT.mono ?_; clear kT; rintro e wx ⟨rfl, Fx, tx, mx⟩; have Sx := HD.goT tx mx OK.out; obtain ⟨y0, y1, y2, y3, y4, y5, y6⟩ := HK.out Sx; clear tx mx)
      | (go_at_call 21; refine (kR.out wx _ _ Sx).mono ?_; clear kR; rintro e wy ⟨rfl, Fy, ty, my⟩; have Sy := Sx.goR ty my OK.out; obtain ⟨v0, v1, v2, v3, v4, v5, v6⟩ := HK.out Sy; clear ty my)
      | (go_at_call 14; refine (kG.out _).mono ?_; clear kG; rintro e wz ⟨rfl, bz⟩; have Sz := Sy.below bz; obtain ⟨q0, q1, q2, q3, q4, q5, q6⟩ := HK.out Sz; clear bz)
      | (go_at_call 22; refine (kRG.out _).mono ?_; clear kRG; rintro e wu ⟨rfl, bu⟩; have Su := Sz.below bu; obtain ⟨p0, p1, p2, p3, p4, p5, p6⟩ := HK.out Su; clear bu))) | fail
    all_goals go_wp2
    all_goals go_ret
    all_goals exact ⟨ret_bool (by simp), _, _, Su.two⟩
  · skip
    by_cases k1 : kd = 1
    · subst k1
      have hA : actT s ⟨1, x, b⟩ = (s.drop x.name).2 := rfl
      rw [hA] at hok ⊢
      have kT : Calls Tryz.prog 19 #[.pointer (some ⟨pt, 0, none⟩), .string x.name] X.drew fun e w' => e = .returned (.int .i64 (s.drop x.name).1) ∧ ∃ F', T w' pt F' ((s.drop x.name).2) ∧ Moved X.drew w' Ft F' := drop_any pt Ft s x.name X.drew HD.two.t HD.two.ok1 hn
      have kR : Hid (∀ V Ft' s1, St7 w0 V pt Ft' s1 pr Fr s w.heap.size ⟨1, x, b⟩ → Calls Tryz.prog 23 #[.pointer (some ⟨pr, 0, none⟩), .string x.name] V fun e w' => e = .returned (.int .i64 (s.drop x.name).1) ∧ ∃ F', RT w' pr F' ((s.drop x.name).2) ∧ Moved V w' Fr F') := fun V Ft' s1 h => rdrop_any pr Fr s x.name V h.two.r h.two.ok2 
      have OK : Hid _ := hok
      generalize (s.drop x.name).1 = z at kT kR
      generalize (s.drop x.name).2 = s' at *
      clear hA H HX hok hn hf hb
      go_enter Tryz.func9, Tryz.ntmps9
      go_wp2
      first | (go_region_held3 (fun w' => w'.cell? ⟨w.heap.size, 0, none⟩ = some (.int .i64 1) ∧ w'.cell? ⟨w.heap.size, 1, none⟩ = some (.string x.name) ∧ w'.cell? ⟨w.heap.size, 2, none⟩ = some (.int .i64 x.kind) ∧ w'.cell? ⟨w.heap.size, 3, none⟩ = some (.bool x.fed) ∧ w'.cell? ⟨w.heap.size, 4, none⟩ = some (.string b.ex) ∧ w'.cell? ⟨w.heap.size, 5, none⟩ = some (.string b.que) ∧ w'.cell? ⟨w.heap.size, 6, none⟩ = some (.string b.pat)) (go_keep) (first
        | (go_at_call 19; refine kT.mono ?_; clear kT; rintro e wx ⟨rfl, Fx, tx, mx⟩; have Sx := HD.goT tx mx OK.out; obtain ⟨y0, y1, y2, y3, y4, y5, y6⟩ := HK.out Sx; clear tx mx)
        | (go_at_call 23; refine (kR.out wx _ _ Sx).mono ?_; clear kR; rintro e wy ⟨rfl, Fy, ty, my⟩; have Sy := Sx.goR ty my OK.out; obtain ⟨v0, v1, v2, v3, v4, v5, v6⟩ := HK.out Sy; clear ty my))) | fail
      all_goals go_wp2
      all_goals go_ret
      all_goals exact ⟨ret_bool (by simp), _, _, Sy.two⟩
    · skip
      by_cases k2 : kd = 2
      · subst k2
        have hA : actT s ⟨2, x, b⟩ = (s.bind b).2 := rfl
        rw [hA] at hok ⊢
        have kT : Calls Tryz.prog 17 #[.pointer (some ⟨pt, 0, none⟩), bv b] X.drew fun e w' => e = .returned (.int .i64 (s.bind b).1) ∧ ∃ F', T w' pt F' ((s.bind b).2) ∧ Moved X.drew w' Ft F' := bind_any pt Ft s b X.drew HD.two.t HD.two.ok1 hb
        have kR : Hid (∀ V Ft' s1, St7 w0 V pt Ft' s1 pr Fr s w.heap.size ⟨2, x, b⟩ → Calls Tryz.prog 24 #[.pointer (some ⟨pr, 0, none⟩), bv b] V fun e w' => e = .returned (.int .i64 (s.bind b).1) ∧ ∃ F', RT w' pr F' ((s.bind b).2) ∧ Moved V w' Fr F') := fun V Ft' s1 h => rbind_any pr Fr s b V h.two.r h.two.ok2 hb
        have OK : Hid _ := hok
        generalize (s.bind b).1 = z at kT kR
        generalize (s.bind b).2 = s' at *
        clear hA H HX hok hn hf hb
        go_enter Tryz.func9, Tryz.ntmps9
        go_wp2
        first | (go_region_held3 (fun w' => w'.cell? ⟨w.heap.size, 0, none⟩ = some (.int .i64 2) ∧ w'.cell? ⟨w.heap.size, 1, none⟩ = some (.string x.name) ∧ w'.cell? ⟨w.heap.size, 2, none⟩ = some (.int .i64 x.kind) ∧ w'.cell? ⟨w.heap.size, 3, none⟩ = some (.bool x.fed) ∧ w'.cell? ⟨w.heap.size, 4, none⟩ = some (.string b.ex) ∧ w'.cell? ⟨w.heap.size, 5, none⟩ = some (.string b.que) ∧ w'.cell? ⟨w.heap.size, 6, none⟩ = some (.string b.pat)) (go_keep) (first
          | (go_at_call 17; refine kT.mono ?_; clear kT; rintro e wx ⟨rfl, Fx, tx, mx⟩; have Sx := HD.goT tx mx OK.out; obtain ⟨y0, y1, y2, y3, y4, y5, y6⟩ := HK.out Sx; clear tx mx)
          | (go_at_call 24; refine (kR.out wx _ _ Sx).mono ?_; clear kR; rintro e wy ⟨rfl, Fy, ty, my⟩; have Sy := Sx.goR ty my OK.out; obtain ⟨v0, v1, v2, v3, v4, v5, v6⟩ := HK.out Sy; clear ty my))) | fail
        all_goals go_wp2
        all_goals go_ret
        all_goals exact ⟨ret_bool (by simp), _, _, Sy.two⟩
      · skip
        by_cases k3 : kd = 3
        · subst k3
          have hA : actT s ⟨3, x, b⟩ = (s.unbind b).2 := rfl
          rw [hA] at hok ⊢
          have kT : Calls Tryz.prog 18 #[.pointer (some ⟨pt, 0, none⟩), bv b] X.drew fun e w' => e = .returned (.int .i64 (s.unbind b).1) ∧ ∃ F', T w' pt F' ((s.unbind b).2) ∧ Moved X.drew w' Ft F' := unbind_any pt Ft s b X.drew HD.two.t HD.two.ok1 hb
          have kR : Hid (∀ V Ft' s1, St7 w0 V pt Ft' s1 pr Fr s w.heap.size ⟨3, x, b⟩ → Calls Tryz.prog 25 #[.pointer (some ⟨pr, 0, none⟩), bv b] V fun e w' => e = .returned (.int .i64 (s.unbind b).1) ∧ ∃ F', RT w' pr F' ((s.unbind b).2) ∧ Moved V w' Fr F') := fun V Ft' s1 h => runbind_any pr Fr s b V h.two.r h.two.ok2 
          have OK : Hid _ := hok
          generalize (s.unbind b).1 = z at kT kR
          generalize (s.unbind b).2 = s' at *
          clear hA H HX hok hn hf hb
          go_enter Tryz.func9, Tryz.ntmps9
          go_wp2
          first | (go_region_held3 (fun w' => w'.cell? ⟨w.heap.size, 0, none⟩ = some (.int .i64 3) ∧ w'.cell? ⟨w.heap.size, 1, none⟩ = some (.string x.name) ∧ w'.cell? ⟨w.heap.size, 2, none⟩ = some (.int .i64 x.kind) ∧ w'.cell? ⟨w.heap.size, 3, none⟩ = some (.bool x.fed) ∧ w'.cell? ⟨w.heap.size, 4, none⟩ = some (.string b.ex) ∧ w'.cell? ⟨w.heap.size, 5, none⟩ = some (.string b.que) ∧ w'.cell? ⟨w.heap.size, 6, none⟩ = some (.string b.pat)) (go_keep) (first
            | (go_at_call 18; refine kT.mono ?_; clear kT; rintro e wx ⟨rfl, Fx, tx, mx⟩; have Sx := HD.goT tx mx OK.out; obtain ⟨y0, y1, y2, y3, y4, y5, y6⟩ := HK.out Sx; clear tx mx)
            | (go_at_call 25; refine (kR.out wx _ _ Sx).mono ?_; clear kR; rintro e wy ⟨rfl, Fy, ty, my⟩; have Sy := Sx.goR ty my OK.out; obtain ⟨v0, v1, v2, v3, v4, v5, v6⟩ := HK.out Sy; clear ty my))) | fail
          all_goals go_wp2
          all_goals go_ret
          all_goals exact ⟨ret_bool (by simp), _, _, Sy.two⟩
        · skip
          by_cases k4 : kd = 4
          · subst k4
            have hA : actT s ⟨4, x, b⟩ = { s with bs := keepB (fun y => y.que.toList == b.que.toList) s.bs } := rfl
            rw [hA] at hok ⊢
            have kT : Calls Tryz.prog 26 #[.pointer (some ⟨pt, 0, none⟩), .string b.que] X.drew fun e w' => e = .returned (.int .i64 ((s.bs.length : Int) - ((keepB (fun y => y.que.toList == b.que.toList) s.bs).length : Int))) ∧ ∃ F', T w' pt F' ({ s with bs := keepB (fun y => y.que.toList == b.que.toList) s.bs }) ∧ Moved X.drew w' Ft F' := forget_any pt Ft s b.que X.drew HD.two.t HD.two.ok1 
            have kR : Hid (∀ V Ft' s1, St7 w0 V pt Ft' s1 pr Fr s w.heap.size ⟨4, x, b⟩ → Calls Tryz.prog 27 #[.pointer (some ⟨pr, 0, none⟩), .string b.que] V fun e w' => e = .returned (.int .i64 ((s.bs.length : Int) - ((keepB (fun y => y.que.toList == b.que.toList) s.bs).length : Int))) ∧ ∃ F', RT w' pr F' ({ s with bs := keepB (fun y => y.que.toList == b.que.toList) s.bs }) ∧ Moved V w' Fr F') := fun V Ft' s1 h => rforget_any pr Fr s b.que V h.two.r h.two.ok2 
            have OK : Hid _ := hok
            generalize ((s.bs.length : Int) - ((keepB (fun y => y.que.toList == b.que.toList) s.bs).length : Int)) = z at kT kR
            generalize { s with bs := keepB (fun y => y.que.toList == b.que.toList) s.bs } = s' at *
            clear hA H HX hok hn hf hb
            go_enter Tryz.func9, Tryz.ntmps9
            go_wp2
            first | (go_region_held3 (fun w' => w'.cell? ⟨w.heap.size, 0, none⟩ = some (.int .i64 4) ∧ w'.cell? ⟨w.heap.size, 1, none⟩ = some (.string x.name) ∧ w'.cell? ⟨w.heap.size, 2, none⟩ = some (.int .i64 x.kind) ∧ w'.cell? ⟨w.heap.size, 3, none⟩ = some (.bool x.fed) ∧ w'.cell? ⟨w.heap.size, 4, none⟩ = some (.string b.ex) ∧ w'.cell? ⟨w.heap.size, 5, none⟩ = some (.string b.que) ∧ w'.cell? ⟨w.heap.size, 6, none⟩ = some (.string b.pat)) (go_keep) (first
              | (go_at_call 26; refine kT.mono ?_; clear kT; rintro e wx ⟨rfl, Fx, tx, mx⟩; have Sx := HD.goT tx mx OK.out; obtain ⟨y0, y1, y2, y3, y4, y5, y6⟩ := HK.out Sx; clear tx mx)
              | (go_at_call 27; refine (kR.out wx _ _ Sx).mono ?_; clear kR; rintro e wy ⟨rfl, Fy, ty, my⟩; have Sy := Sx.goR ty my OK.out; obtain ⟨v0, v1, v2, v3, v4, v5, v6⟩ := HK.out Sy; clear ty my))) | fail
            all_goals go_wp2
            all_goals go_ret
            all_goals exact ⟨ret_bool (by simp), _, _, Sy.two⟩
          · skip
            have n0 : (kd == 0) = false := beq_eq_false_iff_ne.2 k0
            have n1 : (kd == 1) = false := beq_eq_false_iff_ne.2 k1
            have n2 : (kd == 2) = false := beq_eq_false_iff_ne.2 k2
            have n3 : (kd == 3) = false := beq_eq_false_iff_ne.2 k3
            have n4 : (kd == 4) = false := beq_eq_false_iff_ne.2 k4
            have hA : actT s ⟨kd, x, b⟩ = s := by unfold actT; rw [if_neg k0, if_neg k1, if_neg k2, if_neg k3, if_neg k4]
            rw [hA]
            by_cases k5 : kd = 5
            · subst k5
              clear n0 n1 n2 n3 n4 k0 k1 k2 k3 k4 hA hok HD HK
              have kT := find_any pt Ft s x.name X HX.two.t HX.two.ok1 hn
              have kR : Hid (∀ V, St7 w0 V pt Ft s pr Fr s w.heap.size ⟨5, x, b⟩ → Calls Tryz.prog 28 #[.pointer (some ⟨pr, 0, none⟩), .string x.name] V fun e w' => e = .returned (.tuple #[xv ((findX s.xs x.name).getD zeroEx), .bool (findX s.xs x.name).isSome]) ∧ Below V.heap.size V w') := fun V h => rfind_any pr Fr s x.name V h.two.r (Nat.le_trans h.two.ok2.nx (by omega))
              generalize (findX s.xs x.name).getD zeroEx = f at kT kR
              generalize (findX s.xs x.name).isSome = g at kT kR
              clear H hb hn hf
              go_enter Tryz.func9, Tryz.ntmps9
              go_wp2_with fail
              refine kT.mono ?_
              rintro e wx ⟨rfl, bx⟩
              have Sx := HX.below bx
              obtain ⟨Y, foldY⟩ : ∃ Y, wx.alloc (.cells #[.string f.name, .int .i64 f.kind, .bool f.fed] 33) = Y := ⟨_, rfl⟩
              have bY : Below wx.heap.size wx Y := by rw [← foldY]; exact (Below.refl _ _).alloc (Nat.le_refl _) _
              have Sy := Sx.below bY
              have hY : Y.heap[wx.heap.size]? = some (.cells #[.string f.name, .int .i64 f.kind, .bool f.fed] 33 (0, 0)) := by rw [← foldY]; exact heap_alloc_new wx _
              obtain ⟨y0, y1, y2, y3, y4, y5, y6⟩ := Sy.box
              simp only at y0 y1 y2 y3 y4 y5 y6
              clear HX Sx bx kT e0 e1 e2 e3 e4 e5 e6 fold
              go_wp2_with fail
              refine (kR.out Y Sy).mono ?_
              rintro e wu ⟨rfl, bu⟩
              have Su := Sy.below bu
              have hu : wu.heap[wx.heap.size]? = some (.cells #[.string f.name, .int .i64 f.kind, .bool f.fed] 33 (0, 0)) := (bu.block _ (Array.getElem?_eq_some_iff.1 hY).1).trans hY
              obtain ⟨Z, foldZ⟩ : ∃ Z, wu.alloc (.cells #[.string f.name, .int .i64 f.kind, .bool f.fed] 33) = Z := ⟨_, rfl⟩
              have bZ : Below wu.heap.size wu Z := by rw [← foldZ]; exact (Below.refl _ _).alloc (Nat.le_refl _) _
              have hZ : Z.heap[wu.heap.size]? = some (.cells #[.string f.name, .int .i64 f.kind, .bool f.fed] 33 (0, 0)) := by rw [← foldZ]; exact heap_alloc_new wu _
              have hZ2 : Z.heap[wx.heap.size]? = some (.cells #[.string f.name, .int .i64 f.kind, .bool f.fed] 33 (0, 0)) := (bZ.block _ (Array.getElem?_eq_some_iff.1 hu).1).trans hu
              have r0 : Z.cell? ⟨wx.heap.size, 0, none⟩ = some (.string f.name) := by simp [World.cell?, hZ2]
              have r1 : Z.cell? ⟨wx.heap.size, 1, none⟩ = some (.int .i64 f.kind) := by simp [World.cell?, hZ2]
              have r2 : Z.cell? ⟨wx.heap.size, 2, none⟩ = some (.bool f.fed) := by simp [World.cell?, hZ2]
              have r3 : Z.cell? ⟨wu.heap.size, 0, none⟩ = some (.string f.name) := by simp [World.cell?, hZ]
              have r4 : Z.cell? ⟨wu.heap.size, 1, none⟩ = some (.int .i64 f.kind) := by simp [World.cell?, hZ]
              have r5 : Z.cell? ⟨wu.heap.size, 2, none⟩ = some (.bool f.fed) := by simp [World.cell?, hZ]
              have HE : Hid _ := (Su.below bZ).two
              clear Sy Su hY hu hZ hZ2 bu bZ bY foldY y0 y1 y2 y3 y4 y5 y6 kR
              go_wp2
              go_ret
              exact ⟨ret_bool (by simp), _, _, HE.out⟩
            · have n5 : (kd == 5) = false := beq_eq_false_iff_ne.2 k5
              have HE : Hid _ := HX.two
              clear k0 k1 k2 k3 k4 k5 hA H HX hok hn hf hb HD HK
              go_enter Tryz.func9, Tryz.ntmps9
              go_wp2
              go_ret
              exact ⟨rfl, _, _, HE.out⟩
end Go.Proofs.YtiaagiijjledkaaGreatDoor
