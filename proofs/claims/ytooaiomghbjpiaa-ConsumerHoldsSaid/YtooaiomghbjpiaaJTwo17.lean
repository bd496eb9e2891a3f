/-
  TWO DESKS of the call's own, the program's and the document's, apart; an act in a box beside them; what each call leaves of that.
-/
import Derived.Test.YtooaiomghbjpiaaJRSettle17
import Derived.Test.YtooaiomghbjpiaaJIns17
import Derived.Test.YtooaiomghbjpiaaJLight17
import Derived.Test.YtooaiomghbjpiaaLawTurns17
import Derived.Deep.RegionHeld3
import Derived.BigQuiet
namespace Go.Proofs.Ytooaiomghbjpiaa
open Go.RowKit Go.Maps Go.Sort Go.Shelf
set_option maxRecDepth 20000

structure Two (w0 B : World) (N : Nat → Prop) (W : World) (p : Nat) (F : Nat → Prop) (L : List Se) (r : Nat) (G : Nat → Prop) (M : List Se) : Prop where
  d : Dk W p F L
  r : Rd W r G M
  ok1 : LOk L
  ok2 : LOk M
  fd : ∀ k, F k → w0.heap.size ≤ k
  fr : ∀ k, G k → w0.heap.size ≤ k
  ap : ∀ k, F k → ¬ G k
  bel : Below w0.heap.size w0 W
  bs : B.heap.size ≤ W.heap.size
  ns : ∀ k, N k → k < B.heap.size ∧ W.heap[k]? = B.heap[k]?
  nd : ∀ k, N k → ¬ F k
  nr : ∀ k, N k → ¬ G k
section
variable {w0 B W W' : World} {N : Nat → Prop} {p r : Nat} {F G F' G' : Nat → Prop} {L M L' M' : List Se}
theorem Two.goD (h : Two w0 B N W p F L r G M) (t : Dk W' p F' L') (m : Moved W W' F F') (ok : LOk L') : Two w0 B N W' p F' L' r G M :=
  ⟨t, h.r.beside m h.ap, ok, h.ok2, m.from h.fd h.bel.size, h.fr, m.apart h.r.lts h.ap, m.below h.fd h.bel h.bel.size, Nat.le_trans h.bs m.size, fun k hk => ⟨(h.ns k hk).1, (m.block k (Nat.lt_of_lt_of_le (h.ns k hk).1 h.bs) (h.nd k hk)).trans (h.ns k hk).2⟩, fun k hk hf => (m.sub k hf).elim (h.nd k hk) (fun e => by have := (h.ns k hk).1; have := h.bs; omega), h.nr⟩
theorem Two.goR (h : Two w0 B N W p F L r G M) (t : Rd W' r G' M') (m : Moved W W' G G') (ok : LOk M') : Two w0 B N W' p F L r G' M' :=
  ⟨h.d.beside m (fun k hk ht => h.ap k ht hk), t, h.ok1, ok, h.fd, m.from h.fr h.bel.size, fun k ht hr => m.apart h.d.lts (fun k hk ht => h.ap k ht hk) k hr ht, m.below h.fr h.bel h.bel.size, Nat.le_trans h.bs m.size, fun k hk => ⟨(h.ns k hk).1, (m.block k (Nat.lt_of_lt_of_le (h.ns k hk).1 h.bs) (h.nr k hk)).trans (h.ns k hk).2⟩, h.nd, fun k hk hf => (m.sub k hf).elim (h.nr k hk) (fun e => by have := (h.ns k hk).1; have := h.bs; omega)⟩
theorem Two.below (h : Two w0 B N W p F L r G M) (b : Below W.heap.size W W') : Two w0 B N W' p F L r G M := h.goD (h.d.kept b) (.of_below b) h.ok1
/-- From here on other blocks are to stay. -/
theorem Two.base (h : Two w0 B N W p F L r G M) (N' : Nat → Prop) (hn : ∀ k, N' k → k < W.heap.size ∧ ¬ F k ∧ ¬ G k) : Two w0 W N' W p F L r G M :=
  ⟨h.d, h.r, h.ok1, h.ok2, h.fd, h.fr, h.ap, h.bel, Nat.le_refl _, fun k hk => ⟨(hn k hk).1, rfl⟩, fun k hk => (hn k hk).2.1, fun k hk => (hn k hk).2.2⟩
end
/-- An act's five cells in a box. -/
structure Box5 (w : World) (b : Nat) (a : Ac) : Prop where
  c0 : w.cell? ⟨b, 0, none⟩ = some (.int .i64 a.kind)
  c1 : w.cell? ⟨b, 1, none⟩ = some (.int .i64 a.c)
  c2 : w.cell? ⟨b, 2, none⟩ = some (.string a.q)
  c3 : w.cell? ⟨b, 3, none⟩ = some (.int .i64 a.n)
  c4 : w.cell? ⟨b, 4, none⟩ = some (.int .u64 a.t)
theorem Box5.same {w w' : World} {b : Nat} {a : Ac} (h : Box5 w b a) (hb : w'.heap[b]? = w.heap[b]?) : Box5 w' b a := by
  have e : ∀ j, w'.cell? ⟨b, j, none⟩ = w.cell? ⟨b, j, none⟩ := fun j => by simp [World.cell?, hb]
  exact ⟨(e _).trans h.c0, (e _).trans h.c1, (e _).trans h.c2, (e _).trans h.c3, (e _).trans h.c4⟩
theorem box5_new (w : World) (a : Ac) : Box5 (w.alloc (.cells (acells a).toArray 33)) w.heap.size a := by
  have hb := heap_alloc_new w (.cells (acells a).toArray 33)
  generalize w.alloc (.cells (acells a).toArray 33) = W at hb ⊢
  constructor <;> simp [World.cell?, hb, acells]
structure St5 (w0 B : World) (N : Nat → Prop) (W : World) (p : Nat) (F : Nat → Prop) (L : List Se) (r : Nat) (G : Nat → Prop) (M : List Se) (bx : Nat) (a : Ac) : Prop where
  two : Two w0 B N W p F L r G M
  nd : ¬ F bx
  nr : ¬ G bx
  box : Box5 W bx a
theorem Moved.miss {w w' : World} {F F' : Nat → Prop} {b : Nat} (m : Moved w w' F F') (h : ¬ F b) (hb : b < w.heap.size) : ¬ F' b ∧ w'.heap[b]? = w.heap[b]? := ⟨fun hf => (m.sub b hf).elim h (by omega), m.block b hb h⟩
/-- What a client holds: its queue, its tags. -/
def hqL (L : List Se) (c : Int) : ByteArray := match findC L c with
  | none => ⟨#[]⟩
  | some s => s.q
def htL (L : List Se) (c : Int) : List Int := match findC L c with
  | none => []
  | some s => s.t
theorem htL_len {L : List Se} (ok : LOk L) (c : Int) : (htL L c).length ≤ 100 := by
  unfold htL
  cases h : findC L c with
  | none => simp
  | some s =>
    have h1 := ok.ok s (findC_some h).1
    have := h1.len; have := h1.m2
    show s.t.length ≤ 100
    omega
def nxC (L : List Se) (q : ByteArray) : Int := match nextC L q with
  | none => 0
  | some s => s.c
theorem nextV_is (L : List Se) (q : ByteArray) : nextV L q = .tuple #[.int .i64 (nxC L q), .bool (nextC L q).isSome] := by
  unfold nextV nxC
  cases nextC L q <;> rfl
theorem nxC_i64 {L : List Se} (ok : LOk L) (q : ByteArray) : I64 (nxC L q) := by
  unfold nxC
  cases h : nextC L q with
  | none => exact ⟨by decide, by decide⟩
  | some s =>
    have h1 := ok.ok s (List.mem_of_find?_eq_some h)
    have := h1.c1; have := h1.c2
    exact ⟨by show _ ≤ s.c; omega, by show s.c ≤ _; omega⟩
def stQ (L : List Se) (c t : Int) : ByteArray := match findC L c with
  | none => ⟨#[]⟩
  | some s => if hasB s t then s.q else ⟨#[]⟩
theorem settleV_is (L : List Se) (c t : Int) : settleV L c t = .tuple #[.string (stQ L c t), .int .i64 (settleE L c t)] := by
  unfold settleV stQ settleE
  cases findC L c with
  | none => rfl
  | some s => by_cases h : hasB s t = true <;> simp [h]
theorem tellS_is {L : List Se} {c : Int} {z : Nat} {w' : World} {u : Value} (h : TellS L c z w' u) : ∃ v, u = .agg #[.string (hqL L c), v] ∧ Own1 w' z 31 v (ucells (htL L c)) := by
  unfold TellS at h
  unfold hqL htL
  cases hf : findC L c with
  | none => rw [hf] at h; exact ⟨_, h, own1_nil _ _ _⟩
  | some s => rw [hf] at h; exact h
theorem roV_is {w' : World} {X : List Ro} (c : Int) (ht : ∀ x ∈ X, Own1 w' 0 31 x.tv (ucells x.s.t)) : ∃ z m a k, roV (findR X c) = .agg #[.int .i64 z, .string (hqL (X.map Ro.s) c), .int .i64 m, .slice a (htL (X.map Ro.s) c).length k] ∧ Row w' (.slice a (htL (X.map Ro.s) c).length k) (ucells (htL (X.map Ro.s) c)) := by
  have hf := findR_s X c
  unfold hqL htL
  cases h : findR X c with
  | none =>
    rw [h] at hf
    rw [← hf]
    exact ⟨0, 0, none, 0, rfl, (own1_nil w' 0 31).row⟩
  | some x =>
    rw [h] at hf
    rw [← hf]
    exact ⟨x.s.c, x.s.m, x.a, x.c, rfl, (ht x (findR_some h).1).row⟩
theorem rdrop_tell (p : Nat) (G : Nat → Prop) (M : List Se) (c : Int) (w : World) (h : Rd w p G M) (ok : LOk M) : Calls Try.prog 25 #[.pointer (some ⟨p, 0, none⟩), .int .i64 c] w fun e w' => ∃ z m a k, e = .returned (.tuple #[.agg #[.int .i64 z, .string (hqL M c), .int .i64 m, .slice a (htL M c).length k], .int .i64 (dropE M c)]) ∧ Row w' (.slice a (htL M c).length k) (ucells (htL M c)) ∧ ∃ G', Rd w' p G' (cutC M c) ∧ Moved w w' G G' := by
  obtain ⟨v, X, h, rfl, rfl⟩ := h
  refine (rdrop_at h ok c).mono fun _ w' ⟨e, ht, v', h1, h2⟩ => ?_
  obtain ⟨z, m, a, k, e1, hr⟩ := roV_is c ht
  exact ⟨z, m, a, k, by rw [e, e1], hr, _, ⟨v', _, h1, cutR_s X c, rfl⟩, h2⟩
theorem rFind_tell (p : Nat) (G : Nat → Prop) (M : List Se) (c : Int) (w : World) (h : Rd w p G M) : Calls Try.prog 16 #[.pointer (some ⟨p, 0, none⟩), .int .i64 c] w fun e w' => ∃ z m a k, e = .returned (.tuple #[.agg #[.int .i64 z, .string (hqL M c), .int .i64 m, .slice a (htL M c).length k], .bool (holdB M c)]) ∧ Row w' (.slice a (htL M c).length k) (ucells (htL M c)) ∧ Below w.heap.size w w' := by
  obtain ⟨v, X, h, rfl, rfl⟩ := h
  refine (rFind_at h c).mono fun _ w' ⟨e, b⟩ => ?_
  obtain ⟨z, m, a, k, e1, hr⟩ := roV_is c (h.kept b).tags
  refine ⟨z, m, a, k, ?_, hr, b⟩
  rw [e, e1]
  have hf := findR_s X c
  have : (findR X c).isSome = holdB (X.map Ro.s) c := by unfold holdB; rw [← hf]; simp
  rw [this]
section
variable {w0 B W W' : World} {N : Nat → Prop} {p r bx : Nat} {a : Ac} {F G F' G' : Nat → Prop} {L M L' M' : List Se}
theorem St5.lt (h : St5 w0 B N W p F L r G M bx a) : bx < W.heap.size := World.block_lt_of_cell? _ _ h.box.c0
theorem St5.goD (h : St5 w0 B N W p F L r G M bx a) (t : Dk W' p F' L') (m : Moved W W' F F') (ok : LOk L') : St5 w0 B N W' p F' L' r G M bx a := by
  obtain ⟨h1, h2⟩ := m.miss h.nd h.lt
  exact ⟨h.two.goD t m ok, h1, h.nr, h.box.same h2⟩
theorem St5.goR (h : St5 w0 B N W p F L r G M bx a) (t : Rd W' r G' M') (m : Moved W W' G G') (ok : LOk M') : St5 w0 B N W' p F L r G' M' bx a := by
  obtain ⟨h1, h2⟩ := m.miss h.nr h.lt
  exact ⟨h.two.goR t m ok, h.nd, h1, h.box.same h2⟩
theorem St5.below (h : St5 w0 B N W p F L r G M bx a) (b : Below W.heap.size W W') : St5 w0 B N W' p F L r G M bx a := h.goD (h.two.d.kept b) (.of_below b) h.two.ok1
theorem Two.box {X : World} (h : Two w0 B N W p F L r G M) (a : Ac) (hX : W.alloc (.cells (acells a).toArray 33) = X) : St5 w0 B N X p F L r G M W.heap.size a := by
  have bX : Below W.heap.size W X := by rw [← hX]; exact (Below.refl _ _).alloc (Nat.le_refl _) _
  exact ⟨h.below bX, fun hf => by have := h.d.lts _ hf; omega, fun hg => by have := h.r.lts _ hg; omega, by rw [← hX]; exact box5_new W a⟩
end
end Go.Proofs.Ytooaiomghbjpiaa

/-
  act: what is done to both desks, by its contract.
-/
namespace Go.Proofs.Ytooaiomghbjpiaa
open Go.RowKit Go.Maps Go.Sort Go.Shelf
set_option maxRecDepth 20000

/-- What an act does to both. -/
def actP (L M : List Se) (a : Ac) : List Se × List Se :=
  if a.kind = 0 then (addL L a.c a.q a.n, addL M a.c a.q a.n) else if a.kind = 1 then (cutC L a.c, cutC M a.c) else if a.kind = 2 then (L, M)
  else if a.kind = 6 then (if nxC L a.q = nxC M a.q ∧ (nextC L a.q).isSome = (nextC M a.q).isSome then (tookL L (nxC L a.q) a.t, tookL M (nxC L a.q) a.t) else (L, M))
  else if a.kind = 3 then (tookL L a.c a.t, tookL M a.c a.t) else if a.kind = 4 then (settleL L a.c a.t, settleL M a.c a.t) else if a.kind = 5 then (forgetL L a.q, forgetL M a.q) else (L, M)
theorem actP_same (L : List Se) (a : Ac) : (actP L L a).1 = (actP L L a).2 := by
  unfold actP
  split
  · rfl
  · split
    · rfl
    · split
      · rfl
      · split
        · split <;> rfl
        · split
          · rfl
          · split
            · rfl
            · split <;> rfl
/-- What act leaves. -/
def ActPost (w0 B : World) (N : Nat → Prop) (w' : World) (p : Nat) (L : List Se) (r : Nat) (M : List Se) (a : Ac) (e : Ending) : Prop := ∃ b, e = .returned (.bool b) ∧ (L = M → b = true) ∧ ∃ F' G', Two w0 B N w' p F' (actP L M a).1 r G' (actP L M a).2
theorem actpost {w0 B w' : World} {N : Nat → Prop} {p r : Nat} {L M L1 M1 : List Se} {a : Ac} {F' G' : Nat → Prop} {e : Ending} (b : Bool) (hA : actP L M a = (L1, M1)) (he : e = .returned (.bool b)) (hb : L = M → b = true) (T : Two w0 B N w' p F' L1 r G' M1) : ActPost w0 B N w' p L r M a e := ⟨b, he, hb, F', G', by rw [hA]; exact T⟩
set_option maxHeartbeats 8000000
theorem act_0 (c : Int) (q : ByteArray) (n t : Int) (w0 B : World) (N : Nat → Prop) (w : World) (p r : Nat) (F G : Nat → Prop) (L M : List Se) (H : Two w0 B N w p F L r G M) (hf : Ac.Fits ⟨0, c, q, n, t⟩) :
    Calls Try.prog 11 #[.pointer (some ⟨p, 0, none⟩), .pointer (some ⟨r, 0, none⟩), acv ⟨0, c, q, n, t⟩] w fun e w' => ActPost w0 B N w' p L r M ⟨0, c, q, n, t⟩ e := by
  obtain ⟨X, fold⟩ : ∃ X, w.alloc (.cells (acells ⟨0, c, q, n, t⟩).toArray 33) = X := ⟨_, rfl⟩
  have HX := H.box ⟨0, c, q, n, t⟩ fold
  have hok1 := H.ok1
  have hok2 := H.ok2
  obtain ⟨e0, e1, e2, e3, e4⟩ := HX.box
  have HK : Hid (∀ {V : World} {F' G' : Nat → Prop} {L' M' : List Se}, St5 w0 B N V p F' L' r G' M' w.heap.size ⟨0, c, q, n, t⟩ → Box5 V w.heap.size ⟨0, c, q, n, t⟩) := fun h => h.box
  unfold acells at fold
  simp only at e0 e1 e2 e3 e4 fold
  have hA : actP L M ⟨0, c, q, n, t⟩ = (addL L c q n, addL M c q n) := rfl
  have HAP : Hid _ := hA
  show Calls Try.prog 11 #[.pointer (some ⟨p, 0, none⟩), .pointer (some ⟨r, 0, none⟩), .agg #[.int .i64 0, .int .i64 c, .string q, .int .i64 n, .int .u64 t]] w _
  have HD : St5 w0 B N X.drew p F L r G M w.heap.size ⟨0, c, q, n, t⟩ := HX.below (Below.refl _ _).drew
  have kD : Hid (∀ V, St5 w0 B N V p F L r G M w.heap.size ⟨0, c, q, n, t⟩ → Calls Try.prog 18 #[.pointer (some ⟨p, 0, none⟩), .int .i64 c, .string q, .int .i64 n] V fun e w' => e = .returned (.int .i64 (addE L c q n)) ∧ ∃ F', Dk w' p F' (addL L c q n) ∧ Moved V w' F F') := fun V h => add_any p F L c q n V h.two.d h.two.ok1 hf.c hf.ql
  have kR : Hid (∀ V F' L', St5 w0 B N V p F' L' r G M w.heap.size ⟨0, c, q, n, t⟩ → Calls Try.prog 24 #[.pointer (some ⟨r, 0, none⟩), .int .i64 c, .string q, .int .i64 n] V fun e w' => e = .returned (.int .i64 (addE M c q n)) ∧ ∃ G', Rd w' r G' (addL M c q n) ∧ Moved V w' G G') := fun V F' L' h => radd_any r G M c q n V h.two.r h.two.ok2 hf.ql
  have OK : Hid (LOk (addL L c q n) ∧ LOk (addL M c q n)) := ⟨hok1.add c n q, hok2.add c n q⟩
  have HZ : Hid (L = M → addE L c q n = addE M c q n) := fun e => by rw [e]
  generalize addE L c q n = z1 at *
  generalize addE M c q n = z2 at *
  generalize addL L c q n = L1 at *
  generalize addL M c q n = M1 at *
  clear hA H HX hf hok1 hok2
  go_enter Try.func11, Try.ntmps11
  go_wp2
  first | (go_region_held3 (fun w' => w'.cell? ⟨w.heap.size, 0, none⟩ = some (.int .i64 0) ∧ w'.cell? ⟨w.heap.size, 1, none⟩ = some (.int .i64 c) ∧ w'.cell? ⟨w.heap.size, 2, none⟩ = some (.string q) ∧ w'.cell? ⟨w.heap.size, 3, none⟩ = some (.int .i64 n) ∧ w'.cell? ⟨w.heap.size, 4, none⟩ = some (.int .u64 t)) (go_keep) (first
    | (go_at_call 18; refine (kD.out _ HD).mono ?_; clear kD; rintro e wx ⟨rfl, Fx, tx, mx⟩; have Sx := HD.goD tx mx OK.out.1; obtain ⟨y0, y1, y2, y3, y4⟩ := HK.out Sx; clear tx mx)
    | (go_at_call 24; refine (kR.out wx _ _ Sx).mono ?_; clear kR; rintro e wy ⟨rfl, Fy, ty, my⟩; have Sy := Sx.goR ty my OK.out.2; obtain ⟨v0, v1, v2, v3, v4⟩ := HK.out Sy; clear ty my))) | fail
  all_goals go_wp2
  all_goals go_ret
  all_goals exact actpost _ HAP.out rfl (fun e => by rw [HZ.out e]; simp) Sy.two
theorem act_3 (c : Int) (q : ByteArray) (n t : Int) (w0 B : World) (N : Nat → Prop) (w : World) (p r : Nat) (F G : Nat → Prop) (L M : List Se) (H : Two w0 B N w p F L r G M) (hf : Ac.Fits ⟨3, c, q, n, t⟩) :
    Calls Try.prog 11 #[.pointer (some ⟨p, 0, none⟩), .pointer (some ⟨r, 0, none⟩), acv ⟨3, c, q, n, t⟩] w fun e w' => ActPost w0 B N w' p L r M ⟨3, c, q, n, t⟩ e := by
  obtain ⟨X, fold⟩ : ∃ X, w.alloc (.cells (acells ⟨3, c, q, n, t⟩).toArray 33) = X := ⟨_, rfl⟩
  have HX := H.box ⟨3, c, q, n, t⟩ fold
  have hok1 := H.ok1
  have hok2 := H.ok2
  obtain ⟨e0, e1, e2, e3, e4⟩ := HX.box
  have HK : Hid (∀ {V : World} {F' G' : Nat → Prop} {L' M' : List Se}, St5 w0 B N V p F' L' r G' M' w.heap.size ⟨3, c, q, n, t⟩ → Box5 V w.heap.size ⟨3, c, q, n, t⟩) := fun h => h.box
  unfold acells at fold
  simp only at e0 e1 e2 e3 e4 fold
  have hA : actP L M ⟨3, c, q, n, t⟩ = (tookL L c t, tookL M c t) := rfl
  have HAP : Hid _ := hA
  show Calls Try.prog 11 #[.pointer (some ⟨p, 0, none⟩), .pointer (some ⟨r, 0, none⟩), .agg #[.int .i64 3, .int .i64 c, .string q, .int .i64 n, .int .u64 t]] w _
  have HD : St5 w0 B N X.drew p F L r G M w.heap.size ⟨3, c, q, n, t⟩ := HX.below (Below.refl _ _).drew
  have kD : Hid (∀ V, St5 w0 B N V p F L r G M w.heap.size ⟨3, c, q, n, t⟩ → Calls Try.prog 20 #[.pointer (some ⟨p, 0, none⟩), .int .i64 c, .int .u64 t] V fun e w' => e = .returned (.int .i64 (tookE L c t)) ∧ ∃ F', Dk w' p F' (tookL L c t) ∧ Moved V w' F F') := fun V h => took_any p F L c t V h.two.d h.two.ok1 hf.c hf.t
  have kR : Hid (∀ V F' L', St5 w0 B N V p F' L' r G M w.heap.size ⟨3, c, q, n, t⟩ → Calls Try.prog 27 #[.pointer (some ⟨r, 0, none⟩), .int .i64 c, .int .u64 t] V fun e w' => e = .returned (.int .i64 (tookE M c t)) ∧ ∃ G', Rd w' r G' (tookL M c t) ∧ Moved V w' G G') := fun V F' L' h => rtook_any r G M c t V h.two.r h.two.ok2
  have OK : Hid (LOk (tookL L c t) ∧ LOk (tookL M c t)) := ⟨hok1.took c t hf.t, hok2.took c t hf.t⟩
  have HZ : Hid (L = M → tookE L c t = tookE M c t) := fun e => by rw [e]
  generalize tookE L c t = z1 at *
  generalize tookE M c t = z2 at *
  generalize tookL L c t = L1 at *
  generalize tookL M c t = M1 at *
  clear hA H HX hf hok1 hok2
  go_enter Try.func11, Try.ntmps11
  go_wp2
  first | (go_region_held3 (fun w' => w'.cell? ⟨w.heap.size, 0, none⟩ = some (.int .i64 3) ∧ w'.cell? ⟨w.heap.size, 1, none⟩ = some (.int .i64 c) ∧ w'.cell? ⟨w.heap.size, 2, none⟩ = some (.string q) ∧ w'.cell? ⟨w.heap.size, 3, none⟩ = some (.int .i64 n) ∧ w'.cell? ⟨w.heap.size, 4, none⟩ = some (.int .u64 t)) (go_keep) (first
    | (go_at_call 20; refine (kD.out _ HD).mono ?_; clear kD; rintro e wx ⟨rfl, Fx, tx, mx⟩; have Sx := HD.goD tx mx OK.out.1; obtain ⟨y0, y1, y2, y3, y4⟩ := HK.out Sx; clear tx mx)
    | (go_at_call 27; refine (kR.out wx _ _ Sx).mono ?_; clear kR; rintro e wy ⟨rfl, Fy, ty, my⟩; have Sy := Sx.goR ty my OK.out.2; obtain ⟨v0, v1, v2, v3, v4⟩ := HK.out Sy; clear ty my))) | fail
  all_goals go_wp2
  all_goals go_ret
  all_goals exact actpost _ HAP.out rfl (fun e => by rw [HZ.out e]; simp) Sy.two
theorem act_5 (c : Int) (q : ByteArray) (n t : Int) (w0 B : World) (N : Nat → Prop) (w : World) (p r : Nat) (F G : Nat → Prop) (L M : List Se) (H : Two w0 B N w p F L r G M) (_hf : Ac.Fits ⟨5, c, q, n, t⟩) :
    Calls Try.prog 11 #[.pointer (some ⟨p, 0, none⟩), .pointer (some ⟨r, 0, none⟩), acv ⟨5, c, q, n, t⟩] w fun e w' => ActPost w0 B N w' p L r M ⟨5, c, q, n, t⟩ e := by
  obtain ⟨X, fold⟩ : ∃ X, w.alloc (.cells (acells ⟨5, c, q, n, t⟩).toArray 33) = X := ⟨_, rfl⟩
  have HX := H.box ⟨5, c, q, n, t⟩ fold
  have hok1 := H.ok1
  have hok2 := H.ok2
  obtain ⟨e0, e1, e2, e3, e4⟩ := HX.box
  have HK : Hid (∀ {V : World} {F' G' : Nat → Prop} {L' M' : List Se}, St5 w0 B N V p F' L' r G' M' w.heap.size ⟨5, c, q, n, t⟩ → Box5 V w.heap.size ⟨5, c, q, n, t⟩) := fun h => h.box
  unfold acells at fold
  simp only at e0 e1 e2 e3 e4 fold
  have hA : actP L M ⟨5, c, q, n, t⟩ = (forgetL L q, forgetL M q) := rfl
  have HAP : Hid _ := hA
  show Calls Try.prog 11 #[.pointer (some ⟨p, 0, none⟩), .pointer (some ⟨r, 0, none⟩), .agg #[.int .i64 5, .int .i64 c, .string q, .int .i64 n, .int .u64 t]] w _
  have HD : St5 w0 B N X.drew p F L r G M w.heap.size ⟨5, c, q, n, t⟩ := HX.below (Below.refl _ _).drew
  have kD : Hid (∀ V, St5 w0 B N V p F L r G M w.heap.size ⟨5, c, q, n, t⟩ → Calls Try.prog 23 #[.pointer (some ⟨p, 0, none⟩), .string q] V fun e w' => ∃ v, e = .returned v ∧ Own1 w' V.heap.size 3 v (icells (goneL L q)) ∧ ∃ F', Dk w' p F' (forgetL L q) ∧ Moved V w' F F') := fun V h => (forget_any p F L q V h.two.d h.two.ok1).mono fun _ _ ⟨v, e, o, F', h1, h2, _⟩ => ⟨v, e, o, F', h1, h2⟩
  have kR : Hid (∀ V F' L', St5 w0 B N V p F' L' r G M w.heap.size ⟨5, c, q, n, t⟩ → Calls Try.prog 29 #[.pointer (some ⟨r, 0, none⟩), .string q] V fun e w' => ∃ v, e = .returned v ∧ Own1 w' V.heap.size 3 v (icells (goneL M q)) ∧ ∃ G', Rd w' r G' (forgetL M q) ∧ Moved V w' G G') := fun V F' L' h => (rforget_any r G M q V h.two.r h.two.ok2).mono fun _ _ ⟨v, e, o, F', h1, h2, _⟩ => ⟨v, e, o, F', h1, h2⟩
  have OK : Hid (LOk (forgetL L q) ∧ LOk (forgetL M q)) := ⟨hok1.forget q, hok2.forget q⟩
  have HG : Hid (∀ k, G k → k < X.drew.heap.size) := HD.two.r.lts
  have HN : Hid ((goneL L q).length ≤ 32 ∧ (goneL M q).length ≤ 32) := ⟨by unfold goneL; rw [clientsL_len]; exact Nat.le_trans (List.length_filter_le _ _) hok1.few, by unfold goneL; rw [clientsL_len]; exact Nat.le_trans (List.length_filter_le _ _) hok2.few⟩
  have HZ : Hid (L = M → goneL L q = goneL M q) := fun e => by rw [e]
  generalize goneL L q = z1 at *
  generalize goneL M q = z2 at *
  generalize forgetL L q = L1 at *
  generalize forgetL M q = M1 at *
  clear hA H HX hok1 hok2
  go_enter Try.func11, Try.ntmps11
  go_wp2
  first | (go_region_held3 (fun w' => w'.cell? ⟨w.heap.size, 0, none⟩ = some (.int .i64 5) ∧ w'.cell? ⟨w.heap.size, 1, none⟩ = some (.int .i64 c) ∧ w'.cell? ⟨w.heap.size, 2, none⟩ = some (.string q) ∧ w'.cell? ⟨w.heap.size, 3, none⟩ = some (.int .i64 n) ∧ w'.cell? ⟨w.heap.size, 4, none⟩ = some (.int .u64 t)) (go_keep) (first
    | (go_at_call 23; refine (kD.out _ HD).mono ?_; clear kD; rintro e wx ⟨u1, rfl, o1, Fx, tx, mx⟩; have Sx := HD.goD tx mx OK.out.1; obtain ⟨y0, y1, y2, y3, y4⟩ := HK.out Sx; have O1 : Hid (Own1 wx X.drew.heap.size 3 u1 (icells z1)) := o1; clear tx mx o1)
    | (go_at_call 29; refine (kR.out wx _ _ Sx).mono ?_; clear kR; rintro e wy ⟨u2, rfl, o2, Fy, ty, my⟩; have Sy := Sx.goR ty my OK.out.2; obtain ⟨v0, v1, v2, v3, v4⟩ := HK.out Sy; have O2 : Hid (Row wy u1 (icells z1) ∧ Row wy u2 (icells z2)) := ⟨(own1_same O1.out fun k hk => my.block k (own_lt O1.out hk) (fun hg => by have := HG.out k hg; have := (own1_blk O1.out hk).1; omega)).row, o2.row⟩; clear ty my o2)
    | (go_at_call 12; refine (ints_any u1 u2 z1 z2 wy O2.out.1 O2.out.2 (by have := HN.out.1; omega) (by have := HN.out.2; omega)).mono ?_; rintro e wz ⟨⟨bb, rfl, hbb⟩, qz, rfl⟩; have Sz := Sy.below (drewN_below wy qz); have HBB : Hid (z1 = z2 → bb = true) := hbb; obtain ⟨s0, s1, s2, s3, s4⟩ := HK.out Sz; clear hbb))) | fail
  all_goals go_wp2
  all_goals go_ret
  all_goals exact actpost _ HAP.out rfl (fun e => HBB.out (HZ.out e)) Sz.two
theorem act_4 (c : Int) (q : ByteArray) (n t : Int) (w0 B : World) (N : Nat → Prop) (w : World) (p r : Nat) (F G : Nat → Prop) (L M : List Se) (H : Two w0 B N w p F L r G M) (hf : Ac.Fits ⟨4, c, q, n, t⟩) :
    Calls Try.prog 11 #[.pointer (some ⟨p, 0, none⟩), .pointer (some ⟨r, 0, none⟩), acv ⟨4, c, q, n, t⟩] w fun e w' => ActPost w0 B N w' p L r M ⟨4, c, q, n, t⟩ e := by
  obtain ⟨X, fold⟩ : ∃ X, w.alloc (.cells (acells ⟨4, c, q, n, t⟩).toArray 33) = X := ⟨_, rfl⟩
  have HX := H.box ⟨4, c, q, n, t⟩ fold
  have hok1 := H.ok1
  have hok2 := H.ok2
  obtain ⟨e0, e1, e2, e3, e4⟩ := HX.box
  have HK : Hid (∀ {V : World} {F' G' : Nat → Prop} {L' M' : List Se}, St5 w0 B N V p F' L' r G' M' w.heap.size ⟨4, c, q, n, t⟩ → Box5 V w.heap.size ⟨4, c, q, n, t⟩) := fun h => h.box
  unfold acells at fold
  simp only at e0 e1 e2 e3 e4 fold
  have hA : actP L M ⟨4, c, q, n, t⟩ = (settleL L c t, settleL M c t) := rfl
  have HAP : Hid _ := hA
  show Calls Try.prog 11 #[.pointer (some ⟨p, 0, none⟩), .pointer (some ⟨r, 0, none⟩), .agg #[.int .i64 4, .int .i64 c, .string q, .int .i64 n, .int .u64 t]] w _
  have kD := settle_any p F L c t X HX.two.d HX.two.ok1 hf.c hf.t
  have kR : Hid (∀ V F' L', St5 w0 B N V p F' L' r G M w.heap.size ⟨4, c, q, n, t⟩ → Calls Try.prog 28 #[.pointer (some ⟨r, 0, none⟩), .int .i64 c, .int .u64 t] V fun e w' => e = .returned (settleV M c t) ∧ ∃ G', Rd w' r G' (settleL M c t) ∧ Moved V w' G G') := fun V F' L' h => rsettle_any r G M c t V h.two.r h.two.ok2
  have OK : Hid (LOk (settleL L c t) ∧ LOk (settleL M c t)) := ⟨hok1.settle c t, hok2.settle c t⟩
  have HXx : Hid (St5 w0 B N X p F L r G M w.heap.size ⟨4, c, q, n, t⟩) := HX
  have HZ : Hid (L = M → settleE L c t = settleE M c t ∧ stQ L c t = stQ M c t) := fun e => by rw [e]; exact ⟨rfl, rfl⟩
  rw [settleV_is] at kD
  rw [settleV_is] at kR
  generalize settleE L c t = z1 at *
  generalize settleE M c t = z2 at *
  generalize stQ L c t = q1 at *
  generalize stQ M c t = q2 at *
  generalize settleL L c t = L1 at *
  generalize settleL M c t = M1 at *
  clear hA H HX hf hok1 hok2
  go_enter Try.func11, Try.ntmps11
  go_wp2_with fail
  refine kD.mono ?_
  rintro e wx ⟨rfl, Fx, tx, mx⟩
  have Sx := HXx.out.goD tx mx OK.out.1
  obtain ⟨y0, y1, y2, y3, y4⟩ := HK.out Sx
  have hR := kR.out wx _ _ Sx
  clear tx mx kD
  go_wp2_with fail
  refine hR.mono ?_
  rintro e wy ⟨rfl, Fy, ty, my⟩
  have Sy := Sx.goR ty my OK.out.2
  clear ty my hR Sx y0 y1 y2 y3 y4
  have SY : Hid _ := Sy.two
  clear Sy
  obtain ⟨B, hB⟩ : ∃ B, (q1.toList == q2.toList) = B := ⟨_, rfl⟩
  have HQ : Hid (L = M → B = true) := fun e => by rw [← hB, (HZ.out e).2]; simp
  cases B with
  | false =>
    go_wp2
    go_ret
    exact actpost false HAP.out rfl (HQ.out) SY.out
  | true =>
    go_wp2
    go_ret
    exact actpost _ HAP.out rfl (fun e => by rw [(HZ.out e).1]; simp) SY.out
theorem act_1 (c : Int) (q : ByteArray) (n t : Int) (w0 B : World) (N : Nat → Prop) (w : World) (p r : Nat) (F G : Nat → Prop) (L M : List Se) (H : Two w0 B N w p F L r G M) (hf : Ac.Fits ⟨1, c, q, n, t⟩) :
    Calls Try.prog 11 #[.pointer (some ⟨p, 0, none⟩), .pointer (some ⟨r, 0, none⟩), acv ⟨1, c, q, n, t⟩] w fun e w' => ActPost w0 B N w' p L r M ⟨1, c, q, n, t⟩ e := by
  obtain ⟨X, fold⟩ : ∃ X, w.alloc (.cells (acells ⟨1, c, q, n, t⟩).toArray 33) = X := ⟨_, rfl⟩
  have HX := H.box ⟨1, c, q, n, t⟩ fold
  have hok1 := H.ok1
  have hok2 := H.ok2
  obtain ⟨e0, e1, e2, e3, e4⟩ := HX.box
  have HK : Hid (∀ {V : World} {F' G' : Nat → Prop} {L' M' : List Se}, St5 w0 B N V p F' L' r G' M' w.heap.size ⟨1, c, q, n, t⟩ → Box5 V w.heap.size ⟨1, c, q, n, t⟩) := fun h => h.box
  unfold acells at fold
  simp only at e0 e1 e2 e3 e4 fold
  have hA : actP L M ⟨1, c, q, n, t⟩ = (cutC L c, cutC M c) := rfl
  have HAP : Hid _ := hA
  show Calls Try.prog 11 #[.pointer (some ⟨p, 0, none⟩), .pointer (some ⟨r, 0, none⟩), .agg #[.int .i64 1, .int .i64 c, .string q, .int .i64 n, .int .u64 t]] w _
  have kD : Calls Try.prog 21 #[.pointer (some ⟨p, 0, none⟩), .int .i64 c] X fun e w' => ∃ a k, e = .returned (.tuple #[.agg #[.string (hqL L c), .slice a (htL L c).length k], .int .i64 (dropE L c)]) ∧ Own1 w' X.heap.size 31 (.slice a (htL L c).length k) (ucells (htL L c)) ∧ ∃ F', Dk w' p F' (cutC L c) ∧ Moved X w' F F' := (drop_any p F L c X HX.two.d HX.two.ok1 hf.c HX.two.ok1.sorts).mono fun e w' ⟨u, h1, h2, h3⟩ => by
    obtain ⟨v, rfl, ho⟩ := tellS_is h2
    obtain ⟨a, k, rfl⟩ := ho.row.sliceU
    exact ⟨a, k, h1, ho, h3⟩
  have kR : Hid (∀ V F' L', St5 w0 B N V p F' L' r G M w.heap.size ⟨1, c, q, n, t⟩ → _) := fun V F' L' h => rdrop_tell r G M c V h.two.r h.two.ok2
  have OK : Hid (LOk (cutC L c) ∧ LOk (cutC M c)) := ⟨hok1.cut c, hok2.cut c⟩
  have HXx : Hid (St5 w0 B N X p F L r G M w.heap.size ⟨1, c, q, n, t⟩) := HX
  have HG : Hid (∀ k, G k → k < X.heap.size) := HX.two.r.lts
  have HN : Hid ((htL L c).length ≤ 100 ∧ (htL M c).length ≤ 100) := ⟨htL_len hok1 c, htL_len hok2 c⟩
  have HZ : Hid (L = M → dropE L c = dropE M c ∧ hqL L c = hqL M c ∧ htL L c = htL M c) := fun e => by rw [e]; exact ⟨rfl, rfl, rfl⟩
  generalize dropE L c = z1 at *
  generalize dropE M c = z2 at *
  generalize hqL L c = q1 at *
  generalize hqL M c = q2 at *
  generalize htL L c = l1 at *
  generalize htL M c = l2 at *
  generalize cutC L c = L1 at *
  generalize cutC M c = M1 at *
  obtain ⟨n1, hn1⟩ : ∃ z, l1.length = z := ⟨_, rfl⟩
  obtain ⟨n2, hn2⟩ : ∃ z, l2.length = z := ⟨_, rfl⟩
  rw [hn1] at kD
  rw [hn2] at kR
  clear hA H HX hf hok1 hok2
  go_enter Try.func11, Try.ntmps11
  go_wp2_with fail
  refine kD.mono ?_
  rintro e wx ⟨a1, k1, rfl, o1, Fx, tx, mx⟩
  obtain ⟨W1, fold1⟩ : ∃ W, wx.alloc (.cells #[.string q1, .slice a1 n1 k1] 40) = W := ⟨_, rfl⟩
  have b1 : Below wx.heap.size wx W1 := by rw [← fold1]; exact (Below.refl _ _).alloc (Nat.le_refl _) _
  have Sx := (HXx.out.goD tx mx OK.out.1).below b1
  have hs1 : W1.heap.size = wx.heap.size + 1 := by rw [← fold1]; simp
  have hb1 : W1.heap[wx.heap.size]? = some (.cells #[.string q1, .slice a1 n1 k1] 40 (0, 0)) := by rw [← fold1]; exact heap_alloc_new wx _
  have hsX : X.heap.size ≤ wx.heap.size := mx.size
  have O1 : Hid (Own1 W1 X.heap.size 31 (.slice a1 n1 k1) (ucells l1) ∧ W1.heap[wx.heap.size]? = some (.cells #[.string q1, .slice a1 n1 k1] 40 (0, 0)) ∧ wx.heap.size < W1.heap.size ∧ X.heap.size ≤ wx.heap.size) := ⟨own1_same o1 fun k hk => b1.block k (own_lt o1 hk), hb1, by omega, hsX⟩
  obtain ⟨y0, y1, y2, y3, y4⟩ := HK.out Sx
  have hR := kR.out W1 _ _ Sx
  clear tx mx kD o1 b1 hs1 hb1 hsX
  go_wp2_with fail
  refine hR.mono ?_
  rintro e wy ⟨z, m, a2, k2, rfl, o2, Fy, ty, my⟩
  obtain ⟨W2, fold2⟩ : ∃ W, wy.alloc (.cells #[.int .i64 z, .string q2, .int .i64 m, .slice a2 n2 k2] 44) = W := ⟨_, rfl⟩
  have b2 : Below wy.heap.size wy W2 := by rw [← fold2]; exact (Below.refl _ _).alloc (Nat.le_refl _) _
  have Sy := (Sx.goR ty my OK.out.2).below b2
  have hb2 : W2.heap[wy.heap.size]? = some (.cells #[.int .i64 z, .string q2, .int .i64 m, .slice a2 n2 k2] 44 (0, 0)) := by rw [← fold2]; exact heap_alloc_new wy _
  have hsW : W1.heap.size ≤ wy.heap.size := my.size
  have hb1 : W2.heap[wx.heap.size]? = some (.cells #[.string q1, .slice a1 n1 k1] 40 (0, 0)) := (b2.block _ (by have := O1.out.2.2.1; omega)).trans ((my.block _ O1.out.2.2.1 (fun hg => by have := HG.out _ hg; have := O1.out.2.2.2; omega)).trans O1.out.2.1)
  have O2 : Hid (Row W2 (.slice a1 n1 k1) (ucells l1) ∧ Row W2 (.slice a2 n2 k2) (ucells l2)) := ⟨((own1_same O1.out.1 fun k hk => my.block k (own_lt O1.out.1 hk) (fun hg => by have := HG.out k hg; have := (own1_blk O1.out.1 hk).1; omega)).row).below b2 (Nat.le_refl _), o2.below b2 (Nat.le_refl _)⟩
  obtain ⟨x0, x1, x2, x3, _, _, _, _⟩ := one_cells hb2
  have u0 : W2.cell? ⟨wx.heap.size, 0, none⟩ = some (.string q1) := by simp [World.cell?, hb1]
  have u1 : W2.cell? ⟨wx.heap.size, 1, none⟩ = some (.slice a1 n1 k1) := by simp [World.cell?, hb1]
  have SY : Hid _ := Sy.two
  have hT := tags_any (.slice a1 n1 k1) (.slice a2 n2 k2) l1 l2 W2 O2.out.1 O2.out.2 (by have := HN.out.1; omega) (by have := HN.out.2; omega)
  clear ty my hR Sx y0 y1 y2 y3 y4 Sy hb1 hb2 b2 hsW o2
  obtain ⟨B, hB⟩ : ∃ B, (q1.toList == q2.toList) = B := ⟨_, rfl⟩
  have HQ : Hid (L = M → B = true) := fun e => by rw [← hB, (HZ.out e).2.1]; simp
  cases B with
  | false =>
    go_wp2
    go_ret
    exact actpost false HAP.out rfl (HQ.out) SY.out
  | true =>
    go_wp2_with fail
    refine hT.mono ?_
    rintro e wz ⟨⟨bb, rfl, hbb⟩, qz, rfl⟩
    have HBB : Hid (L = M → bb = true) := fun e => hbb (HZ.out e).2.2
    clear hbb hT
    cases bb with
    | false =>
      go_wp2
      go_ret
      exact actpost false HAP.out rfl (HBB.out) (SY.out.below (drewN_below W2 qz))
    | true =>
      go_wp2
      go_ret
      exact actpost _ HAP.out rfl (fun e => by rw [(HZ.out e).1]; simp) (SY.out.below (drewN_below W2 qz))
theorem act_2 (c : Int) (q : ByteArray) (n t : Int) (w0 B : World) (N : Nat → Prop) (w : World) (p r : Nat) (F G : Nat → Prop) (L M : List Se) (H : Two w0 B N w p F L r G M) (_hf : Ac.Fits ⟨2, c, q, n, t⟩) :
    Calls Try.prog 11 #[.pointer (some ⟨p, 0, none⟩), .pointer (some ⟨r, 0, none⟩), acv ⟨2, c, q, n, t⟩] w fun e w' => ActPost w0 B N w' p L r M ⟨2, c, q, n, t⟩ e := by
  obtain ⟨X, fold⟩ : ∃ X, w.alloc (.cells (acells ⟨2, c, q, n, t⟩).toArray 33) = X := ⟨_, rfl⟩
  have HX := H.box ⟨2, c, q, n, t⟩ fold
  have hok1 := H.ok1
  have hok2 := H.ok2
  obtain ⟨e0, e1, e2, e3, e4⟩ := HX.box
  have HK : Hid (∀ {V : World} {F' G' : Nat → Prop} {L' M' : List Se}, St5 w0 B N V p F' L' r G' M' w.heap.size ⟨2, c, q, n, t⟩ → Box5 V w.heap.size ⟨2, c, q, n, t⟩) := fun h => h.box
  unfold acells at fold
  simp only at e0 e1 e2 e3 e4 fold
  have hA : actP L M ⟨2, c, q, n, t⟩ = (L, M) := rfl
  have HAP : Hid _ := hA
  show Calls Try.prog 11 #[.pointer (some ⟨p, 0, none⟩), .pointer (some ⟨r, 0, none⟩), .agg #[.int .i64 2, .int .i64 c, .string q, .int .i64 n, .int .u64 t]] w _
  have kD := next_any p F L q X HX.two.d HX.two.ok1
  have kR : Hid (∀ V F' L', St5 w0 B N V p F' L' r G M w.heap.size ⟨2, c, q, n, t⟩ → Calls Try.prog 26 #[.pointer (some ⟨r, 0, none⟩), .string q] V fun e w' => e = .returned (nextV M q) ∧ Below V.heap.size V w') := fun V F' L' h => by
    obtain ⟨v, X', h1, h2, _⟩ := h.two.r
    rw [← h2]
    exact rnext_at h1 q
  have HXx : Hid (St5 w0 B N X p F L r G M w.heap.size ⟨2, c, q, n, t⟩) := HX
  have HZ : Hid (L = M → nxC L q = nxC M q ∧ (nextC L q).isSome = (nextC M q).isSome) := fun e => by rw [e]; exact ⟨rfl, rfl⟩
  rw [nextV_is] at kD
  rw [nextV_is] at kR
  generalize nxC L q = n1 at *
  generalize nxC M q = n2 at *
  generalize (nextC L q).isSome = b1 at *
  generalize (nextC M q).isSome = b2 at *
  clear hA H HX hok1 hok2
  by_cases hn : n1 = n2
  · have hnb : (n1 != n2) = false := by simpa using hn
    have hne : (n1 == n2) = true := by simpa using hn
    by_cases hb : b1 = b2
    · skip
      have hbb : (b1 != b2) = false := by simpa using hb
      have hbe : (b1 == b2) = true := by simpa using hb
      clear hn hb HZ
      go_enter Try.func11, Try.ntmps11
      go_wp2_with fail
      refine kD.mono ?_
      rintro e wx ⟨rfl, bx⟩
      have Sx := HXx.out.below bx
      have hR := kR.out wx _ _ Sx
      obtain ⟨y0, y1, y2, y3, y4⟩ := HK.out Sx
      clear bx kD
      go_wp2_with fail
      refine hR.mono ?_
      rintro e wy ⟨rfl, by'⟩
      have Sy := Sx.below by'
      clear by' hR Sx y0 y1 y2 y3 y4
      obtain ⟨y0, y1, y2, y3, y4⟩ := HK.out Sy
      simp only at y0 y1 y2 y3 y4
      have SY : Hid _ := Sy.two
      clear Sy
      go_wp2
      go_quiet (fail)
      go_wp2
      go_ret
      exact actpost true HAP.out rfl (fun _ => rfl) (SY.out.below (drewN_below wy _))
    · skip
      have hbb : (b1 != b2) = true := by simpa using hb
      have hbe : (b1 == b2) = false := by simpa using hb
      have HF : Hid (L = M → False) := fun e => hb (HZ.out e).2
      clear hn hb HZ
      go_enter Try.func11, Try.ntmps11
      go_wp2_with fail
      refine kD.mono ?_
      rintro e wx ⟨rfl, bx⟩
      have Sx := HXx.out.below bx
      have hR := kR.out wx _ _ Sx
      obtain ⟨y0, y1, y2, y3, y4⟩ := HK.out Sx
      clear bx kD
      go_wp2_with fail
      refine hR.mono ?_
      rintro e wy ⟨rfl, by'⟩
      have SY : Hid _ := (Sx.below by').two
      clear by' hR Sx y0 y1 y2 y3 y4
      go_wp2
      go_ret
      exact actpost false HAP.out rfl (fun e => (HF.out e).elim) SY.out
  · skip
    have hnb : (n1 != n2) = true := by simpa using hn
    have hne : (n1 == n2) = false := by simpa using hn
    have HF : Hid (L = M → False) := fun e => hn (HZ.out e).1
    clear hn HZ
    go_enter Try.func11, Try.ntmps11
    go_wp2_with fail
    refine kD.mono ?_
    rintro e wx ⟨rfl, bx⟩
    have Sx := HXx.out.below bx
    have hR := kR.out wx _ _ Sx
    obtain ⟨y0, y1, y2, y3, y4⟩ := HK.out Sx
    clear bx kD
    go_wp2_with fail
    refine hR.mono ?_
    rintro e wy ⟨rfl, by'⟩
    have SY : Hid _ := (Sx.below by').two
    clear by' hR Sx y0 y1 y2 y3 y4
    go_wp2
    go_ret
    exact actpost false HAP.out rfl (fun e => (HF.out e).elim) SY.out
theorem act_6 (c : Int) (q : ByteArray) (n t : Int) (w0 B : World) (N : Nat → Prop) (w : World) (p r : Nat) (F G : Nat → Prop) (L M : List Se) (H : Two w0 B N w p F L r G M) (hf : Ac.Fits ⟨6, c, q, n, t⟩) :
    Calls Try.prog 11 #[.pointer (some ⟨p, 0, none⟩), .pointer (some ⟨r, 0, none⟩), acv ⟨6, c, q, n, t⟩] w fun e w' => ActPost w0 B N w' p L r M ⟨6, c, q, n, t⟩ e := by
  obtain ⟨X, fold⟩ : ∃ X, w.alloc (.cells (acells ⟨6, c, q, n, t⟩).toArray 33) = X := ⟨_, rfl⟩
  have HX := H.box ⟨6, c, q, n, t⟩ fold
  have hok1 := H.ok1
  have hok2 := H.ok2
  obtain ⟨e0, e1, e2, e3, e4⟩ := HX.box
  have HK : Hid (∀ {V : World} {F' G' : Nat → Prop} {L' M' : List Se}, St5 w0 B N V p F' L' r G' M' w.heap.size ⟨6, c, q, n, t⟩ → Box5 V w.heap.size ⟨6, c, q, n, t⟩) := fun h => h.box
  unfold acells at fold
  simp only at e0 e1 e2 e3 e4 fold
  have hA : actP L M ⟨6, c, q, n, t⟩ = (if nxC L q = nxC M q ∧ (nextC L q).isSome = (nextC M q).isSome then (tookL L (nxC L q) t, tookL M (nxC L q) t) else (L, M)) := rfl
  have HAP : Hid _ := hA
  show Calls Try.prog 11 #[.pointer (some ⟨p, 0, none⟩), .pointer (some ⟨r, 0, none⟩), .agg #[.int .i64 6, .int .i64 c, .string q, .int .i64 n, .int .u64 t]] w _
  have kD := next_any p F L q X HX.two.d HX.two.ok1
  have kR : Hid (∀ V F' L', St5 w0 B N V p F' L' r G M w.heap.size ⟨6, c, q, n, t⟩ → Calls Try.prog 26 #[.pointer (some ⟨r, 0, none⟩), .string q] V fun e w' => e = .returned (nextV M q) ∧ Below V.heap.size V w') := fun V F' L' h => by
    obtain ⟨v, X', h1, h2, _⟩ := h.two.r
    rw [← h2]
    exact rnext_at h1 q
  have HXx : Hid (St5 w0 B N X p F L r G M w.heap.size ⟨6, c, q, n, t⟩) := HX
  have HZ : Hid (L = M → nxC L q = nxC M q ∧ (nextC L q).isSome = (nextC M q).isSome) := fun e => by rw [e]; exact ⟨rfl, rfl⟩
  have kT : Hid (∀ V, St5 w0 B N V p F L r G M w.heap.size ⟨6, c, q, n, t⟩ → Calls Try.prog 20 #[.pointer (some ⟨p, 0, none⟩), .int .i64 (nxC L q), .int .u64 t] V fun e w' => e = .returned (.int .i64 (tookE L (nxC L q) t)) ∧ ∃ F', Dk w' p F' (tookL L (nxC L q) t) ∧ Moved V w' F F') := fun V h => took_any p F L (nxC L q) t V h.two.d h.two.ok1 (nxC_i64 h.two.ok1 q) hf.t
  have kU : Hid (∀ V F' L', St5 w0 B N V p F' L' r G M w.heap.size ⟨6, c, q, n, t⟩ → Calls Try.prog 27 #[.pointer (some ⟨r, 0, none⟩), .int .i64 (nxC L q), .int .u64 t] V fun e w' => e = .returned (.int .i64 (tookE M (nxC L q) t)) ∧ ∃ G', Rd w' r G' (tookL M (nxC L q) t) ∧ Moved V w' G G') := fun V F' L' h => rtook_any r G M (nxC L q) t V h.two.r h.two.ok2
  have OK : Hid (LOk (tookL L (nxC L q) t) ∧ LOk (tookL M (nxC L q) t)) := ⟨hok1.took _ t hf.t, hok2.took _ t hf.t⟩
  have HY : Hid (L = M → tookE L (nxC L q) t = tookE M (nxC L q) t) := fun e => by rw [e]
  generalize tookE L (nxC L q) t = z1 at *
  generalize tookE M (nxC L q) t = z2 at *
  generalize tookL L (nxC L q) t = L1 at *
  generalize tookL M (nxC L q) t = M1 at *
  rw [nextV_is] at kD
  rw [nextV_is] at kR
  generalize nxC L q = n1 at *
  generalize nxC M q = n2 at *
  generalize (nextC L q).isSome = b1 at *
  generalize (nextC M q).isSome = b2 at *
  clear hA H HX hf hok1 hok2
  by_cases hn : n1 = n2
  · have hnb : (n1 != n2) = false := by simpa using hn
    have hne : (n1 == n2) = true := by simpa using hn
    by_cases hb : b1 = b2
    · rw [if_pos ⟨hn, hb⟩] at HAP
      have hbb : (b1 != b2) = false := by simpa using hb
      have hbe : (b1 == b2) = true := by simpa using hb
      clear hn hb HZ
      go_enter Try.func11, Try.ntmps11
      go_wp2_with fail
      refine kD.mono ?_
      rintro e wx ⟨rfl, bx⟩
      have Sx := HXx.out.below bx
      have hR := kR.out wx _ _ Sx
      obtain ⟨y0, y1, y2, y3, y4⟩ := HK.out Sx
      clear bx kD
      go_wp2_with fail
      refine hR.mono ?_
      rintro e wy ⟨rfl, by'⟩
      have Sy := Sx.below by'
      clear by' hR Sx y0 y1 y2 y3 y4
      obtain ⟨y0, y1, y2, y3, y4⟩ := HK.out Sy
      simp only at y0 y1 y2 y3 y4
      have HD : St5 w0 B N wy.drew p F L r G M w.heap.size ⟨6, c, q, n, t⟩ := Sy.below (Below.refl _ _).drew
      clear Sy
      go_wp2
      first | (go_region_held3 (fun w' => w'.cell? ⟨w.heap.size, 0, none⟩ = some (.int .i64 6) ∧ w'.cell? ⟨w.heap.size, 1, none⟩ = some (.int .i64 c) ∧ w'.cell? ⟨w.heap.size, 2, none⟩ = some (.string q) ∧ w'.cell? ⟨w.heap.size, 3, none⟩ = some (.int .i64 n) ∧ w'.cell? ⟨w.heap.size, 4, none⟩ = some (.int .u64 t)) (go_keep) (first
        | (go_at_call 20; refine (kT.out _ HD).mono ?_; clear kT; rintro e wv ⟨rfl, Fv, tv, mv⟩; have Sv := HD.goD tv mv OK.out.1; obtain ⟨s0, s1, s2, s3, s4⟩ := HK.out Sv; clear tv mv)
        | (go_at_call 27; refine (kU.out wv _ _ Sv).mono ?_; clear kU; rintro e wu ⟨rfl, Fu, tu, mu⟩; have Su := Sv.goR tu mu OK.out.2; obtain ⟨v0, v1, v2, v3, v4⟩ := HK.out Su; clear tu mu))) | fail
      all_goals go_wp2
      all_goals go_ret
      all_goals exact actpost _ HAP.out rfl (fun e => by rw [HY.out e]; simp) Su.two
    · rw [if_neg fun h => hb h.2] at HAP
      have hbb : (b1 != b2) = true := by simpa using hb
      have hbe : (b1 == b2) = false := by simpa using hb
      have HF : Hid (L = M → False) := fun e => hb (HZ.out e).2
      clear hn hb HZ
      go_enter Try.func11, Try.ntmps11
      go_wp2_with fail
      refine kD.mono ?_
      rintro e wx ⟨rfl, bx⟩
      have Sx := HXx.out.below bx
      have hR := kR.out wx _ _ Sx
      obtain ⟨y0, y1, y2, y3, y4⟩ := HK.out Sx
      clear bx kD
      go_wp2_with fail
      refine hR.mono ?_
      rintro e wy ⟨rfl, by'⟩
      have SY : Hid _ := (Sx.below by').two
      clear by' hR Sx y0 y1 y2 y3 y4
      go_wp2
      go_ret
      exact actpost false HAP.out rfl (fun e => (HF.out e).elim) SY.out
  · rw [if_neg fun h => hn h.1] at HAP
    have hnb : (n1 != n2) = true := by simpa using hn
    have hne : (n1 == n2) = false := by simpa using hn
    have HF : Hid (L = M → False) := fun e => hn (HZ.out e).1
    clear hn HZ
    go_enter Try.func11, Try.ntmps11
    go_wp2_with fail
    refine kD.mono ?_
    rintro e wx ⟨rfl, bx⟩
    have Sx := HXx.out.below bx
    have hR := kR.out wx _ _ Sx
    obtain ⟨y0, y1, y2, y3, y4⟩ := HK.out Sx
    clear bx kD
    go_wp2_with fail
    refine hR.mono ?_
    rintro e wy ⟨rfl, by'⟩
    have SY : Hid _ := (Sx.below by').two
    clear by' hR Sx y0 y1 y2 y3 y4
    go_wp2
    go_ret
    exact actpost false HAP.out rfl (fun e => (HF.out e).elim) SY.out
theorem act_any (a : Ac) (w0 B : World) (N : Nat → Prop) (w : World) (p r : Nat) (F G : Nat → Prop) (L M : List Se) (H : Two w0 B N w p F L r G M) (hf : a.Fits) :
    Calls Try.prog 11 #[.pointer (some ⟨p, 0, none⟩), .pointer (some ⟨r, 0, none⟩), acv a] w fun e w' => ActPost w0 B N w' p L r M a e := by
  obtain ⟨kd, c, q, n, t⟩ := a
  by_cases k0 : kd = 0
  · subst k0; exact act_0 c q n t w0 B N w p r F G L M H hf
  by_cases k1 : kd = 1
  · subst k1; exact act_1 c q n t w0 B N w p r F G L M H hf
  by_cases k2 : kd = 2
  · subst k2; exact act_2 c q n t w0 B N w p r F G L M H hf
  by_cases k3 : kd = 3
  · subst k3; exact act_3 c q n t w0 B N w p r F G L M H hf
  by_cases k4 : kd = 4
  · subst k4; exact act_4 c q n t w0 B N w p r F G L M H hf
  by_cases k5 : kd = 5
  · subst k5; exact act_5 c q n t w0 B N w p r F G L M H hf
  by_cases k6 : kd = 6
  · subst k6; exact act_6 c q n t w0 B N w p r F G L M H hf
  obtain ⟨X, fold⟩ : ∃ X, w.alloc (.cells (acells ⟨kd, c, q, n, t⟩).toArray 33) = X := ⟨_, rfl⟩
  have HX := H.box ⟨kd, c, q, n, t⟩ fold
  obtain ⟨e0, e1, e2, e3, e4⟩ := HX.box
  unfold acells at fold
  simp only at e0 e1 e2 e3 e4 fold
  have hA : actP L M ⟨kd, c, q, n, t⟩ = (L, M) := by unfold actP; simp [k0, k1, k2, k3, k4, k5, k6]
  have HAP : Hid _ := hA
  show Calls Try.prog 11 #[.pointer (some ⟨p, 0, none⟩), .pointer (some ⟨r, 0, none⟩), .agg #[.int .i64 kd, .int .i64 c, .string q, .int .i64 n, .int .u64 t]] w _
  have HT : Hid _ := HX.two
  clear HX H hA hf
  have j0 : (kd == (0 : Int)) = false := by simpa using k0
  have j1 : (kd == (1 : Int)) = false := by simpa using k1
  have j2 : (kd == (2 : Int)) = false := by simpa using k2
  have j3 : (kd == (3 : Int)) = false := by simpa using k3
  have j4 : (kd == (4 : Int)) = false := by simpa using k4
  have j5 : (kd == (5 : Int)) = false := by simpa using k5
  have j6 : (kd == (6 : Int)) = false := by simpa using k6
  go_enter Try.func11, Try.ntmps11
  go_wp2
  go_ret
  exact actpost true HAP.out rfl (fun _ => rfl) HT.out
end Go.Proofs.Ytooaiomghbjpiaa

/-
  TWO DESKS at the head of a law's loop: what act leaves of them, and of what was made on the way.
-/
namespace Go.Proofs.Ytooaiomghbjpiaa
open Go.RowKit Go.Maps Go.Sort Go.Shelf
set_option maxRecDepth 20000

def TwoX (w W : World) (p : Nat) (L : List Se) (r : Nat) (M : List Se) : Prop := ∃ F G, Two w W (fun _ => False) W p F L r G M
/-- What act leaves: two desks; and what was made since z is as it was. -/
def ActX (w V w' : World) (z : Nat) (p : Nat) (L : List Se) (r : Nat) (M : List Se) (a : Ac) (e : Ending) : Prop := ∃ b, e = .returned (.bool b) ∧ (L = M → b = true) ∧ TwoX w w' p (actP L M a).1 r (actP L M a).2 ∧ ∀ k, z ≤ k → k < V.heap.size → w'.heap[k]? = V.heap[k]?
section
variable {w W W' : World} {p r : Nat} {L M : List Se}
theorem TwoX.bel (h : TwoX w W p L r M) : Below w.heap.size w W := by obtain ⟨F, G, h⟩ := h; exact h.bel
theorem TwoX.ok (h : TwoX w W p L r M) : LOk L ∧ LOk M := by obtain ⟨F, G, h⟩ := h; exact ⟨h.ok1, h.ok2⟩
theorem TwoX.below (h : TwoX w W p L r M) (b : Below W.heap.size W W') : TwoX w W' p L r M := by
  obtain ⟨F, G, h⟩ := h
  exact ⟨F, G, (h.below b).base _ fun k hk => hk.elim⟩
theorem TwoX.lv (h : TwoX w W p L r M) : Lv w W p L := by
  obtain ⟨F, G, h⟩ := h
  exact ⟨F, h.d, h.ok1, h.bel, h.fd⟩
theorem TwoX.act (h : TwoX w W p L r M) (b : Below W.heap.size W W') (a : Ac) (hf : a.Fits) : Calls Try.prog 11 #[.pointer (some ⟨p, 0, none⟩), .pointer (some ⟨r, 0, none⟩), acv a] W' fun e w' => ActX w W' w' W.heap.size p L r M a e := by
  obtain ⟨F, G, h⟩ := h
  have h' := (h.below b).base (fun k => W.heap.size ≤ k ∧ k < W'.heap.size) fun k hk => ⟨hk.2, fun hf => by have := h.d.lts k hf; omega, fun hf => by have := h.r.lts k hf; omega⟩
  refine (act_any a w W' _ W' p r F G L M h' hf).mono fun e w' ⟨bb, he, hb, F', G', T⟩ => ⟨bb, he, hb, ⟨F', G', T.base _ fun k hk => hk.elim⟩, fun k h1 h2 => (T.ns k ⟨h1, h2⟩).2⟩
theorem TwoX.clients (h : TwoX w W p L r M) : Calls Try.prog 13 #[.pointer (some ⟨p, 0, none⟩)] W fun e w' => ∃ v, e = .returned v ∧ Own1 w' W.heap.size 3 v (icells (clientsL L)) ∧ Below W.heap.size W w' := by
  obtain ⟨F, G, h⟩ := h
  exact clients_any p F L W h.d h.ok1
theorem TwoX.rclients (h : TwoX w W p L r M) : Calls Try.prog 14 #[.pointer (some ⟨r, 0, none⟩)] W fun e w' => ∃ v, e = .returned v ∧ Own1 w' W.heap.size 3 v (icells (clientsL M)) ∧ Below W.heap.size W w' := by
  obtain ⟨F, G, h⟩ := h
  exact rclients_any r G M W h.r h.ok2
theorem Lv.holds (h : Lv w W p L) (c : Int) (hc : I64 c) : Calls Try.prog 15 #[.pointer (some ⟨p, 0, none⟩), .int .i64 c] W fun e w' => ∃ a k, e = .returned (.tuple #[.agg #[.string (hqL L c), .slice a (htL L c).length k], .bool (holdB L c)]) ∧ Own1 w' W.heap.size 31 (.slice a (htL L c).length k) (ucells (htL L c)) ∧ Below W.heap.size W w' := by
  refine (h.hold c hc h.ok.sorts).mono fun e w' ⟨u, h1, h2, h3, _⟩ => ?_
  obtain ⟨v, rfl, ho⟩ := tellS_is h2
  obtain ⟨a, k, rfl⟩ := ho.row.sliceU
  exact ⟨a, k, h1, ho, h3⟩
theorem TwoX.find (h : TwoX w W p L r M) (c : Int) : Calls Try.prog 16 #[.pointer (some ⟨r, 0, none⟩), .int .i64 c] W fun e w' => ∃ z m a k, e = .returned (.tuple #[.agg #[.int .i64 z, .string (hqL M c), .int .i64 m, .slice a (htL M c).length k], .bool (holdB M c)]) ∧ Row w' (.slice a (htL M c).length k) (ucells (htL M c)) ∧ Below W.heap.size W w' := by
  obtain ⟨F, G, h⟩ := h
  exact rFind_tell r G M c W h.r
end
theorem two_new {w w1 W2 : World} {p : Nat} (h : Lv w w1 p []) (fold : w1.alloc (.cells #[.slice none 0 0] 28) = W2) : TwoX w W2 p [] w1.heap.size [] := by
  obtain ⟨F, h1, h2, h3, h4⟩ := h
  have b : Below w1.heap.size w1 W2 := by rw [← fold]; exact (Below.refl _ _).alloc (Nat.le_refl _) _
  have hb : W2.heap[w1.heap.size]? = some (.cells #[.slice none 0 0] 28 (0, 0)) := by rw [← fold]; exact heap_alloc_new w1 _
  have hs := h3.size
  have hft : ∀ k, footR w1.heap.size (.slice none 0 0) [] k → k = w1.heap.size := by
    rintro k (h | h | ⟨x, hx, _⟩)
    · exact h
    · simp [Value.ownBlock] at h
    · cases hx
  exact ⟨F, footR w1.heap.size (.slice none 0 0) [], h1.kept b, ⟨_, [], ⟨hb, K.ownOf_nil _ _, fun x hx => by cases hx⟩, rfl, rfl⟩, lok_nil, lok_nil, h4, fun k hk => by rw [hft k hk]; exact hs, fun k hk hg => by have := h1.lts k hk; have := hft k hg; omega, h3.trans (b.mono hs), Nat.le_refl _, fun k hk => hk.elim, fun k hk => hk.elim, fun k hk => hk.elim⟩
/-- Ints, as rows of structs of one cell. -/
def encI (x : Int) : List Value := [.int .i64 x]
instance : K.Enc encI 1 where
  len _ := rfl
  one r u hu := by
    simp only [encI, List.mem_cons, List.not_mem_nil, or_false] at hu
    subst hu; rfl
  pos := by decide
theorem cellsI_is (l : List Int) : K.cellsOf encI l = icells l := by
  induction l with
  | nil => rfl
  | cons x l ih => rw [K.cellsOf_cons, ih]; rfl
theorem ownI {W : World} {b : Nat} {T : TypeId} {v : Value} {l : List Int} : K.OwnOf encI 1 T W b v l ↔ Own1 W b T v (icells l) := by
  unfold K.OwnOf Own1
  rw [cellsI_is, icells_length]
theorem rowI {W : World} {v : Value} {l : List Int} (h : Row W v (icells l)) : K.RowOf encI W v l := by
  rcases h with ⟨h1, h2⟩ | ⟨ad, cap, h1, h2, h3, h4⟩
  · exact .inl ⟨h1, by cases l with | nil => rfl | cons => cases h2⟩
  · rw [icells_length] at h1 h2
    exact .inr ⟨ad, cap, h1, h2, h3, fun j u hj => h4 j u (by rw [cellsI_is] at hj; exact hj)⟩
end Go.Proofs.Ytooaiomghbjpiaa
