/-
  WHAT A STORE'S NAMES LEAD TO, behind each call. Of no program.
-/
import Derived.Test.YtjgdmbfkondakaaGreatDoorJRecs
namespace Go.Proofs.YtjgdmbfkondakaaGreatDoor
open Go.RowKit

theorem findE_put {l : List En} (h : Ord cmpE l) (n : ByteArray) (f : Nat) (x : ByteArray) : findE (putE l n f) x = if x = n then some ⟨n, f⟩ else findE l x := by
  by_cases e : x = n
  · subst e
    rw [if_pos rfl]
    exact findE_mem (e := ⟨x, f⟩) (putE_ord h x f) (mem_putE.2 (.inl rfl))
  · rw [if_neg e]
    cases hf : findE l x with
    | some y =>
      obtain ⟨h1, rfl⟩ := findE_some hf
      exact findE_mem (putE_ord h n f) (mem_putE.2 (.inr ⟨h1, e⟩))
    | none =>
      cases hg : findE (putE l n f) x with
      | none => rfl
      | some y =>
        obtain ⟨h1, h2⟩ := findE_some hg
        rcases mem_putE.1 h1 with rfl | ⟨h3, _⟩
        · exact absurd h2.symm e
        · exact absurd h2 (findE_none hf y h3)
theorem findE_cut {l : List En} (h : Ord cmpE l) (n x : ByteArray) : findE (cutE l n) x = if x = n then none else findE l x := by
  by_cases e : x = n
  · subst e
    rw [if_pos rfl]
    cases hg : findE (cutE l x) x with
    | none => rfl
    | some y =>
      obtain ⟨h1, h2⟩ := findE_some hg
      exact absurd h2 (mem_cutE.1 h1).2
  · rw [if_neg e]
    cases hf : findE l x with
    | some y =>
      obtain ⟨h1, rfl⟩ := findE_some hf
      exact findE_mem (cutE_ord h n) (mem_cutE.2 ⟨h1, e⟩)
    | none =>
      cases hg : findE (cutE l n) x with
      | none => rfl
      | some y =>
        obtain ⟨h1, h2⟩ := findE_some hg
        exact absurd h2 (findE_none hf y (mem_cutE.1 h1).1)
/-- A file that is sure. -/
def dup (s : List UInt8) : Fl := ⟨s, s⟩
theorem failF_dup (k : Int) (s : List UInt8) : failF k (dup s) = dup s := failF_sure k rfl
namespace M
/-- The file of a name. -/
def look (m : M) (n : ByteArray) : Option Fl := (findE m.dir n).map fun e => m.fl e.f
/-- The file of a name that is sure. -/
def slook (m : M) (n : ByteArray) : Option Fl := (findE m.sur n).map fun e => m.fl e.f
theorem look_some {m : M} {n : ByteArray} {x : Fl} (h : m.look n = some x) : ∃ e, findE m.dir n = some e ∧ m.fl e.f = x ∧ m.place n = e.f := by
  unfold look at h
  cases hf : findE m.dir n with
  | none => rw [hf] at h; cases h
  | some e => rw [hf] at h; injection h with h; exact ⟨e, rfl, h, place_of hf⟩
theorem look_none {m : M} {n : ByteArray} (h : m.look n = none) : findE m.dir n = none := by
  unfold look at h
  cases hf : findE m.dir n with
  | none => rfl
  | some e => rw [hf] at h; cases h
theorem first_in {m : M} {n : ByteArray} {x : Fl} (hd : m.dark = false) (hg : goodN n = true) (h : m.look n = some x) : m.first n true = 0 := by
  obtain ⟨e, h1, _, _⟩ := look_some h
  unfold first
  rw [h1, hd, hg]
  rfl
theorem first_out {m : M} {n : ByteArray} (hd : m.dark = false) (hg : goodN n = true) (h : m.look n = none) : m.first n true = 3 := by
  unfold first
  rw [look_none h, hd, hg]
  rfl
theorem fl_place {m : M} {n : ByteArray} {x : Fl} (h : m.look n = some x) : m.fl (m.place n) = x := by
  obtain ⟨e, _, h2, h3⟩ := look_some h
  rw [h3, h2]
theorem make_go {m : M} {n : ByteArray} (hd : m.dark = false) (hg : goodN n = true) (hl : m.look n = none) (hr : (m.need : Int) + 16 ≤ m.room) : m.make n = m.step (add n) := by
  have h0 : m.first n false = 0 := by unfold first; rw [hd, hg]; rfl
  unfold make
  rw [h0, look_none hl, if_neg (by simp), if_neg (by simp), if_neg (by omega)]
theorem write_go {m : M} {n : ByteArray} {x : Fl} (hd : m.dark = false) (hg : goodN n = true) (hl : m.look n = some x) (b : List UInt8) (hr : (m.need : Int) + b.length ≤ m.room) : m.write n b = m.step (setF (m.place n) { x with now := x.now ++ b }) := by
  unfold write
  rw [first_in hd hg hl, if_neg (by simp), if_neg (by omega), fl_place hl]
theorem cut_go {m : M} {n : ByteArray} {x : Fl} (hd : m.dark = false) (hg : goodN n = true) (hl : m.look n = some x) (k : Nat) (hk : k ≤ x.now.length) : m.cut n k = m.step (setF (m.place n) { x with now := x.now.take k }) := by
  unfold cut
  rw [first_in hd hg hl, if_neg (by simp), fl_place hl, if_neg (by omega)]
  rfl
theorem sync_go {m : M} {n : ByteArray} {x : Fl} (hd : m.dark = false) (hg : goodN n = true) (hl : m.look n = some x) : m.sync n = m.step (setF (m.place n) (dup x.now)) := by
  unfold sync
  rw [first_in hd hg hl, if_neg (by simp), fl_place hl]
  rfl
theorem move_go {m : M} {n t : ByteArray} {x : Fl} (hd : m.dark = false) (hg : goodN n = true) (ht : goodN t = true) (hl : m.look n = some x) : m.move n t = m.step (shift n t (m.place n)) := by
  obtain ⟨e, h1, _, _⟩ := look_some hl
  unfold move
  rw [hd, hg, ht, h1, if_neg (by simp), if_neg (by simp), if_neg (by simp)]
theorem drop_go {m : M} {n : ByteArray} {x : Fl} (hd : m.dark = false) (hg : goodN n = true) (hl : m.look n = some x) : m.drop n = m.step (lose n) := by
  unfold drop
  rw [first_in hd hg hl, if_neg (by simp)]
theorem drop_no {m : M} {n : ByteArray} (hd : m.dark = false) (hg : goodN n = true) (hl : m.look n = none) : m.drop n = (3, m) := by
  unfold drop
  rw [first_out hd hg hl, if_pos (by decide)]
theorem drop_dark {m : M} {n : ByteArray} (hd : m.dark = true) : m.drop n = (9, m) := by
  unfold drop first
  rw [hd, if_pos (by simp)]
  rfl
theorem commit_go {m : M} (hd : m.dark = false) : m.commit = m.step secure := by
  unfold commit
  rw [hd, if_neg (by simp)]
theorem commit_dark {m : M} (hd : m.dark = true) : m.commit = (9, m) := by
  unfold commit
  rw [hd, if_pos rfl]
theorem read_go {m : M} {n : ByteArray} {x : Fl} (hd : m.dark = false) (hg : goodN n = true) (hl : m.look n = some x) : m.read n = (x.now, 0) := by
  unfold read
  rw [first_in hd hg hl, if_neg (by simp), fl_place hl]
theorem read_no {m : M} {n : ByteArray} (hd : m.dark = false) (hg : goodN n = true) (hl : m.look n = none) : m.read n = ([], 3) := by
  unfold read
  rw [first_out hd hg hl, if_pos (by decide)]
theorem step_go {m : M} (h : m.left ≠ 1) (f : M → M) : m.step f = (0, f m.tick) := by unfold step; rw [if_neg h]
theorem step_off {m : M} (h : m.left = 1) (f : M → M) : m.step f = (9, m.tick.fail m.keep) := by unfold step; rw [if_pos h]

theorem fl_out {m : M} {j : Nat} (h : m.all.length ≤ j) : m.fl j = zeroFl := by unfold fl; simp [List.getD_eq_getElem?_getD, List.getElem?_eq_none h]
theorem look_add {m : M} (ok : m.Ok) (n x : ByteArray) : (add n m.tick).look x = if x = n then some zeroFl else m.look x := by
  unfold look
  show (findE (putE m.dir n m.all.length) x).map _ = _
  rw [findE_put ok.od]
  by_cases e : x = n
  · rw [if_pos e, if_pos e]
    simp only [Option.map_some, at_add]
    congr 1
    exact fl_out (m := m.tick) (Nat.le_refl _)
  · rw [if_neg e, if_neg e]
    simp only [at_add]
    rfl
theorem slook_add {m : M} (n x : ByteArray) : (add n m.tick).slook x = m.slook x := by
  unfold slook
  simp only [at_add]
  rfl
theorem look_set {m : M} (ok : m.Ok) {n : ByteArray} {y : Fl} (hl : m.look n = some y) (X : Fl) (x : ByteArray) : (setF (m.place n) X m.tick).look x = if x = n then some X else m.look x := by
  obtain ⟨e, h1, h2, h3⟩ := look_some hl
  obtain ⟨h4, h5⟩ := findE_some h1
  rw [h3]
  have hi : e.f < m.tick.all.length := ok.fd e h4
  unfold look
  show (findE m.dir x).map _ = _
  by_cases ex : x = n
  · rw [if_pos ex, ex, h1]
    simp only [Option.map_some]
    rw [at_set X hi, if_pos rfl]
  · rw [if_neg ex]
    cases hf : findE m.dir x with
    | none => rfl
    | some z =>
      obtain ⟨h6, h7⟩ := findE_some hf
      simp only [Option.map_some]
      rw [at_set X hi, if_neg (fun e2 => ex (by rw [← h7, pw_one ok.nd h6 h4 e2, h5]))]
      rfl
theorem look_lose {m : M} (ok : m.Ok) (n x : ByteArray) : (lose n m.tick).look x = if x = n then none else m.look x := by
  unfold look
  show (findE (cutE m.dir n) x).map _ = _
  rw [findE_cut ok.od]
  by_cases e : x = n
  · rw [if_pos e, if_pos e]; rfl
  · rw [if_neg e, if_neg e]; rfl
theorem look_shift {m : M} (ok : m.Ok) {n t : ByteArray} {y : Fl} (hl : m.look n = some y) (x : ByteArray) : (shift n t (m.place n) m.tick).look x = if x = t then some y else if x = n then none else m.look x := by
  unfold look
  show (findE (putE (cutE m.dir n) t (m.place n)) x).map _ = _
  rw [findE_put (cutE_ord ok.od n), findE_cut ok.od]
  by_cases e : x = t
  · rw [if_pos e, if_pos e]
    simp only [Option.map_some]
    exact congrArg some (fl_place hl)
  · rw [if_neg e, if_neg e]
    by_cases e2 : x = n
    · rw [if_pos e2, if_pos e2]; rfl
    · rw [if_neg e2, if_neg e2]; rfl
theorem look_fail {m : M} (ok : m.Ok) (k : Int) (x : ByteArray) : (m.fail k).look x = (m.slook x).map (failF k) := by
  unfold look slook
  show (findE m.sur x).map _ = _
  cases hf : findE m.sur x with
  | none => rfl
  | some e =>
    simp only [Option.map_some]
    rw [at_fail (ok.fs e (findE_some hf).1)]
theorem look_sur {m : M} (h : m.sur = m.dir) (x : ByteArray) : m.slook x = m.look x := by unfold slook look; rw [h]
/-- What is sure of a store, and its files, are those of another one. -/
structure Held (m0 m : M) : Prop where
  sur : m.sur = m0.sur
  len : m0.all.length ≤ m.all.length
  fl : ∀ i, i < m0.all.length → m.fl i = m0.fl i
theorem Held.refl (m : M) : Held m m := ⟨rfl, Nat.le_refl _, fun _ _ => rfl⟩
theorem Held.tick {m0 m : M} (h : Held m0 m) : Held m0 m.tick := ⟨h.sur, h.len, h.fl⟩
theorem Held.add {m0 m : M} (h : Held m0 m) (n : ByteArray) : Held m0 (add n m.tick) := by
  refine ⟨h.sur, ?_, fun i hi => by rw [at_add]; exact h.fl i hi⟩
  have := h.len
  show _ ≤ (m.all ++ [zeroFl]).length
  simp; omega
theorem Held.setF {m0 m : M} (h : Held m0 m) {i : Nat} (hi : m0.all.length ≤ i) (h2 : i < m.all.length) (X : Fl) : Held m0 (setF i X m.tick) := by
  refine ⟨h.sur, ?_, fun j hj => ?_⟩
  · have := h.len
    show _ ≤ (m.all.set i X).length
    simpa using this
  · rw [at_set X (show i < m.tick.all.length from h2), if_neg (by omega)]
    exact h.fl j hj
theorem Held.lose {m0 m : M} (h : Held m0 m) (n : ByteArray) : Held m0 (lose n m.tick) := ⟨h.sur, h.len, h.fl⟩
theorem Held.shift {m0 m : M} (h : Held m0 m) (n t : ByteArray) (f : Nat) : Held m0 (shift n t f m.tick) := ⟨h.sur, h.len, h.fl⟩
theorem Held.slook {m0 m : M} (h : Held m0 m) (ok : m0.Ok) (x : ByteArray) : m.slook x = m0.slook x := by
  unfold M.slook
  rw [h.sur]
  cases hf : findE m0.sur x with
  | none => rfl
  | some e =>
    simp only [Option.map_some]
    rw [h.fl _ (ok.fs e (findE_some hf).1)]

theorem need_add {m : M} (n : ByteArray) (hl : m.look n = none) : (add n m.tick).need = m.need + 16 := by
  show (add n m.tick).needL (putE m.dir n m.all.length) = _
  rw [needL_perm _ (putE_perm m.dir n m.all.length), needL_cons, cut_none (look_none hl), at_add, needL_congr (m := m.tick) (fun e _ => by rw [at_add])]
  have : m.tick.fl m.all.length = zeroFl := fl_out (m := m.tick) (Nat.le_refl _)
  rw [this]
  show 16 + 0 + m.needL m.dir = _
  unfold need
  omega
theorem need_set {m : M} (ok : m.Ok) {n : ByteArray} {y : Fl} (hl : m.look n = some y) (X : Fl) : (setF (m.place n) X m.tick).need + y.now.length = m.need + X.now.length := by
  obtain ⟨e, h1, h2, h3⟩ := look_some hl
  obtain ⟨h4, h5⟩ := findE_some h1
  rw [h3]
  have hi : e.f < m.tick.all.length := ok.fd e h4
  have hp := split_cut ok.od h1
  show (setF e.f X m.tick).needL m.dir + _ = m.needL m.dir + _
  rw [needL_perm _ hp, needL_cons, needL_perm m hp, needL_cons, h2]
  rw [needL_congr (m := m) (m' := setF e.f X m.tick) (fun z hz => by
    rw [at_set X hi, if_neg (fun e2 => (mem_cutE.1 hz).2 (by rw [pw_one ok.nd (mem_cutE.1 hz).1 h4 e2, h5]))]
    rfl), at_set X hi, if_pos rfl]
  omega
theorem needL_cut' {m : M} {l : List En} (h : Ord cmpE l) (n : ByteArray) : m.needL (cutE l n) ≤ m.needL l := by
  cases hf : findE l n with
  | none => rw [cut_none hf]; exact Nat.le_refl _
  | some e => rw [needL_perm m (split_cut h hf), needL_cons]; omega
theorem need_lose {m : M} (ok : m.Ok) (n : ByteArray) : (lose n m.tick).need ≤ m.need := needL_cut' (m := m) ok.od n
theorem need_shift {m : M} (ok : m.Ok) {n t : ByteArray} {y : Fl} (hl : m.look n = some y) : (shift n t (m.place n) m.tick).need ≤ m.need := by
  obtain ⟨e, h1, h2, h3⟩ := look_some hl
  rw [h3]
  show m.needL (putE (cutE m.dir n) t e.f) ≤ m.needL m.dir
  rw [needL_perm m (putE_perm _ _ _), needL_cons, needL_perm m (split_cut ok.od h1), needL_cons]
  have := needL_cut' (m := m) (cutE_ord ok.od n) t
  show 16 + (m.fl e.f).now.length + _ ≤ _
  omega

/-- No file has more bytes. -/
def Cap (m : M) (L : Nat) : Prop := ∀ i, (m.fl i).now.length ≤ L ∧ (m.fl i).sure.length ≤ L
theorem Cap.mono {m : M} {L K : Nat} (h : Cap m L) (e : L ≤ K) : Cap m K := fun i => ⟨Nat.le_trans (h i).1 e, Nat.le_trans (h i).2 e⟩
theorem Cap.add {m : M} {L : Nat} (h : Cap m L) (n : ByteArray) : Cap (add n m.tick) L := fun i => by rw [at_add]; exact h i
theorem Cap.setF {m : M} {L : Nat} (h : Cap m L) {i : Nat} (hi : i < m.all.length) {X : Fl} (h1 : X.now.length ≤ L) (h2 : X.sure.length ≤ L) : Cap (setF i X m.tick) L := fun j => by
  rw [at_set X (show i < m.tick.all.length from hi)]
  split
  · exact ⟨h1, h2⟩
  · exact h j
theorem Cap.fail {m : M} {L : Nat} (h : Cap m L) (k : Int) : Cap (m.fail k) L := fun j => by
  by_cases hj : j < m.all.length
  · rw [at_fail hj]
    exact ⟨leftF_length (h j).1 (h j).2, leftF_length (h j).1 (h j).2⟩
  · rw [fl_out (by simpa [M.fail] using Nat.le_of_not_lt hj)]
    simp [zeroFl]
theorem place_lt {m : M} (ok : m.Ok) {n : ByteArray} {y : Fl} (hl : m.look n = some y) : m.place n < m.all.length := by
  obtain ⟨e, h1, _, h3⟩ := look_some hl
  rw [h3]
  exact ok.fd e (findE_some h1).1
end M

/-- One store behind another: how much more it needs and has counted, at most. -/
structure To (m m' : M) (dn dc : Nat) : Prop where
  room : m'.room = m.room
  need : m'.need ≤ m.need + dn
  count : m'.count ≤ m.count + dc
  cge : m.count ≤ m'.count
  left : m.left = 0 → m'.left = 0
  cap : ∀ L, M.Cap m L → M.Cap m' (L + dn)
  lit : m'.dark = m.dark
/-- The same, behind a failure. -/
structure Off (m m' : M) (dn dc : Nat) : Prop where
  room : m'.room = m.room
  count : m'.count ≤ m.count + dc
  cge : m.count ≤ m'.count
  left : m.left ≠ 0
  cap : ∀ L, M.Cap m L → M.Cap m' (L + dn)
  dark : m'.dark = true
theorem To.refl (m : M) : To m m 0 0 := ⟨rfl, Nat.le_refl _, Nat.le_refl _, Nat.le_refl _, id, fun _ h => h, rfl⟩
theorem To.trans {m m' m'' : M} {a b c d : Nat} (h : To m m' a b) (g : To m' m'' c d) : To m m'' (a + c) (b + d) :=
  ⟨g.room.trans h.room, by have := h.need; have := g.need; omega, by have := h.count; have := g.count; omega, Nat.le_trans h.cge g.cge, fun e => g.left (h.left e), fun L hL => by have := g.cap _ (h.cap L hL); rwa [Nat.add_assoc] at this, g.lit.trans h.lit⟩
theorem To.mono {m m' : M} {a b c d : Nat} (h : To m m' a b) (e : a ≤ c) (f : b ≤ d) : To m m' c d :=
  ⟨h.room, by have := h.need; omega, by have := h.count; omega, h.cge, h.left, fun L hL => (h.cap L hL).mono (by omega), h.lit⟩
theorem To.off {m m' m'' : M} {a b c d : Nat} (h : To m m' a b) (g : Off m' m'' c d) : Off m m'' (a + c) (b + d) :=
  ⟨g.room.trans h.room, by have := h.count; have := g.count; omega, Nat.le_trans h.cge g.cge, fun e => g.left (h.left e), fun L hL => by have := g.cap _ (h.cap L hL); rwa [Nat.add_assoc] at this, g.dark⟩
theorem Off.mono {m m' : M} {a b c d : Nat} (h : Off m m' a b) (e : a ≤ c) (f : b ≤ d) : Off m m' c d :=
  ⟨h.room, by have := h.count; omega, h.cge, h.left, fun L hL => (h.cap L hL).mono (by omega), h.dark⟩
theorem less_zero {l : Int} (h : l = 0) : M.less l = 0 := by subst h; rfl
theorem off_step {m : M} (h : m.left = 1) : Off m (m.tick.fail m.keep) 0 1 :=
  ⟨rfl, Nat.le_refl _, Nat.le_succ _, by omega, fun L hL => M.Cap.fail (m := m.tick) hL _, rfl⟩
theorem to_add {m : M} {n : ByteArray} (hl : m.look n = none) : To m (M.add n m.tick) 16 1 :=
  ⟨rfl, Nat.le_of_eq (M.need_add n hl), Nat.le_refl _, Nat.le_succ _, fun e => less_zero e, fun L hL => (hL.add n).mono (by omega), rfl⟩
theorem to_set {m : M} (ok : m.Ok) {n : ByteArray} {y : Fl} (hl : m.look n = some y) {X : Fl} {d : Nat} (h1 : X.now.length ≤ y.now.length + d) (h2 : X.sure.length ≤ max y.now.length y.sure.length + d) : To m (M.setF (m.place n) X m.tick) d 1 := by
  refine ⟨rfl, ?_, Nat.le_refl _, Nat.le_succ _, fun e => less_zero e, fun L hL => ?_, rfl⟩
  · have := M.need_set ok hl X; omega
  · have h3 := hL (m.place n)
    rw [M.fl_place hl] at h3
    exact (hL.mono (Nat.le_add_right L d)).setF (M.place_lt ok hl) (by omega) (by omega)
theorem to_lose {m : M} (ok : m.Ok) (n : ByteArray) : To m (M.lose n m.tick) 0 1 :=
  ⟨rfl, M.need_lose ok n, Nat.le_refl _, Nat.le_succ _, fun e => less_zero e, fun _ hL => hL, rfl⟩
theorem to_shift {m : M} (ok : m.Ok) {n t : ByteArray} {y : Fl} (hl : m.look n = some y) : To m (M.shift n t (m.place n) m.tick) 0 1 :=
  ⟨rfl, M.need_shift ok hl, Nat.le_refl _, Nat.le_succ _, fun e => less_zero e, fun _ hL => hL, rfl⟩
theorem to_secure (m : M) : To m (M.secure m.tick) 0 1 := ⟨rfl, Nat.le_refl _, Nat.le_refl _, Nat.le_succ _, fun e => less_zero e, fun _ hL => hL, rfl⟩
end Go.Proofs.YtjgdmbfkondakaaGreatDoor

/-
  WHAT A STORE TELLS OF A LOG: the checkpoint, its parts, the records; Open reads them. Of no program.
-/
namespace Go.Proofs.YtjgdmbfkondakaaGreatDoor
open Go.RowKit

/-- Numbers from one on. -/
def upL (s : Int) : Nat → List Int
  | 0 => []
  | n + 1 => s :: upL (s + 1) n
theorem mem_upL : ∀ (n : Nat) (s x : Int), x ∈ upL s n ↔ s ≤ x ∧ x < s + n
  | 0, s, x => by simp [upL]
  | n + 1, s, x => by
    rw [upL, List.mem_cons, mem_upL n]
    omega
theorem upL_ord : ∀ (n : Nat) (s : Int), (upL s n).Pairwise (· < ·)
  | 0, _ => List.Pairwise.nil
  | n + 1, s => List.pairwise_cons.2 ⟨fun x hx => by have := (mem_upL n _ x).1 hx; omega, upL_ord n _⟩
theorem upL_length : ∀ (n : Nat) (s : Int), (upL s n).length = n
  | 0, _ => rfl
  | n + 1, s => by rw [upL, List.length_cons, upL_length n]
theorem upL_last : ∀ (n : Nat) (s d : Int), (upL s (n + 1)).getLastD d = s + n
  | 0, s, d => by simp [upL]
  | n + 1, s, d => by
    have := upL_last n (s + 1) s
    rw [upL, List.getLastD_cons, this]
    omega
theorem sorted_ext : ∀ {a b : List Int}, a.Pairwise (· < ·) → b.Pairwise (· < ·) → (∀ x, x ∈ a ↔ x ∈ b) → a = b
  | [], [], _, _, _ => rfl
  | [], y :: b, _, _, h => absurd ((h y).2 (by simp)) (by simp)
  | x :: a, [], _, _, h => absurd ((h x).1 (by simp)) (by simp)
  | x :: a, y :: b, ha, hb, h => by
    obtain ⟨a1, a2⟩ := List.pairwise_cons.1 ha
    obtain ⟨b1, b2⟩ := List.pairwise_cons.1 hb
    have e : x = y := by
      rcases List.mem_cons.1 ((h x).1 (by simp)) with e | e
      · exact e
      · rcases List.mem_cons.1 ((h y).2 (by simp)) with e2 | e2
        · exact e2.symm
        · have := b1 x e; have := a1 y e2; omega
    subst e
    rw [sorted_ext a2 b2 fun z => ⟨fun hz => ?_, fun hz => ?_⟩]
    · rcases List.mem_cons.1 ((h z).1 (by simp [hz])) with e | e
      · have := a1 z hz; omega
      · exact e
    · rcases List.mem_cons.1 ((h z).2 (by simp [hz])) with e | e
      · have := b1 z hz; omega
      · exact e

theorem nums_mem {m : M} (ok : m.Ok) (hd : m.dark = false) (n : Int) : n ∈ numsM m ↔ (1 ≤ n ∧ n ≤ 999999999) ∧ (m.look (nameB n)).isSome = true := by
  have hn : m.names = m.dir.map En.name := by unfold M.names; rw [hd]; rfl
  constructor
  · intro h
    refine ⟨nums_range h, ?_⟩
    unfold numsM at h
    rw [List.mem_mergeSort] at h
    unfold numsL at h
    obtain ⟨h1, h2⟩ := List.mem_filter.1 h
    obtain ⟨s, hs, rfl⟩ := List.mem_map.1 h1
    have h2 : 0 < numB s := by simpa using h2
    rw [numB_back (by omega)]
    rw [hn] at hs
    obtain ⟨e, he, rfl⟩ := List.mem_map.1 hs
    unfold M.look
    rw [findE_mem ok.od he]
    rfl
  · rintro ⟨h1, h2⟩
    unfold numsM
    rw [List.mem_mergeSort]
    unfold numsL
    refine List.mem_filter.2 ⟨List.mem_map.2 ⟨nameB n, ?_, numB_name h1⟩, by simp; omega⟩
    obtain ⟨x, hx⟩ := Option.isSome_iff_exists.1 h2
    obtain ⟨e, he, _, _⟩ := M.look_some hx
    obtain ⟨h3, h4⟩ := findE_some he
    rw [hn, ← h4]
    exact List.mem_map.2 ⟨e, h3, rfl⟩
theorem nums_nodup {m : M} (ok : m.Ok) : (numsL m.names).Nodup := by
  have hn : m.names.Nodup := by
    unfold M.names
    split
    · exact List.nodup_nil
    · refine List.pairwise_map.2 (ok.od.imp ?_)
      intro a b h e
      unfold cmpE at h
      rw [e, cmpS3.self] at h
      omega
  unfold numsL
  rw [List.filter_map]
  refine List.pairwise_map.2 ?_
  have h2 : (m.names.filter ((fun n => decide (0 < n)) ∘ numB)).Pairwise fun a b => a ≠ b := hn.filter _
  refine List.Pairwise.imp_of_mem ?_ h2
  intro a b ha hb hne e
  have h3 := (List.mem_filter.1 ha).2
  have h4 := (List.mem_filter.1 hb).2
  simp only [Function.comp, decide_eq_true_eq] at h3 h4
  exact hne (by rw [← numB_back (s := a) (by omega), e, numB_back (s := b) (by omega)])
theorem nums_ord {m : M} (ok : m.Ok) : (numsM m).Pairwise (· < ·) := by
  have h1 : (numsM m).Pairwise fun x y => decide (x ≤ y) = true := List.pairwise_mergeSort (le := fun x y : Int => decide (x ≤ y)) (fun a b c => by simp; omega) (fun a b => by simp; omega) _
  have h2 : (numsM m).Nodup := (List.mergeSort_perm _ _).nodup_iff.2 (nums_nodup ok)
  refine (h1.and h2).imp ?_
  rintro a b ⟨h3, h4⟩
  have h3 : a ≤ b := by simpa using h3
  have h4 : a ≠ b := h4
  omega
theorem parts_eq {m : M} (ok : m.Ok) (hd : m.dark = false) {first : Int} {k : Nat} (h1 : 1 ≤ first) (h2 : first + k ≤ 1000000000) (h : ∀ i : Int, first ≤ i → i ≤ 999999999 → ((m.look (nameB i)).isSome = true ↔ i < first + k)) : partsL first m = upL first k := by
  unfold partsL
  refine sorted_ext ((nums_ord ok).filter _) (upL_ord _ _) fun x => ?_
  rw [List.mem_filter, nums_mem ok hd, mem_upL]
  have hb : (!(decide (x < first))) = true ↔ first ≤ x := by simp
  rw [hb]
  constructor
  · rintro ⟨⟨⟨h3, h4⟩, h5⟩, h6⟩
    exact ⟨h6, (h x h6 h4).1 h5⟩
  · rintro ⟨h3, h4⟩
    exact ⟨⟨⟨by omega, by omega⟩, (h x h3 (by omega)).2 h4⟩, h3⟩

/-- The checkpoint's file, and the files of all parts from the first on: those of the records fr, and the last one. -/
structure View (V : ByteArray → Option Fl) (cl : Bool) (chk : List UInt8) (first : Int) (fr : List (List (List UInt8))) (Y : Fl) : Prop where
  c : (V tCheck = none ∧ first = 1 ∧ chk = []) ∨ V tCheck = some (dup (sealedB first chk))
  fresh : V tFresh = none
  lo : 1 ≤ first
  pf : ∀ j (h : j < fr.length), V (nameB (first + j)) = some (dup (catL fr[j]))
  pb : V (nameB (first + fr.length)) = some Y
  pn : ∀ i : Int, first + fr.length < i → i ≤ 999999999 → V (nameB i) = none
  sc : chk.length ≤ 1048512
  sf : ∀ r ∈ fr, Small r
  low : cl = true → ∀ i : Int, 1 ≤ i → i < first → V (nameB i) = none
/-- The directory is sure. -/
structure Pre (m : M) (cl : Bool) (chk : List UInt8) (first : Int) (fr : List (List (List UInt8))) (Y : Fl) : Prop where
  ok : m.Ok
  short : Short m
  sur : m.sur = m.dir
  v : View m.look cl chk first fr Y
  hi : first + fr.length ≤ (m.count : Int)
/-- All of it is sure; behind the last part's records may stand bytes that are no whole one. -/
structure Log (m : M) (cl : Bool) (chk : List UInt8) (first : Int) (fr : List (List (List UInt8))) (bk : List (List UInt8)) (tear : List UInt8) : Prop where
  p : Pre m cl chk first fr (dup (catL bk ++ tear))
  sb : Small bk
  tr : wholeC (catL bk ++ tear) = bk ∧ wholeS (catL bk ++ tear) = (catL bk).length
section
variable {cl : Bool} {chk : List UInt8} {first : Int} {fr : List (List (List UInt8))} {bk : List (List UInt8)} {tear : List UInt8} {Y : Fl} {m : M}
theorem View.congr {V V' : ByteArray → Option Fl} {X : Fl} (h : View V cl chk first fr Y) (h1 : V' tCheck = V tCheck) (h2 : V' tFresh = V tFresh) (h3 : ∀ i : Int, 1 ≤ i → i ≤ 999999999 → i ≠ first + fr.length → V' (nameB i) = V (nameB i)) (h4 : V' (nameB (first + fr.length)) = some X) (hi : first + fr.length ≤ 999999999) : View V' cl chk first fr X :=
  have lo := h.lo
  ⟨by rw [h1]; exact h.c, by rw [h2]; exact h.fresh, h.lo, fun j hj => by rw [h3 _ (by omega) (by omega) (by omega)]; exact h.pf j hj, h4, fun i hi hj => by rw [h3 _ (by omega) hj (by omega)]; exact h.pn i hi hj, h.sc, h.sf, fun e i h5 h6 => by rw [h3 i h5 (by omega) (by omega)]; exact h.low e i h5 h6⟩
/-- A failure leaves a file that is sure. -/
theorem View.sure {V : ByteArray → Option Fl} (h : View V cl chk first fr Y) (k : Int) : View (fun n => (V n).map (failF k)) cl chk first fr (failF k Y) := by
  have hf : ∀ n s, V n = some (dup s) → (V n).map (failF k) = some (dup s) := fun n s e => by rw [e]; simp only [Option.map_some, failF_dup]
  have hz : ∀ n, V n = none → (V n).map (failF k) = none := fun n e => by rw [e]; rfl
  refine ⟨?_, hz _ h.fresh, h.lo, fun j hj => hf _ _ (h.pf j hj), by simp only [h.pb, Option.map_some], fun i hi hj => hz _ (h.pn i hi hj), h.sc, h.sf, fun e i h5 h6 => hz _ (h.low e i h5 h6)⟩
  rcases h.c with ⟨h1, h2⟩ | h1
  · exact .inl ⟨hz _ h1, h2⟩
  · exact .inr (hf _ _ h1)
theorem failed_pre (ok : m.Ok) (short : Short m) (hi : first + fr.length ≤ (m.count : Int)) (v : View (fun n => (m.slook n).map (failF m.keep)) cl chk first fr Y) : Pre (m.tick.fail m.keep) cl chk first fr Y :=
  ⟨ok.tick.fail _, short_fail (m := m.tick) short _, rfl, by
    have e : (m.tick.fail m.keep).look = fun n => (m.slook n).map (failF m.keep) := funext fun n => M.look_fail (m := m.tick) ok.tick _ n
    rw [e]; exact v, by show _ ≤ ((m.count + 1 : Nat) : Int); omega⟩
theorem Pre.off (h : Pre m cl chk first fr Y) : Pre (m.tick.fail m.keep) cl chk first fr (failF m.keep Y) := by
  refine failed_pre h.ok h.short h.hi ?_
  have e : (fun n => (m.slook n).map (failF m.keep)) = fun n => (m.look n).map (failF m.keep) := funext fun n => by rw [M.look_sur h.sur]
  rw [e]
  exact h.v.sure _
theorem Log.off (h : Log m cl chk first fr bk tear) : Log (m.tick.fail m.keep) cl chk first fr bk tear := by
  have := h.p.off
  rw [failF_dup] at this
  exact ⟨this, h.sb, h.tr⟩
theorem View.weak {V : ByteArray → Option Fl} (h : View V cl chk first fr Y) : View V false chk first fr Y := ⟨h.c, h.fresh, h.lo, h.pf, h.pb, h.pn, h.sc, h.sf, fun e => nomatch e⟩
theorem Log.weak (h : Log m cl chk first fr bk tear) : Log m false chk first fr bk tear := ⟨⟨h.p.ok, h.p.short, h.p.sur, h.p.v.weak, h.p.hi⟩, h.sb, h.tr⟩
/-- The last part's file is another one. -/
theorem Pre.set (h : Pre m cl chk first fr Y) (hc : m.count ≤ 900000) {X : Fl} (ok : (M.setF (m.place (nameB (first + fr.length))) X m.tick).Ok) : Pre (M.setF (m.place (nameB (first + fr.length))) X m.tick) cl chk first fr X := by
  have hhi := h.hi
  have hlo := h.v.lo
  have hl := M.look_set h.ok h.v.pb X
  refine ⟨ok, h.short, h.sur, ?_, ?_⟩
  · refine h.v.congr ?_ ?_ (fun i h1 h2 h3 => ?_) ?_ (by omega)
    · rw [hl, if_neg (fun e => name_check (by omega) e.symm)]
    · rw [hl, if_neg (fun e => name_fresh (by omega) e.symm)]
    · rw [hl, if_neg (fun e => h3 (nameB_inj ⟨by omega, h2⟩ ⟨by omega, by omega⟩ e))]
    · rw [hl, if_pos rfl]
  · show _ ≤ ((m.count + 1 : Nat) : Int); omega
theorem unseal_sealed (first : Int) (chk : List UInt8) (h1 : 1 ≤ first) (h2 : first ≤ 999999999) (h3 : chk.length ≤ 1048512) : unsealL (sealedB first chk) = some (first, chk) := by
  have hl : (putL 8 first.toNat ++ chk).length ≤ 1048576 := by rw [List.length_append, putL_length]; omega
  have e0 := open_seal _ [] hl
  have e1 := cont_seal _ [] hl
  have e2 := size_seal _ [] hl
  have e3 := sealL_length _ hl
  rw [List.append_nil] at e0 e1 e2
  have e4 : getN (putL 8 first.toNat) = first.toNat := by rw [getN_putL]; exact Nat.mod_eq_of_lt (by omega)
  unfold unsealL sealedB
  rw [e0, e1, e2, e3]
  rw [List.take_left' (putL_length 8 _), e4, if_neg (by rw [List.length_append, putL_length]; omega)]
  rw [List.drop_left' (putL_length 8 _)]
  congr 2
  omega
theorem read_parts {m : M} (hd : m.dark = false) : ∀ (fs : List (List (List UInt8))) (start size : Int) (rs : List (List UInt8)), 1 ≤ start → start + fs.length ≤ 999999999 → (∀ r ∈ fs, Small r) → (∀ j (h : j < fs.length), m.look (nameB (start + j)) = some (dup (catL fs[j]))) → m.look (nameB (start + fs.length)) = some (dup (catL bk ++ tear)) → wholeC (catL bk ++ tear) = bk ∧ wholeS (catL bk ++ tear) = (catL bk).length →
    readAll m (upL start (fs.length + 1)) size 0 rs = .inr (((catL bk).length : Int), (tear.length : Int), rs ++ (fs.flatten ++ bk))
  | [], start, size, rs, h1, h2, _, _, hb, ht => by
    have hb : m.look (nameB start) = some (dup (catL bk ++ tear)) := by simpa using hb
    have hr := M.read_go hd (nameB_good ⟨h1, by simp at h2; exact h2⟩) hb
    show readAll m [start] size 0 rs = _
    rw [readAll, hr, if_neg (by decide), if_neg (by simp), readAll]
    show Sum.inr ((wholeS (catL bk ++ tear) : Int), ((catL bk ++ tear).length : Int) - wholeS (catL bk ++ tear), rs ++ wholeC (catL bk ++ tear)) = _
    rw [ht.1, ht.2, List.length_append]
    have : (((catL bk).length + tear.length : Nat) : Int) - ((catL bk).length : Int) = tear.length := by omega
    rw [this]
    rfl
  | f :: fs, start, size, rs, h1, h2, hs, hf, hb, ht => by
    have h2' : start + fs.length + 1 ≤ 999999999 := by simp at h2; omega
    have h0 := hf 0 (by simp)
    have h0 : m.look (nameB start) = some (dup (catL f)) := by simpa using h0
    have hr := M.read_go hd (nameB_good ⟨h1, by omega⟩) h0
    have hw := whole_cat f (hs f (by simp))
    show readAll m (start :: upL (start + 1) (fs.length + 1)) size 0 rs = _
    rw [readAll, hr, if_neg (by decide), if_neg (by simp)]
    show readAll m (upL (start + 1) (fs.length + 1)) (wholeS (catL f)) (((catL f).length : Int) - wholeS (catL f)) (rs ++ wholeC (catL f)) = _
    rw [hw.1, hw.2, Int.sub_self]
    rw [read_parts hd fs (start + 1) _ _ (by omega) (by omega) (fun r hr => hs r (by simp [hr])) (fun j hj => by
      have := hf (j + 1) (by simp; omega)
      have e : start + ((j + 1 : Nat) : Int) = start + 1 + j := by omega
      rw [e] at this
      simpa using this) (by
      have e : start + ((f :: fs).length : Int) = start + 1 + fs.length := by simp; omega
      rw [e] at hb
      exact hb) ht]
    simp
theorem Pre.parts (h : Pre m cl chk first fr Y) (hd : m.dark = false) (hc : m.count ≤ 900000) : partsL first m = upL first (fr.length + 1) := by
  have hhi := h.hi
  refine parts_eq h.ok hd h.v.lo (by omega) fun i h1 h2 => ?_
  constructor
  · intro hs
    apply Decidable.byContradiction
    intro hn
    rw [h.v.pn i (by omega) h2] at hs
    cases hs
  · intro hlt
    by_cases e : i = first + fr.length
    · rw [e, h.v.pb]; rfl
    · have := h.v.pf (i - first).toNat (by omega)
      have e2 : first + (((i - first).toNat : Nat) : Int) = i := by omega
      rw [e2] at this
      rw [this]; rfl
end
end Go.Proofs.YtjgdmbfkondakaaGreatDoor

/-
  WHAT OPEN, FLUSH AND MARK DO OF A LOG, and what a failure on the way leaves. Of no program.
-/
namespace Go.Proofs.YtjgdmbfkondakaaGreatDoor
open Go.RowKit

theorem failF_short {x : Fl} (h : x.now.length < x.sure.length) (k : Int) : failF k x = dup x.sure := by
  have hp : x.sure.isPrefixOf x.now = false := by
    cases e : x.sure.isPrefixOf x.now with
    | false => rfl
    | true => have := (List.isPrefixOf_iff_prefix.1 e).length_le; omega
  unfold failF leftF
  rw [hp]
  rfl
/-- What was written and not made sure: some of it. -/
theorem failF_more (a b : List UInt8) (k : Int) : ∃ j, a.length ≤ j ∧ j ≤ (a ++ b).length ∧ failF k ⟨a ++ b, a⟩ = dup ((a ++ b).take j) := by
  have hp : a.isPrefixOf (a ++ b) = true := List.isPrefixOf_iff_prefix.2 (List.prefix_append a b)
  refine ⟨a.length + min k.toNat ((a ++ b).length - a.length), by omega, by rw [List.length_append]; omega, ?_⟩
  unfold failF leftF
  simp only [hp, if_true]
  rfl
section
variable {cl : Bool} {chk : List UInt8} {first : Int} {fr : List (List (List UInt8))} {bk : List (List UInt8)} {tear : List UInt8} {Y : Fl} {m : M}
theorem Pre.name (h : Pre m cl chk first fr Y) (hc : m.count ≤ 900000) : goodN (nameB (first + fr.length)) = true := nameB_good ⟨by have := h.v.lo; omega, by have := h.hi; omega⟩
theorem Pre.sync (h : Pre m cl chk first fr Y) (hd : m.dark = false) (hc : m.count ≤ 900000) : (∃ m', m.sync (nameB (first + fr.length)) = (0, m') ∧ Pre m' cl chk first fr (dup Y.now) ∧ To m m' 0 1) ∨ ∃ m', m.sync (nameB (first + fr.length)) = (9, m') ∧ Pre m' cl chk first fr (failF m.keep Y) ∧ Off m m' 0 1 := by
  have e := M.sync_go hd (h.name hc) h.v.pb
  have o := M.sync_ok h.ok (nameB (first + fr.length))
  rw [e] at o ⊢
  by_cases hl : m.left = 1
  · rw [M.step_off hl]
    exact .inr ⟨_, rfl, h.off, off_step hl⟩
  · rw [M.step_go hl] at o ⊢
    exact .inl ⟨_, rfl, h.set hc o, to_set h.ok h.v.pb (Nat.le_refl _) (Nat.le_max_left _ _)⟩
theorem Pre.write (h : Pre m cl chk first fr Y) (hd : m.dark = false) (hc : m.count ≤ 900000) (b : List UInt8) (hr : (m.need : Int) + b.length ≤ m.room) : (∃ m', m.write (nameB (first + fr.length)) b = (0, m') ∧ Pre m' cl chk first fr ⟨Y.now ++ b, Y.sure⟩ ∧ To m m' b.length 1) ∨ ∃ m', m.write (nameB (first + fr.length)) b = (9, m') ∧ Pre m' cl chk first fr (failF m.keep Y) ∧ Off m m' 0 1 := by
  have e := M.write_go hd (h.name hc) h.v.pb b hr
  have o := M.write_ok h.ok (nameB (first + fr.length)) b
  rw [e] at o ⊢
  by_cases hl : m.left = 1
  · rw [M.step_off hl]
    exact .inr ⟨_, rfl, h.off, off_step hl⟩
  · rw [M.step_go hl] at o ⊢
    exact .inl ⟨_, rfl, h.set hc o, to_set h.ok h.v.pb (by simp) (by simp; omega)⟩
theorem Pre.cut (h : Pre m cl chk first fr Y) (hd : m.dark = false) (hc : m.count ≤ 900000) (k : Nat) (hk : k ≤ Y.now.length) : (∃ m', m.cut (nameB (first + fr.length)) k = (0, m') ∧ Pre m' cl chk first fr ⟨Y.now.take k, Y.sure⟩ ∧ To m m' 0 1) ∨ ∃ m', m.cut (nameB (first + fr.length)) k = (9, m') ∧ Pre m' cl chk first fr (failF m.keep Y) ∧ Off m m' 0 1 := by
  have e := M.cut_go hd (h.name hc) h.v.pb k hk
  have o := M.cut_ok h.ok (nameB (first + fr.length)) k
  rw [e] at o ⊢
  by_cases hl : m.left = 1
  · rw [M.step_off hl]
    exact .inr ⟨_, rfl, h.off, off_step hl⟩
  · rw [M.step_go hl] at o ⊢
    exact .inl ⟨_, rfl, h.set hc o, to_set h.ok h.v.pb (by simp; omega) (by simp; omega)⟩
theorem trim_log (h : Log m cl chk first fr bk tear) (hd : m.dark = false) (hc : m.count ≤ 800000) (l : Lg) (hl : l.last = first + fr.length) :
    (∃ m', trimL (catL bk).length tear.length l m = (0, l, m') ∧ Log m' cl chk first fr bk [] ∧ To m m' 0 2) ∨ ∃ m', trimL (catL bk).length tear.length l m = (9, l.die 9, m') ∧ Log m' cl chk first fr bk tear ∧ Off m m' 0 2 := by
  have hw := whole_cat bk h.sb
  have hu : ∀ s more, trimL s more l m = (if (cutL (nameB (first + fr.length)) s more m).1 ≠ 0 then ((cutL (nameB (first + fr.length)) s more m).1, l.die (cutL (nameB (first + fr.length)) s more m).1, (cutL (nameB (first + fr.length)) s more m).2) else if ((cutL (nameB (first + fr.length)) s more m).2.sync (nameB (first + fr.length))).1 ≠ 0 then (((cutL (nameB (first + fr.length)) s more m).2.sync (nameB (first + fr.length))).1, l.die ((cutL (nameB (first + fr.length)) s more m).2.sync (nameB (first + fr.length))).1, ((cutL (nameB (first + fr.length)) s more m).2.sync (nameB (first + fr.length))).2) else (0, l, ((cutL (nameB (first + fr.length)) s more m).2.sync (nameB (first + fr.length))).2)) := fun s more => by
    unfold trimL
    rw [hl]
    rfl
  rw [hu]
  have fin : ∀ m1 Z, Pre m1 cl chk first fr ⟨catL bk, Z⟩ → To m m1 0 1 → m1.dark = false → m1.count ≤ 900000 → failF m1.keep ⟨catL bk, Z⟩ = dup (catL bk ++ tear) → (∃ m', (if (m1.sync (nameB (first + fr.length))).1 ≠ 0 then ((m1.sync (nameB (first + fr.length))).1, l.die (m1.sync (nameB (first + fr.length))).1, (m1.sync (nameB (first + fr.length))).2) else (0, l, (m1.sync (nameB (first + fr.length))).2)) = (0, l, m') ∧ Log m' cl chk first fr bk [] ∧ To m m' 0 2) ∨ ∃ m', (if (m1.sync (nameB (first + fr.length))).1 ≠ 0 then ((m1.sync (nameB (first + fr.length))).1, l.die (m1.sync (nameB (first + fr.length))).1, (m1.sync (nameB (first + fr.length))).2) else (0, l, (m1.sync (nameB (first + fr.length))).2)) = (9, l.die 9, m') ∧ Log m' cl chk first fr bk tear ∧ Off m m' 0 2 := by
    intro m1 Z hp ht h1 h2 hz
    rcases hp.sync h1 h2 with ⟨m', e, p, t⟩ | ⟨m', e, p, t⟩
    · rw [e]
      exact .inl ⟨m', rfl, ⟨by rw [List.append_nil]; exact p, h.sb, by rw [List.append_nil]; exact hw⟩, ht.trans t⟩
    · rw [e]
      exact .inr ⟨m', rfl, ⟨by rw [← hz]; exact p, h.sb, h.tr⟩, ht.off t⟩
  by_cases hb : tear = []
  · subst hb
    have e1 : cutL (nameB (first + fr.length)) (catL bk).length (([] : List UInt8).length : Int) m = (0, m) := rfl
    rw [e1]
    have hp := h.p
    rw [List.append_nil] at hp
    refine fin m (catL bk) hp ((To.refl m).mono (Nat.le_refl _) (by omega)) hd (by omega) ?_
    rw [List.append_nil]
    exact failF_dup _ _
  · have hpos : 0 < tear.length := List.length_pos_iff.2 hb
    have e1 : cutL (nameB (first + fr.length)) (catL bk).length (tear.length : Int) m = m.cut (nameB (first + fr.length)) (catL bk).length := by unfold cutL; rw [if_neg (by omega)]
    rw [e1]
    rcases h.p.cut hd (by omega) (catL bk).length (by simp [dup]) with ⟨m1, e, p, t⟩ | ⟨m1, e, p, t⟩
    · rw [e]
      have hY : (⟨(dup (catL bk ++ tear)).now.take (catL bk).length, (dup (catL bk ++ tear)).sure⟩ : Fl) = ⟨catL bk, catL bk ++ tear⟩ := by
        show (⟨(catL bk ++ tear).take (catL bk).length, catL bk ++ tear⟩ : Fl) = _
        rw [List.take_left' rfl]
      rw [hY] at p
      have := t.count
      exact fin m1 _ p t (t.lit.trans hd) (by omega) (failF_short (by simp; omega) _)
    · rw [e]
      rw [failF_dup] at p
      exact .inr ⟨m1, rfl, ⟨p, h.sb, h.tr⟩, t.mono (Nat.le_refl _) (by omega)⟩
theorem open_log (h : Log m cl chk first fr bk tear) (hd : m.dark = false) (hc : m.count ≤ 800000) (part : Int) (hp : 1 ≤ part ∧ part ≤ 1048576) :
    (∃ m', openL m part = (0, ⟨part, first + fr.length, [], 0, false⟩, m', chk, fr.flatten ++ bk) ∧ Log m' cl chk first fr bk [] ∧ To m m' 0 2) ∨ ∃ l' m' c' r', openL m part = (9, l', m', c', r') ∧ Log m' cl chk first fr bk tear ∧ Off m m' 0 2 := by
  have hhi := h.p.hi
  have hlo := h.p.v.lo
  have hch : (m.read checkB).2 = 0 ∨ (m.read checkB).2 = 3 := by
    rcases h.p.v.c with ⟨e, _⟩ | e
    · rw [show checkB = tCheck from rfl, M.read_no hd check_good e]; exact .inr rfl
    · rw [show checkB = tCheck from rfl, M.read_go hd check_good e]; exact .inl rfl
  have hun : (if (m.read checkB).2 = 0 then unsealL (m.read checkB).1 else some (1, [])) = some (first, chk) := by
    rcases h.p.v.c with ⟨e, e1, e2⟩ | e
    · rw [show checkB = tCheck from rfl, M.read_no hd check_good e, if_neg (by simp), e1, e2]
    · rw [show checkB = tCheck from rfl, M.read_go hd check_good e, if_pos rfl]
      exact unseal_sealed first chk hlo (by omega) h.p.v.sc
  have hl : openL m part = ((loadL ⟨part, 0, [], 0, false⟩ m first).1, (loadL ⟨part, 0, [], 0, false⟩ m first).2.1, (loadL ⟨part, 0, [], 0, false⟩ m first).2.2.1, chk, (loadL ⟨part, 0, [], 0, false⟩ m first).2.2.2) := by
    unfold openL
    rw [if_neg (by omega), if_neg (by omega), hun]
  have hpa := h.p.parts hd (by omega)
  have hra := read_parts (bk := bk) (tear := tear) hd fr first 0 [] hlo (by omega) h.p.v.sf h.p.v.pf h.p.v.pb h.tr
  have hload : loadL ⟨part, 0, [], 0, false⟩ m first = ((trimL (catL bk).length tear.length ⟨part, first + fr.length, [], 0, false⟩ m).1, (trimL (catL bk).length tear.length ⟨part, first + fr.length, [], 0, false⟩ m).2.1, (trimL (catL bk).length tear.length ⟨part, first + fr.length, [], 0, false⟩ m).2.2, fr.flatten ++ bk) := by
    unfold loadL
    rw [hpa, if_neg (by simp [upL]), upL_length, upL_last, if_neg (by omega), hra]
    rfl
  rw [hl, hload]
  rcases trim_log h hd hc ⟨part, first + fr.length, [], 0, false⟩ rfl with ⟨m', e, p, t⟩ | ⟨m', e, p, t⟩
  · rw [e]
    exact .inl ⟨m', rfl, p, t⟩
  · rw [e]
    exact .inr ⟨_, m', _, _, rfl, p, t⟩
end
end Go.Proofs.YtjgdmbfkondakaaGreatDoor

/-
  WHAT FLUSH DOES OF A LOG, and what a failure on the way leaves. Of no program.
-/
namespace Go.Proofs.YtjgdmbfkondakaaGreatDoor
open Go.RowKit

section
variable {cl : Bool} {chk : List UInt8} {first : Int} {fr : List (List (List UInt8))} {bk : List (List UInt8)} {tear : List UInt8} {Y : Fl} {m : M}
/-- Where it fails while nothing of what is sure has changed. -/
theorem Log.held {a : M} (h : Log m cl chk first fr bk tear) (hh : M.Held m a) (ok : a.Ok) (short : Short a) (hc : m.count ≤ a.count) : Log (a.tick.fail a.keep) cl chk first fr bk tear := by
  refine ⟨failed_pre ok short (by have := h.p.hi; omega) ?_, h.sb, h.tr⟩
  have e : (fun n => (a.slook n).map (failF a.keep)) = fun n => (m.look n).map (failF a.keep) := funext fun n => by rw [hh.slook h.p.ok, M.look_sur h.p.sur]
  rw [e]
  have := h.p.v.sure a.keep
  rwa [failF_dup] at this
/-- What the next part is made of. -/
theorem View.next {V V' : ByteArray → Option Fl} (h : View V cl chk first fr (dup (catL bk))) (sb : Small bk) (hi : first + fr.length + 1 ≤ 999999999) (he : ∀ x, V' x = if x = nameB (first + fr.length + 1) then some (dup []) else V x) : View V' cl chk first (fr ++ [bk]) (dup []) := by
  have lo := h.lo
  have hn : ∀ i : Int, 1 ≤ i → i ≤ 999999999 → i ≠ first + fr.length + 1 → V' (nameB i) = V (nameB i) := fun i h1 h2 h3 => by rw [he, if_neg (fun e => h3 (nameB_inj ⟨h1, h2⟩ ⟨by omega, hi⟩ e))]
  have hck : V' tCheck = V tCheck := by rw [he, if_neg (fun e => name_check ⟨by omega, hi⟩ e.symm)]
  refine ⟨by rw [hck]; exact h.c, by rw [he, if_neg (fun e => name_fresh ⟨by omega, hi⟩ e.symm)]; exact h.fresh, lo, fun j hj => ?_, ?_, fun i h1 h2 => ?_, h.sc, fun r hr => ?_, fun e i h5 h6 => by rw [hn i h5 (by omega) (by omega)]; exact h.low e i h5 h6⟩
  · have hj' : j < fr.length + 1 := by simpa using hj
    rw [hn _ (by omega) (by omega) (by omega)]
    by_cases e : j = fr.length
    · subst e
      rw [h.pb]
      simp
    · have := h.pf j (by omega)
      rw [this, List.getElem_append_left (by omega)]
  · rw [he, if_pos]
    congr 1
    simp
    omega
  · have h1' : first + fr.length + 1 < i := by simp at h1; omega
    rw [hn i (by omega) h2 (by omega)]
    exact h.pn i (by omega) h2
  · rcases List.mem_append.1 hr with hr | hr
    · exact h.sf r hr
    · rw [List.mem_singleton.1 hr]; exact sb
theorem begin_log (h : Log m cl chk first fr bk []) (hd : m.dark = false) (hc : m.count ≤ 800000) (hr : (m.need : Int) + 16 ≤ m.room) (l : Lg) :
    (∃ m', beginL l m (first + fr.length + 1) = (0, { l with last := first + fr.length + 1 }, m') ∧ Log m' cl chk first (fr ++ [bk]) [] [] ∧ To m m' 16 2) ∨ ∃ m', beginL l m (first + fr.length + 1) = (9, l.die 9, m') ∧ Log m' cl chk first fr bk [] ∧ Off m m' 16 2 := by
  have hhi := h.p.hi
  have hlo := h.p.v.lo
  have hg : goodN (nameB (first + fr.length + 1)) = true := nameB_good ⟨by omega, by omega⟩
  have hn := h.p.v.pn (first + fr.length + 1) (by omega) (by omega)
  have e := M.make_go hd hg hn hr
  have o := M.make_ok h.p.ok (nameB (first + fr.length + 1))
  have s := short_make h.p.short (name18 (first + fr.length + 1))
  unfold beginL
  rw [e] at o s ⊢
  by_cases hl : m.left = 1
  · rw [M.step_off hl]
    exact .inr ⟨_, rfl, h.off, (off_step hl).mono (by omega) (by omega)⟩
  · rw [M.step_go hl] at o s ⊢
    have hh : M.Held m (M.add (nameB (first + fr.length + 1)) m.tick) := (M.Held.refl m).add _
    have hlk := M.look_add h.p.ok (nameB (first + fr.length + 1))
    have ht := to_add hn
    generalize M.add (nameB (first + fr.length + 1)) m.tick = a at *
    simp only at o s ⊢
    have hda : a.dark = false := ht.lit.trans hd
    have e2 := M.commit_go hda
    have o2 := M.commit_ok o
    have s2 := short_commit s
    rw [e2] at o2 s2 ⊢
    rw [if_neg (by simp)]
    by_cases hl2 : a.left = 1
    · rw [M.step_off hl2]
      exact .inr ⟨_, rfl, h.held hh o s ht.cge, (ht.off (off_step hl2)).mono (by omega) (by omega)⟩
    · rw [M.step_go hl2] at o2 s2 ⊢
      refine .inl ⟨_, rfl, ⟨⟨o2, s2, rfl, ?_, ?_⟩, fun x hx => (by cases hx), whole_cat [] (fun x hx => by cases hx)⟩, ht.trans (to_secure a)⟩
      · have hv := h.p.v
        rw [List.append_nil] at hv
        exact hv.next h.sb (by omega) fun x => hlk x
      · have := ht.cge
        show _ ≤ ((a.count + 1 : Nat) : Int)
        simp
        omega
theorem catL_len_take (l : List (List UInt8)) (k : Nat) : (catL (l.take k)).length ≤ (catL l).length := by
  conv => rhs; rw [← List.take_append_drop k l]
  rw [catL_append, List.length_append]
  omega
/-- Of records that were being written, some are whole. -/
theorem torn (bk ws : List (List UInt8)) (hs : Small (bk ++ ws)) (j : Nat) (h1 : (catL bk).length ≤ j) (h2 : j ≤ (catL bk ++ catL ws).length) : ∃ p tear, (catL bk ++ catL ws).take j = catL (bk ++ ws.take p) ++ tear ∧ wholeC (catL (bk ++ ws.take p) ++ tear) = bk ++ ws.take p ∧ wholeS (catL (bk ++ ws.take p) ++ tear) = (catL (bk ++ ws.take p)).length := by
  rw [← catL_append] at h2 ⊢
  obtain ⟨q, g1, g2, g3, g4, g5⟩ := whole_cut (bk ++ ws) j hs h2
  have hq : bk.length ≤ q := by
    apply Decidable.byContradiction
    intro hn
    have := g5 (by rw [List.length_append]; omega)
    rw [List.take_append_of_le_length (by omega)] at this
    have := catL_len_take bk (q + 1)
    omega
  have e : (bk ++ ws).take q = bk ++ ws.take (q - bk.length) := by rw [List.take_append, List.take_of_length_le hq]
  rw [e] at g2 g3 g4
  have e2 : catL (bk ++ ws) = catL (bk ++ ws.take (q - bk.length)) ++ catL (ws.drop (q - bk.length)) := by
    rw [← catL_append, List.append_assoc, List.take_append_drop]
  have e3 : (catL (bk ++ ws)).take j = catL (bk ++ ws.take (q - bk.length)) ++ (catL (ws.drop (q - bk.length))).take (j - (catL (bk ++ ws.take (q - bk.length))).length) := by
    rw [e2, List.take_append, List.take_of_length_le g4]
  refine ⟨q - bk.length, _, e3, ?_, ?_⟩
  · rw [← e3]; exact g2
  · rw [← e3]; exact g3
theorem flush3_of {l : Lg} {m : M} {r : Int × Lg × M} (h : turnL l.clean m = r) : flush3 l m = if r.1 ≠ 0 then (r.1, r.2.1.die r.1, r.2.2) else (0, r.2.1, r.2.2) := by subst h; rfl
theorem flush_log {ws : List (List UInt8)} (h : Log m cl chk first fr bk []) (hd : m.dark = false) (hc : m.count ≤ 700000) (hs : Small ws) (l : Lg) (h1 : l.last = first + fr.length) (h2 : l.wait = catL ws) (h3 : l.cnt = ws.length) (h4 : l.dead = false) (hr : (m.need : Int) + l.wait.length + 16 ≤ m.room) :
    (∃ fr' bk' m', flushL l m = (0, ⟨l.part, first + fr'.length, [], 0, false⟩, m') ∧ Log m' cl chk first fr' bk' [] ∧ fr'.flatten ++ bk' = fr.flatten ++ bk ++ ws ∧ fr'.length ≤ fr.length + 1 ∧ To m m' (l.wait.length + 16) 4) ∨
    ∃ l' m' bk' tear p, flushL l m = (9, l', m') ∧ Log m' cl chk first fr bk' tear ∧ bk' = bk ++ ws.take p ∧ Off m m' (l.wait.length + 16) 4 := by
  have ho : offE l m = 0 := by unfold offE; rw [h4, hd]; rfl
  obtain ⟨part, last, wait, cnt, dead⟩ := l
  simp only at h1 h2 h3 h4 hr ⊢
  subst h1 h2 h3 h4
  unfold flushL
  rw [ho, if_neg (by simp)]
  simp only
  by_cases h0 : ws.length = 0
  · rw [if_pos h0]
    obtain rfl := List.length_eq_zero_iff.1 h0
    exact .inl ⟨fr, bk, m, rfl, h, by simp, by omega, (To.refl m).mono (by omega) (by omega)⟩
  · rw [if_neg h0]
    have hp := h.p
    rw [List.append_nil] at hp
    unfold flush1
    simp only
    rcases hp.write hd (by omega) (catL ws) (by omega) with ⟨m1, e, p1, t1⟩ | ⟨m1, e, p1, t1⟩
    · rw [e, if_neg (by simp)]
      unfold flush2
      simp only
      have hd1 := t1.lit.trans hd
      have c1 := t1.count
      have n1 := t1.need
      have r1 := t1.room
      rcases p1.sync hd1 (by omega) with ⟨m2, e, p2, t2⟩ | ⟨m2, e, p2, t2⟩
      · rw [e, if_neg (by simp)]
        have hd2 := t2.lit.trans hd1
        have c2 := t2.count
        have n2 := t2.need
        have r2 := t2.room
        have hsm : Small (bk ++ ws) := fun x hx => (List.mem_append.1 hx).elim (h.sb x) (hs x)
        have e3 : (dup (catL bk)).now ++ catL ws = catL (bk ++ ws) := (catL_append bk ws).symm
        have L2 : Log m2 cl chk first fr (bk ++ ws) [] := by
          refine ⟨?_, hsm, by rw [List.append_nil]; exact whole_cat _ hsm⟩
          rw [List.append_nil, ← e3]
          exact p2
        have hread := M.read_go hd2 (p2.name (by omega)) L2.p.v.pb
        rw [List.append_nil] at hread
        simp only
        by_cases hlen : (((dup (catL (bk ++ ws))).now.length : Nat) : Int) ≤ part
        · have hT : turnL ⟨part, first + fr.length, [], 0, false⟩ m2 = (0, ⟨part, first + fr.length, [], 0, false⟩, m2) := by
            unfold turnL
            simp only
            rw [hread]
            simp only
            exact if_pos (.inr hlen)
          rw [flush3_of (l := ⟨part, first + fr.length, catL ws, ws.length, false⟩) hT]
          exact .inl ⟨fr, bk ++ ws, m2, rfl, L2, by simp, by omega, (t1.trans t2).mono (by omega) (by omega)⟩
        · have hT : turnL ⟨part, first + fr.length, [], 0, false⟩ m2 = (if (beginL ⟨part, first + fr.length, [], 0, false⟩ m2 (first + fr.length + 1)).1 = 9 then 9 else 0, (beginL ⟨part, first + fr.length, [], 0, false⟩ m2 (first + fr.length + 1)).2.1, (beginL ⟨part, first + fr.length, [], 0, false⟩ m2 (first + fr.length + 1)).2.2) := by
            unfold turnL
            simp only
            rw [hread]
            simp only
            exact if_neg (by simp only [ne_eq, not_true_eq_false, false_or]; exact hlen)
          rw [flush3_of (l := ⟨part, first + fr.length, catL ws, ws.length, false⟩) hT]
          rcases begin_log L2 hd2 (by omega) (by omega) ⟨part, first + fr.length, [], 0, false⟩ with ⟨m3, e, p3, t3⟩ | ⟨m3, e, p3, t3⟩
          · rw [e]
            refine .inl ⟨fr ++ [bk ++ ws], [], m3, ?_, p3, by simp, by simp, ((t1.trans t2).trans t3).mono (by omega) (by omega)⟩
            have e9 : first + fr.length + 1 = first + (((fr ++ [bk ++ ws]).length : Nat) : Int) := by simp; omega
            rw [← e9]
            rfl
          · rw [e]
            exact .inr ⟨_, m3, bk ++ ws, [], ws.length, rfl, p3, by rw [List.take_length], ((t1.trans t2).off t3).mono (by omega) (by omega)⟩
      · rw [e, if_pos (by simp)]
        obtain ⟨j, j1, j2, j3⟩ := failF_more (catL bk) (catL ws) m1.keep
        have hsm : Small (bk ++ ws) := fun x hx => (List.mem_append.1 hx).elim (h.sb x) (hs x)
        obtain ⟨p, tear, g1, g2, g3⟩ := torn bk ws hsm j j1 j2
        have e4 : failF m1.keep ⟨(dup (catL bk)).now ++ catL ws, (dup (catL bk)).sure⟩ = dup (catL (bk ++ ws.take p) ++ tear) := by rw [← g1]; exact j3
        rw [e4] at p2
        exact .inr ⟨_, m2, _, tear, p, rfl, ⟨p2, fun x hx => (List.mem_append.1 hx).elim (h.sb x) (fun h' => hs x (List.mem_of_mem_take h')), g2, g3⟩, rfl, (t1.off t2).mono (by omega) (by omega)⟩
    · rw [e, if_pos (by simp)]
      rw [failF_dup] at p1
      exact .inr ⟨_, m1, bk, [], 0, rfl, ⟨by rw [List.append_nil]; exact p1, h.sb, h.tr⟩, by simp, t1.mono (by omega) (by omega)⟩
end
end Go.Proofs.YtjgdmbfkondakaaGreatDoor

/-
  WHAT MARK DOES OF A LOG, and what a failure on the way leaves. Of no program.
-/
namespace Go.Proofs.YtjgdmbfkondakaaGreatDoor
open Go.RowKit

/-- A store on the way to a checkpoint: nothing of what was sure has changed. -/
structure Side (m a : M) (V : ByteArray → Option Fl) (dn dc : Nat) : Prop where
  held : M.Held m a
  ok : a.Ok
  short : Short a
  to : To m a dn dc
  lk : ∀ x, a.look x = V x
  fx : ∀ e, findE a.dir tFresh = some e → m.all.length ≤ e.f
section
variable {cl : Bool} {chk : List UInt8} {first : Int} {fr : List (List (List UInt8))} {bk : List (List UInt8)} {tear : List UInt8} {m a : M} {V : ByteArray → Option Fl} {dn dc : Nat}
theorem Log.side (h : Log m cl chk first fr bk tear) : Side m m m.look 0 0 :=
  ⟨.refl m, h.p.ok, h.p.short, .refl m, fun _ => rfl, fun e he => by have := M.look_none h.p.v.fresh; rw [this] at he; cases he⟩
theorem Side.off (s : Side m a V dn dc) (h : Log m cl chk first fr bk tear) (hl : a.left = 1) : Log (a.tick.fail a.keep) cl chk first fr bk tear ∧ Off m (a.tick.fail a.keep) dn (dc + 1) :=
  ⟨h.held s.held s.ok s.short s.to.cge, s.to.off (off_step hl)⟩
theorem Side.make (s : Side m a V dn dc) (h : Log m cl chk first fr bk tear) (hd : a.dark = false) {n : ByteArray} (hg : goodN n = true) (h18 : n.size ≤ 18) (hn : V n = none) (hr : (a.need : Int) + 16 ≤ a.room) :
    (∃ b, a.make n = (0, b) ∧ Side m b (fun x => if x = n then some zeroFl else V x) (dn + 16) (dc + 1)) ∨ ∃ b, a.make n = (9, b) ∧ Log b cl chk first fr bk tear ∧ Off m b dn (dc + 1) := by
  have hnn : a.look n = none := (s.lk n).trans hn
  have e := M.make_go hd hg hnn hr
  have o := M.make_ok s.ok n
  have t := short_make s.short h18
  rw [e] at o t ⊢
  by_cases hl : a.left = 1
  · rw [M.step_off hl]
    exact .inr ⟨_, rfl, s.off h hl⟩
  · rw [M.step_go hl] at o t ⊢
    refine .inl ⟨_, rfl, s.held.add n, o, t, s.to.trans (to_add hnn), fun x => ?_, fun e he => ?_⟩
    · rw [M.look_add s.ok, s.lk]
    · have he : findE (putE a.dir n a.all.length) tFresh = some e := he
      rw [findE_put s.ok.od] at he
      split at he
      · injection he with he
        rw [← he]
        exact s.held.len
      · exact s.fx e he
theorem Side.set (s : Side m a V dn dc) {y X : Fl} (hn : V tFresh = some y) {d : Nat} (h1 : X.now.length ≤ y.now.length + d) (h2 : X.sure.length ≤ max y.now.length y.sure.length + d) (o : (M.setF (a.place tFresh) X a.tick).Ok) : Side m (M.setF (a.place tFresh) X a.tick) (fun x => if x = tFresh then some X else V x) (dn + d) (dc + 1) := by
  have hnn : a.look tFresh = some y := (s.lk _).trans hn
  obtain ⟨e, h3, h4, h5⟩ := M.look_some hnn
  refine ⟨s.held.setF (by rw [h5]; exact s.fx e h3) (M.place_lt s.ok hnn) X, o, s.short, s.to.trans (to_set s.ok hnn h1 h2), fun x => ?_, s.fx⟩
  rw [M.look_set s.ok hnn, s.lk]
theorem Side.write (s : Side m a V dn dc) (h : Log m cl chk first fr bk tear) (hd : a.dark = false) {y : Fl} (hn : V tFresh = some y) (b : List UInt8) (hr : (a.need : Int) + b.length ≤ a.room) :
    (∃ c, a.write tFresh b = (0, c) ∧ Side m c (fun x => if x = tFresh then some ⟨y.now ++ b, y.sure⟩ else V x) (dn + b.length) (dc + 1)) ∨ ∃ c, a.write tFresh b = (9, c) ∧ Log c cl chk first fr bk tear ∧ Off m c dn (dc + 1) := by
  have hnn : a.look tFresh = some y := (s.lk _).trans hn
  have e := M.write_go hd fresh_good hnn b hr
  have o := M.write_ok s.ok tFresh b
  rw [e] at o ⊢
  by_cases hl : a.left = 1
  · rw [M.step_off hl]
    exact .inr ⟨_, rfl, s.off h hl⟩
  · rw [M.step_go hl] at o ⊢
    exact .inl ⟨_, rfl, s.set hn (by simp) (by simp; omega) o⟩
theorem Side.sync (s : Side m a V dn dc) (h : Log m cl chk first fr bk tear) (hd : a.dark = false) {y : Fl} (hn : V tFresh = some y) :
    (∃ c, a.sync tFresh = (0, c) ∧ Side m c (fun x => if x = tFresh then some (dup y.now) else V x) dn (dc + 1)) ∨ ∃ c, a.sync tFresh = (9, c) ∧ Log c cl chk first fr bk tear ∧ Off m c dn (dc + 1) := by
  have hnn : a.look tFresh = some y := (s.lk _).trans hn
  have e := M.sync_go hd fresh_good hnn
  have o := M.sync_ok s.ok tFresh
  rw [e] at o ⊢
  by_cases hl : a.left = 1
  · rw [M.step_off hl]
    exact .inr ⟨_, rfl, s.off h hl⟩
  · rw [M.step_go hl] at o ⊢
    exact .inl ⟨_, rfl, s.set (d := 0) hn (Nat.le_refl _) (Nat.le_max_left _ _) o⟩
theorem Side.move (s : Side m a V dn dc) (h : Log m cl chk first fr bk tear) (hd : a.dark = false) {y : Fl} (hn : V tFresh = some y) :
    (∃ c, a.move tFresh tCheck = (0, c) ∧ Side m c (fun x => if x = tCheck then some y else if x = tFresh then none else V x) dn (dc + 1)) ∨ ∃ c, a.move tFresh tCheck = (9, c) ∧ Log c cl chk first fr bk tear ∧ Off m c dn (dc + 1) := by
  have hnn : a.look tFresh = some y := (s.lk _).trans hn
  have e := M.move_go hd fresh_good check_good hnn
  have o := M.move_ok s.ok tFresh tCheck
  have t := short_move s.short tFresh (t := tCheck) (by decide)
  rw [e] at o t ⊢
  by_cases hl : a.left = 1
  · rw [M.step_off hl]
    exact .inr ⟨_, rfl, s.off h hl⟩
  · rw [M.step_go hl] at o t ⊢
    refine .inl ⟨_, rfl, s.held.shift _ _ _, o, t, s.to.trans (to_shift s.ok hnn), fun x => ?_, fun e he => ?_⟩
    · rw [M.look_shift s.ok hnn, s.lk]
    · have he : findE (putE (cutE a.dir tFresh) tCheck (a.place tFresh)) tFresh = some e := he
      rw [findE_put (cutE_ord s.ok.od _), if_neg (by decide), findE_cut s.ok.od, if_pos rfl] at he
      cases he
end
/-- A log without records. -/
theorem empty_tr : wholeC (catL [] ++ []) = [] ∧ wholeS (catL [] ++ []) = (catL []).length := whole_cat [] (fun x hx => by cases hx)
theorem sweepTo_dark {n : Int} {b : M} (h : b.dark = true) : ∀ is : List Int, sweepTo n b is = b
  | [] => rfl
  | i :: r => by
    show sweepTo n (if i = n then b else (b.drop (nameB i)).2) r = b
    rw [M.drop_dark h]
    have : (if i = n then b else (9, b).2) = b := by split <;> rfl
    rw [this]
    exact sweepTo_dark h r
section
variable {cl : Bool} {cs : List UInt8} {n : Int} {a : M}
theorem sweep_log (h : Log a cl cs n [] [] []) : ∀ (is : List Int) (b : M), M.Held a b → b.Ok → Short b → b.dark = false → a.count ≤ b.count → (∀ i ∈ is, 1 ≤ i ∧ i ≤ 999999999) →
    (∃ b', sweepTo n b is = b' ∧ M.Held a b' ∧ b'.Ok ∧ Short b' ∧ To b b' 0 is.length ∧ (∀ x, (∀ i ∈ is, i ≠ n → x ≠ nameB i) → b'.look x = b.look x) ∧ (∀ x, b'.look x = none ∨ b'.look x = b.look x) ∧ ∀ i ∈ is, i ≠ n → b'.look (nameB i) = none) ∨
    ∃ b', sweepTo n b is = b' ∧ Log b' cl cs n [] [] [] ∧ Off b b' 0 is.length
  | [], b, hh, ok, sh, hd, hc, hr => .inl ⟨b, rfl, hh, ok, sh, .refl b, fun _ _ => rfl, fun _ => .inr rfl, fun i hi => by cases hi⟩
  | i :: r, b, hh, ok, sh, hd, hc, hr => by
    have hr' : ∀ i ∈ r, 1 ≤ i ∧ i ≤ 999999999 := fun j hj => hr j (by simp [hj])
    have hi := hr i (by simp)
    show (∃ b', sweepTo n (if i = n then b else (b.drop (nameB i)).2) r = b' ∧ _) ∨ ∃ b', sweepTo n (if i = n then b else (b.drop (nameB i)).2) r = b' ∧ _
    by_cases e : i = n
    · rw [if_pos e]
      rcases sweep_log h r b hh ok sh hd hc hr' with ⟨b', e1, g1, g2, g3, g4, g5, g6, g7⟩ | ⟨b', e1, g1, g2⟩
      · refine .inl ⟨b', e1, g1, g2, g3, g4.mono (Nat.le_refl _) (by simp), fun x hx => g5 x fun j hj => hx j (by simp [hj]), g6, fun j hj hne => ?_⟩
        rcases List.mem_cons.1 hj with rfl | hj
        · exact absurd e hne
        · exact g7 j hj hne
      · exact .inr ⟨b', e1, g1, g2.mono (Nat.le_refl _) (by simp)⟩
    · rw [if_neg e]
      cases hl : b.look (nameB i) with
      | none =>
        rw [M.drop_no hd (nameB_good hi) hl]
        rcases sweep_log h r b hh ok sh hd hc hr' with ⟨b', e1, g1, g2, g3, g4, g5, g6, g7⟩ | ⟨b', e1, g1, g2⟩
        · refine .inl ⟨b', e1, g1, g2, g3, g4.mono (Nat.le_refl _) (by simp), fun x hx => g5 x fun j hj => hx j (by simp [hj]), g6, fun j hj hne => ?_⟩
          rcases List.mem_cons.1 hj with rfl | hj
          · rcases g6 (nameB j) with g | g
            · exact g
            · exact g.trans hl
          · exact g7 j hj hne
        · exact .inr ⟨b', e1, g1, g2.mono (Nat.le_refl _) (by simp)⟩
      | some y =>
        have o := M.drop_ok ok (nameB i)
        have t := short_drop sh (nameB i)
        rw [M.drop_go hd (nameB_good hi) hl] at o t ⊢
        by_cases h1 : b.left = 1
        · rw [M.step_off h1]
          exact .inr ⟨_, sweepTo_dark rfl r, h.held hh ok sh hc, (off_step h1).mono (Nat.le_refl _) (by simp)⟩
        · rw [M.step_go h1] at o t ⊢
          have hlk := M.look_lose ok (nameB i)
          have ht := to_lose ok (nameB i)
          rcases sweep_log h r _ (hh.lose (nameB i)) o t hd (Nat.le_trans hc ht.cge) hr' with ⟨b', e1, g1, g2, g3, g4, g5, g6, g7⟩ | ⟨b', e1, g1, g2⟩
          · refine .inl ⟨b', e1, g1, g2, g3, (ht.trans g4).mono (by omega) (by simp; omega), fun x hx => ?_, fun x => ?_, fun j hj hne => ?_⟩
            · rw [g5 x fun j hj => hx j (by simp [hj]), hlk, if_neg (hx i (by simp) e)]
            · rcases g6 x with g | g
              · exact .inl g
              · rw [hlk] at g
                split at g
                · exact .inl g
                · exact .inr g
            · rcases List.mem_cons.1 hj with rfl | hj
              · rcases g6 (nameB j) with g | g
                · exact g
                · rw [hlk, if_pos rfl] at g; exact g
              · exact g7 j hj hne
          · exact .inr ⟨b', e1, g1, (ht.off g2).mono (by omega) (by simp; omega)⟩
theorem sweepL_log (h : Log a cl cs n [] [] []) (hd : a.dark = false) (l : Lg) (hl : l.last = n) :
    (∃ m', sweepL l a = (0, l, m') ∧ Log m' true cs n [] [] [] ∧ To a m' 0 ((numsM a).length + 1)) ∨ ∃ m', sweepL l a = (9, l, m') ∧ Log m' cl cs n [] [] [] ∧ Off a m' 0 ((numsM a).length + 1) := by
  subst hl
  have hlo := h.p.v.lo
  unfold sweepL
  rcases sweep_log h (numsM a) a (.refl a) h.p.ok h.p.short hd (Nat.le_refl _) (fun i hi => nums_range hi) with ⟨b, e1, g1, g2, g3, g4, g5, g6, g7⟩ | ⟨b, e1, g1, g2⟩
  · rw [e1]
    have hdb : b.dark = false := g4.lit.trans hd
    have o := M.commit_ok g2
    have t := short_commit g3
    rw [M.commit_go hdb] at o t ⊢
    by_cases h1 : b.left = 1
    · rw [M.step_off h1]
      exact .inr ⟨_, rfl, h.held g1 g2 g3 g4.cge, (g4.off (off_step h1)).mono (by omega) (by omega)⟩
    · rw [M.step_go h1] at o t ⊢
      have hb := g4.cge
      have hhi := h.p.hi
      refine .inl ⟨_, rfl, ⟨⟨o, t, rfl, ?_, by show _ ≤ ((b.count + 1 : Nat) : Int); omega⟩, h.sb, h.tr⟩, (g4.trans (to_secure b)).mono (by omega) (by omega)⟩
      have hv := h.p.v
      have hk : ∀ x, numB x = 0 → b.look x = a.look x := fun x hx => g5 x fun i hi _ e => by
        have := numB_name (nums_range hi)
        rw [← e, hx] at this
        have := nums_range hi
        omega
      have hno : ∀ i : Int, 1 ≤ i → i ≤ 999999999 → i ≠ l.last → b.look (nameB i) = none := fun i h2 h3 h4 => by
        by_cases hm : i ∈ numsM a
        · exact g7 i hm h4
        · have hz : a.look (nameB i) = none := by
            cases hz : a.look (nameB i) with
            | none => rfl
            | some y => exact absurd ((nums_mem h.p.ok hd i).2 ⟨⟨h2, h3⟩, by rw [hz]; rfl⟩) hm
          rcases g6 (nameB i) with g | g
          · exact g
          · exact g.trans hz
      have hla : l.last ≤ 999999999 ∨ ¬ l.last ≤ 999999999 := Decidable.em _
      refine ⟨?_, (hk _ fresh_num).trans hv.fresh, hv.lo, fun j hj => absurd hj (by simp), ?_, fun i h2 h3 => hno i (by simp at h2; omega) h3 (by simp at h2; omega), hv.sc, (fun r hr => by cases hr), fun _ i h2 h3 => ?_⟩
      · show (b.look tCheck = none ∧ _) ∨ b.look tCheck = _
        rw [hk _ check_num]
        exact hv.c
      · show b.look _ = _
        rw [g5 _ fun i hi hne e => ?_]
        · exact hv.pb
        · rcases hla with hla | hla
          · exact hne (nameB_inj (nums_range hi) ⟨by simp; omega, by simp; omega⟩ e.symm ▸ (by simp))
          · have h5 := nameB_out (n := l.last + (([] : List (List (List UInt8))).length : Int)) (by simp; omega)
            rw [h5] at e
            have h6 := nameB_good (nums_range hi)
            rw [← e] at h6
            exact absurd h6 (by decide)
      · rcases hla with hla | hla
        · exact hno i h2 (by omega) (by omega)
        · by_cases h9 : i ≤ 999999999
          · exact hno i h2 h9 (by omega)
          · have h5 := nameB_out (n := i) (by omega)
            show b.look (nameB i) = none
            rw [h5]
            cases hz : b.look ⟨#[]⟩ with
            | none => rfl
            | some y =>
              obtain ⟨e, h6, _, _⟩ := M.look_some hz
              obtain ⟨h7, h8⟩ := findE_some h6
              have := g2.gd e h7
              rw [h8] at this
              exact absurd this (by decide)
  · rw [e1, M.commit_dark g2.dark]
    exact .inr ⟨b, rfl, g1, g2.mono (Nat.le_refl _) (by omega)⟩
end
end Go.Proofs.YtjgdmbfkondakaaGreatDoor

/-
  WHAT MARK DOES OF A LOG, whole; what a new store's log is. Of no program.
-/
namespace Go.Proofs.YtjgdmbfkondakaaGreatDoor
open Go.RowKit

theorem runL_cons {s : Lg → M → Int × Lg × M} {r : List (Lg → M → Int × Lg × M)} {l : Lg} {m : M} {x : Int × Lg × M} (h : s l m = x) : runL (s :: r) l m = if x.1 ≠ 0 then (x.1, x.2.1.die x.1, x.2.2) else runL r x.2.1 x.2.2 := by
  subst h
  rw [runL]
theorem sealedB_length (n : Int) (cs : List UInt8) (h : cs.length ≤ 1048512) : (sealedB n cs).length = cs.length + 16 := by
  unfold sealedB
  rw [sealL_length _ (by rw [List.length_append, putL_length]; omega), List.length_append, putL_length]
  omega
section
variable {chk cs : List UInt8} {first : Int} {fr : List (List (List UInt8))} {bk : List (List UInt8)} {m : M}
/-- The steps of a checkpoint. -/
theorem steps_log (h : Log m true chk first fr bk []) (hd : m.dark = false) (hc : m.count ≤ 700000) (l : Lg) (hcs : cs.length ≤ 1048512) (hr : (m.need : Int) + cs.length + 48 ≤ m.room) :
    (∃ m', runL (markS (first + fr.length + 1) cs) l m = (0, { l with last := first + fr.length + 1 }, m') ∧ Log m' true cs (first + fr.length + 1) [] [] [] ∧ To m m' (cs.length + 48) (fr.length + 9)) ∨
    ∃ l' m', runL (markS (first + fr.length + 1) cs) l m = (9, l', m') ∧ (Log m' false chk first fr bk [] ∨ Log m' false cs (first + fr.length + 1) [] [] []) ∧ Off m m' (cs.length + 48) (fr.length + 9) := by
  have hhi := h.p.hi
  have hlo := h.p.v.lo
  have hlen := sealedB_length (first + fr.length + 1) cs hcs
  have hN : 1 ≤ first + (fr.length : Int) + 1 ∧ first + (fr.length : Int) + 1 ≤ 999999999 := ⟨by omega, by omega⟩
  have hNc := name_check hN
  have hNf := name_fresh hN
  have hcf : tCheck ≠ tFresh := by decide
  generalize hS : sealedB (first + fr.length + 1) cs = S at *
  generalize hNm : nameB (first + fr.length + 1) = N at *
  have hgN : goodN N = true := by rw [← hNm]; exact nameB_good hN
  have h18 : N.size ≤ 18 := by rw [← hNm]; exact name18 _
  have hVN : m.look N = none := by rw [← hNm]; exact h.p.v.pn _ (by omega) (by omega)
  unfold markS
  rw [hS, hNm]
  have e0 : tidyL m = (0, m) := by unfold tidyL; rw [M.drop_no hd fresh_good h.p.v.fresh]; rfl
  rw [runL_cons (x := (0, l, m)) (by simp only [e0]), if_neg (by simp)]
  simp only
  have s0 := h.side
  have bad : ∀ (b : M) (d k : Nat), d ≤ cs.length + 48 → k ≤ 7 → Log b true chk first fr bk [] ∧ Off m b d k → ∃ l' m', ((9 : Int), l.die 9, b) = (9, l', m') ∧ (Log m' false chk first fr bk [] ∨ Log m' false cs (first + fr.length + 1) [] [] []) ∧ Off m m' (cs.length + 48) (fr.length + 9) := fun b d k h1 h2 h3 => ⟨_, b, rfl, .inl h3.1.weak, h3.2.mono h1 (by omega)⟩
  rcases Or.symm (s0.make h hd fresh_good (by decide) h.p.v.fresh (by omega)) with ⟨a1, e1, g⟩ | ⟨a1, e1, s1⟩
  · rw [runL_cons (x := (9, l, a1)) (by simp only [e1]), if_pos (by simp)]
    exact .inr (bad a1 _ _ (by omega) (by omega) g)
  rw [runL_cons (x := (0, l, a1)) (by simp only [e1]), if_neg (by simp)]
  simp only
  have d1 : a1.dark = false := s1.to.lit.trans hd
  have n1 := s1.to.need
  have r1 := s1.to.room
  rcases Or.symm (s1.write h d1 (y := zeroFl) (by simp) S (by omega)) with ⟨a2, e2, g⟩ | ⟨a2, e2, s2⟩
  · rw [runL_cons (x := (9, l, a2)) (by simp only [e2]), if_pos (by simp)]
    exact .inr (bad a2 _ _ (by omega) (by omega) g)
  rw [runL_cons (x := (0, l, a2)) (by simp only [e2]), if_neg (by simp)]
  simp only
  have d2 : a2.dark = false := s2.to.lit.trans hd
  rcases Or.symm (s2.sync h d2 (y := ⟨S, []⟩) (by simp [zeroFl])) with ⟨a3, e3, g⟩ | ⟨a3, e3, s3⟩
  · rw [runL_cons (x := (9, l, a3)) (by simp only [e3]), if_pos (by simp)]
    exact .inr (bad a3 _ _ (by omega) (by omega) g)
  rw [runL_cons (x := (0, l, a3)) (by simp only [e3]), if_neg (by simp)]
  simp only
  have d3 : a3.dark = false := s3.to.lit.trans hd
  have n3 := s3.to.need
  have r3 := s3.to.room
  rcases Or.symm (s3.make h d3 hgN h18 (by simp [hNf, hVN]) (by omega)) with ⟨a4, e4, g⟩ | ⟨a4, e4, s4⟩
  · rw [runL_cons (x := (9, l, a4)) (by simp only [e4]), if_pos (by simp)]
    exact .inr (bad a4 _ _ (by omega) (by omega) g)
  rw [runL_cons (x := (0, l, a4)) (by simp only [e4]), if_neg (by simp)]
  simp only
  have d4 : a4.dark = false := s4.to.lit.trans hd
  rcases Or.symm (s4.move h d4 (y := dup S) (by simp only [if_neg hNf.symm, if_true])) with ⟨a5, e5, g⟩ | ⟨a5, e5, s5⟩
  · rw [runL_cons (x := (9, l, a5)) (by simp only [e5]), if_pos (by simp)]
    exact .inr (bad a5 _ _ (by omega) (by omega) g)
  rw [runL_cons (x := (0, l, a5)) (by simp only [e5]), if_neg (by simp)]
  simp only
  have d5 : a5.dark = false := s5.to.lit.trans hd
  have o6 := M.commit_ok s5.ok
  have t6 := short_commit s5.short
  have e6 := M.commit_go d5
  rw [e6] at o6 t6
  by_cases hl : a5.left = 1
  · rw [M.step_off hl] at e6
    rw [runL_cons (x := (9, l, a5.tick.fail a5.keep)) (by simp only [e6]), if_pos (by simp)]
    exact .inr (bad _ _ _ (by omega) (by omega) (s5.off h hl))
  rw [M.step_go hl] at e6 o6 t6
  have hT := s5.to.trans (to_secure a5)
  have hlk : ∀ x, (M.secure a5.tick).look x = if x = tCheck then some (dup S) else if x = tFresh then none else if x = N then some zeroFl else m.look x := fun x => by
    show a5.look x = _
    rw [s5.lk]
    by_cases x1 : x = tCheck
    · rw [if_pos x1, if_pos x1]
    · rw [if_neg x1, if_neg x1]
      by_cases x2 : x = tFresh
      · rw [if_pos x2, if_pos x2]
      · simp only [if_neg x2]
  have hsur : (M.secure a5.tick).sur = (M.secure a5.tick).dir := rfl
  generalize M.secure a5.tick = a6 at *
  rw [runL_cons (x := (0, l, a6)) (by simp only [e6]), if_neg (by simp)]
  simp only
  have d6 : a6.dark = false := hT.lit.trans hd
  have c6 := hT.count
  have hnm : ∀ i : Int, 1 ≤ i → i ≤ 999999999 → i ≠ first + fr.length + 1 → a6.look (nameB i) = m.look (nameB i) := fun i h1 h2 h3 => by
    rw [hlk, if_neg (name_check ⟨h1, h2⟩), if_neg (name_fresh ⟨h1, h2⟩), if_neg (fun e => h3 (nameB_inj ⟨h1, h2⟩ hN (by rw [e, hNm])))]
  have L6 : Log a6 false cs (first + fr.length + 1) [] [] [] := by
    refine ⟨⟨o6, t6, hsur, ⟨.inr (by rw [hlk, if_pos rfl, hS]), by rw [hlk, if_neg (fun e => hcf e.symm), if_pos rfl], hN.1, fun j hj => absurd hj (by simp), ?_, fun i h1 h2 => ?_, hcs, (fun r hr => by cases hr), fun e => nomatch e⟩, ?_⟩, (fun x hx => by cases hx), empty_tr⟩
    · have e : first + (fr.length : Int) + 1 + (([] : List (List (List UInt8))).length : Int) = first + fr.length + 1 := by simp
      rw [e, hNm, hlk, if_neg hNc, if_neg hNf, if_pos rfl]
      rfl
    · have h1' : first + (fr.length : Int) + 1 < i := by simpa using h1
      rw [hnm i (by omega) h2 (by omega)]
      exact h.p.v.pn i (by omega) h2
    · have := s5.to.cge
      have h9 : a5.count + 1 ≤ a6.count := by
        have h10 := e6
        have : a5.commit.2.count = a5.count + 1 := by rw [M.commit_go d5, M.step_go hl]; rfl
        rw [e6] at this
        exact Nat.le_of_eq this.symm
      simp
      omega
  have hnums : (numsM a6).length = fr.length + 2 := by
    rw [sorted_ext (nums_ord o6) (upL_ord (fr.length + 2) first) fun i => ?_, upL_length]
    rw [nums_mem o6 d6, mem_upL]
    constructor
    · rintro ⟨⟨h1, h2⟩, h3⟩
      by_cases h4 : i = first + fr.length + 1
      · omega
      · rw [hnm i h1 h2 h4] at h3
        refine ⟨Decidable.byContradiction fun h5 => ?_, Decidable.byContradiction fun h5 => ?_⟩
        · rw [h.p.v.low rfl i h1 (by omega)] at h3; cases h3
        · rw [h.p.v.pn i (by omega) h2] at h3; cases h3
    · rintro ⟨h1, h2⟩
      refine ⟨⟨by omega, by omega⟩, ?_⟩
      by_cases h4 : i = first + fr.length + 1
      · rw [h4, hNm, hlk, if_neg hNc, if_neg hNf, if_pos rfl]; rfl
      · rw [hnm i (by omega) (by omega) h4]
        by_cases h5 : i = first + fr.length
        · rw [h5, h.p.v.pb]; rfl
        · have := h.p.v.pf (i - first).toNat (by omega)
          have e2 : first + (((i - first).toNat : Nat) : Int) = i := by omega
          rw [e2] at this
          rw [this]; rfl
  rcases sweepL_log L6 d6 { l with last := first + fr.length + 1 } rfl with ⟨m', e7, p, t⟩ | ⟨m', e7, p, t⟩
  · rw [runL_cons (x := (0, { l with last := first + fr.length + 1 }, m')) (by simp only [e7]), if_neg (by simp)]
    rw [hnums] at t
    exact .inl ⟨m', rfl, p, (hT.trans t).mono (by omega) (by omega)⟩
  · rw [runL_cons (x := (9, { l with last := first + fr.length + 1 }, m')) (by simp only [e7]), if_pos (by simp)]
    rw [hnums] at t
    exact .inr ⟨_, m', rfl, .inr p, (hT.off t).mono (by omega) (by omega)⟩
theorem mark_log {ws : List (List UInt8)} (h : Log m true chk first fr bk []) (hd : m.dark = false) (hc : m.count ≤ 600000) (hs : Small ws) (l : Lg) (h1 : l.last = first + fr.length) (h2 : l.wait = catL ws) (h3 : l.cnt = ws.length) (h4 : l.dead = false) (hcs : cs.length ≤ 1048512) (hcn : ws.length < 1000) (hr : (m.need : Int) + l.wait.length + cs.length + 64 ≤ m.room) :
    (∃ n m', markL l m cs = (0, ⟨l.part, n, [], 0, false⟩, m') ∧ Log m' true cs n [] [] [] ∧ To m m' (l.wait.length + cs.length + 64) (fr.length + 14)) ∨
    ∃ l' m', markL l m cs = (9, l', m') ∧ ((∃ fr' bk' tear p, Log m' false chk first fr' bk' tear ∧ fr'.flatten ++ bk' = fr.flatten ++ (bk ++ ws.take p)) ∨ ∃ n, Log m' false cs n [] [] []) ∧ Off m m' (l.wait.length + cs.length + 64) (fr.length + 14) := by
  have ho : offE l m = 0 := by unfold offE; rw [h4, hd]; rfl
  have hre : refE l m cs.length = 0 := by unfold refE; rw [ho, if_neg (by simp), if_neg (by omega)]
  unfold markL
  rw [hre, if_neg (by simp)]
  rcases flush_log h hd (by omega) hs l h1 h2 h3 h4 (by omega) with ⟨fr', bk', m1, e, p1, g1, g2, t1⟩ | ⟨l', m1, bk', tear, p, e, p1, g1, t1⟩
  · rw [e, if_neg (by simp)]
    simp only
    have hhi := p1.p.hi
    have c1 := t1.count
    have n1 := t1.need
    have r1 := t1.room
    rw [if_neg (by omega)]
    rcases steps_log (cs := cs) p1 (t1.lit.trans hd) (by omega) ⟨l.part, first + fr'.length, [], 0, false⟩ hcs (by omega) with ⟨m2, e2, p2, t2⟩ | ⟨l', m2, e2, p2, t2⟩
    · rw [e2]
      exact .inl ⟨_, m2, rfl, p2, (t1.trans t2).mono (by omega) (by omega)⟩
    · rw [e2]
      refine .inr ⟨l', m2, rfl, ?_, (t1.off t2).mono (by omega) (by omega)⟩
      rcases p2 with p2 | p2
      · exact .inl ⟨fr', bk', [], ws.length, p2, by rw [g1, List.take_length, List.append_assoc]⟩
      · exact .inr ⟨_, p2⟩
  · rw [e, if_pos (by simp)]
    exact .inr ⟨l', m1, rfl, .inl ⟨fr, bk', tear, p, p1.weak, by rw [g1]⟩, t1.mono (by omega) (by omega)⟩
/-- A new store's log. -/
theorem new_log (room : Int) (h0 : 16 ≤ room) (h1 : room ≤ 1073741824) (part : Int) (hp : 1 ≤ part ∧ part ≤ 1048576) : ∃ m', openL (M.new room) part = (0, ⟨part, 1, [], 0, false⟩, m', [], []) ∧ Log m' true [] 1 [] [] [] ∧ To (M.new room) m' 16 2 := by
  have ok := M.new_ok (room := room) (by omega) h1
  have hd : (M.new room).dark = false := rfl
  have hl : ∀ x, (M.new room).look x = none := fun _ => rfl
  have hpa : partsL 1 (M.new room) = [] := by
    unfold partsL numsM numsL
    show ((([] : List ByteArray).map numB).filter _ |>.mergeSort _).filter _ = []
    simp
  have hld : openL (M.new room) part = ((beginL ⟨part, 0, [], 0, false⟩ (M.new room) 1).1, (beginL ⟨part, 0, [], 0, false⟩ (M.new room) 1).2.1, (beginL ⟨part, 0, [], 0, false⟩ (M.new room) 1).2.2, [], []) := by
    unfold openL
    have hrd : (M.new room).read checkB = ([], 3) := M.read_no hd check_good (hl _)
    rw [hrd, if_neg (by simp), if_neg (by omega), if_neg (by simp)]
    simp only
    unfold loadL
    rw [if_pos hpa]
  have hg : goodN (nameB 1) = true := nameB_good (by omega)
  have e := M.make_go hd hg (hl _) (by show ((M.new room).need : Int) + 16 ≤ room; have : (M.new room).need = 0 := rfl; omega)
  have o := M.make_ok ok (nameB 1)
  have s := short_make (m := M.new room) (n := nameB 1) ⟨by simp [M.new], by simp [M.new]⟩ (name18 1)
  have hlk := M.look_add ok (nameB 1)
  have ht := to_add (hl (nameB 1))
  rw [e, M.step_go (show (0 : Int) ≠ 1 by decide)] at o s
  have o2 := M.commit_ok o
  have s2 := short_commit s
  have e2 : (M.add (nameB 1) (M.new room).tick).commit = (0, M.secure (M.add (nameB 1) (M.new room).tick).tick) := by rw [M.commit_go rfl, M.step_go (show (0 : Int) ≠ 1 by decide)]
  rw [e2] at o2 s2
  refine ⟨M.secure (M.add (nameB 1) (M.new room).tick).tick, ?_, ?_, ht.trans (to_secure _)⟩
  · have hb : beginL ⟨part, 0, [], 0, false⟩ (M.new room) 1 = (0, ⟨part, 1, [], 0, false⟩, M.secure (M.add (nameB 1) (M.new room).tick).tick) := by
      unfold beginL
      rw [e, M.step_go (show (0 : Int) ≠ 1 by decide)]
      simp only
      rw [if_neg (by simp), e2]
      simp
    rw [hld, hb]
  · have hv : ∀ x, (M.secure (M.add (nameB 1) (M.new room).tick).tick).look x = if x = nameB 1 then some zeroFl else none := fun x => hlk x
    have c1 := name_check (n := 1) (by omega)
    have c2 := name_fresh (n := 1) (by omega)
    refine ⟨⟨o2, s2, rfl, ⟨.inl ⟨by rw [hv, if_neg (fun e => c1 e.symm)], rfl, rfl⟩, by rw [hv, if_neg (fun e => c2 e.symm)], by omega, fun j hj => absurd hj (by simp), by rw [hv, if_pos (by simp)]; rfl, fun i h1 h2 => ?_, by simp, (fun r hr => by cases hr), fun _ i h1 h2 => by omega⟩, by show _ ≤ ((2 : Nat) : Int); simp⟩, (fun x hx => by cases hx), empty_tr⟩
    have h1 : 1 < i := by simpa using h1
    rw [hv, if_neg (fun e => by have := nameB_inj ⟨by omega, h2⟩ ⟨by omega, by omega⟩ e; omega)]
end
end Go.Proofs.YtjgdmbfkondakaaGreatDoor

/-
  A LEDGER AND ITS STORE, told by the checkpoint, the sure records and those that wait; what a failure leaves. Of no program.
-/
namespace Go.Proofs.YtjgdmbfkondakaaGreatDoor
open Go.RowKit

/-- A ledger whose store is on. -/
structure Tk (pl : Bool) (part : Int) (chk : List UInt8) (sure waits : List (List UInt8)) (R : Int) (N C : Nat) (l : Lg) (m : M) (first : Int) (fr : List (List (List UInt8))) (bk : List (List UInt8)) : Prop where
  lg : Log m true chk first fr bk []
  eq : fr.flatten ++ bk = sure
  le : l = ⟨part, first + fr.length, catL waits, waits.length, false⟩
  lit : m.dark = false
  nl : pl = false → m.left = 0
  room : m.room = R
  need : m.need + (catL waits).length ≤ N
  cap : ∃ K, M.Cap m K ∧ K + (catL waits).length ≤ N
  cnt : m.count + fr.length ≤ C
  sw : ∀ x ∈ waits, x.length ≤ 1048512
/-- What a failure leaves: the sure records and some that waited, or a new checkpoint. -/
structure Dk (chk : List UInt8) (sure waits : List (List UInt8)) (mk : Option (List UInt8)) (N C : Nat) (m : M) : Prop where
  dark : m.dark = true
  lg : (∃ first fr bk tear p, Log m false chk first fr bk tear ∧ fr.flatten ++ bk = sure ++ waits.take p) ∨ ∃ cs n, mk = some cs ∧ Log m false cs n [] [] []
  cap : M.Cap m N
  cnt : m.count ≤ C
section
variable {pl : Bool} {part : Int} {chk : List UInt8} {sure waits : List (List UInt8)} {R : Int} {N C : Nat} {l : Lg} {m : M} {first : Int} {fr : List (List (List UInt8))} {bk : List (List UInt8)}
theorem Tk.small (h : Tk pl part chk sure waits R N C l m first fr bk) : Small waits := fun x hx => by have := h.sw x hx; omega
theorem Tk.light (h : Tk pl part chk sure waits R N C l m first fr bk) (hN : N ≤ 1000000) : Light m := fun i => by
  obtain ⟨K, h1, h2⟩ := h.cap
  have := (h1 i).1
  omega
theorem Tk.refE (h : Tk pl part chk sure waits R N C l m first fr bk) (n : Nat) : refE l m n = if 1048512 < n ∨ 1000 ≤ waits.length then 5 else 0 := by
  have ho : offE l m = 0 := by unfold offE; rw [h.le, h.lit]; rfl
  unfold Proofs.YtjgdmbfkondakaaGreatDoor.refE
  rw [ho, if_neg (by simp), h.le]
theorem Tk.checked (h : Tk pl part chk sure waits R N C l m first fr bk) : l.checked m = l := by
  unfold Lg.checked
  rw [h.le, h.lit]
  rfl
theorem Tk.add (h : Tk pl part chk sure waits R N C l m first fr bk) (bs : List UInt8) (hb : bs.length ≤ 1048512) : Tk pl part chk sure (waits ++ [bs]) R (N + bs.length + 8) C (l.more bs) m first fr bk := by
  have hc : catL (waits ++ [bs]) = catL waits ++ sealL bs := by rw [catL_append]; simp [catL]
  have hl : (catL (waits ++ [bs])).length = (catL waits).length + bs.length + 8 := by rw [hc, List.length_append, sealL_length bs (by omega)]; omega
  obtain ⟨K, k1, k2⟩ := h.cap
  have hn := h.need
  refine ⟨h.lg, h.eq, ?_, h.lit, h.nl, h.room, by omega, ⟨K, k1, by omega⟩, h.cnt, fun x hx => ?_⟩
  · rw [h.le, hc]
    unfold Lg.more
    simp
  · rcases List.mem_append.1 hx with hx | hx
    · exact h.sw x hx
    · rw [List.mem_singleton.1 hx]; exact hb
theorem Tk.flush (h : Tk pl part chk sure waits R N C l m first fr bk) (hN : (N : Int) + 16 ≤ R) (hC : C ≤ 700000) :
    (∃ l' m' fr' bk', flushL l m = (0, l', m') ∧ Tk pl part chk (sure ++ waits) [] R (N + 16) (C + 5) l' m' first fr' bk') ∨ (pl = true ∧ ∃ l' m', flushL l m = (9, l', m') ∧ Dk chk sure waits none (N + 16) (C + 5) m') := by
  have h1 := h.need
  have h2 := h.cnt
  have h3 := h.room
  obtain ⟨K, k1, k2⟩ := h.cap
  have hw : l.wait = catL waits := by rw [h.le]
  have hwl : l.wait.length = (catL waits).length := by rw [hw]
  rcases flush_log h.lg h.lit (by omega) h.small l (by rw [h.le]) hw (by rw [h.le]) (by rw [h.le]) (by omega) with ⟨fr', bk', m', e, g1, g2, g3, t⟩ | ⟨l', m', bk', tear, p, e, g1, g2, t⟩
  · have t1 := t.need
    have t2 := t.count
    refine .inl ⟨_, m', fr', bk', e, g1, by rw [g2, h.eq], by rw [h.le]; rfl, t.lit.trans h.lit, fun e => t.left (h.nl e), t.room.trans h3, ?_, ⟨_, t.cap K k1, ?_⟩, by omega, fun x hx => by cases hx⟩
    · show m'.need + 0 ≤ _; omega
    · show _ + 0 ≤ _; omega
  · have t2 := t.count
    have hpl : pl = true := by
      cases hp : pl with
      | true => rfl
      | false => exact absurd (h.nl hp) t.left
    refine .inr ⟨hpl, l', m', e, t.dark, .inl ⟨first, fr, bk', tear, p, g1.weak, by rw [g2, ← List.append_assoc, h.eq]⟩, (t.cap K k1).mono (by omega), by omega⟩
theorem Tk.mark (h : Tk pl part chk sure waits R N C l m first fr bk) (cs : List UInt8) (hcs : cs.length ≤ 1048512) (hw : waits.length < 1000) (hN : (N : Int) + cs.length + 64 ≤ R) (hC : C ≤ 600000) :
    (∃ l' m' n, markL l m cs = (0, l', m') ∧ Tk pl part cs [] [] R (N + cs.length + 64) (C + 14) l' m' n [] []) ∨ (pl = true ∧ ∃ l' m', markL l m cs = (9, l', m') ∧ Dk chk sure waits (some cs) (N + cs.length + 64) (C + 14) m') := by
  have h1 := h.need
  have h2 := h.cnt
  have h3 := h.room
  obtain ⟨K, k1, k2⟩ := h.cap
  have hwt : l.wait = catL waits := by rw [h.le]
  have hwl : l.wait.length = (catL waits).length := by rw [hwt]
  rcases mark_log (cs := cs) h.lg h.lit (by omega) h.small l (by rw [h.le]) hwt (by rw [h.le]) (by rw [h.le]) hcs hw (by omega) with ⟨n, m', e, g1, t⟩ | ⟨l', m', e, g1, t⟩
  · have t1 := t.need
    have t2 := t.count
    refine .inl ⟨_, m', n, e, g1, rfl, by rw [h.le]; simp [catL], t.lit.trans h.lit, fun e => t.left (h.nl e), t.room.trans h3, ?_, ⟨_, t.cap K k1, ?_⟩, by simp; omega, fun x hx => by cases hx⟩
    · show m'.need + 0 ≤ _; omega
    · show _ + 0 ≤ _; omega
  · have t2 := t.count
    have hpl : pl = true := by
      cases hp : pl with
      | true => rfl
      | false => exact absurd (h.nl hp) t.left
    refine .inr ⟨hpl, l', m', e, t.dark, ?_, (t.cap K k1).mono (by omega), by omega⟩
    rcases g1 with ⟨fr', bk', tear, p, g1, g2⟩ | ⟨n, g1⟩
    · exact .inl ⟨first, fr', bk', tear, p, g1, by rw [g2, ← List.append_assoc, h.eq]⟩
    · exact .inr ⟨cs, n, rfl, g1⟩
/-- Another Open, while nothing is planned. -/
theorem Tk.open (h : Tk false part chk sure waits R N C l m first fr bk) (hC : C ≤ 700000) (part' : Int) (hp : 1 ≤ part' ∧ part' ≤ 1048576) :
    ∃ l' m', openL m part' = (0, l', m', chk, sure) ∧ Tk false part chk sure waits R N (C + 2) l m' first fr bk ∧ Tk false part' chk sure [] R N (C + 2) l' m' first fr bk := by
  have h1 := h.need
  have h2 := h.cnt
  have h3 := h.room
  obtain ⟨K, k1, k2⟩ := h.cap
  rcases open_log h.lg h.lit (by omega) part' hp with ⟨m', e, g1, t⟩ | ⟨l', m', c', r', e, g1, t⟩
  · have t1 := t.need
    have t2 := t.count
    rw [h.eq] at e
    refine ⟨_, m', e, ⟨g1, h.eq, h.le, t.lit.trans h.lit, fun e => t.left (h.nl e), t.room.trans h3, by omega, ⟨K, t.cap K k1, k2⟩, by omega, h.sw⟩, ⟨g1, h.eq, rfl, t.lit.trans h.lit, fun e => t.left (h.nl e), t.room.trans h3, ?_, ⟨K, t.cap K k1, ?_⟩, by omega, fun x hx => by cases hx⟩⟩
    · show m'.need + 0 ≤ _; omega
    · show K + 0 ≤ _; omega
  · exact absurd (h.nl rfl) t.left
/-- A new store's. -/
theorem Tk.new (R : Int) (h0 : 16 ≤ R) (h1 : R ≤ 1073741824) (part : Int) (hp : 1 ≤ part ∧ part ≤ 1048576) : ∃ l m, openL (M.new R) part = (0, l, m, [], []) ∧ Tk false part [] [] [] R 16 2 l m 1 [] [] := by
  obtain ⟨m, e, g, t⟩ := new_log R h0 h1 part hp
  have hcap : M.Cap (M.new R) 0 := fun i => by rw [M.fl_out (by simp [M.new])]; simp [zeroFl]
  refine ⟨_, m, e, g, rfl, ?_, t.lit, fun _ => t.left rfl, t.room, ?_, ⟨_, t.cap 0 hcap, ?_⟩, ?_, fun x hx => by cases hx⟩
  · simp [catL]
  · have := t.need
    have hz : (M.new R).need = 0 := rfl
    show m.need + 0 ≤ 16
    omega
  · show 0 + 16 + 0 ≤ 16; omega
  · have := t.count
    have hz : (M.new R).count = 0 := rfl
    show m.count + 0 ≤ 2
    omega
end
section
variable {cl : Bool} {chk : List UInt8} {first : Int} {fr : List (List (List UInt8))} {bk : List (List UInt8)} {tear : List UInt8} {m : M}
/-- The power fails while all is sure. -/
theorem Log.fail (h : Log m cl chk first fr bk tear) (k : Int) : Log (m.fail k) cl chk first fr bk tear := by
  refine ⟨⟨h.p.ok.fail k, short_fail h.p.short k, rfl, ?_, h.p.hi⟩, h.sb, h.tr⟩
  have e : (m.fail k).look = fun n => (m.look n).map (failF k) := funext fun n => by rw [M.look_fail h.p.ok, M.look_sur h.p.sur]
  rw [e]
  have := h.p.v.sure k
  rwa [failF_dup] at this
theorem Log.power (h : Log m cl chk first fr bk tear) : Log m.power cl chk first fr bk tear := ⟨⟨h.p.ok.power, h.p.short, h.p.sur, h.p.v, h.p.hi⟩, h.sb, h.tr⟩
theorem Log.planned (h : Log m cl chk first fr bk tear) (n k : Int) (hn : 0 ≤ n ∧ n < 9223372036854775808) (hk : -9223372036854775808 ≤ k ∧ k < 9223372036854775808) (hd : m.dark = false) : m.plan n k = (0, { m with left := n, keep := k }) ∧ Log { m with left := n, keep := k } cl chk first fr bk tear := by
  have e : m.plan n k = (0, { m with left := n, keep := k }) := by unfold M.plan; rw [hd, if_neg (by simp), if_neg (by omega)]
  have o := M.plan_ok h.p.ok n k hn.2 hk
  rw [e] at o
  exact ⟨e, ⟨⟨o, h.p.short, h.p.sur, h.p.v, h.p.hi⟩, h.sb, h.tr⟩⟩
end
theorem Tk.planned {part : Int} {chk : List UInt8} {sure waits : List (List UInt8)} {R : Int} {N C : Nat} {l : Lg} {m : M} {first : Int} {fr : List (List (List UInt8))} {bk : List (List UInt8)} (h : Tk false part chk sure waits R N C l m first fr bk) (n k : Int) (hn : 0 ≤ n ∧ n < 9223372036854775808) (hk : -9223372036854775808 ≤ k ∧ k < 9223372036854775808) : m.plan n k = (0, { m with left := n, keep := k }) ∧ Tk true part chk sure waits R N C l { m with left := n, keep := k } first fr bk := by
  obtain ⟨e, g⟩ := h.lg.planned n k hn hk h.lit
  exact ⟨e, g, h.eq, h.le, h.lit, (fun e => nomatch e), h.room, h.need, h.cap, h.cnt, h.sw⟩
theorem Tk.fail {pl : Bool} {part : Int} {chk : List UInt8} {sure waits : List (List UInt8)} {R : Int} {N C : Nat} {l : Lg} {m : M} {first : Int} {fr : List (List (List UInt8))} {bk : List (List UInt8)} (h : Tk pl part chk sure waits R N C l m first fr bk) (k : Int) (mk : Option (List UInt8)) : Dk chk sure waits mk N C (m.fail k) := by
  obtain ⟨K, k1, k2⟩ := h.cap
  have := h.cnt
  refine ⟨rfl, .inl ⟨first, fr, bk, [], 0, (h.lg.fail k).weak, by simp [h.eq]⟩, (k1.fail k).mono (by omega), ?_⟩
  show m.count ≤ C
  omega
/-- What is told behind a failure, of a store that is on again. -/
def Behd (chk : List UInt8) (sure waits : List (List UInt8)) (mk : Option (List UInt8)) (d : List UInt8) (rs : List (List UInt8)) : Prop := (d = chk ∧ ∃ p, rs = sure ++ waits.take p) ∨ (mk = some d ∧ rs = [])
/-- A store that is on and tells that. -/
def Told (chk : List UInt8) (sure waits : List (List UInt8)) (mk : Option (List UInt8)) (N C : Nat) (m : M) : Prop := m.dark = false ∧ M.Cap m N ∧ m.count ≤ C ∧ ∃ d first fr bk tear, Log m false d first fr bk tear ∧ Behd chk sure waits mk d (fr.flatten ++ bk)
section
variable {chk : List UInt8} {sure waits : List (List UInt8)} {mk : Option (List UInt8)} {N C : Nat} {m : M}
theorem Dk.power (h : Dk chk sure waits mk N C m) : Told chk sure waits mk N C m.power ∧ m.power.left = 0 := by
  refine ⟨⟨rfl, h.cap, h.cnt, ?_⟩, rfl⟩
  rcases h.lg with ⟨first, fr, bk, tear, p, g1, g2⟩ | ⟨cs, n, e, g1⟩
  · exact ⟨chk, first, fr, bk, tear, g1.power, .inl ⟨rfl, p, g2⟩⟩
  · exact ⟨cs, n, [], [], [], g1.power, .inr ⟨e, rfl⟩⟩
theorem Told.planned (h : Told chk sure waits mk N C m) (n k : Int) (hn : 0 ≤ n ∧ n < 9223372036854775808) (hk : -9223372036854775808 ≤ k ∧ k < 9223372036854775808) : m.plan n k = (0, { m with left := n, keep := k }) ∧ Told chk sure waits mk N C { m with left := n, keep := k } := by
  obtain ⟨h1, h2, h3, d, first, fr, bk, tear, g1, g2⟩ := h
  obtain ⟨e, g⟩ := g1.planned n k hn hk h1
  exact ⟨e, h1, h2, h3, d, first, fr, bk, tear, g, g2⟩
theorem Told.ok (h : Told chk sure waits mk N C m) : m.Ok ∧ Short m := by
  obtain ⟨_, _, _, d, first, fr, bk, tear, g1, _⟩ := h
  exact ⟨g1.p.ok, g1.p.short⟩
/-- Open of it: it tells what it has, or the power fails, and it tells it when power is back. -/
theorem Told.open (h : Told chk sure waits mk N C m) (hC : C ≤ 700000) (part : Int) (hp : 1 ≤ part ∧ part ≤ 1048576) :
    (∃ l' m' d rs, openL m part = (0, l', m', d, rs) ∧ Behd chk sure waits mk d rs ∧ Told chk sure waits mk N (C + 2) m'.power ∧ m'.Ok) ∨ (m.left ≠ 0 ∧ ∃ l' m' c' r', openL m part = (9, l', m', c', r') ∧ Told chk sure waits mk N (C + 2) m'.power ∧ m'.Ok) := by
  obtain ⟨h1, h2, h3, d, first, fr, bk, tear, g1, g2⟩ := h
  rcases open_log g1 h1 (by omega) part hp with ⟨m', e, p, t⟩ | ⟨l', m', c', r', e, p, t⟩
  · have := t.count
    exact .inl ⟨_, m', d, _, e, g2, ⟨rfl, t.cap N h2, (show m'.count ≤ _ by omega), d, first, fr, bk, [], p.power, g2⟩, p.p.ok⟩
  · have := t.count
    exact .inr ⟨t.left, l', m', c', r', e, ⟨rfl, t.cap N h2, (show m'.count ≤ _ by omega), d, first, fr, bk, tear, p.power, g2⟩, p.p.ok⟩
end
end Go.Proofs.YtjgdmbfkondakaaGreatDoor
