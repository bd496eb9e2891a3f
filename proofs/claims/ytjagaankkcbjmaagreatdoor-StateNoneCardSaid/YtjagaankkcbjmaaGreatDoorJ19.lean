/-
  A STATE in memory, told by a model's: which blocks its parts have, and what lies in them.
-/
import Derived.Test.YtjagaankkcbjmaaGreatDoorJ5
import Derived.Test.YtjagaankkcbjmaaGreatDoorJ8
import Derived.Test.YtjagaankkcbjmaaGreatDoorJ11
import Derived.Test.YtjagaankkcbjmaaGreatDoorJ17
import Derived.Test.YtjagaankkcbjmaaGreatDoorJ18
import Derived.Deep.RegionHeld3
import Derived.Test.YtjagaankkcbjmaaGreatDoorJ14
import Derived.Test.YtjagaankkcbjmaaGreatDoorJ12
import Derived.Test.YtjagaankkcbjmaaGreatDoorJ13
namespace Go.Proofs.YtjagaankkcbjmaaGreatDoor
open Go.RowKit

/-- All that a site must not forget. -/
structure Sm where
  site : Int
  S : Int
  E : List (Int × Int)
  H : Int
  seq : Nat
  boots : Nat
  tb : B.Tb
  qs : List (ByteArray × F.St)
  bk : Nat → List (Nat × Nat)
  lk : List (Int × List Ms)
instance encM14 : K.Enc mcells 6 := ⟨fun _ => rfl, fun m u hu => by simp [mcells] at hu; rcases hu with rfl | rfl | rfl | rfl | rfl | rfl <;> rfl, by decide⟩
abbrev OwnM (w : World) (base : Nat) (v : Value) (l : List Ms) : Prop := K.OwnOf mcells 6 40 w base v l
abbrev OwnE (w : World) (base : Nat) (v : Value) (l : List (Int × Int)) : Prop := K.OwnOf O.ecells 2 110 w base v l
/-- A state's parts. -/
inductive Ix where
  | main | edges | table | qmap | book | lmap
  | queue (n : ByteArray)
  | link (t : Int)
  deriving DecidableEq
/-- Where they lie. -/
structure Ad where
  ev : Value
  tp : Nat
  qm : Nat
  bp : Nat
  lm : Nat
  ps : List Pe
  es : List Le
/-- The state's own block. -/
abbrev scells14 (d : Ad) (s : Sm) : Array Value := #[.int .i64 s.site, .int .i64 s.S, d.ev, .int .i64 s.H, .int .u64 (s.seq : Int), .int .u64 (s.boots : Int), .pointer (some ⟨d.tp, 0, none⟩), .map (some d.qm), .pointer (some ⟨d.bp, 0, none⟩), .map (some d.lm)]
structure SAt (w : World) (p : Nat) (ft : Ix → Nat → Prop) (d : Ad) (s : Sm) : Prop where
  blk : w.heap[p]? = some (.cells (scells14 d s) 96 (0, 0))
  fm : ∀ k, ft .main k ↔ k = p
  edges : OwnE w 0 d.ev s.E
  fe : ∀ k, ft .edges k ↔ d.ev.ownBlock = some k
  table : B.T w d.tp (ft .table) s.tb
  qmap : DAt w d.qm d.ps
  fq : ∀ k, ft .qmap k ↔ k = d.qm
  book : S.Bk w d.bp (ft .book) s.bk
  lmap : LAt w d.lm d.es
  fl : ∀ k, ft .lmap k ↔ k = d.lm
  names : d.ps.map Prod.fst = s.qs.map Prod.fst
  queue : ∀ n q, (n, q) ∈ s.qs → ∃ b, (n, b) ∈ d.ps ∧ F.Q w b (ft (.queue n)) q
  noq : ∀ n, n ∉ s.qs.map Prod.fst → ∀ k, ¬ ft (.queue n) k
  tos : d.es.map Prod.fst = s.lk.map Prod.fst
  link : ∀ t l, (t, l) ∈ s.lk → ∃ v, (t, v) ∈ d.es ∧ OwnM w 0 v l ∧ ∀ k, ft (.link t) k ↔ v.ownBlock = some k
  nol : ∀ t, t ∉ s.lk.map Prod.fst → ∀ k, ¬ ft (.link t) k
  one : ∀ a b k, ft a k → ft b k → a = b
theorem SAt.lts {w : World} {p : Nat} {ft : Ix → Nat → Prop} {d : Ad} {s : Sm} (h : SAt w p ft d s) : ∀ a k, ft a k → k < w.heap.size := by
  intro a k hk
  cases a with
  | main => rw [(h.fm k).1 hk]; exact (Array.getElem?_eq_some_iff.1 h.blk).1
  | edges => exact (h.edges.lt ((h.fe k).1 hk)).2
  | table => exact h.table.lts k hk
  | qmap => rw [(h.fq k).1 hk]; exact h.qmap.lt
  | book => exact h.book.lts k hk
  | lmap => rw [(h.fl k).1 hk]; exact h.lmap.lt
  | queue n =>
    by_cases hn : n ∈ s.qs.map Prod.fst
    · obtain ⟨⟨n', q⟩, hm, rfl⟩ := List.mem_map.1 hn
      obtain ⟨b, _, hq⟩ := h.queue n' q hm
      exact hq.lts k hk
    · exact absurd hk (h.noq n hn k)
  | link t =>
    by_cases hn : t ∈ s.lk.map Prod.fst
    · obtain ⟨⟨t', l⟩, hm, rfl⟩ := List.mem_map.1 hn
      obtain ⟨v, _, ho, hf⟩ := h.link t' l hm
      exact (ho.lt ((hf k).1 hk)).2
    · exact absurd hk (h.nol t hn k)
theorem SAt.same {w w' : World} {p : Nat} {ft : Ix → Nat → Prop} {d : Ad} {s : Sm} (h : SAt w p ft d s) (hs : ∀ a k, ft a k → w'.heap[k]? = w.heap[k]?) : SAt w' p ft d s where
  blk := by rw [hs .main p ((h.fm p).2 rfl)]; exact h.blk
  fm := h.fm
  edges := h.edges.same fun g hg => hs .edges g ((h.fe g).2 hg)
  fe := h.fe
  table := h.table.same fun k hk => hs .table k hk
  qmap := h.qmap.same (hs .qmap _ ((h.fq _).2 rfl))
  fq := h.fq
  book := h.book.same fun k hk => hs .book k hk
  lmap := h.lmap.same (hs .lmap _ ((h.fl _).2 rfl))
  fl := h.fl
  names := h.names
  queue := fun n q hq => by
    obtain ⟨b, h1, h2⟩ := h.queue n q hq
    exact ⟨b, h1, h2.same fun k hk => hs _ k hk⟩
  noq := h.noq
  tos := h.tos
  link := fun t l hl => by
    obtain ⟨v, h1, h2, h3⟩ := h.link t l hl
    exact ⟨v, h1, h2.same fun g hg => hs (.link t) g ((h3 g).2 hg), h3⟩
  nol := h.nol
  one := h.one
/-- A state, and all of its blocks. -/
def SS (w : World) (p : Nat) (F : Nat → Prop) (s : Sm) : Prop := ∃ ft d, SAt w p ft d s ∧ ∀ k, F k ↔ ∃ a, ft a k
theorem SS.lts {w : World} {p : Nat} {F : Nat → Prop} {s : Sm} (h : SS w p F s) : ∀ k, F k → k < w.heap.size := by
  obtain ⟨ft, d, hs, hF⟩ := h
  intro k hk
  obtain ⟨a, ha⟩ := (hF k).1 hk
  exact hs.lts a k ha
theorem SS.same {w w' : World} {p : Nat} {F : Nat → Prop} {s : Sm} (h : SS w p F s) (hs : ∀ k, F k → w'.heap[k]? = w.heap[k]?) : SS w' p F s := by
  obtain ⟨ft, d, h1, hF⟩ := h
  exact ⟨ft, d, h1.same fun a k hk => hs k ((hF k).2 ⟨a, hk⟩), hF⟩
theorem SS.kept {w w' : World} {p : Nat} {F : Nat → Prop} {s : Sm} (h : SS w p F s) (hb : Below w.heap.size w w') : SS w' p F s := h.same fun k hk => hb.block k (h.lts k hk)
theorem SS.beside {w w' : World} {p : Nat} {F G G' : Nat → Prop} {s : Sm} (h : SS w p F s) (m : Moved w w' G G') (ha : ∀ k, G k → ¬ F k) : SS w' p F s := h.same fun k hk => m.block k (h.lts k hk) (fun hg => ha k hg hk)
/-- One part's blocks are others now. -/
def upd (ft : Ix → Nat → Prop) (c : Ix) (F : Nat → Prop) : Ix → Nat → Prop := fun a => if a = c then F else ft a
theorem upd_same (ft : Ix → Nat → Prop) (c : Ix) (F : Nat → Prop) : upd ft c F c = F := if_pos rfl
theorem upd_other (ft : Ix → Nat → Prop) {a c : Ix} (F : Nat → Prop) (h : a ≠ c) : upd ft c F a = ft a := if_neg h
/-- .. nothing but that part's blocks has changed. -/
theorem SAt.others {w w' : World} {p : Nat} {ft : Ix → Nat → Prop} {d : Ad} {s : Sm} {c : Ix} {F' : Nat → Prop} (h : SAt w p ft d s) (m : Moved w w' (ft c) F') : ∀ a, a ≠ c → ∀ k, ft a k → w'.heap[k]? = w.heap[k]? :=
  fun a ha k hk => m.block k (h.lts a k hk) fun hc => ha (h.one a c k hk hc)
theorem SAt.oneUpd {w w' : World} {p : Nat} {ft : Ix → Nat → Prop} {d : Ad} {s : Sm} {c : Ix} {F' : Nat → Prop} (h : SAt w p ft d s) (m : Moved w w' (ft c) F') : ∀ a b k, upd ft c F' a k → upd ft c F' b k → a = b := by
  intro a b k ha hb
  have key : ∀ e, e ≠ c → ft e k → F' k → False := fun e he h1 h2 => (m.sub k h2).elim (fun h3 => he (h.one e c k h1 h3)) (fun h3 => by have := h.lts e k h1; omega)
  by_cases ea : a = c
  · by_cases eb : b = c
    · rw [ea, eb]
    · rw [ea, upd_same] at ha
      rw [upd_other ft F' eb] at hb
      exact (key b eb hb ha).elim
  · rw [upd_other ft F' ea] at ha
    by_cases eb : b = c
    · rw [eb, upd_same] at hb
      exact (key a ea ha hb).elim
    · rw [upd_other ft F' eb] at hb
      exact h.one a b k ha hb
theorem moved_upd {w w' : World} {ft : Ix → Nat → Prop} {c : Ix} {F' : Nat → Prop} (m : Moved w w' (ft c) F') : Moved w w' (fun k => ∃ a, ft a k) (fun k => ∃ a, upd ft c F' a k) :=
  ⟨m.os, m.tape, m.output, m.size, fun k hk hn => m.block k hk (fun hc => hn ⟨c, hc⟩), fun k ⟨a, ha⟩ => by
    by_cases e : a = c
    · rw [e, upd_same] at ha
      exact (m.sub k ha).imp (fun h => ⟨c, h⟩) id
    · rw [upd_other ft F' e] at ha
      exact .inl ⟨a, ha⟩⟩
end Go.Proofs.YtjagaankkcbjmaaGreatDoor

/-
  made, by its contract.
-/
namespace Go.Proofs.YtjagaankkcbjmaaGreatDoor
open Go.RowKit

theorem cells10 {w : World} {g : Nat} {a b c d e f x y z u : Value} {t : TypeId} {fz : Nat × Nat} (h : w.heap[g]? = some (.cells #[a, b, c, d, e, f, x, y, z, u] t fz)) :
    w.cell? ⟨g, 0, none⟩ = some a ∧ w.cell? ⟨g, 1, none⟩ = some b ∧ w.cell? ⟨g, 2, none⟩ = some c ∧ w.cell? ⟨g, 3, none⟩ = some d ∧ w.cell? ⟨g, 4, none⟩ = some e ∧ w.cell? ⟨g, 5, none⟩ = some f ∧ w.cell? ⟨g, 6, none⟩ = some x ∧ w.cell? ⟨g, 7, none⟩ = some y ∧ w.cell? ⟨g, 8, none⟩ = some z ∧ w.cell? ⟨g, 9, none⟩ = some u := by
  refine ⟨?_, ?_, ?_, ?_, ?_, ?_, ?_, ?_, ?_, ?_⟩ <;> (simp only [World.cell?]; rw [h]; rfl)
set_option maxRecDepth 20000 in
theorem made14_any (p : Nat) (F : Nat → Prop) (s : Sm) (w : World) (h : SS w p F s) : Calls Tryz.prog 36 #[.pointer (some ⟨p, 0, none⟩)] w fun e w' => e = .returned (.bool true) ∧ w' = w := by
  obtain ⟨ft, d, hs, _⟩ := h
  obtain ⟨c0, c1, c2, c3, c4, c5, c6, c7, c8, c9⟩ := cells10 hs.blk
  clear hs
  go_enter Tryz.func36, Tryz.ntmps36
  go_wp2
  go_ret
  exact ⟨rfl, rfl⟩
/-- A state that no call made: none, or all zero. -/
def Un14 (w : World) (q : Value) : Prop := q = .pointer none ∨ ∃ p, q = .pointer (some ⟨p, 0, none⟩) ∧ w.heap[p]? = some (.cells #[.int .i64 0, .int .i64 0, .slice none 0 0, .int .i64 0, .int .u64 0, .int .u64 0, .pointer none, .map none, .pointer none, .map none] 96 (0, 0))
theorem Un14.ptr {w : World} {q : Value} (h : Un14 w q) : ∃ a, q = .pointer a := h.elim (fun h => ⟨_, h⟩) (fun ⟨_, h, _⟩ => ⟨_, h⟩)
theorem Un14.below {w w' : World} {q : Value} (h : Un14 w q) (hb : Below w.heap.size w w') : Un14 w' q := by
  rcases h with h | ⟨p, h1, h2⟩
  · exact .inl h
  · exact .inr ⟨p, h1, (hb.block p (Array.getElem?_eq_some_iff.1 h2).1).trans h2⟩
set_option maxRecDepth 20000 in
theorem un14_made (q : Value) (w : World) (h : Un14 w q) : Calls Tryz.prog 36 #[q] w fun e w' => e = .returned (.bool false) ∧ w' = w := by
  rcases h with rfl | ⟨p, rfl, hp⟩
  · go_enter Tryz.func36, Tryz.ntmps36
    go_wp2
    go_ret
    exact ⟨rfl, rfl⟩
  · obtain ⟨c0, c1, c2, c3, c4, c5, c6, c7, c8, c9⟩ := cells10 hp
    clear hp
    go_enter Tryz.func36, Tryz.ntmps36
    go_wp2
    go_ret
    exact ⟨rfl, rfl⟩
end Go.Proofs.YtjagaankkcbjmaaGreatDoor

/-
  PACKAGE seen: known, made, of, New, Low, Gaps, Ranges, Has, Add, by their contracts.
-/
namespace Go.Proofs.YtjagaankkcbjmaaGreatDoor.S
open Go.RowKit Go.Sort
set_option maxRecDepth 20000

theorem known_any (o : Int) (w : World) :
    Calls Tryz.prog 214 #[.int .i64 o] w fun e w' => e = .returned (.bool (knownB o)) ∧ w' = w := by
  by_cases h1 : 1 ≤ o
  · by_cases h2 : o ≤ 8
    · go_enter Tryz.func214, Tryz.ntmps214
      go_wp2
      go_ret
      exact ⟨ret_bool (decide_eq_true ⟨h1, h2⟩).symm, rfl⟩
    · go_enter Tryz.func214, Tryz.ntmps214
      go_wp2
      go_ret
      exact ⟨ret_bool (decide_eq_false (by omega)).symm, rfl⟩
  · go_enter Tryz.func214, Tryz.ntmps214
    go_wp2
    go_ret
    exact ⟨ret_bool (decide_eq_false (by omega)).symm, rfl⟩

set_option maxHeartbeats 400000 in
theorem made_ptr (p : Nat) (s : Nat → Value) (S0 : Nat) (w : World) (h : w.heap[p]? = some (.cells (fcells 8 s).toArray 175 (0, 0))) (hs : s 0 = ptrS S0) :
    Calls Tryz.prog 156 #[ptrS p] w fun e w' => e = .returned (.bool true) ∧ w' = w := by
  have hc : w.cell? ⟨p, 0, none⟩ = some (.pointer (some ⟨S0, 0, none⟩)) := by rw [cell_of_list h, fcells_get _ (by omega), hs]; rfl
  clear h
  unfold ptrS
  go_enter Tryz.func156, Tryz.ntmps156
  go_wp2
  go_ret
  exact ⟨rfl, rfl⟩
theorem made_any (p : Nat) (F : Nat → Prop) (f : Nat → List (Nat × Nat)) (w : World) (h : Bk w p F f) :
    Calls Tryz.prog 156 #[ptrS p] w fun e w' => e = .returned (.bool true) ∧ w' = w := by
  obtain ⟨S, v, hb, _⟩ := h
  exact made_ptr p _ (S 0) w hb.blk rfl

set_option maxHeartbeats 400000 in
theorem of_ptr (p i : Nat) (o : Int) (s : Nat → Value) (w : World) (hi : i < 8) (ho : o = (i : Int) + 1) (h : w.heap[p]? = some (.cells (fcells 8 s).toArray 175 (0, 0))) :
    Calls Tryz.prog 134 #[ptrS p, .int .i64 o] w fun e w' => e = .returned (s i) ∧ w' = w := by
  have hc : w.cell? ⟨p, i, none⟩ = some (s i) := by rw [cell_of_list h, fcells_get _ hi]
  have hK := known_any o w
  rw [show knownB o = true from decide_eq_true (by omega)] at hK
  have hw : IntKind.i64.wrap (o - 1) = (i : Int) := by rw [IntKind.wrap_i64]; omega
  have hi' : (i : Int) < 8 := by omega
  generalize s i = si at hc ⊢
  clear h ho
  unfold ptrS
  go_enter Tryz.func134, Tryz.ntmps134
  go_wp2_with (go_at_call 214; refine hK.mono ?_; rintro e w ⟨rfl, rfl⟩)
  go_ret
  exact ⟨rfl, rfl⟩
set_option maxHeartbeats 400000 in
theorem of_none (o : Int) (b : Value) (w : World) (hb : b = .pointer none ∨ ∃ p, b = ptrS p) (h : b = .pointer none ∨ ¬ (1 ≤ o ∧ o ≤ 8)) :
    Calls Tryz.prog 134 #[b, .int .i64 o] w fun e w' => e = .returned (.pointer none) ∧ w' = w := by
  have hK := known_any o w
  rcases hb with rfl | ⟨p, rfl⟩
  · clear hK
    go_enter Tryz.func134, Tryz.ntmps134
    go_wp2
    go_ret
    exact ⟨rfl, rfl⟩
  · rw [show knownB o = false from decide_eq_false (h.elim (fun h => by cases h) id)] at hK
    unfold ptrS
    go_enter Tryz.func134, Tryz.ntmps134
    go_wp2_with (go_at_call 214; refine hK.mono ?_; rintro e w ⟨rfl, rfl⟩)
    go_ret
    exact ⟨rfl, rfl⟩
theorem of_any (b : Value) (f : Nat → List (Nat × Nat)) (o : Int) (w : World) (h : Told w b f) :
    Calls Tryz.prog 134 #[b, .int .i64 o] w fun e w' => ∃ s, e = .returned s ∧ Lies w s (ofF f o) ∧ w' = w := by
  rcases h.way with ⟨rfl, rfl⟩ | ⟨p, s, rfl, hp, hs⟩
  · refine (of_none o _ w (.inl rfl) (.inl rfl)).mono ?_
    rintro e w' ⟨rfl, rfl⟩
    refine ⟨_, rfl, .inl ⟨rfl, ?_⟩, rfl⟩
    unfold ofF
    split <;> rfl
  · by_cases ho : 1 ≤ o ∧ o ≤ 8
    · obtain ⟨i, hi, he⟩ := known_at ho
      refine (of_ptr p i o s w hi he hp).mono ?_
      rintro e w' ⟨rfl, rfl⟩
      exact ⟨_, rfl, by rw [ofF_in hi he]; exact hs i hi, rfl⟩
    · refine (of_none o _ w (.inr ⟨p, rfl⟩) (.inr ho)).mono ?_
      rintro e w' ⟨rfl, rfl⟩
      exact ⟨_, rfl, .inl ⟨rfl, ofF_out ho⟩, rfl⟩
theorem Lies.ptr {w : World} {s : Value} {l : List (Nat × Nat)} (h : Lies w s l) : ∃ q, s = .pointer q := by
  rcases h with ⟨h, _⟩ | ⟨B, m, v, h, _⟩
  · exact ⟨_, h⟩
  · exact ⟨_, h⟩
theorem Told.ptr {w : World} {b : Value} {f : Nat → List (Nat × Nat)} (h : Told w b f) : ∃ q, b = .pointer q := by
  rcases h.way with ⟨h, _⟩ | ⟨p, s, h, _⟩
  · exact ⟨_, h⟩
  · exact ⟨_, h⟩

end Go.Proofs.YtjagaankkcbjmaaGreatDoor.S

/-
  PACKAGE span: touches, melt, by their contracts.
-/
namespace Go.Proofs.YtjagaankkcbjmaaGreatDoor.S
open Go.RowKit Go.Sort
set_option maxRecDepth 20000


/-- What a round of melt carries: the row's block holds the melted ones at its head, the rest of l where it was. -/
structure Melt (w wr : World) (g c : Nat) (l out : List (Nat × Nat)) (k : Nat) : Prop where
  blk : ∃ C : List Value, wr.heap[g]? = some (.cells C.toArray 150 (0, 0)) ∧ C.length = c * 2 ∧ C.take (out.length * 2) = rcells out ∧ ∀ q, k * 2 ≤ q → q < l.length * 2 → C[q]? = (rcells l)[q]?
  size : w.heap.size ≤ wr.heap.size
  os : wr.os = w.os
  tape : wr.tape = w.tape
  output : wr.output = w.output
  block : ∀ i, i < w.heap.size → i ≠ g → wr.heap[i]? = w.heap[i]?

theorem Melt.lt {w wr : World} {g c k : Nat} {l out : List (Nat × Nat)} (h : Melt w wr g c l out k) : g < wr.heap.size := by
  obtain ⟨C, hC, _⟩ := h.blk
  exact (Array.getElem?_eq_some_iff.1 hC).1
theorem Melt.below {w wr W : World} {g c k B : Nat} {l out : List (Nat × Nat)} (h : Melt w wr g c l out k) (hb : RowKit.Below B wr W) (hB : wr.heap.size ≤ B) : Melt w W g c l out k := by
  have hlt := h.lt
  obtain ⟨C, hC, rest⟩ := h.blk
  exact ⟨⟨C, by rw [hb.block g (by omega)]; exact hC, rest⟩, Nat.le_trans h.size hb.size, hb.os.trans h.os, hb.tape.trans h.tape, hb.output.trans h.output, fun i hi hne => by rw [hb.block i (by have := h.size; omega)]; exact h.block i hi hne⟩
/-- The last of the melted ones lies in memory. -/
theorem Melt.last {w wr : World} {g c k a1 a2 : Nat} {l i : List (Nat × Nat)} (h : Melt w wr g c l (i ++ [(a1, a2)]) k) : wr.cell? ⟨g, i.length * 2, none⟩ = some (.int .u64 (a1 : Int)) ∧ wr.cell? ⟨g, i.length * 2 + 1, none⟩ = some (.int .u64 (a2 : Int)) ∧ wr.frozen? ⟨g, i.length * 2 + 1, none⟩ = false := by
  obtain ⟨C, hC, hCl, hCt, _⟩ := h.blk
  have hg := rcells_get (i ++ [(a1, a2)]) i.length (by simp)
  rw [← hCt] at hg
  simp only [List.getElem?_take, List.length_append, List.length_cons, List.length_nil, List.getElem_concat_length] at hg
  rw [if_pos (by omega), if_pos (by omega)] at hg
  exact ⟨by rw [cell_of_list hC]; exact hg.1, by rw [cell_of_list hC]; exact hg.2, frozen_of_list hC _⟩
/-- One more at the end. -/
theorem Melt.push {w W w' : World} {g c k r1 r2 : Nat} {l out : List (Nat × Nat)} (h : Melt w W g c l out k) (C : List Value) (hC : W.heap[g]? = some (.cells C.toArray 150 (0, 0))) (hk : out.length ≤ k) (hkl : k < l.length) (hlc : l.length ≤ c)
    (h' : w'.heap[g]? = some (.cells (splice C (out.length * 2) (rcells [(r1, r2)])).toArray 150 (0, 0))) (ho : Only g W w') : Melt w w' g c l (out ++ [(r1, r2)]) (k + 1) := by
  obtain ⟨C', hC', hCl, hCt, hCq⟩ := h.blk
  rw [hC] at hC'
  injection hC' with hC'
  injection hC' with hC' _ _
  have : C = C' := by simpa using hC'
  subst this
  have hA := rcells_length out
  have hsp : C = rcells out ++ C.drop (out.length * 2) := by conv => lhs; rw [← List.take_append_drop (out.length * 2) C, hCt]
  have hs := splice_in C (rcells out) (C.drop (out.length * 2)) (rcells [(r1, r2)]) 0 (out.length * 2) hsp (by rw [hA]; omega)
  have hlen : (splice C (out.length * 2) (rcells [(r1, r2)])).length = C.length := length_splice _ _ _ (by rw [hCl]; show out.length * 2 + 2 ≤ _; omega)
  refine ⟨⟨_, h', by rw [hlen]; exact hCl, ?_, fun q hq1 hq2 => ?_⟩, by rw [ho.size]; exact h.size, ho.os.trans h.os, ho.tape.trans h.tape, ho.output.trans h.output, fun i hi hne => by rw [ho.block i hne]; exact h.block i hi hne⟩
  · rw [hs, rcells_append, List.take_zero, List.nil_append, ← List.append_assoc, List.length_append]
    rw [show (out.length + [(r1, r2)].length) * 2 = (rcells out ++ rcells [(r1, r2)]).length by rw [List.length_append, hA]; show (out.length + 1) * 2 = out.length * 2 + 2; omega]
    exact List.take_left
  · rw [← hCq q (by omega) hq2]
    rw [splice, List.getElem?_append_right (by rw [List.length_take]; omega), List.getElem?_append_right (by rw [List.length_take]; show 2 ≤ _; omega), List.getElem?_drop, List.length_take]
    congr 1
    show out.length * 2 + 2 + (q - min (out.length * 2) C.length - 2) = q
    omega
/-- The last one longer. -/
theorem Melt.longer {w W : World} {g c k a1 a2 m : Nat} {l i : List (Nat × Nat)} (h : Melt w W g c l (i ++ [(a1, a2)]) k) (hk : i.length + 1 ≤ k) : Melt w (W.setCell ⟨g, i.length * 2 + 1, none⟩ (.int .u64 (m : Int))) g c l (i ++ [(a1, m)]) (k + 1) := by
  obtain ⟨C, hC, hCl, hCt, hCq⟩ := h.blk
  have hs := heap_setCell_same W g (i.length * 2 + 1) _ _ (.int .u64 (m : Int)) hC
  refine ⟨⟨C.set (i.length * 2 + 1) (.int .u64 (m : Int)), by simpa using hs, by simpa using hCl, ?_, fun q hq1 hq2 => ?_⟩, by simpa using h.size, h.os, h.tape, h.output, fun j hj hne => by rw [heap_setCell_other _ _ _ _ hne]; exact h.block j hj hne⟩
  · have e1 : (i ++ [(a1, m)]).length * 2 = (i ++ [(a1, a2)]).length * 2 := by simp
    rw [e1, List.take_set, hCt, rcells_append, rcells_append, rcells_cons, rcells_cons, rcells_nil]
    have hA := rcells_length i
    rw [List.set_append_right _ _ (by rw [hA]; omega), hA]
    simp
  · rw [List.getElem?_set_ne (by omega)]
    exact hCq q (by omega) hq2

end Go.Proofs.YtjagaankkcbjmaaGreatDoor.S

/-
  PACKAGE span: From, by its contract.
-/
namespace Go.Proofs.YtjagaankkcbjmaaGreatDoor.S
open Go.RowKit Go.Sort
set_option maxRecDepth 20000

end Go.Proofs.YtjagaankkcbjmaaGreatDoor.S

/-
  PACKAGE seen: New, Has, Add, Put, by their contracts.
-/
namespace Go.Proofs.YtjagaankkcbjmaaGreatDoor.S
open Go.RowKit Go.Sort
set_option maxRecDepth 20000

/-- An id, boxed. -/
theorem id_cells (w : World) (o : Int) (n : Nat) : (w.alloc (.cells #[.int .i64 o, .int .u64 (n : Int)] 38)).cell? ⟨w.heap.size, 0, none⟩ = some (.int .i64 o) ∧ (w.alloc (.cells #[.int .i64 o, .int .u64 (n : Int)] 38)).cell? ⟨w.heap.size, 1, none⟩ = some (.int .u64 (n : Int)) := by
  have := heap_alloc_new w (.cells #[.int .i64 o, .int .u64 (n : Int)] 38)
  exact ⟨(cells2 this).1, (cells2 this).2.1⟩
theorem setNil_add (n : Nat) (w : World) :
    Calls Tryz.prog 248 #[.pointer none, .int .u64 (n : Int)] w fun e w' => e = .returned (.bool false) ∧ w' = w := by
  go_enter Tryz.func248, Tryz.ntmps248
  go_wp2
  go_ret
  exact ⟨rfl, rfl⟩

set_option maxRecDepth 20000 in
set_option maxHeartbeats 2000000 in
theorem bhas_any (b : Value) (f : Nat → List (Nat × Nat)) (o : Int) (n : Nat) (w : World) (h : Told w b f) (hf : Apart 1 (ofF f o)) (hlen : (ofF f o).length ≤ 1000000) :
    Calls Tryz.prog 63 #[b, .agg #[.int .i64 o, .int .u64 (n : Int)]] w fun e w' => e = .returned (.bool (memB (ofF f o) n)) ∧ Below w.heap.size w w' := by
  obtain ⟨W, fold⟩ : ∃ W, w.alloc (.cells #[.int .i64 o, .int .u64 (n : Int)] 38) = W := ⟨_, rfl⟩
  have bW : Below w.heap.size w W := by rw [← fold]; exact (Below.refl _ _).alloc (Nat.le_refl _) _
  obtain ⟨e0, e1⟩ : W.cell? ⟨w.heap.size, 0, none⟩ = some (.int .i64 o) ∧ W.cell? ⟨w.heap.size, 1, none⟩ = some (.int .u64 (n : Int)) := by rw [← fold]; exact id_cells w o n
  have bD : Below w.heap.size w W.drew := bW.drew
  have hO := of_any b f o W.drew (h.below bD)
  have HH : Hid (∀ V s, Lies V s (ofF f o) → Calls Tryz.prog 138 #[s, .int .u64 (n : Int)] V fun e w' => e = .returned (.bool (memB (ofF f o) n)) ∧ Below V.heap.size V w') := fun V s hs => has_any s _ n V hs hf hlen
  generalize memB (ofF f o) n = r at HH ⊢
  generalize ofF f o = l at HH hO
  obtain ⟨q, rfl⟩ := h.ptr
  clear h hf hlen
  go_enter Tryz.func63, Tryz.ntmps63
  go_wp2
  go_region_held3 (fun w' => w'.cell? ⟨w.heap.size, 0, none⟩ = some (.int .i64 o) ∧ w'.cell? ⟨w.heap.size, 1, none⟩ = some (.int .u64 (n : Int))) (go_keep) (first
    | (go_at_call 134; refine hO.mono ?_; rintro e w3 ⟨s, rfl, hl, rfl⟩; obtain ⟨q2, rfl⟩ := hl.ptr)
    | (go_at_call 138; refine (HH.out _ _ hl).mono ?_; rintro e w4 ⟨rfl, b4⟩; have k0 := cell_on b4 e0; have k1 := cell_on b4 e1))
  all_goals go_wp2
  all_goals go_ret
  all_goals exact ⟨rfl, bD.trans (b4.mono bD.size)⟩

set_option maxRecDepth 20000 in
set_option maxHeartbeats 2000000 in
theorem badd_in (p i : Nat) (S : Nat → Nat) (v : Nat → Value) (f : Nat → List (Nat × Nat)) (o : Int) (n : Nat) (w : World) (h : BkAt w p S v f) (hi : i < 8) (ho : o = (i : Int) + 1) (hf : Fine (f i)) (hlen : (f i).length ≤ 100000) (hn : n < 18446744073709551616) :
    Calls Tryz.prog 184 #[ptrS p, .agg #[.int .i64 o, .int .u64 (n : Int)]] w fun e w' => e = .returned (.bool (newB (f i) n)) ∧ ∃ v', BkAt w' p S (putF v i v') (putF f i (addS (f i) n)) ∧ Moved w w' (footB p S v) (footB p S (putF v i v')) := by
  obtain ⟨W, fold⟩ : ∃ W, w.alloc (.cells #[.int .i64 o, .int .u64 (n : Int)] 38) = W := ⟨_, rfl⟩
  have bW : Below w.heap.size w W := by rw [← fold]; exact (Below.refl _ _).alloc (Nat.le_refl _) _
  obtain ⟨e0, e1⟩ : W.cell? ⟨w.heap.size, 0, none⟩ = some (.int .i64 o) ∧ W.cell? ⟨w.heap.size, 1, none⟩ = some (.int .u64 (n : Int)) := by rw [← fold]; exact id_cells w o n
  have bD : Below w.heap.size w W.drew := bW.drew
  have hBk : BkAt W.drew p S v f := h.same fun k hk => bD.block k (h.lts k hk)
  have hO : Calls Tryz.prog 134 #[.pointer (some ⟨p, 0, none⟩), .int .i64 o] W.drew (fun e w' => e = .returned (.pointer (some ⟨S i, 0, none⟩)) ∧ w' = W.drew) := of_ptr p i o _ W.drew hi ho hBk.blk
  have hA := add_any (S i) n (v i) (f i) W.drew (hBk.set i hi) hf.1 hf.2 hn hlen
  have HX : Hid (∀ w', Turned W.drew w' (S i) (v i) → w'.cell? ⟨w.heap.size, 0, none⟩ = some (.int .i64 o) ∧ w'.cell? ⟨w.heap.size, 1, none⟩ = some (.int .u64 (n : Int))) := fun w' t => by
    have hx : w'.heap[w.heap.size]? = W.drew.heap[w.heap.size]? := t.block _ (World.block_lt_of_cell? W _ e0) (fun e => by have := h.lts (S i) (.inr ⟨i, hi, .inl rfl⟩); omega) (fun e => by have := h.lts _ (.inr ⟨i, hi, .inr e⟩); omega)
    exact ⟨(World.cell?_of_block (a := ⟨w.heap.size, 0, none⟩) hx).trans e0, (World.cell?_of_block (a := ⟨w.heap.size, 1, none⟩) hx).trans e1⟩
  have hend : Hid (∀ w' v', SetAt w' (S i) v' (addS (f i) n) → Turned W.drew w' (S i) (v i) → NewOr W.drew (v i) v' → BkAt w' p S (putF v i v') (putF f i (addS (f i) n)) ∧ Moved w w' (footB p S v) (footB p S (putF v i v'))) := fun w' v' hs t nw =>
    ⟨hBk.add hi hs t nw, (Moved.of_below bD).trans (t.moved hi nw)⟩
  clear h hf hlen hBk hi ho hn bW
  generalize newB (f i) n = r at hA ⊢
  unfold ptrS at *
  go_enter Tryz.func184, Tryz.ntmps184
  go_wp2
  go_region_held3 (fun w' => w'.cell? ⟨w.heap.size, 0, none⟩ = some (.int .i64 o) ∧ w'.cell? ⟨w.heap.size, 1, none⟩ = some (.int .u64 (n : Int))) (go_keep) (first
    | (go_at_call 134; refine hO.mono ?_; rintro e w3 ⟨rfl, rfl⟩)
    | (go_at_call 248; refine hA.mono ?_; rintro e w4 ⟨rfl, v', s4, t4, nw⟩; have HE : Hid _ := hend.out w4 v' s4 t4 nw; obtain ⟨k0, k1⟩ := HX.out w4 t4; clear s4 t4 nw))
  all_goals go_wp2
  all_goals go_ret
  all_goals exact ⟨rfl, v', HE.out⟩
set_option maxRecDepth 20000 in
set_option maxHeartbeats 2000000 in
theorem badd_nil (b : Value) (o : Int) (n : Nat) (w : World) (hb : ∃ q, b = .pointer q) (h : ∀ V, Below w.heap.size w V → Calls Tryz.prog 134 #[b, .int .i64 o] V fun e w' => e = .returned (.pointer none) ∧ w' = V) :
    Calls Tryz.prog 184 #[b, .agg #[.int .i64 o, .int .u64 (n : Int)]] w fun e w' => e = .returned (.bool false) ∧ Below w.heap.size w w' := by
  obtain ⟨W, fold⟩ : ∃ W, w.alloc (.cells #[.int .i64 o, .int .u64 (n : Int)] 38) = W := ⟨_, rfl⟩
  have bW : Below w.heap.size w W := by rw [← fold]; exact (Below.refl _ _).alloc (Nat.le_refl _) _
  obtain ⟨e0, e1⟩ : W.cell? ⟨w.heap.size, 0, none⟩ = some (.int .i64 o) ∧ W.cell? ⟨w.heap.size, 1, none⟩ = some (.int .u64 (n : Int)) := by rw [← fold]; exact id_cells w o n
  have bD : Below w.heap.size w W.drew := bW.drew
  have hO := h W.drew bD
  have hA := setNil_add n W.drew
  obtain ⟨q, rfl⟩ := hb
  clear h
  go_enter Tryz.func184, Tryz.ntmps184
  go_wp2
  go_region_held3 (fun w' => w'.cell? ⟨w.heap.size, 0, none⟩ = some (.int .i64 o) ∧ w'.cell? ⟨w.heap.size, 1, none⟩ = some (.int .u64 (n : Int))) (go_keep) (first
    | (go_at_call 134; refine hO.mono ?_; rintro e w3 ⟨rfl, rfl⟩)
    | (go_at_call 248; refine hA.mono ?_; rintro e w4 ⟨rfl, rfl⟩))
  all_goals go_wp2
  all_goals go_ret
  all_goals exact ⟨rfl, bD⟩
theorem badd_any (p : Nat) (F : Nat → Prop) (f : Nat → List (Nat × Nat)) (o : Int) (n : Nat) (w : World) (h : Bk w p F f) (hf : FineF f) (hlen : LenF 100000 f) (hn : n < 18446744073709551616) :
    Calls Tryz.prog 184 #[ptrS p, .agg #[.int .i64 o, .int .u64 (n : Int)]] w fun e w' => e = .returned (.bool (freshF f o n)) ∧ ∃ F', Bk w' p F' (addF f o n) ∧ Moved w w' F F' := by
  obtain ⟨S, v, hb, hF⟩ := h
  have e : F = footB p S v := funext fun k => propext (hF k)
  subst e
  by_cases ho : 1 ≤ o ∧ o ≤ 8
  · obtain ⟨i, hi, he⟩ := known_at ho
    refine (badd_in p i S v f o n w hb hi he (hf i hi) (hlen i hi) hn).mono ?_
    rintro e w' ⟨rfl, v', h1, h2⟩
    exact ⟨ret_bool (freshF_in hi he).symm, _, ⟨S, _, by rw [addF_in hi he]; exact h1, fun _ => Iff.rfl⟩, h2⟩
  · refine (badd_nil _ o n w ⟨_, rfl⟩ fun V _ => of_none o _ V (.inr ⟨p, rfl⟩) (.inr ho)).mono ?_
    rintro e w' ⟨rfl, b⟩
    exact ⟨ret_bool (freshF_out ho).symm, _, ⟨S, v, by rw [addF_out ho]; exact hb.same fun k hk => b.block k (hb.lts k hk), fun _ => Iff.rfl⟩, .of_below b⟩

/-- What a Put says, and does. -/
def putE (o : Int) (l : List (Nat × Nat)) : Int := if 1 ≤ o ∧ o ≤ 8 then (if goodB 1 l = true then 0 else 7) else 2
def putS (f : Nat → List (Nat × Nat)) (o : Int) (l : List (Nat × Nat)) : Nat → List (Nat × Nat) := if (1 ≤ o ∧ o ≤ 8) ∧ goodB 1 l = true then putF f (o - 1).toNat l else f


/-- The book while New fills it. -/
structure Fill (w wr : World) (k : Nat) : Prop where
  blk : wr.heap[w.heap.size]? = some (.cells (fcells 8 fun j => if j < k then ptrS (w.heap.size + 1 + j) else .pointer none).toArray 175 (0, 0))
  size : wr.heap.size = w.heap.size + 1 + k
  set : ∀ j, j < k → wr.heap[w.heap.size + 1 + j]? = some (.cells #[.bool true, .slice none 0 0] 253 (0, 0))
  bel : Below w.heap.size w wr
theorem Fill.drew {w wr : World} {k : Nat} (h : Fill w wr k) : Fill w wr.drew k := ⟨h.blk, h.size, h.set, h.bel.drew⟩
theorem Fill.step {w wr : World} {k : Nat} (h : Fill w wr k) : Fill w ((wr.alloc (.cells #[.bool true, .slice none 0 0] 253)).setCell ⟨w.heap.size, k, none⟩ (.pointer (some ⟨wr.heap.size, 0, none⟩))) (k + 1) := by
  have hlt : w.heap.size < wr.heap.size := by have := h.size; omega
  have hb : (wr.alloc (.cells #[.bool true, .slice none 0 0] 253)).heap[w.heap.size]? = _ := (Below.heap_alloc wr _ _ hlt).trans h.blk
  refine ⟨?_, ?_, fun j hj => ?_, (h.bel.alloc h.bel.size _).setCell (p := ⟨w.heap.size, k, none⟩) (Nat.le_refl _) _⟩
  · rw [heap_fset hb, fcells_congr (t := fun j => if j < k + 1 then ptrS (w.heap.size + 1 + j) else .pointer none)]
    intro j _
    unfold putF
    by_cases e : j = k
    · subst e
      rw [if_pos rfl, if_pos (by omega), ← h.size]
      rfl
    · rw [if_neg e]
      show (if j < k then _ else _) = _
      by_cases e2 : j < k
      · rw [if_pos e2, if_pos (by omega)]
      · rw [if_neg e2, if_neg (by omega)]
  · simp [h.size]; omega
  · rw [Below.heap_setCell _ _ _ _ (show w.heap.size + 1 + j ≠ w.heap.size by omega)]
    by_cases e : j = k
    · subst e
      rw [← h.size]
      exact heap_alloc_new wr _
    · rw [Below.heap_alloc wr _ _ (by rw [h.size]; omega)]
      exact h.set j (by omega)
theorem Fill.done {w wr : World} (h : Fill w wr 8) : ∃ F, Bk wr w.heap.size F (fun _ => []) ∧ ∀ k, F k → w.heap.size ≤ k := by
  refine ⟨_, ⟨fun j => w.heap.size + 1 + j, fun _ => .slice none 0 0, ⟨?_, fun i hi => ⟨h.set i hi, own2_nil _ _⟩, fun i j _ _ e => by omega, fun i j _ _ _ g hg => by simp [Value.ownBlock] at hg⟩, fun _ => Iff.rfl⟩, ?_⟩
  · rw [h.blk, fcells_congr (t := fun i => ptrS (w.heap.size + 1 + i))]
    intro i hi
    rw [if_pos hi]
  · rintro k (rfl | ⟨i, hi, rfl | hk⟩)
    · exact Nat.le_refl _
    · show w.heap.size ≤ w.heap.size + 1 + i
      omega
    · simp [Value.ownBlock] at hk

set_option maxRecDepth 20000 in
set_option maxHeartbeats 2000000 in
theorem bnew_any (w : World) :
    Calls Tryz.prog 35 #[] w fun e w' => e = .returned (ptrS w.heap.size) ∧ ∃ F, Bk w' w.heap.size F (fun _ => []) ∧ (∀ k, F k → w.heap.size ≤ k) ∧ Below w.heap.size w w' := by
  obtain ⟨W, fold⟩ : ∃ W, w.alloc (.cells #[.pointer none, .pointer none, .pointer none, .pointer none, .pointer none, .pointer none, .pointer none, .pointer none] 175) = W := ⟨_, rfl⟩
  have H0 : Fill w W 0 := by
    rw [← fold]
    exact ⟨heap_alloc_new w _, by simp, fun j hj => absurd hj (Nat.not_lt_zero _), (Below.refl _ _).alloc (Nat.le_refl _) _⟩
  go_enter Tryz.func35, Tryz.ntmps35
  go_wp2
  clear fold
  go_loopw [5] (fun u5 wr => ∃ k : Nat, u5 = .int .i64 k ∧ k ≤ 8 ∧ Fill w wr k) (fun u5 _ => 8 - (intOf u5).toNat)
  case atStart => exact ⟨0, rfl, by omega, H0⟩
  case round =>
    obtain ⟨k, rfl, hk, HF⟩ := hrel
    clear H0
    by_cases hlt2 : k < 8
    · have hlt : (k : Int) < 8 := by omega
      have hp : w.heap.size < wr.heap.size := by have := HF.size; omega
      have c0 : wr.cell? ⟨w.heap.size, k, none⟩ = some (.pointer none) := by rw [cell_of_list HF.blk, fcells_get _ hlt2, if_neg (by omega)]
      have f0 : wr.frozen? ⟨w.heap.size, k, none⟩ = false := by simp [World.frozen?, HF.blk]
      have HS : Hid (Fill w ((wr.drew.alloc (.cells #[.bool true, .slice none 0 0] 253)).setCell ⟨w.heap.size, k, none⟩ (.pointer (some ⟨wr.drew.heap.size, 0, none⟩))) (k + 1)) := HF.drew.step
      have hN := new_any wr.drew
      have HC : Hid (∀ w3, w3 = wr.drew.alloc (.cells #[.bool true, .slice none 0 0] 253) → w3.cell? ⟨w.heap.size, k, none⟩ = some (.pointer none) ∧ w3.frozen? ⟨w.heap.size, k, none⟩ = false) := fun w3 e => by
        subst e
        exact ⟨(World.cell?_of_block (a := ⟨w.heap.size, k, none⟩) (Below.heap_alloc wr.drew _ _ hp)).trans c0, (World.frozen?_of_block (a := ⟨w.heap.size, k, none⟩) (Below.heap_alloc wr.drew _ _ hp)).trans f0⟩
      clear HF hp
      go_wp2
      go_region_held3 (fun w' => w'.frozen? ⟨w.heap.size, k, none⟩ = false) (go_keep) (first
        | (go_at_call 90; refine hN.mono ?_; rintro e w3 ⟨rfl, _, hw3⟩; obtain ⟨k0, k1⟩ := HC.out w3 hw3; have HW : Hid _ := hw3; clear hw3))
      all_goals go_wp2
      all_goals refine ⟨⟨k + 1, by go_num, by omega, ?_⟩, by simp [intOf]; omega⟩
      all_goals (rw [HW.out]; exact HS.out)
    · obtain rfl : k = 8 := by omega
      go_wp2
      go_ret
      obtain ⟨F, h1, h2⟩ := HF.done
      exact ⟨rfl, F, h1, h2, HF.bel⟩
end Go.Proofs.YtjagaankkcbjmaaGreatDoor.S
