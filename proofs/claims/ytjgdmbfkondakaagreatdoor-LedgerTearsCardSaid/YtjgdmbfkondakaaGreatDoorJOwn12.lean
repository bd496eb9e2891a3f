/-
  A LEDGER of the call's own, by what it tells.
-/
import Derived.Test.YtjgdmbfkondakaaGreatDoorJViews
namespace Go.Proofs.YtjgdmbfkondakaaGreatDoor
open Go.RowKit

/-- A ledger of the call's own; G: its blocks. -/
structure Lv (w wr : World) (q p : Nat) (G : Nat → Prop) (l : Lg) (m : M) : Prop where
  ld : Ld wr q l p G m
  frm : ∀ k, G k → w.heap.size ≤ k
  bel : Below w.heap.size w wr
/-- A store of the call's own. -/
structure Sv (w wr : World) (p : Nat) (F : Nat → Prop) (m : M) : Prop where
  st : St wr p F m
  frm : ∀ k, F k → w.heap.size ≤ k
  bel : Below w.heap.size w wr
section
variable {w wr wr' : World} {q p : Nat} {G G' F F' : Nat → Prop} {l l' : Lg} {m m' : M}
theorem Lv.go (h : Lv w wr q p G l m) (b : Below wr.heap.size wr wr') : Lv w wr' q p G l m := ⟨h.ld.kept b, h.frm, keptW h.bel b⟩
theorem Lv.to (h : Lv w wr q p G l m) (s : Ld wr' q l' p G' m') (mv : Moved wr wr' G G') : Lv w wr' q p G' l' m' := ⟨s, mv.from h.frm h.bel.size, mv.below h.frm h.bel h.bel.size⟩
theorem Lv.six (h : Lv w wr q p G l m) (he : Env w) : ∀ k, G k → 6 ≤ k := fun k hk => by have := h.frm k hk; have := he.pos; omega
theorem Lv.env (h : Lv w wr q p G l m) (he : Env w) : Env wr := he.below h.bel
theorem Sv.go (h : Sv w wr p F m) (b : Below wr.heap.size wr wr') : Sv w wr' p F m := ⟨h.st.kept b, h.frm, keptW h.bel b⟩
theorem Sv.to (h : Sv w wr p F m) (s : St wr' p F' m') (mv : Moved wr wr' F F') : Sv w wr' p F' m' := ⟨s, mv.from h.frm h.bel.size, mv.below h.frm h.bel h.bel.size⟩
theorem Sv.six (h : Sv w wr p F m) (he : Env w) : ∀ k, F k → 6 ≤ k := fun k hk => by have := h.frm k hk; have := he.pos; omega
theorem Sv.env (h : Sv w wr p F m) (he : Env w) : Env wr := he.below h.bel
/-- The store of a ledger. -/
theorem Lv.store (h : Lv w wr q p G l m) : ∃ F, Sv w wr p F m ∧ (∀ k, F k → G k) ∧ ∀ wr' F' m', St wr' p F' m' → Moved wr wr' F F' → ∃ G', Lv w wr' q p G' l m' ∧ Moved wr wr' G G' ∧ ∀ k, F' k → G' k := by
  obtain ⟨V, F, h1, rfl⟩ := h.ld
  refine ⟨F, ⟨h1.st, fun k hk => h.frm k (.inr (.inr hk)), h.bel⟩, fun k hk => .inr (.inr hk), fun wr' F' m' s mv => ?_⟩
  obtain ⟨h2, mv2⟩ := h1.go s mv
  exact ⟨_, h.to h2.to mv2, mv2, fun k hk => .inr (.inr hk)⟩
end
section
variable {w wr : World} {q p : Nat} {G : Nat → Prop} {pl : Bool} {part : Int} {chk : List UInt8} {sure waits : List (List UInt8)} {R : Int} {N C : Nat} {l : Lg} {m : M} {first : Int} {fr : List (List (List UInt8))} {bk : List (List UInt8)}
theorem Tk.lastr (h : Tk pl part chk sure waits R N C l m first fr bk) (hC : C ≤ 900000) : 0 ≤ l.last ∧ l.last ≤ 999999999 := by
  have h1 := h.lg.p.hi
  have h2 := h.lg.p.v.lo
  have h3 := h.cnt
  rw [h.le]
  show 0 ≤ first + (fr.length : Int) ∧ first + (fr.length : Int) ≤ 999999999
  omega
theorem Lv.add (h : Lv w wr q p G l m) (t : Tk pl part chk sure waits R N C l m first fr bk) (he : Env w) (bv : Value) (bs : List UInt8) (hb : ∀ W G', Moved wr W G G' → Holds W bv bs) (hN : N ≤ 1000000) :
    Calls Tryz.prog 13 #[.pointer (some ⟨q, 0, none⟩), bv] wr fun e w' => ∃ r, e = .returned (.int .i64 r) ∧ ∃ G' l', Lv w w' q p G' l' m ∧ Moved wr w' G G' ∧ ((r = 0 ∧ bs.length ≤ 1048512 ∧ waits.length < 1000 ∧ Tk pl part chk sure (waits ++ [bs]) R (N + bs.length + 8) C l' m first fr bk) ∨ (r = 5 ∧ (1048512 < bs.length ∨ 1000 ≤ waits.length) ∧ l' = l)) := by
  obtain ⟨V, F, h1, rfl⟩ := h.ld
  have hre := t.refE bs.length
  have hwl : l.wait.length ≤ N := by rw [t.le]; have := t.need; show (catL waits).length ≤ N; omega
  refine (add_at h1 (h.env he) (h.six he) bv bs hb (by omega)).mono ?_
  rintro e w' ⟨rfl, V', F', h2, mv⟩
  refine ⟨_, rfl, _, _, h.to h2.to mv, mv, ?_⟩
  by_cases hc : 1048512 < bs.length ∨ 1000 ≤ waits.length
  · rw [if_pos hc] at hre
    rw [hre, if_neg (by decide)]
    exact .inr ⟨rfl, hc, t.checked⟩
  · rw [if_neg hc] at hre
    rw [hre, if_pos rfl]
    exact .inl ⟨rfl, by omega, by omega, t.add bs (by omega)⟩
theorem Lv.flush (h : Lv w wr q p G l m) (t : Tk pl part chk sure waits R N C l m first fr bk) (he : Env w) (hN : (N : Int) + 16 ≤ R) (hC : C ≤ 60000) :
    Calls Tryz.prog 14 #[.pointer (some ⟨q, 0, none⟩)] wr fun e w' => ∃ r, e = .returned (.int .i64 r) ∧ ∃ G' l' m', Lv w w' q p G' l' m' ∧ Moved wr w' G G' ∧ ((r = 0 ∧ ∃ fr' bk', Tk pl part chk (sure ++ waits) [] R (N + 16) (C + 5) l' m' first fr' bk') ∨ (pl = true ∧ r = 9 ∧ Dk chk sure waits none (N + 16) (C + 5) m' ∧ m'.Ok ∧ Short m')) := by
  obtain ⟨V, F, h1, rfl⟩ := h.ld
  have hc := t.cnt
  refine (flush_at h1 t.lg.p.ok (by omega) (h.env he) (h.six he) (t.lastr (by omega))).mono ?_
  rintro e w' ⟨rfl, V', F', h2, mv⟩
  refine ⟨_, rfl, _, _, _, h.to h2.to mv, mv, ?_⟩
  have ok' := flushL_ok (l := l) t.lg.p.ok
  have sh' := flush_short (l := l) t.lg.p.short
  rcases t.flush hN (by omega) with ⟨l', m', fr', bk', e, g⟩ | ⟨hp, l', m', e, g⟩
  · rw [e]
    exact .inl ⟨rfl, fr', bk', g⟩
  · rw [e] at ok' sh' ⊢
    exact .inr ⟨hp, rfl, g, ok', sh'⟩
theorem markL_ok {l : Lg} {m : M} (ok : m.Ok) (sh : Short m) (cs : List UInt8) : (markL l m cs).2.2.Ok ∧ Short (markL l m cs).2.2 := by
  have o1 := flushL_ok (l := l) ok
  have s1 := flush_short (l := l) sh
  unfold markL
  split
  · exact ⟨ok, sh⟩
  · split
    · exact ⟨o1, s1⟩
    · split
      · exact ⟨o1, s1⟩
      · generalize (flushL l m).2.2 = m1 at o1 s1
        generalize (flushL l m).2.1 = l1
        have H : ∀ (k : Nat) (l2 : Lg) (m2 : M), m2.Ok → Short m2 → (runL ((markS (l1.last + 1) cs).drop k) l2 m2).2.2.Ok ∧ Short (runL ((markS (l1.last + 1) cs).drop k) l2 m2).2.2 := by
          intro k
          generalize hd : (markS (l1.last + 1) cs).length - k = d
          induction d generalizing k with
          | zero =>
            intro l2 m2 o s
            rw [List.drop_eq_nil_of_le (by omega)]
            exact ⟨o, s⟩
          | succ d ih =>
            intro l2 m2 o s
            have hk : k < (markS (l1.last + 1) cs).length := by omega
            have hn := markP_next (l1.last + 1) cs m2.count 0 (by simp [markS]) l2 m2 ⟨o, s, fun _ => by omega⟩
            have hn2 : ((markS (l1.last + 1) cs)[k] l2 m2).2.2.Ok ∧ Short ((markS (l1.last + 1) cs)[k] l2 m2).2.2 := by
              have := markP_next (l1.last + 1) cs (m2.count + 7) k hk l2 m2 ⟨o, s, fun _ => by omega⟩
              exact ⟨this.1, this.2.1⟩
            by_cases hz : ((markS (l1.last + 1) cs)[k] l2 m2).1 = 0
            · rw [runL_go hk hz]
              exact ih (k + 1) (by omega) _ _ hn2.1 hn2.2
            · rw [runL_err hk hz]
              exact hn2
        exact H 0 l1 m1 o1 s1
theorem Lv.mark (h : Lv w wr q p G l m) (t : Tk pl part chk sure waits R N C l m first fr bk) (he : Env w) (cv : Value) (cs : List UInt8) (hb : ∀ W G', Moved wr W G G' → Holds W cv cs) (hN : (N : Int) + cs.length + 64 ≤ R) (hC : C ≤ 60000) :
    Calls Tryz.prog 15 #[.pointer (some ⟨q, 0, none⟩), cv] wr fun e w' => ∃ r, e = .returned (.int .i64 r) ∧ ∃ G' l' m', Lv w w' q p G' l' m' ∧ Moved wr w' G G' ∧ ((r = 0 ∧ cs.length ≤ 1048512 ∧ waits.length < 1000 ∧ ∃ n, Tk pl part cs [] [] R (N + cs.length + 64) (C + 14) l' m' n [] []) ∨ (pl = true ∧ r = 9 ∧ Dk chk sure waits (some cs) (N + cs.length + 64) (C + 14) m' ∧ m'.Ok ∧ Short m') ∨ (r = 5 ∧ (1048512 < cs.length ∨ 1000 ≤ waits.length) ∧ l' = l ∧ m' = m)) := by
  obtain ⟨V, F, h1, rfl⟩ := h.ld
  have hc := t.cnt
  refine (mark_at h1 t.lg.p.ok t.lg.p.short (by omega) (h.env he) (h.six he) (t.lastr (by omega)) cv cs hb).mono ?_
  rintro e w' ⟨rfl, V', F', h2, mv⟩
  refine ⟨_, rfl, _, _, _, h.to h2.to mv, mv, ?_⟩
  have ok' := markL_ok (l := l) t.lg.p.ok t.lg.p.short cs
  by_cases hx : 1048512 < cs.length ∨ 1000 ≤ waits.length
  · have hre := t.refE cs.length
    rw [if_pos hx] at hre
    have hm : markL l m cs = (5, l, m) := by
      unfold markL
      rw [hre, if_pos (by decide), t.checked]
    rw [hm]
    exact .inr (.inr ⟨rfl, hx, rfl, rfl⟩)
  · rcases t.mark cs (by omega) (by omega) hN (by omega) with ⟨l', m', n, e, g⟩ | ⟨hp, l', m', e, g⟩
    · rw [e]
      exact .inl ⟨rfl, by omega, by omega, n, g⟩
    · rw [e] at ok' ⊢
      exact .inr (.inl ⟨hp, rfl, g, ok'⟩)
theorem Lv.pending (h : Lv w wr q p G l m) (t : Tk pl part chk sure waits R N C l m first fr bk) : Calls Tryz.prog 27 #[.pointer (some ⟨q, 0, none⟩)] wr fun e w' => e = .returned (.int .i64 (waits.length : Int)) ∧ w' = wr := by
  obtain ⟨V, F, h1, rfl⟩ := h.ld
  have := pending_at h1
  rw [t.le] at this
  exact this
theorem Lv.parts (h : Lv w wr q p G l m) (t : Tk pl part chk sure waits R N C l m first [] bk) (he : Env w) (hC : C ≤ 60000) : Calls Tryz.prog 23 #[.pointer (some ⟨q, 0, none⟩)] wr fun e w' => ∃ a c, e = .returned (.slice a 1 c) ∧ Below wr.heap.size wr w' := by
  obtain ⟨V, F, h1, rfl⟩ := h.ld
  have hc := t.cnt
  have hhi := t.lg.p.hi
  have hlo := t.lg.p.v.lo
  have hnums : numsM m = [first] := by
    refine sorted_ext (nums_ord t.lg.p.ok) (List.pairwise_singleton _ _) fun i => ?_
    rw [nums_mem t.lg.p.ok t.lit, List.mem_singleton]
    constructor
    · rintro ⟨⟨g1, g2⟩, g3⟩
      refine Decidable.byContradiction fun hn => ?_
      by_cases hlt : i < first
      · rw [t.lg.p.v.low rfl i g1 hlt] at g3; cases g3
      · rw [t.lg.p.v.pn i (by simp; omega) g2] at g3; cases g3
    · rintro rfl
      refine ⟨⟨hlo, by simp at hhi; omega⟩, ?_⟩
      have := t.lg.p.v.pb
      simp only [List.length_nil] at this
      have e : i + ((0 : Nat) : Int) = i := by omega
      rw [e] at this
      rw [this]; rfl
  refine (parts_at h1 t.lg.p.ok (by omega) (h.env he) t.lg.p.short.names).mono ?_
  rintro e w' ⟨v, rfl, r, b⟩
  rw [hnums] at r
  obtain ⟨a, c, rfl⟩ := r.slice
  exact ⟨a, c, rfl, b⟩
/-- Open of a new store. -/
theorem Sv.new (h : Sv w wr p G (M.new R)) (he : Env w) (h0 : 16 ≤ R) (h1 : R ≤ 1073741824) (part : Int) (hp : 1 ≤ part ∧ part ≤ 1048576) :
    Calls Tryz.prog 11 #[.pointer (some ⟨p, 0, none⟩), .int .i64 part] wr fun e w' => ∃ q cv rv, e = .returned (.tuple #[.pointer (some ⟨q, 0, none⟩), cv, rv, .int .i64 0]) ∧ ∃ G' l m, Lv w w' q p G' l m ∧ Moved wr w' G G' ∧ Tk false part [] [] [] R 16 2 l m 1 [] [] := by
  obtain ⟨l, m, e0, t⟩ := Tk.new R h0 h1 part hp
  have hcap : Light (M.new R) := fun i => by rw [M.fl_out (by simp [M.new])]; simp [zeroFl]
  refine (open_at h.st (M.new_ok (by omega) h1) ⟨by simp [M.new], by simp [M.new]⟩ hcap (by simp [M.new]) (h.env he) (h.six he) part).mono ?_
  rintro e w' ho
  rw [e0] at ho
  rcases ho with ⟨hz, _⟩ | ⟨_, q, V', F', cv, rv, base, rfl, g1, g2, _⟩
  · exact absurd rfl hz
  · exact ⟨q, cv, rv, rfl, _, l, m, ⟨g1.to, g2.from h.frm h.bel.size, g2.below h.frm h.bel h.bel.size⟩, g2, t⟩
end
end Go.Proofs.YtjgdmbfkondakaaGreatDoor
