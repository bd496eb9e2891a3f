/-
  THE DOCUMENT's Add, by its contract.
-/
import Derived.Test.YtooaiomghbjpiaaRFnd17
namespace Go.Proofs.Ytooaiomghbjpiaa
open Go.RowKit Go.Maps Go.Sort Go.Shelf
set_option maxRecDepth 20000

theorem heap_set0 {w : World} {p : Nat} {a : Value} {t : TypeId} (h : w.heap[p]? = some (.cells #[a] t (0, 0))) (v : Value) : (w.setCell ⟨p, 0, none⟩ v).heap[p]? = some (.cells #[v] t (0, 0)) := by
  simp [World.setCell, Array.getElem?_modify, h]
theorem oneInfo : ∃ i, Try.prog.info? 44 = some i ∧ i.zero = some (.agg #[.int .i64 0, .string ⟨#[]⟩, .int .i64 0, .slice none 0 0]) ∧ i.size = 4 ∧ i.bytes = 56 := by
  have h : (Try.prog.info? 44).map (fun i => (i.zero, i.size, i.bytes)) = some (some (.agg #[.int .i64 0, .string ⟨#[]⟩, .int .i64 0, .slice none 0 0]), 4, 56) := by kernel_rfl
  cases hi : Try.prog.info? 44 with
  | none => rw [hi] at h; cases h
  | some i => rw [hi] at h; injection h with h; injection h with h1 h2; injection h2 with h2 h3; exact ⟨i, rfl, h1, h2, h3⟩
/-- A line of the call's own comes in the elder one's place. -/
theorem RdAt.newRow {w w1 : World} {p : Nat} {v v' : Value} {X X' : List Ro} (h : RdAt w p v X) (hb : Below w.heap.size w w1) (own : K.OwnOf roc 4 44 w1 w.heap.size v' X') (tags : ∀ x ∈ X', Own1 w1 0 31 x.tv (ucells x.s.t) ∧ ∀ k, x.tv.ownBlock = some k → footR p v X k ∨ w.heap.size ≤ k) (q : Nat) :
    ∃ F', Rd ((w1.setCell ⟨p, 0, none⟩ v').drewN q) p F' (X'.map Ro.s) ∧ Moved w ((w1.setCell ⟨p, 0, none⟩ v').drewN q) (footR p v X) F' := by
  have hp : p < w.heap.size := h.lts p (.inl rfl)
  have ho : ∀ k, k ≠ p → ((w1.setCell ⟨p, 0, none⟩ v').drewN q).heap[k]? = w1.heap[k]? := fun k hk => Below.heap_setCell _ _ _ _ hk
  have hp1 := (hb.block p hp).trans h.blk
  have hnt : ∀ x ∈ X', ∀ k, x.tv.ownBlock = some k → k ≠ p := fun x hx k hk e => by
    obtain ⟨_, cur, hc⟩ := own1_blk (tags x hx).1 hk
    rw [e, hp1] at hc
    simp at hc
  refine ⟨footR p v' X', ⟨v', X', ⟨?_, ownK_same (own.mono (Nat.zero_le _)) fun g hg => ho g (by have := (own.lt hg).1; omega), fun x hx => own1_same (tags x hx).1 fun g hg => ho g (hnt x hx g hg)⟩, rfl, rfl⟩, ?_⟩
  · exact heap_set0 hp1 v'
  · refine ⟨hb.os, hb.tape, hb.output, by simpa using hb.size, fun k hk hn => (ho k (fun e => hn (.inl e))).trans (hb.block k hk), ?_⟩
    rintro k (rfl | hk | ⟨x, hx, hk⟩)
    · exact .inl (.inl rfl)
    · exact .inr (own.lt hk).1
    · exact (tags x hx).2 k hk
theorem app_new {w1 w2 : World} {v2 : Value} {X : List Ro} (own2 : K.OwnOf roc 4 44 w2 w1.heap.size v2 ([] ++ X)) (gr2 : (w1.alloc (.cells #[] 44)).grownBy w2 (Value.slice (some ⟨w1.heap.size, 0, none⟩) 0 0).ownBlock) : (∃ a c, v2 = .slice a X.length c) ∧ Hid (K.OwnOf roc 4 44 w2 w1.heap.size v2 X ∧ Below w1.heap.size w1 w2) := by
  rw [List.nil_append] at own2
  obtain ⟨ua, uc, hv2⟩ := K.RowOf.slice (K.OwnOf.rng own2)
  exact ⟨⟨ua, uc, hv2⟩, own2, K.OwnOf.below (K.ownOf_empty (enc := roc) (K := 4) (T := 44) w1 w1.heap.size (Nat.le_refl _)) gr2 ((Below.refl _ _).alloc (Nat.le_refl _) _) (by simp) (Nat.le_refl _)⟩
theorem app_more {w1 w2 w3 : World} {v2 v3 : Value} {X Y : List Ro} {o : Obj} (H2 : Hid (K.OwnOf roc 4 44 w2 w1.heap.size v2 X ∧ Below w1.heap.size w1 w2)) (own3 : K.OwnOf roc 4 44 w3 w1.heap.size v3 (X ++ Y)) (gr3 : (w2.alloc o).grownBy w3 v2.ownBlock) : (∃ a n c, v3 = .slice a n c) ∧ Hid (K.OwnOf roc 4 44 w3 w1.heap.size v3 (X ++ Y) ∧ Below w1.heap.size w1 w3) :=
  ⟨by obtain ⟨a, c, h⟩ := K.RowOf.slice (K.OwnOf.rng own3); exact ⟨a, _, c, h⟩, own3, K.OwnOf.below (H2.out.1.alloc _) gr3 (H2.out.2.alloc H2.out.2.size _) (by have := H2.out.2.size; simp; omega) (Nat.le_refl _)⟩
def newOne (c : Int) (q : ByteArray) (m : Int) : Ro := ⟨⟨c, q, m, []⟩, none, 0⟩
set_option maxHeartbeats 4000000 in
theorem radd_any (p : Nat) (F : Nat → Prop) (L : List Se) (c : Int) (q : ByteArray) (m : Int) (w : World) (h : Rd w p F L) (ok : LOk L) (hq : q.size ≤ maxLen) :
    Calls Try.prog 24 #[.pointer (some ⟨p, 0, none⟩), .int .i64 c, .string q, .int .i64 m] w fun e w' => e = .returned (.int .i64 (addE L c q m)) ∧ ∃ F', Rd w' p F' (addL L c q m) ∧ Moved w w' F F' := by
  have hN := rname_any q w hq
  have HBad : Hid (mayS c q m = false → addE L c q m = 2 ∧ ∃ F', Rd w p F' (addL L c q m) ∧ Moved w w F F') := fun hm => by
    have e1 : addE L c q m = 2 := by unfold addE; rw [hm]; rfl
    have e2 : addL L c q m = L := by unfold addL; rw [if_neg (by rw [e1]; decide)]
    rw [e2]
    exact ⟨e1, F, h, Moved.refl _ _⟩
  by_cases a1 : c < 1
  · obtain ⟨e1, e2⟩ := HBad.out (by unfold mayS; simp; omega)
    have HE : Hid _ := e2
    rw [e1]
    clear h ok HBad e1 e2 hN
    go_enter Try.func24, Try.ntmps24
    go_wp2
    go_ret
    exact ⟨rfl, HE.out⟩
  by_cases a2 : 1000 < c
  · obtain ⟨e1, e2⟩ := HBad.out (by unfold mayS; simp; omega)
    have HE : Hid _ := e2
    rw [e1]
    clear h ok HBad e1 e2 hN
    go_enter Try.func24, Try.ntmps24
    go_wp2
    go_ret
    exact ⟨rfl, HE.out⟩
  cases a3 : nameB (txt q) with
  | false =>
    obtain ⟨e1, e2⟩ := HBad.out (by unfold mayS; rw [show q.data.toList = txt q from rfl, a3]; simp)
    have HE : Hid _ := e2
    rw [e1]
    rw [a3] at hN
    clear h ok HBad e1 e2 a3
    go_enter Try.func24, Try.ntmps24
    go_wp2_with (go_at_call 44; refine hN.mono ?_; rintro e w ⟨rfl, rfl⟩)
    go_ret
    exact ⟨rfl, HE.out⟩
  | true =>
  rw [a3] at hN
  by_cases a4 : m < 1
  · obtain ⟨e1, e2⟩ := HBad.out (by unfold mayS; simp; omega)
    have HE : Hid _ := e2
    rw [e1]
    clear h ok HBad e1 e2 a3
    go_enter Try.func24, Try.ntmps24
    go_wp2_with (go_at_call 44; refine hN.mono ?_; rintro e w ⟨rfl, rfl⟩)
    go_ret
    exact ⟨rfl, HE.out⟩
  by_cases a5 : 100 < m
  · obtain ⟨e1, e2⟩ := HBad.out (by unfold mayS; simp; omega)
    have HE : Hid _ := e2
    rw [e1]
    clear h ok HBad e1 e2 a3
    go_enter Try.func24, Try.ntmps24
    go_wp2_with (go_at_call 44; refine hN.mono ?_; rintro e w ⟨rfl, rfl⟩)
    go_ret
    exact ⟨rfl, HE.out⟩
  have hmay : mayS c q m = true := by unfold mayS; rw [show q.data.toList = txt q from rfl, a3]; simp; omega
  obtain ⟨v, X, hd, rfl, rfl⟩ := h
  have hF := rfind_at hd c
  have hr := hd.row.rng
  obtain ⟨va, vc, rfl⟩ := hr.slice
  have hfs := findR_s X c
  clear HBad
  rcases pos_cases X c with ⟨h1, h2⟩ | ⟨k, hk, h1, h2, h3, h4⟩
  · rw [h1] at hF
    rw [h2] at hfs
    by_cases hlen : 32 ≤ X.length
    · have e1 : addE (X.map Ro.s) c q m = 5 := by unfold addE; rw [hmay, ← hfs]; simp [hlen]
      have e2 : addL (X.map Ro.s) c q m = X.map Ro.s := by unfold addL; rw [if_neg (by rw [e1]; decide)]
      have HE : Hid (∀ w1, Below w.heap.size w w1 → w1.cell? ⟨p, 0, none⟩ = some (.slice va X.length vc) ∧ ∃ F', Rd w1 p F' (X.map Ro.s) ∧ Moved w w1 (footR p (.slice va X.length vc) X) F') := fun w1 b => ⟨(hd.kept b).cell.1, _, ⟨_, X, hd.kept b, rfl, rfl⟩, Moved.of_below b⟩
      have hl32 : (32 : Int) ≤ (X.length : Int) := by omega
      rw [e1, e2]
      clear hd hr hfs e1 e2 hmay a3 h1 h2 ok
      generalize X.map Ro.s = LL at *
      go_enter Try.func24, Try.ntmps24
      go_wp2_with (first | (go_at_call 44; refine hN.mono ?_; rintro e w ⟨rfl, rfl⟩) | (go_at_call 35; refine hF.mono ?_; rintro e w1 ⟨rfl, b1⟩; obtain ⟨k0, HE'⟩ := HE.out w1 b1; have HG : Hid _ := HE'; clear b1 HE'))
      go_ret
      exact ⟨rfl, HG.out⟩
    · have e1 : addE (X.map Ro.s) c q m = 0 := by unfold addE; rw [hmay, ← hfs]; simp [hlen]
      have e2 : addL (X.map Ro.s) c q m = (X ++ [newOne c q m]).map Ro.s := by unfold addL; rw [if_pos e1]; simp [newOne]
      have HE : Hid (∀ w1, Below w.heap.size w w1 → w1.cell? ⟨p, 0, none⟩ = some (.slice va X.length vc) ∧ w.heap.size ≤ w1.heap.size ∧ p < w1.heap.size ∧ w1.frozen? ⟨p, 0, none⟩ = false ∧ (∀ o, K.RowOf roc (w1.alloc o) (.slice va X.length vc) X)) := fun w1 b => ⟨(hd.kept b).cell.1, b.size, (hd.kept b).lts p (.inl rfl), (hd.kept b).cell.2, fun o => hr.below (b.trans ((Below.refl _ _).alloc b.size o)) (Nat.le_refl _)⟩
      have HF : Hid (∀ w1 w2 v', Below w.heap.size w w1 → Below w1.heap.size w1 w2 → K.OwnOf roc 4 44 w2 w1.heap.size v' (X ++ [newOne c q m]) → ∃ F', Rd (w2.setCell ⟨p, 0, none⟩ v') p F' (addL (X.map Ro.s) c q m) ∧ Moved w (w2.setCell ⟨p, 0, none⟩ v') (footR p (.slice va X.length vc) X) F') := fun w1 w2 v' b1 b2 own => by
        obtain ⟨F', h3, h4⟩ := (hd.kept b1).newRow b2 own (fun x hx => by
          rcases List.mem_append.1 hx with hx | hx
          · exact ⟨((hd.kept b1).kept b2).tags x hx, fun k hk => .inl (.inr (.inr ⟨x, hx, hk⟩))⟩
          · rw [List.mem_singleton.1 hx]
            exact ⟨own1_nil _ _ _, fun k hk => by simp [Ro.tv, newOne, Value.ownBlock] at hk⟩) 0
        rw [e2]
        exact ⟨F', h3, (Moved.of_below b1).trans h4⟩
      have hl32 : ¬ (32 : Int) ≤ (X.length : Int) := by omega
      have hl31 : X.length ≤ 31 := by omega
      obtain ⟨i0, hi0, hz0, hzs, hzb⟩ := oneInfo
      rw [e1]
      clear hd hr hfs e1 e2 hmay a3 h1 h2 ok hlen
      generalize addL (X.map Ro.s) c q m = LL at *
      go_enter Try.func24, Try.ntmps24
      go_wp2_with (first
        | (go_at_call 44; refine hN.mono ?_; rintro e w ⟨rfl, rfl⟩)
        | (go_at_call 35; refine hF.mono ?_; rintro e w1 ⟨rfl, b1⟩; obtain ⟨k0, k1, k2, k3, k4⟩ := HE.out w1 b1; have HG : Hid _ := HF.out w1; have HB : Hid (Below w.heap.size w w1) := b1; have HR : Hid (∀ o, K.RowOf roc (w1.alloc o) (.slice va X.length vc) X) := k4; clear b1 k4)
        | (at_builtin; refine K.wpList_append_rows (enc := roc) rfl _ _ 26 rfl Try.underlying26 i0 _ 56 hi0 hz0 hzs hzb rfl w1.heap.size (.slice (some ⟨w1.heap.size, 0, none⟩) 0 0) (.slice va X.length vc) [] X rfl rfl (K.ownOf_empty w1 _ (Nat.le_refl _)) (HR.out _) (by unfold maxLen; simp; omega) (by simp; omega) (by simp) ?_; intro v2 w2 own2 gr2 nw2; obtain ⟨⟨ua, uc, hv2⟩, H2⟩ := app_new own2 gr2; subst hv2; clear own2 gr2 nw2)
        | (at_builtin; refine K.wpList_append_rows (enc := roc) rfl _ _ 26 rfl Try.underlying26 i0 _ 56 hi0 hz0 hzs hzb rfl w1.heap.size (.slice ua X.length uc) (.slice (some ⟨w2.heap.size, 0, none⟩) 1 1) X [newOne c q m] rfl rfl (H2.out.1.alloc _) ?_ ?_ ?_ ?_ ?_; (exact K.row_one (enc := roc) (T := 44) w2 (newOne c q m) _ rfl); (unfold maxLen; simp; omega); (simp; omega); (have := H2.out.2.size; simp; omega); intro v3 w3 own3 gr3 nw3; obtain ⟨⟨wa, wn, wc, hv3⟩, H3⟩ := app_more H2 own3 gr3; subst hv3; have c3 := cell_on H3.out.2 k0; have f3 : w3.frozen? ⟨p, 0, none⟩ = false := (by rw [H3.out.2.frozen (p := ⟨p, 0, none⟩) k2]; exact k3); clear own3 gr3 nw3))
      go_ret
      exact ⟨rfl, HG.out w3 _ HB.out H3.out.2 H3.out.1⟩
  · have e1 : addE (X.map Ro.s) c q m = 4 := by unfold addE; rw [hmay, ← hfs, h2]; rfl
    have e2 : addL (X.map Ro.s) c q m = X.map Ro.s := by unfold addL; rw [if_neg (by rw [e1]; decide)]
    have HE : Hid (∀ w1, Below w.heap.size w w1 → ∃ F', Rd w1 p F' (X.map Ro.s) ∧ Moved w w1 (footR p (.slice va X.length vc) X) F') := fun w1 b => ⟨_, ⟨_, X, hd.kept b, rfl, rfl⟩, Moved.of_below b⟩
    rw [h1] at hF
    rw [e1, e2]
    clear hd hr hfs e1 e2 hmay a3 h1 h2 h3 h4 ok
    go_enter Try.func24, Try.ntmps24
    go_wp2_with (first | (go_at_call 44; refine hN.mono ?_; rintro e w ⟨rfl, rfl⟩) | (go_at_call 35; refine hF.mono ?_; rintro e w1 ⟨rfl, b1⟩; have HG : Hid _ := HE.out w1 b1; clear b1))
    go_ret
    exact ⟨rfl, HG.out⟩
end Go.Proofs.Ytooaiomghbjpiaa
