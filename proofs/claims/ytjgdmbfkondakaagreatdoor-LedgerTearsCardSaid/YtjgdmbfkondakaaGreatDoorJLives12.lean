/-
  WHAT A LEDGER of the call's own does while nothing fails; the laws' lives, by its contract.
-/
import Derived.Test.YtjgdmbfkondakaaGreatDoorJOwn12
import Derived.Lib.SlBytesConst
namespace Go.Proofs.YtjgdmbfkondakaaGreatDoor
open Go.RowKit

section
variable {w wr : World} {q p : Nat} {G : Nat → Prop} {part : Int} {chk : List UInt8} {sure waits : List (List UInt8)} {R : Int} {N C : Nat} {l : Lg} {m : M} {first : Int} {fr : List (List (List UInt8))} {bk : List (List UInt8)}
theorem Lv.add0 (h : Lv w wr q p G l m) (t : Tk false part chk sure waits R N C l m first fr bk) (he : Env w) (bv : Value) (bs : List UInt8) (hb : ∀ W G', Moved wr W G G' → Holds W bv bs) (hN : N ≤ 1000000) (h1 : bs.length ≤ 1048512) (h2 : waits.length < 1000) :
    Calls Tryz.prog 13 #[.pointer (some ⟨q, 0, none⟩), bv] wr fun e w' => e = .returned (.int .i64 0) ∧ ∃ G' l', Lv w w' q p G' l' m ∧ Moved wr w' G G' ∧ Tk false part chk sure (waits ++ [bs]) R (N + bs.length + 8) C l' m first fr bk := by
  refine (h.add t he bv bs hb hN).mono ?_
  rintro e w' ⟨r, rfl, G', l', h3, h4, ⟨rfl, _, _, h5⟩ | ⟨rfl, h5, _⟩⟩
  · exact ⟨rfl, G', l', h3, h4, h5⟩
  · omega
theorem Lv.flush0 (h : Lv w wr q p G l m) (t : Tk false part chk sure waits R N C l m first fr bk) (he : Env w) (hN : (N : Int) + 16 ≤ R) (hC : C ≤ 60000) :
    Calls Tryz.prog 14 #[.pointer (some ⟨q, 0, none⟩)] wr fun e w' => e = .returned (.int .i64 0) ∧ ∃ G' l' m' fr' bk', Lv w w' q p G' l' m' ∧ Moved wr w' G G' ∧ Tk false part chk (sure ++ waits) [] R (N + 16) (C + 5) l' m' first fr' bk' := by
  refine (h.flush t he hN hC).mono ?_
  rintro e w' ⟨r, rfl, G', l', m', h3, h4, ⟨rfl, fr', bk', h5⟩ | ⟨h5, _⟩⟩
  · exact ⟨rfl, G', l', m', fr', bk', h3, h4, h5⟩
  · cases h5
theorem Lv.mark0 (h : Lv w wr q p G l m) (t : Tk false part chk sure waits R N C l m first fr bk) (he : Env w) (cv : Value) (cs : List UInt8) (hb : ∀ W G', Moved wr W G G' → Holds W cv cs) (hN : (N : Int) + cs.length + 64 ≤ R) (hC : C ≤ 60000) (h1 : cs.length ≤ 1048512) (h2 : waits.length < 1000) :
    Calls Tryz.prog 15 #[.pointer (some ⟨q, 0, none⟩), cv] wr fun e w' => e = .returned (.int .i64 0) ∧ ∃ G' l' m' n, Lv w w' q p G' l' m' ∧ Moved wr w' G G' ∧ Tk false part cs [] [] R (N + cs.length + 64) (C + 14) l' m' n [] [] := by
  refine (h.mark t he cv cs hb hN hC).mono ?_
  rintro e w' ⟨r, rfl, G', l', m', h3, h4, ⟨rfl, _, _, n, h5⟩ | ⟨h5, _⟩ | ⟨_, h5, _⟩⟩
  · exact ⟨rfl, G', l', m', n, h3, h4, h5⟩
  · cases h5
  · omega
theorem Lv.open (h : Lv w wr q p G l m) (t : Tk false part chk sure waits R N C l m first fr bk) (he : Env w) (hN : N ≤ 1000000) (hC : C ≤ 60000) (part' : Int) (hp : 1 ≤ part' ∧ part' ≤ 1048576) :
    Calls Tryz.prog 11 #[.pointer (some ⟨p, 0, none⟩), .int .i64 part'] wr fun e w' => ∃ q' cv rv base, e = .returned (.tuple #[.pointer (some ⟨q', 0, none⟩), cv, rv, .int .i64 0]) ∧ (∃ G' m', Lv w w' q p G' l m' ∧ Moved wr w' G G' ∧ Tk false part chk sure waits R N (C + 2) l m' first fr bk) ∧ Holds w' cv chk ∧ Behind wr.heap.size cv ∧ Recs w' base rv sure ∧ wr.heap.size ≤ base := by
  obtain ⟨F, s, hsub, hgo⟩ := h.store
  have hc := t.cnt
  obtain ⟨l', m', e0, t1, _⟩ := t.open (by omega) part' hp
  refine (open_at s.st t.lg.p.ok t.lg.p.short (t.light hN) (by omega) (s.env he) (s.six he) part').mono ?_
  rintro e w' ho
  rw [e0] at ho
  rcases ho with ⟨hz, _⟩ | ⟨_, q', V', F', cv, rv, base, rfl, g1, g2, g3, g4, g5, g6, _⟩
  · exact absurd rfl hz
  · obtain ⟨G', h3, h4, _⟩ := hgo w' F' m' g1.st (moved_in g2)
    exact ⟨q', cv, rv, base, rfl, ⟨G', m', h3, h4, t1⟩, g3, g4, g5, g6⟩
theorem Lv.one (h : Lv w wr q p G l m) (b : UInt8) (x : Int) (f : Nat × Nat) (hx : x = (b.toNat : Int)) : Lv w (wr.alloc (.cells #[.int .u8 x] 5 f)) q p G l m ∧ ∀ W G', Moved (wr.alloc (.cells #[.int .u8 x] 5 f)) W G G' → Holds W (.slice (some ⟨wr.heap.size, 0, none⟩) 1 1) [b] := by
  subst hx
  have hh : Holds (wr.alloc (.cells #[.int .u8 (b.toNat : Int)] 5 f)) (.slice (some ⟨wr.heap.size, 0, none⟩) 1 1) [b] := by
    refine .inr ⟨⟨wr.heap.size, 0, none⟩, 1, rfl, Nat.le_refl _, by unfold maxLen; omega, fun j u hj => ?_⟩
    rw [Addr.add_lit, Nat.zero_add, World.cell?_alloc_mark]
    simpa [bcells] using hj
  refine ⟨h.go ((Below.refl _ _).alloc (Nat.le_refl _) _), fun W G' mv => holds_kept hh mv fun ad n c e => ?_⟩
  injection e with e
  injection e with e
  subst e
  intro hG
  have : wr.heap.size < wr.heap.size := h.ld.lts _ hG
  omega
end
set_option maxRecDepth 20000 in
set_option maxHeartbeats 4000000 in
theorem livesL_any (w : World) (he : Env w) : Calls Tryz.prog 9 #[] w fun e w' => e = .returned (.bool true) ∧ Below w.heap.size w w' := by
  have HX : Hid (∀ (V : World) (v : Value) (b : UInt8), Holds V v [b] → (convert 31 9 v).run Tryz.prog V = .ok (.string ⟨#[b]⟩) V) := fun V v b hv => by
    have := run_string_of hv 31 9 5 Tryz.underlying31 Tryz.underlying5 Tryz.underlying9
    exact this
  have kc := fun (w : World) (C : Array Value) (n c : Nat) => Lib.run_convert_bytes_const (P := Tryz.prog) w 31 5 C n c Tryz.underlying31 Tryz.underlying5
  have hN := new_any 10000 w (by decide) (by decide)
  go_enter Tryz.func9, Tryz.ntmps9
  go_wp2_with fail
  refine hN.mono ?_
  rintro e w0 ⟨p, rfl, F0, s0, f0, b0⟩
  have H0 : Sv w w0 p F0 (M.new 10000) := ⟨s0, f0, b0⟩
  clear hN s0 f0 b0
  have hO := H0.new he (by decide) (by decide) 100 (by decide)
  go_wp2_with fail
  refine hO.mono ?_
  rintro e w1 ⟨q, cv, rv, rfl, G1, l1, m1, H1, -, T1⟩
  clear hO H0
  obtain ⟨H1, hb1⟩ := H1.one 97 97 (1, 1 + 1) rfl
  have hA := H1.add0 T1 he _ _ hb1 (by decide) (by decide) (by decide)
  clear H1 hb1
  go_wp2_with fail
  refine hA.mono ?_
  rintro e w2 ⟨rfl, G2, l2, H2, -, T2⟩
  clear hA
  obtain ⟨H2, hb2⟩ := H2.one 98 98 (1, 1 + 1) rfl
  have hA := H2.add0 T2 he _ _ hb2 (by decide) (by decide) (by decide)
  clear H2 hb2 T1
  go_wp2_with fail
  refine hA.mono ?_
  rintro e w3 ⟨rfl, G3, l3, H3, -, T3⟩
  clear hA T2
  have hP := H3.pending T3
  go_wp2_with fail
  refine hP.mono ?_
  rintro e w3' ⟨rfl, rfl⟩
  clear hP
  have hF := H3.flush0 T3 he (by decide) (by decide)
  clear H3 T3
  go_wp2_with fail
  refine hF.mono ?_
  rintro e w4 ⟨rfl, G4, l4, m4, fr4, bk4, H4, -, T4⟩
  clear hF
  obtain ⟨H4, hb4⟩ := H4.one 99 99 (1, 1 + 1) rfl
  have hK := H4.mark0 T4 he _ _ hb4 (by decide) (by decide) (by decide) (by decide)
  clear H4 hb4 T4
  go_wp2_with fail
  refine hK.mono ?_
  rintro e w5 ⟨rfl, G5, l5, m5, n5, H5, -, T5⟩
  clear hK
  obtain ⟨H5, hb5⟩ := H5.one 100 100 (1, 1 + 1) rfl
  have hA := H5.add0 T5 he _ _ hb5 (by decide) (by decide) (by decide)
  clear H5 hb5 T5
  go_wp2_with fail
  refine hA.mono ?_
  rintro e w6 ⟨rfl, G6, l6, H6, -, T6⟩
  clear hA
  have hF := H6.flush0 T6 he (by decide) (by decide)
  clear H6 T6
  go_wp2_with fail
  refine hF.mono ?_
  rintro e w7 ⟨rfl, G7, l7, m7, fr7, bk7, H7, -, T7⟩
  clear hF
  have hO := H7.open T7 he (by decide) (by decide) 100 (by decide)
  clear H7 T7
  go_wp2_with fail
  refine hO.mono ?_
  rintro e w8 ⟨q8, cv8, rv8, base8, rfl, ⟨G8, m8, H8, -, T8⟩, hc8, -, hr8, -⟩
  clear hO
  have hr8 : Recs w8 base8 rv8 [[100]] := hr8
  obtain ⟨rb, ro, rc, rfl, _, _, hq⟩ := hr8.rw.at (by decide)
  obtain ⟨ea, ec, g0, g1⟩ := hq 0 (by decide)
  have g0 : w8.cell? ⟨rb, ro, none⟩ = some (.slice ea 1 ec) := g0
  have hcv := HX.out w8 _ _ hc8
  have hev := HX.out w8 _ _ g1
  have hev : (convert 31 9 (.slice ea 1 ec)).run Tryz.prog w8 = .ok (.string ⟨#[100]⟩) w8 := hev
  obtain ⟨ca, cc, rfl⟩ := hc8.slice
  have hcv : (convert 31 9 (.slice ca 1 cc)).run Tryz.prog w8 = .ok (.string ⟨#[99]⟩) w8 := hcv
  have hNm := name_any 12 (by decide) (by decide) w8 (he.below H8.bel)
  have hnm : nameB 12 = ⟨#[108, 111, 103, 46, 49, 50]⟩ := by kernel_rfl
  rw [hnm] at hNm
  have HB8 : Hid (Below w.heap.size w w8) := H8.bel
  clear H8 T8 hr8 hq g1 hc8 he
  go_wp2_with (go_at_call 21; refine hNm.mono ?_; rintro e w9 ⟨rfl, b9⟩)
  go_ret
  exact ⟨rfl, keptW HB8.out b9⟩
end Go.Proofs.YtjgdmbfkondakaaGreatDoor

/-
  ACTS in memory; the laws' light, by its contract.
-/
namespace Go.Proofs.YtjgdmbfkondakaaGreatDoor
open Go.RowKit

theorem Tk.mono {pl : Bool} {part : Int} {chk : List UInt8} {sure waits : List (List UInt8)} {R : Int} {N C N' C' : Nat} {l : Lg} {m : M} {first : Int} {fr : List (List (List UInt8))} {bk : List (List UInt8)} (h : Tk pl part chk sure waits R N C l m first fr bk) (h1 : N ≤ N') (h2 : C ≤ C') : Tk pl part chk sure waits R N' C' l m first fr bk := by
  obtain ⟨K, k1, k2⟩ := h.cap
  have := h.need
  have := h.cnt
  exact ⟨h.lg, h.eq, h.le, h.lit, h.nl, h.room, by omega, ⟨K, k1, by omega⟩, by omega, h.sw⟩
/-- A ledger of the call's own, and all that it tells. -/
def St12 (w wr : World) (q p : Nat) (part : Int) (chk : List UInt8) (sure waits : List (List UInt8)) (R : Int) (N C : Nat) : Prop := ∃ G l m first fr bk, Lv w wr q p G l m ∧ Tk false part chk sure waits R N C l m first fr bk
theorem Lv.hold {w wr : World} {q p : Nat} {G : Nat → Prop} {l : Lg} {m : M} (h : Lv w wr q p G l m) {bv : Value} {bs : List UInt8} (hb : Holds w bv bs) : ∀ W G', Moved wr W G G' → Holds W bv bs := fun _ _ mv => hb.below (mv.below h.frm h.bel h.bel.size) (Nat.le_refl _)
/-- An act, as it lies in memory. -/
structure Ac where
  kind : Int
  da : Option Addr
  dl : Nat
  dc : Nat
  name : ByteArray
  n : Int
  m : Int
def acells (x : Ac) : List Value := [.int .i64 x.kind, .slice x.da x.dl x.dc, .string x.name, .int .i64 x.n, .int .i64 x.m]
instance : K.Enc acells 5 where
  len _ := rfl
  one r u hu := by
    simp only [acells, List.mem_cons, List.not_mem_nil, or_false] at hu
    rcases hu with rfl | rfl | rfl | rfl | rfl <;> rfl
  pos := by decide
/-- What is known of an act that came in. -/
structure Ac.Fits (W : World) (x : Ac) : Prop where
  d : ∃ bl, Holds W (.slice x.da x.dl x.dc) bl ∧ bl.length ≤ 140737488351232
theorem Ac.Fits.below {W W' : World} {x : Ac} (h : x.Fits W) (hb : Below W.heap.size W W') : x.Fits W' := by
  obtain ⟨bl, h1, h2⟩ := h.d
  exact ⟨⟨bl, h1.below hb (Nat.le_refl _), h2⟩⟩
/-- Acts that are there lie at plain addresses. -/
theorem acs_at {w : World} {a : Option Addr} {n cap : Nat} {l : List Ac} (h : K.RowOf acells w (.slice a n cap) l) : n = l.length ∧ l.length ≤ maxLen ∧ ∀ i (hi : i < l.length), ∃ b off, a = some ⟨b, off, none⟩ ∧ w.cell? ⟨b, off + i * 5, none⟩ = some (.int .i64 l[i].kind) ∧ w.cell? ⟨b, off + i * 5 + 1, none⟩ = some (.slice l[i].da l[i].dl l[i].dc) ∧ w.cell? ⟨b, off + i * 5 + 2, none⟩ = some (.string l[i].name) ∧ w.cell? ⟨b, off + i * 5 + 3, none⟩ = some (.int .i64 l[i].n) ∧ w.cell? ⟨b, off + i * 5 + 4, none⟩ = some (.int .i64 l[i].m) := by
  have hn : n = l.length := by
    obtain ⟨a', cap', hv⟩ := h.slice
    injection hv
  have hcm : l.length ≤ maxLen := by
    rcases h with ⟨hv, rfl⟩ | ⟨_, _, hv, h1, h2, _⟩
    · exact Nat.zero_le _
    · omega
  refine ⟨hn, hcm, fun i hi => ?_⟩
  obtain ⟨b, off, cap', hv, _, _, hc⟩ := h.at (by omega)
  injection hv with hv1 _ _
  exact ⟨b, off, hv1, by simpa using K.row_cell hc i hi 0 (by decide) _ rfl, K.row_cell hc i hi 1 (by decide) _ rfl, K.row_cell hc i hi 2 (by decide) _ rfl, K.row_cell hc i hi 3 (by decide) _ rfl, K.row_cell hc i hi 4 (by decide) _ rfl⟩
/-- What an act weighs. -/
def Ac.wt (x : Ac) : Nat := 1 + x.dl / 50
def wts (l : List Ac) (k : Nat) : Nat := ((l.take k).map Ac.wt).sum
theorem wts_succ (l : List Ac) (k : Nat) (h : k < l.length) : wts l (k + 1) = wts l k + l[k].wt := by
  unfold wts
  rw [List.take_succ_eq_append_getElem h, List.map_append, List.sum_append]
  simp
theorem wts_zero (l : List Ac) : wts l 0 = 0 := rfl
theorem wts_le (l : List Ac) (k : Nat) : k ≤ l.length → wts l k ≤ wts l l.length := by
  intro hk
  generalize hd : l.length - k = d
  induction d generalizing k with
  | zero => rw [show k = l.length by omega]; exact Nat.le_refl _
  | succ d ih =>
    have := ih (k + 1) (by omega) (by omega)
    rw [wts_succ l k (by omega)] at this
    omega
theorem wts_ge (l : List Ac) (k : Nat) : k ≤ l.length → k ≤ wts l k := by
  induction k with
  | zero => intro _; exact Nat.zero_le _
  | succ k ih =>
    intro hk
    rw [wts_succ l k (by omega)]
    have := ih (by omega)
    unfold Ac.wt
    omega
set_option maxRecDepth 20000 in
set_option maxHeartbeats 4000000 in
theorem lightL_any (v : Value) (l : List Ac) (w : World) (hr : K.RowOf acells w v l) (hf : ∀ a ∈ l, a.Fits w) :
    Calls Tryz.prog 8 #[v] w fun e w' => ∃ b, e = .returned (.bool b) ∧ (b = true → wts l l.length ≤ 200) ∧ Below w.heap.size w w' := by
  obtain ⟨va, vc, rfl⟩ := hr.slice
  obtain ⟨_, hlm, hat⟩ := acs_at hr
  have l63 : l.length ≤ 9223372036854775807 := by unfold maxLen at hlm; omega
  have HA : Hid _ := hat
  have HFt : Hid (∀ i (hi : i < l.length), l[i].dl ≤ 140737488351232) := fun i hi => by
    have h := hf _ (List.getElem_mem hi)
    obtain ⟨bl, h1, h2⟩ := h.d
    obtain ⟨_, _, hv⟩ := h1.slice
    injection hv with _ hv _
    omega
  clear hr hf hat
  go_enter Tryz.func8, Tryz.ntmps8
  go_wp2
  go_loopw [3, 8] (fun u3 u8 wr => ∃ k n : Nat, u3 = .int .i64 n ∧ u8 = .int .i64 k ∧ k ≤ l.length ∧ n ≤ 200 ∧ Hid (n = wts l k ∧ True) ∧ Below w.heap.size w wr) (fun u3 u8 wr => l.length - (intOf u8).toNat)
  case atStart => exact ⟨0, 0, rfl, rfl, Nat.zero_le _, by omega, ⟨rfl, trivial⟩, Below.refl _ _⟩
  case round =>
    obtain ⟨k, n, rfl, rfl, hk, hn, HS, hB⟩ := hrel
    by_cases hlt : k < l.length
    · have hlt' : (k : Int) < (l.length : Int) := by omega
      obtain ⟨b, off, rfl, g0', g1', g2', g3', g4'⟩ := HA.out k hlt
      have hB' := fun o => hB.alloc hB.size o
      have t1 := HFt.out k hlt
      have HS' : Hid (wts l (k + 1) = n + (1 + l[k].dl / 50) ∧ True) := ⟨by rw [wts_succ l k hlt, ← HS.out.1]; rfl, trivial⟩
      have g0 := cell_on hB g0'
      have g1 := cell_on hB g1'
      have g2 := cell_on hB g2'
      have g3 := cell_on hB g3'
      have g4 := cell_on hB g4'
      obtain ⟨kd, hkd⟩ : ∃ z, l[k].kind = z := ⟨_, rfl⟩
      obtain ⟨sa, hsa⟩ : ∃ z, l[k].name = z := ⟨_, rfl⟩
      obtain ⟨da, hda⟩ : ∃ z, l[k].da = z := ⟨_, rfl⟩
      obtain ⟨dl, hdl⟩ : ∃ z, l[k].dl = z := ⟨_, rfl⟩
      obtain ⟨dc, hdc⟩ : ∃ z, l[k].dc = z := ⟨_, rfl⟩
      obtain ⟨xn, hxn⟩ : ∃ z, l[k].n = z := ⟨_, rfl⟩
      obtain ⟨xm, hxm⟩ : ∃ z, l[k].m = z := ⟨_, rfl⟩
      rw [hkd] at g0
      rw [hda, hdl, hdc] at g1
      rw [hsa] at g2
      rw [hdl] at t1 HS'
      rw [hxn] at g3
      rw [hxm] at g4
      clear g0' g1' g2' g3' g4' hB hkd hsa hda hdl hdc hxn hxm HS
      by_cases hs : (200 : Int) < (n : Int) + (1 + (dl : Int) / 50)
      · go_wp2
        go_ret
        exact ⟨false, rfl, fun h => Bool.noConfusion h, hB' _⟩
      · go_wp2
        refine ⟨⟨k + 1, n + (1 + dl / 50), ?_, by go_num, by omega, by omega, ⟨HS'.out.1.symm, trivial⟩, hB' _⟩, by simp [intOf]; omega⟩
        congr 1
    · have e : k = l.length := by omega
      have hlt' : ¬ (k : Int) < (l.length : Int) := by omega
      have HR : Hid (wts l l.length ≤ 200 ∧ True) := ⟨by have := HS.out.1; rw [e] at this; omega, trivial⟩
      clear HS
      go_wp2
      go_ret
      exact .inr ⟨rfl, HR.out.1, hB⟩
end Go.Proofs.YtjgdmbfkondakaaGreatDoor

/-
  ROWS OF BYTES THAT CAME IN, gathered by a law; beside a ledger of the call's own.
-/
namespace Go.Proofs.YtjgdmbfkondakaaGreatDoor
open Go.RowKit

/-- A row of the call's own, of slices that came in. -/
def Dat (w wr : World) (v : Value) (ls : List (List UInt8)) : Prop := ∃ B : List Bv, K.OwnOf bvc 1 31 wr w.heap.size v B ∧ B.length = ls.length ∧ ∀ (j : Nat) (u : Bv) (x : List UInt8), B[j]? = some u → ls[j]? = some x → Holds w u.v x
section
variable {w wr wr' : World} {v v' : Value} {ls : List (List UInt8)} {G G' : Nat → Prop}
theorem dat_nil (w wr : World) : Dat w wr (.slice none 0 0) [] := ⟨[], K.ownOf_nil _ _, rfl, fun j u x hu => by simp at hu⟩
theorem Dat.same (h : Dat w wr v ls) (hs : ∀ g, v.ownBlock = some g → wr'.heap[g]? = wr.heap[g]?) : Dat w wr' v ls := by
  obtain ⟨B, h1, h2⟩ := h
  exact ⟨B, h1.same hs, h2⟩
theorem Dat.lt (h : Dat w wr v ls) {g : Nat} (hg : v.ownBlock = some g) : g < wr.heap.size := by
  obtain ⟨B, h1, h2⟩ := h
  exact (h1.lt hg).2
theorem Dat.go (h : Dat w wr v ls) (b : Below wr.heap.size wr wr') : Dat w wr' v ls := h.same fun g hg => b.block g (h.lt hg)
theorem Dat.moved (h : Dat w wr v ls) (mv : Moved wr wr' G G') (hn : ∀ g, v.ownBlock = some g → ¬ G g) : Dat w wr' v ls := h.same fun g hg => mv.block g (h.lt hg) (hn g hg)
theorem Dat.slice (h : Dat w wr v ls) : ∃ a c, v = .slice a ls.length c := by
  obtain ⟨B, h1, h2, _⟩ := h
  obtain ⟨a, c, e⟩ := h1.rng.slice
  exact ⟨a, c, by rw [e, h2]⟩
theorem Dat.rw (h : Dat w wr v ls) (b : Below w.heap.size w wr) : Rw wr v ls := by
  obtain ⟨B, h1, h2, h3⟩ := h
  refine ⟨B.map Bv.v, (own1_of h1).row, by simpa using h2, fun j u x hu hx => ?_⟩
  rw [List.getElem?_map] at hu
  cases hb : B[j]? with
  | none => rw [hb] at hu; cases hu
  | some y =>
    rw [hb] at hu
    injection hu with hu
    rw [← hu]
    exact (h3 j y x hb hx).below b (Nat.le_refl _)
theorem dat_more {L B : List Bv} {la lb : List (List UInt8)} (own : K.OwnOf bvc 1 31 wr' w.heap.size v' (L ++ B)) (h1 : L.length = la.length) (h2 : ∀ (j : Nat) (u : Bv) (x : List UInt8), L[j]? = some u → la[j]? = some x → Holds w u.v x) (h3 : B.length = lb.length) (h4 : ∀ (j : Nat) (u : Bv) (x : List UInt8), B[j]? = some u → lb[j]? = some x → Holds w u.v x) : Dat w wr' v' (la ++ lb) := by
  refine ⟨L ++ B, own, by simp [h1, h3], fun j u x hu hx => ?_⟩
  by_cases hj : j < L.length
  · rw [List.getElem?_append_left hj] at hu
    rw [List.getElem?_append_left (by omega)] at hx
    exact h2 j u x hu hx
  · rw [List.getElem?_append_right (by omega)] at hu
    rw [List.getElem?_append_right (by omega)] at hx
    rw [h1] at hu
    exact h4 _ u x hu hx
end
/-- Two rows of the call's own, beside a ledger's blocks G. -/
structure Rz (w wr : World) (G : Nat → Prop) (sv tv : Value) (sure waits : List (List UInt8)) : Prop where
  s : Dat w wr sv sure
  t : Dat w wr tv waits
  ns : ∀ g, sv.ownBlock = some g → ¬ G g
  nt : ∀ g, tv.ownBlock = some g → ¬ G g
  ap : ∀ g, sv.ownBlock = some g → tv.ownBlock ≠ some g
section
variable {w wr wr' : World} {sv tv sv' tv' : Value} {sure waits : List (List UInt8)} {G G' : Nat → Prop}
theorem rz_nil (w wr : World) (G : Nat → Prop) : Rz w wr G (.slice none 0 0) (.slice none 0 0) [] [] := ⟨dat_nil w wr, dat_nil w wr, (fun g hg => by cases hg), (fun g hg => by cases hg), (fun g hg => by cases hg)⟩
theorem Rz.go (h : Rz w wr G sv tv sure waits) (b : Below wr.heap.size wr wr') : Rz w wr' G sv tv sure waits := ⟨h.s.go b, h.t.go b, h.ns, h.nt, h.ap⟩
theorem Rz.move (h : Rz w wr G sv tv sure waits) (mv : Moved wr wr' G G') : Rz w wr' G' sv tv sure waits :=
  ⟨h.s.moved mv h.ns, h.t.moved mv h.nt, fun g hg hG => (mv.sub g hG).elim (h.ns g hg) (fun hh => by have := h.s.lt hg; omega), fun g hg hG => (mv.sub g hG).elim (h.nt g hg) (fun hh => by have := h.t.lt hg; omega), h.ap⟩
/-- One of them is empty then. -/
theorem Rz.none (h : Rz w wr G sv tv sure waits) : Rz w wr G sv (.slice Option.none 0 0) sure [] := ⟨h.s, dat_nil w wr, h.ns, (fun g hg => by cases hg), fun g hg e => by cases e⟩
/-- The second row has grown. -/
theorem Rz.grewT (h : Rz w wr G sv tv sure waits) {ls : List (List UInt8)} (d : Dat w wr' tv' ls) (gr : wr.grownBy wr' tv.ownBlock) (nw : K.NewOr wr tv tv') (hG : ∀ k, G k → k < wr.heap.size) : Rz w wr' G sv tv' sure ls := by
  refine ⟨h.s.same fun g hg => gr.block g (h.s.lt hg) (fun e => h.ap g hg e.symm), d, h.ns, fun g hg hk => ?_, fun g hg e => ?_⟩
  · rcases nw with e | ⟨g', e, h1⟩
    · exact h.nt g (e ▸ hg) hk
    · rw [e] at hg; injection hg with hg; have := hG g hk; omega
  · rcases nw with e2 | ⟨g', e2, h1⟩
    · exact h.ap g hg (e2 ▸ e)
    · rw [e2] at e; injection e with e; have := h.s.lt hg; omega
/-- The first row has grown, the second is empty. -/
theorem Rz.grewS (h : Rz w wr G sv tv sure waits) {ls : List (List UInt8)} (d : Dat w wr' sv' ls) (nw : K.NewOr wr sv sv') (hG : ∀ k, G k → k < wr.heap.size) : Rz w wr' G sv' (.slice Option.none 0 0) ls [] := by
  refine ⟨d, dat_nil w wr', fun g hg hk => ?_, (fun g hg => by cases hg), fun g hg e => by cases e⟩
  rcases nw with e | ⟨g', e, h1⟩
  · exact h.ns g (e ▸ hg) hk
  · rw [e] at hg; injection hg with hg; have := hG g hk; omega
end
theorem Lv.lts {w wr : World} {q p : Nat} {G : Nat → Prop} {l : Lg} {m : M} (h : Lv w wr q p G l m) : ∀ k, G k → k < wr.heap.size := h.ld.lts
/-- A row beside the ledger has grown. -/
theorem Lv.grew {w wr wr' : World} {q p : Nat} {G : Nat → Prop} {l : Lg} {m : M} (h : Lv w wr q p G l m) {tv : Value} {B : List Bv} (own : K.OwnOf bvc 1 31 wr w.heap.size tv B) (gr : wr.grownBy wr' tv.ownBlock) (nt : ∀ g, tv.ownBlock = some g → ¬ G g) : Lv w wr' q p G l m :=
  ⟨h.ld.same fun k hk => gr.block k (h.ld.lts k hk) (fun e => nt k e.symm hk), h.frm, own.below gr h.bel h.bel.size (Nat.le_refl _)⟩
/-- An act's cells in a box of its own. -/
theorem ac_box (w : World) (x : Ac) {X : World} (hX : w.alloc (.cells #[.int .i64 x.kind, .slice x.da x.dl x.dc, .string x.name, .int .i64 x.n, .int .i64 x.m] 38) = X) :
    X.cell? ⟨w.heap.size, 0, none⟩ = some (.int .i64 x.kind) ∧ X.cell? ⟨w.heap.size, 1, none⟩ = some (.slice x.da x.dl x.dc) := by
  have h := heap_alloc_new w (.cells #[.int .i64 x.kind, .slice x.da x.dl x.dc, .string x.name, .int .i64 x.n, .int .i64 x.m] 38)
  rw [hX] at h
  refine ⟨?_, ?_⟩ <;> (simp only [World.cell?]; rw [h]; rfl)
theorem cell_moved {w w' : World} {G G' : Nat → Prop} {b i : Nat} {v : Value} (hc : w.cell? ⟨b, i, none⟩ = some v) (mv : Moved w w' G G') (hn : ¬ G b) : w'.cell? ⟨b, i, none⟩ = some v := by
  have hb : b < w.heap.size := by
    refine Decidable.byContradiction fun hn => ?_
    simp only [World.cell?] at hc
    rw [Array.getElem?_eq_none (by omega)] at hc
    cases hc
  simp only [World.cell?] at hc ⊢
  rw [mv.block b hb hn]
  exact hc
/-- One slice in a row of its own. -/
theorem bv_one (w : World) (a : Option Addr) (n c : Nat) : K.RowOf bvc (w.alloc (.cells #[.slice a n c] 31)) (.slice (some ⟨w.heap.size, 0, none⟩) 1 1) [⟨a, n, c⟩] := K.row_one (enc := bvc) w ⟨a, n, c⟩ _ rfl
end Go.Proofs.YtjgdmbfkondakaaGreatDoor
