/-
  THE STATEMENT FifoKeeps, walked.
-/
import Derived.Test.YtmffmeddhcoliaaBeside
import Derived.Deep.CutBlock
import Derived.Deep.DeepCutAuto
import Derived.Deep.LoopGhost
namespace Go.Proofs.Ytmffmeddhcoliaa
open Go.RowKit Go.Sort

theorem RowOf.mss {w : World} {a : Option Addr} {n cap : Nat} {l : List Msg} (h : RowOf mcells w (.slice a n cap) l) (i : Nat) (hi : i < l.length) : ∃ b off, a = some ⟨b, off, none⟩ ∧ w.cell? ⟨b, off + i * 6, none⟩ = some (.int .i64 l[i].o) ∧ w.cell? ⟨b, off + i * 6 + 1, none⟩ = some (.int .u64 l[i].s) ∧ w.cell? ⟨b, off + i * 6 + 2, none⟩ = some (.int .i64 l[i].hop) ∧ w.cell? ⟨b, off + i * 6 + 3, none⟩ = some (.string l[i].ex) ∧ w.cell? ⟨b, off + i * 6 + 4, none⟩ = some (.string l[i].key) ∧ w.cell? ⟨b, off + i * 6 + 5, none⟩ = some (.string l[i].body) := by
  obtain ⟨b, off, cap', hv, _, _, hc⟩ := h.at (by omega)
  injection hv with hv1 _ _
  exact ⟨b, off, hv1, by simpa using row_cell hc i hi 0 (by decide) _ rfl, row_cell hc i hi 1 (by decide) _ rfl, row_cell hc i hi 2 (by decide) _ rfl, row_cell hc i hi 3 (by decide) _ rfl, row_cell hc i hi 4 (by decide) _ rfl, row_cell hc i hi 5 (by decide) _ rfl⟩
theorem drop_cons {α : Type} {l r : List α} {i : Nat} {x : α} (h : l.drop i = x :: r) : ∃ hi : i < l.length, l[i] = x ∧ r = l.drop (i + 1) := by
  have hi : i < l.length := by
    rcases Nat.lt_or_ge i l.length with h1 | h1
    · exact h1
    · rw [List.drop_eq_nil_of_le h1] at h; cases h
  rw [List.drop_eq_getElem_cons hi] at h
  injection h with h1 h2
  exact ⟨hi, h1, h2.symm⟩
theorem acAt_new (w : World) (x : Ac) (n : Nat) (hn : n = w.heap.size) : AcAt (w.alloc (.cells #[.int .i64 x.kind, .int .i64 x.m.o, .int .u64 x.m.s, .int .i64 x.m.hop, .string x.m.ex, .string x.m.key, .string x.m.body, .int .u64 (x.tag : Int)] 35)) n 0 x := by
  subst hn
  constructor <;> simp [World.cell?_alloc_at]
theorem AcAt.same {w w' : World} {b off : Nat} {x : Ac} (h : AcAt w b off x) (hs : w'.heap[b]? = w.heap[b]?) : AcAt w' b off x := by
  obtain ⟨c0, c1, c2, c3, c4, c5, c6, c7⟩ := h
  have e : ∀ j, w'.cell? ⟨b, j, none⟩ = w.cell? ⟨b, j, none⟩ := fun j => by simp [World.cell?, hs]
  constructor <;> rw [e] <;> assumption

set_option maxRecDepth 20000 in
set_option maxHeartbeats 8000000 in
theorem keeps_law (v : Value) (l : List Ac) (w : World) (hr : RowOf acells w v l) (hf : ∀ a ∈ l, a.Fits) :
    Calls Try.prog 5 #[v] w fun e w' => e = .returned (.bool true) ∧ Below w.heap.size w w' := by
  have hL := light_any v l w hr hf
  obtain ⟨a, cap, rfl⟩ := hr.slice
  go_enter Try.func5, Try.ntmps5
  go_wp2_with fail
  refine hL.mono ?_
  rintro e w0 ⟨r, rfl, hle, b0⟩
  cases r with
  | false =>
    go_wp2_with fail
    refine (lives_any w0).mono ?_
    rintro e w1 ⟨rfl, b1⟩
    go_wp2
    go_ret
    exact ⟨rfl, b0.trans (b1.mono b0.size)⟩
  | true =>
    have hl300 := hle rfl
    have l63 : l.length ≤ 9223372036854775807 := by omega
    obtain ⟨_, _, hA⟩ := (hr.below b0 (Nat.le_refl _)).acs
    clear hle hL hr
    have hN := new_any 1000 w0 (by decide) (by decide)
    go_wp2_with fail
    refine hN.mono ?_
    rintro e w1 ⟨p, rfl, F, q1, hF, b1⟩
    have H0 : Hold w0 w1 p F (newS 1000) := ⟨q1, newS_ok (by decide) (by decide), hF, b1⟩
    clear hN q1 hF b1
    go_wp2
    go_loopg [4, 5, 7, 8, 9, 10, 11, 12, 13, 14, 15, 16, 26] l.length (fun g u4 u5 u7 u8 u9 u10 u11 u12 u13 u14 u15 u16 u26 wr => ∃ k : Nat, u26 = .int .i64 k ∧ k ≤ l.length ∧ g = l.length - k ∧ ∃ F s L, Kp w0 wr p F s u4 (L.map Tm.t) u5 (L.map Tm.m) ∧ Hid (Kept s L ∧ s.most = 1000 ∧ s.next ≤ k + 1 ∧ L.length ≤ k))
    case atStart => exact ⟨0, rfl, Nat.zero_le _, rfl, F, newS 1000, [], kp_new H0, kept_new _, rfl, Nat.le_refl _, Nat.le_refl _⟩
    case round =>
      clear H0
      obtain ⟨k, rfl, hk, rfl, F1, s, L, K1, HI⟩ := hrel
      by_cases hlt2 : k < l.length
      · have hlt : (k : Int) < (l.length : Int) := by omega
        obtain ⟨b, off, rfl, hi⟩ := hA k hlt2
        obtain ⟨e0, e1, e2, e3, e4, e5, e6, e7⟩ := hi.below K1.h.bel (Nat.le_refl _)
        have hfk := hf _ (List.getElem_mem hlt2)
        clear hA hi
        generalize l[k] = x at *
        obtain ⟨Wy, fold⟩ : ∃ Wy, wr.alloc (.cells #[.int .i64 x.kind, .int .i64 x.m.o, .int .u64 x.m.s, .int .i64 x.m.hop, .string x.m.ex, .string x.m.key, .string x.m.body, .int .u64 (x.tag : Int)] 35) = Wy := ⟨_, rfl⟩
        have iy : AcAt Wy wr.heap.size 0 x := by rw [← fold]; exact acAt_new wr x _ rfl
        have K2 := K1.below (wr' := Wy) (by rw [← fold]; exact below_alloc _ _)
        have hsy : wr.heap.size < Wy.heap.size := by rw [← fold]; simp
        have iy' := iy
        obtain ⟨y0, y1, y2, y3, y4, y5, y6, y7⟩ := iy'
        simp only [Nat.zero_add] at y0 y1 y2 y3 y4 y5 y6 y7
        have htag := hfk.1
        obtain ⟨ta, tc, hvt⟩ := K2.t.rng.slice
        obtain ⟨ma, mc, hvm⟩ := K2.m.rng.slice
        rw [List.length_map] at hvt hvm
        subst hvt hvm
        have HT1 : Hid (∀ g, (Value.slice ta L.length tc).ownBlock = some g → g < wr.heap.size) := fun g hg => (K1.t.lt hg).2
        have HM1 : Hid (∀ g, (Value.slice ma L.length mc).ownBlock = some g → g < wr.heap.size) := fun g hg => (K1.m.lt hg).2
        have HF1 : Hid (∀ g, F1 g → g < wr.heap.size) := K1.h.q.lts
        clear hfk K1
        go_upto_block 2 with fail
        go_cut [4, 5, 8, 9, 10, 26] from 26 to 187 (fun s4 s5 s8 s9 s10 s26 wx => s26 = .int .i64 k ∧ ∃ F s L, Kp w0 wx p F s s4 (L.map Tm.t) s5 (L.map Tm.m) ∧ Hid (Kept s L ∧ s.most = 1000 ∧ s.next ≤ k + 2 ∧ L.length ≤ k + 1))
        case first =>
          by_cases c0 : x.kind = 0
          · have hn1 : s.next < 18446744073709551616 := K2.h.ok.n
            have hll : L.length ≤ 300 := by have := HI.out.2.2.2; omega
            have hNx := next_any p F1 s Wy K2.h.q
            obtain ⟨iu, hiu, hzu, hzsu, hzbu⟩ := u64Info
            obtain ⟨im, him, hzm, hzsm, hzbm⟩ := msgInfo
            have HK2 : Hid (Kp w0 Wy p F1 s _ _ _ _) := K2
            have HY : Hid (AcAt Wy wr.heap.size 0 x) := iy
            have HSY : Hid (wr.heap.size < Wy.heap.size) := hsy
            clear K2 iy
            go_wp2_with fail
            refine hNx.mono ?_
            rintro e Wy ⟨rfl, rfl⟩
            go_upto_region 15 with (at_builtin; refine wpList_append_rows (enc := ncell) rfl (.tmp 36) (.tmp 39) 55 rfl Try.underlying55 iu _ 8 hiu hzu hzsu hzbu rfl w0.heap.size (.slice ta L.length tc) _ (L.map Tm.t) [s.next] rfl rfl (HK2.out.t.alloc _) (row_one _ _ _ rfl) (by unfold maxLen; simp; omega) (by simp; omega) (by have := HK2.out.h.bel.size; simp; omega) ?_; intro v3 w3 own3 gr3 nw3)
            have K3 : Kp w0 w3 p F1 s v3 (L.map Tm.t ++ [s.next]) _ _ := (HK2.out.below (below_alloc _ _)).appT own3 gr3 nw3
            have Y3 : AcAt w3 wr.heap.size 0 x := (HY.out.below (below_alloc _ _) (Nat.le_refl _)).same (gr3.block _ (by have := HSY.out; simp; omega) (fun e => by have := HT1.out _ e.symm; omega))
            have iy3 := Y3
            obtain ⟨z0, z1, z2, z3, z4, z5, z6, z7⟩ := iy3
            simp only [Nat.zero_add] at z0 z1 z2 z3 z4 z5 z6 z7
            obtain ⟨va3, vc3, hv3⟩ := K3.t.rng.slice
            rw [List.length_append, List.length_map, List.length_singleton] at hv3
            subst hv3
            have HK3 : Hid _ := K3
            clear own3 gr3 nw3 y0 y1 y2 y3 y4 y5 y6 y7
            go_upto_region 16 with (at_builtin; refine wpList_append_rows (enc := mcells) rfl (.tmp 41) (.tmp 44) 56 rfl Try.underlying56 im _ 72 him hzm hzsm hzbm rfl w0.heap.size (.slice ma L.length mc) _ (L.map Tm.m) [x.m] rfl rfl (HK3.out.m.alloc _) (row_one _ _ _ rfl) (by unfold maxLen; simp; omega) (by simp; omega) (by have := HK3.out.h.bel.size; simp; omega) ?_; intro v4 w4 own4 gr4 nw4)
            have K4 : Kp w0 w4 p F1 s _ _ v4 (L.map Tm.m ++ [x.m]) := (HK3.out.below (below_alloc _ _)).appM own4 gr4 nw4
            have Y4 : AcAt w4 wr.heap.size 0 x := (Y3.below (below_alloc _ _) (Nat.le_refl _)).same (gr4.block _ (by have := World.block_lt_of_cell? _ _ Y3.c0; simp at this ⊢; omega) (fun e => by have := HM1.out _ e.symm; omega))
            obtain ⟨x0, x1, x2, x3, x4, x5, x6, x7⟩ := Y4
            simp only [Nat.zero_add] at x0 x1 x2 x3 x4 x5 x6 x7
            obtain ⟨va4, vc4, hv4⟩ := K4.m.rng.slice
            rw [List.length_append, List.length_map, List.length_singleton] at hv4
            subst hv4
            have hpu : s.push x.m = (0, { s with next := s.next + 1, rdy := s.rdy ++ [⟨s.next, x.m, false⟩] }) := push_ok x.m (by have := (HI.out.1.mx K4.h.ok).length; have := HI.out.2.1; omega) (by have := HI.out.2.2.1; omega)
            have hP := push_any p F1 s x.m w4 K4.h.q K4.h.ok
            have okP := K4.h.ok.push x.m
            rw [hpu] at hP okP
            have HK4 : Hid _ := K4
            have HE : Hid (Kept { s with next := s.next + 1, rdy := s.rdy ++ [⟨s.next, x.m, false⟩] } (L ++ [(⟨s.next, x.m⟩ : Tm)]) ∧ s.most = 1000 ∧ s.next + 1 ≤ k + 2 ∧ (L ++ [(⟨s.next, x.m⟩ : Tm)]).length ≤ k + 1) := ⟨HI.out.1.push K4.h.ok x.m, HI.out.2.1, by have := HI.out.2.2.1; omega, by have := HI.out.2.2.2; simp; omega⟩
            clear own4 gr4 nw4 z0 z1 z2 z3 z4 z5 z6 z7 hpu Y3 K3 K4
            go_wp2_with fail
            refine hP.mono ?_
            rintro e w5 ⟨rfl, F5, q5, m5⟩
            go_wp2
            go_meet
            refine ⟨rfl, F5, _, L ++ [⟨s.next, x.m⟩], ?_, HE⟩
            have := HK4.out.go q5 m5 okP
            rw [List.map_append, List.map_append]
            exact this
          · by_cases c1 : x.kind = 1
            · have hG := give_any p F1 s Wy K2.h.q K2.h.ok
              have okG := K2.h.ok.give
              have HE : Hid (Kept s.give.2.2 L ∧ s.give.2.2.most = 1000 ∧ s.give.2.2.next ≤ k + 2 ∧ L.length ≤ k + 1) := ⟨HI.out.1.give, by rw [(give_keep s).1]; exact HI.out.2.1, by rw [(give_keep s).2]; have := HI.out.2.2.1; omega, by have := HI.out.2.2.2; omega⟩
              have HK2 : Hid _ := K2
              clear K2
              go_wp2_with fail
              refine hG.mono ?_
              rintro e w5 ⟨rfl, F5, q5, m5⟩
              go_wp2
              go_meet
              exact ⟨rfl, F5, _, L, HK2.out.go q5 m5 okG, HE⟩
            · by_cases c2 : x.kind = 2
              · have hD := done_any p F1 s x.tag Wy K2.h.q K2.h.ok htag
                have okD := K2.h.ok.done x.tag
                cases hfd : findT s.out x.tag with
                | none =>
                  rw [done_none hfd] at hD okD
                  have HE : Hid (Kept s L ∧ s.most = 1000 ∧ s.next ≤ k + 2 ∧ L.length ≤ k + 1) := ⟨HI.out.1, HI.out.2.1, by have := HI.out.2.2.1; omega, by have := HI.out.2.2.2; omega⟩
                  have HK2 : Hid _ := K2
                  clear K2 hfd
                  go_wp2_with fail
                  refine hD.mono ?_
                  rintro e w5 ⟨rfl, F5, q5, m5⟩
                  go_wp2
                  go_meet
                  exact ⟨rfl, F5, _, L, HK2.out.go q5 m5 okD, HE⟩
                | some y =>
                  rw [done_some hfd] at hD okD
                  obtain ⟨kk, hkk, hkt, huni, hkd⟩ := HI.out.1.done K2.h.ok hfd
                  have HKT : Hid (L[kk].t = x.tag ∧ ∀ i (hi : i < L.length), L[i].t = x.tag → i = kk) := ⟨hkt, huni⟩
                  have HE : Hid (Kept { s with out := dropT s.out x.tag } (L.take kk ++ L.drop (kk + 1)) ∧ s.most = 1000 ∧ s.next ≤ k + 2 ∧ (L.take kk ++ L.drop (kk + 1)).length ≤ k + 1) := ⟨hkd, HI.out.2.1, by have := HI.out.2.2.1; omega, by have := HI.out.2.2.2; simp; omega⟩
                  have hll : L.length ≤ 300 := by have := HI.out.2.2.2; omega
                  have HK2 : Hid _ := K2
                  clear K2 hfd hkt huni hkd
                  go_wp2_with fail
                  refine hD.mono ?_
                  rintro e w5 ⟨rfl, F5, q5, m5⟩
                  have K5 := HK2.out.go q5 m5 okD
                  have Y5 : AcAt w5 wr.heap.size 0 x := iy.same (m5.block _ hsy (fun h => by have := HF1.out _ h; omega))
                  obtain ⟨z0, z1, z2, z3, z4, z5, z6, z7⟩ := Y5
                  simp only [Nat.zero_add] at z0 z1 z2 z3 z4 z5 z6 z7
                  have HK5 : Hid _ := K5
                  clear y0 y1 y2 y3 y4 y5 y6 y7 z0 z1 z2 z3 z4 z5 z6 HK2 q5 m5 iy
                  rcases K5.t.split with ⟨_, hnil⟩ | ⟨g, c, R, hvt5, _, hg, hlc, hcm, _⟩
                  · rw [List.map_eq_nil_iff] at hnil
                    subst hnil
                    simp at hkk
                  rw [List.length_map] at hvt5
                  injection hvt5 with hta _ htc
                  subst hta htc
                  rw [List.length_map] at hlc
                  have hcm63 : tc ≤ 9223372036854775807 := by unfold maxLen at hcm; omega
                  have hcell : Hid (∀ i (hi : i < L.length), w5.cell? ⟨g, i, none⟩ = some (.int .u64 (L[i].t : Int))) := fun i hi => by
                    have := cell_of_list hg i
                    rw [this, List.getElem?_append_left (by rw [cellsOf_length, List.length_map]; omega)]
                    have := cellsOf_get (enc := ncell) (L.map Tm.t) i 0 (by simpa using hi) (by decide)
                    rw [Nat.mul_one, Nat.add_zero] at this
                    rw [this]
                    simp [ncell]
                  clear hg K5
                  go_wp2
                  go_loopg [8, 9, 10, 64] L.length (fun gg u8 u9 u10 u64 wz => wz = w5 ∧ ∃ j : Nat, u64 = .int .i64 j ∧ j ≤ L.length ∧ gg = L.length - j ∧ u8 = .int .i64 (if kk < j then (kk : Int) else -1))
                  case atStart => exact ⟨rfl, 0, rfl, Nat.zero_le _, rfl, by simp⟩
                  case round =>
                    obtain ⟨rfl, j, rfl, hj, rfl, rfl⟩ := hrel
                    by_cases hjl : j < L.length
                    · have hjl' : (j : Int) < (L.length : Int) := by omega
                      have hc := hcell.out j hjl
                      by_cases hjk : j = kk
                      · subst hjk
                        rw [HKT.out.1] at hc
                        have e1 : (if j < j then (j : Int) else -1) = -1 := by simp
                        rw [e1]
                        go_wp2
                        go_roundg (L.length - (j + 1))
                        case measure => omega
                        case rel => exact ⟨rfl, j + 1, by go_num, by omega, rfl, by simp⟩
                      · have hne : ¬ (L[j].t : Int) = (x.tag : Int) := fun e => hjk (HKT.out.2 j hjl (by omega))
                        have e1 : (if kk < j + 1 then (kk : Int) else -1) = if kk < j then (kk : Int) else -1 := by
                          by_cases h : kk < j
                          · rw [if_pos h, if_pos (by omega)]
                          · rw [if_neg h, if_neg (by omega)]
                        have E1 : Hid _ := e1
                        generalize (if kk < j then (kk : Int) else -1) = uu at *
                        generalize L[j].t = tj at *
                        clear e1
                        go_wp2
                        go_roundg (L.length - (j + 1))
                        case measure => omega
                        case rel => exact ⟨rfl, j + 1, by go_num, by omega, rfl, by rw [E1.out]⟩
                    · obtain rfl : j = L.length := by omega
                      rw [if_pos hkk]
                      have hkk0 : ¬ (kk : Int) < 0 := by omega
                      go_upto_region 31 with fail
                      obtain ⟨iu, hiu, hzu, hzsu, hzbu⟩ := u64Info
                      have belA : Below wr.heap.size wr (wr.drew.alloc (.cells #[] 29)) := ((Below.refl _ _).drew).alloc (Nat.le_refl _) _
                      have eA : OwnOf ncell 1 29 (wr.drew.alloc (.cells #[] 29)) wr.heap.size (.slice (some ⟨wr.heap.size, 0, none⟩) 0 0) [] := ownOf_empty wr.drew wr.heap.size (Nat.le_refl _)
                      have rT := HK5.out.t.rng
                      have rA := (rT.upto kk (by simpa using Nat.le_of_lt hkk)).below belA (Nat.le_refl _)
                      have sbl : (L.map Tm.t).length ≤ 300 := by simpa using hll
                      have HRT : Hid (RowOf ncell wr (.slice (some ⟨g, 0, none⟩) L.length tc) (L.map Tm.t)) := rT
                      clear rT hcell
                      obtain ⟨k1, hk1⟩ : ∃ k1, kk + 1 = k1 := ⟨_, rfl⟩
                      have n1 : (kk : Int) ≤ (tc : Int) := by omega
                      have n2 : (k1 : Int) ≤ (L.length : Int) := by omega
                      have n4 : kk ≤ tc := by omega
                      have n5 : k1 ≤ L.length := by omega
                      have n6 : IntKind.i64.wrap ((kk : Int) + 1) = (k1 : Int) := by rw [IntKind.wrap_i64]; omega
                      have n7 : (0 : Int) ≤ (k1 : Int) := by omega
                      obtain ⟨o1, ho1, hto1⟩ : ∃ o1 : Nat, (k1 < tc → o1 = 0 + k1 * 1) ∧ (if tc = k1 then (some ⟨g, 0, none⟩ : Option Addr) else some ⟨g, k1, none⟩) = some ⟨g, o1, none⟩ := by
                        by_cases hc : tc = k1
                        · exact ⟨0, fun h => by omega, by rw [if_pos hc]⟩
                        · exact ⟨k1, fun _ => by omega, by rw [if_neg hc]⟩
                      have HRS : Hid (∀ W, Below wr.heap.size wr W → RowOf ncell W (.slice (some ⟨g, o1, none⟩) (L.length - k1) (tc - k1)) ((L.map Tm.t).drop k1)) := fun W hW => (HRT.out.since k1 (by simpa using n5) _ _ o1 (by simp) rfl ho1).below hW (Nat.le_refl _)
                      have FA : Hid (∀ w6, (wr.drew.alloc (.cells #[] 29)).grownBy w6 (some wr.heap.size) → Below wr.heap.size wr w6) := fun w6 gr => belA.grown gr (by simp) (fun k hk => by injection hk with hk; omega)
                      go_region_law (first
                        | (refine step_append_rows (enc := ncell) rfl (.tmp 77) (.tmp 80) 55 rfl Try.underlying55 iu _ 8 hiu hzu hzsu hzbu rfl wr.heap.size (.slice (some ⟨wr.heap.size, 0, none⟩) 0 0) (.slice (some ⟨g, 0, none⟩) kk tc) [] ((L.map Tm.t).take kk) (by simp [Act.eval]) (by simp [Act.eval]) eA rA (by unfold maxLen; simp; omega) (by simp; omega) (by simp) ?_; intro v6 w6 own6 gr6 nw6; have b6 := FA.out w6 gr6; obtain ⟨va6, vc6, hv6⟩ := own6.rng.slice; rw [List.nil_append] at hv6 own6; rw [List.length_take, List.length_map, Nat.min_eq_left (Nat.le_of_lt hkk)] at hv6; subst hv6; have r6 := HRS.out w6 b6; clear gr6 nw6)
                        | (refine step_append_rows (enc := ncell) rfl (.tmp 81) (.tmp 85) 55 rfl Try.underlying55 iu _ 8 hiu hzu hzsu hzbu rfl wr.heap.size (.slice va6 kk vc6) (.slice (some ⟨g, o1, none⟩) (L.length - k1) (tc - k1)) ((L.map Tm.t).take kk) ((L.map Tm.t).drop k1) (by simp [Act.eval]) (by simp [Act.eval]) own6 r6 (by unfold maxLen; simp; omega) (by simp; omega) b6.size ?_; intro v7 w7 own7 gr7 nw7; have b7 := own6.below gr7 b6 b6.size (Nat.le_refl _); obtain ⟨va7, vc7, hv7⟩ := own7.rng.slice; subst hv7; clear gr7 nw7))
                      have K7 := HK5.out.setT b7 own7
                      have HK7 : Hid _ := K7
                      have M7 := K7.m
                      clear own6 own7 b6 r6 eA rA belA HRS FA HRT HK5 ho1 hto1 K7
                      rcases M7.split with ⟨_, hnil⟩ | ⟨gm, c, R, hvm5, _, _, hmc, hmm, _⟩
                      · rw [List.map_eq_nil_iff] at hnil
                        subst hnil
                        simp at hkk
                      rw [List.length_map] at hvm5
                      injection hvm5 with hma _ hmc'
                      subst hma hmc'
                      rw [List.length_map] at hmc
                      have hmm63 : mc ≤ 9223372036854775807 := by unfold maxLen at hmm; omega
                      obtain ⟨im, him, hzm, hzsm, hzbm⟩ := msgInfo
                      have belB : Below w7.heap.size w7 (w7.drew.alloc (.cells #[] 33)) := ((Below.refl _ _).drew).alloc (Nat.le_refl _) _
                      have eB : OwnOf mcells 6 33 (w7.drew.alloc (.cells #[] 33)) w7.heap.size (.slice (some ⟨w7.heap.size, 0, none⟩) 0 0) [] := ownOf_empty w7.drew w7.heap.size (Nat.le_refl _)
                      have HRM : Hid (RowOf mcells w7 (.slice (some ⟨gm, 0, none⟩) L.length mc) (L.map Tm.m)) := M7.rng
                      have rB := (HRM.out.upto kk (by simpa using Nat.le_of_lt hkk)).below belB (Nat.le_refl _)
                      have m1 : (kk : Int) ≤ (mc : Int) := by omega
                      have m4 : kk ≤ mc := by omega
                      obtain ⟨o2, ho2, hto2⟩ : ∃ o2 : Nat, (k1 < mc → o2 = 0 + k1 * 6) ∧ (if mc = k1 then (some ⟨gm, 0, none⟩ : Option Addr) else some ⟨gm, k1 * 6, none⟩) = some ⟨gm, o2, none⟩ := by
                        by_cases hc : mc = k1
                        · exact ⟨0, fun h => by omega, by rw [if_pos hc]⟩
                        · exact ⟨k1 * 6, fun _ => by omega, by rw [if_neg hc]⟩
                      have HRS : Hid (∀ W, Below w7.heap.size w7 W → RowOf mcells W (.slice (some ⟨gm, o2, none⟩) (L.length - k1) (mc - k1)) ((L.map Tm.m).drop k1)) := fun W hW => (HRM.out.since k1 (by simpa using n5) _ _ o2 (by simp) rfl ho2).below hW (Nat.le_refl _)
                      have FB : Hid (∀ w8, (w7.drew.alloc (.cells #[] 33)).grownBy w8 (some w7.heap.size) → Below w7.heap.size w7 w8) := fun w8 gr => belB.grown gr (by simp) (fun k hk => by injection hk with hk; omega)
                      clear M7
                      go_upto_region 32 with fail
                      go_region_law (first
                        | (refine step_append_rows (enc := mcells) rfl (.tmp 87) (.tmp 90) 56 rfl Try.underlying56 im _ 72 him hzm hzsm hzbm rfl w7.heap.size (.slice (some ⟨w7.heap.size, 0, none⟩) 0 0) (.slice (some ⟨gm, 0, none⟩) kk mc) [] ((L.map Tm.m).take kk) (by simp [Act.eval]) (by simp [Act.eval]) eB rB (by unfold maxLen; simp; omega) (by simp; omega) (by simp) ?_; intro v8 w8 own8 gr8 nw8; have b8 := FB.out w8 gr8; obtain ⟨va8, vc8, hv8⟩ := own8.rng.slice; rw [List.nil_append] at hv8 own8; rw [List.length_take, List.length_map, Nat.min_eq_left (Nat.le_of_lt hkk)] at hv8; subst hv8; have r8 := HRS.out w8 b8; clear gr8 nw8)
                        | (refine step_append_rows (enc := mcells) rfl (.tmp 91) (.tmp 95) 56 rfl Try.underlying56 im _ 72 him hzm hzsm hzbm rfl w7.heap.size (.slice va8 kk vc8) (.slice (some ⟨gm, o2, none⟩) (L.length - k1) (mc - k1)) ((L.map Tm.m).take kk) ((L.map Tm.m).drop k1) (by simp [Act.eval]) (by simp [Act.eval]) own8 r8 (by unfold maxLen; simp; omega) (by simp; omega) b8.size ?_; intro v9 w9 own9 gr9 nw9; have b9 := own8.below gr9 b8 b8.size (Nat.le_refl _); obtain ⟨va9, vc9, hv9⟩ := own9.rng.slice; subst hv9; clear gr9 nw9))
                      have HK9 : Hid _ := HK7.out.setM b9 own9
                      clear own8 own9 b8 r8 eB rB belB HRS FB
                      go_wp2
                      go_meet
                      refine ⟨rfl, F5, _, L.take kk ++ L.drop (kk + 1), ?_, HE⟩
                      have := HK9.out
                      rw [List.map_append, List.map_append, List.map_take, List.map_take, List.map_drop, List.map_drop, hk1]
                      simpa using this
              · by_cases c3 : x.kind = 3
                · have hB := back_any p F1 s x.tag Wy K2.h.q K2.h.ok htag
                  have okB := K2.h.ok.back x.tag
                  have HE : Hid (Kept (s.back x.tag).2 L ∧ (s.back x.tag).2.most = 1000 ∧ (s.back x.tag).2.next ≤ k + 2 ∧ L.length ≤ k + 1) := ⟨HI.out.1.back K2.h.ok _, by rw [(back_keep s _).1]; exact HI.out.2.1, by rw [(back_keep s _).2]; have := HI.out.2.2.1; omega, by have := HI.out.2.2.2; omega⟩
                  have HK2 : Hid _ := K2
                  clear K2
                  go_wp2_with fail
                  refine hB.mono ?_
                  rintro e w5 ⟨rfl, F5, q5, m5⟩
                  go_wp2
                  go_meet
                  exact ⟨rfl, F5, _, L, HK2.out.go q5 m5 okB, HE⟩
                · have hR := reset_any p F1 s Wy K2.h.q K2.h.ok
                  have okR := K2.h.ok.reset
                  have HE : Hid (Kept s.reset.2 L ∧ s.reset.2.most = 1000 ∧ s.reset.2.next ≤ k + 2 ∧ L.length ≤ k + 1) := ⟨HI.out.1.reset K2.h.ok, by rw [(reset_keep K2.h.ok).1]; exact HI.out.2.1, by rw [show s.reset.2.next = s.next from (backs_out (n := s.out.length) K2.h.ok).2.2]; have := HI.out.2.2.1; omega, by have := HI.out.2.2.2; omega⟩
                  have HK2 : Hid _ := K2
                  clear K2
                  go_wp2_with fail
                  refine hR.mono ?_
                  rintro e w5 ⟨rfl, F5, q5, m5⟩
                  go_wp2
                  go_meet
                  exact ⟨rfl, F5, _, L, HK2.out.go q5 m5 okR, HE⟩
        case rest =>
          clear HT1 HM1 HF1 iy y0 y1 y2 y3 y4 y5 y6 y7 e0 e1 e2 e3 e4 e5 e6 e7 K2 hsy HI fold
          obtain ⟨rfl, F2, s2, L2, K3, HE⟩ := hcut
          obtain ⟨tb, tcc, hvt⟩ := K3.t.rng.slice
          obtain ⟨mb, mcc, hvm⟩ := K3.m.rng.slice
          rw [List.length_map] at hvt hvm
          subst hvt hvm
          have hR := ready_any p F2 s2 wc K3.h.q K3.h.ok
          have HK3 : Hid _ := K3
          have hmx := HE.out.1.mx K3.h.ok
          have hlen := hmx.length
          have HMX : Hid (Mx s2.rdy s2.out L2) := hmx
          have hL2 : L2.length ≤ 300 := by have := HE.out.2.2.2; omega
          have hmost := HE.out.2.1
          clear K3 hmx
          go_wp2_with fail
          refine hR.mono ?_
          rintro e w6 ⟨vr, rfl, own6, b6⟩
          have K6 := HK3.out.below b6
          have hO := out_any p F2 s2 w6 K6.h.q K6.h.ok
          obtain ⟨ra, rc, hvr⟩ := own6.rng.slice
          subst hvr
          go_wp2_with fail
          refine hO.mono ?_
          rintro e w7 ⟨vo, rfl, own7, b7⟩
          have K7 := K6.below b7
          obtain ⟨oa, oc, hvo⟩ := own7.rng.slice
          subst hvo
          have hRm := room_any p F2 s2 w7 K7.h.q K7.h.ok
          have hrm : (s2.most : Int) - s2.rdy.length - s2.out.length = 1000 - (L2.length : Int) := by rw [hmost]; omega
          rw [hrm] at hRm
          have hw1 : IntKind.i64.wrap ((s2.rdy.length : Int) + (s2.out.length : Int)) = (L2.length : Int) := by rw [IntKind.wrap_i64]; omega
          have hw2 : IntKind.i64.wrap (1000 - (L2.length : Int)) = 1000 - (L2.length : Int) := by rw [IntKind.wrap_i64]; omega
          have hrl : s2.rdy.length ≤ 300 := by omega
          have hol : s2.out.length ≤ 300 := by omega
          have HRR : Hid (Rows w7 (.slice ra s2.rdy.length rc) s2.rdy) := own6.rng.below b7 (Nat.le_refl _)
          have HRO : Hid (Rows w7 (.slice oa s2.out.length oc) s2.out) := own7.rng
          have HK7 : Hid _ := K7
          clear own6 own7 hrm hlen HK3 K6 K7 b6 b7 hmost hR hO
          go_wp2_with fail
          refine hRm.mono ?_
          rintro e w8 ⟨rfl, qn, rfl⟩
          have bq : Below w7.heap.size w7 (w7.drewN qn) := ⟨rfl, rfl, rfl, Nat.le_refl _, fun _ _ => rfl⟩
          have HK8 : Hid (Kp w0 (w7.drewN qn) p F2 s2 _ _ _ _) := HK7.out.below bq
          have HR8 : Hid (Rows (w7.drewN qn) (.slice ra s2.rdy.length rc) s2.rdy) := HRR.out.below bq (Nat.le_refl _)
          have HO8 : Hid (Rows (w7.drewN qn) (.slice oa s2.out.length oc) s2.out) := HRO.out.below bq (Nat.le_refl _)
          clear HK7 HRR HRO hRm bq
          generalize w7.drewN qn = w8 at *
          go_wp2
          go_loopg [13, 14, 15, 16, 125] L2.length (fun gg u13 u14 u15 u16 u125 wz => ∃ j i o : Nat, u125 = .int .i64 j ∧ u13 = .int .i64 i ∧ u14 = .int .i64 o ∧ j ≤ L2.length ∧ gg = L2.length - j ∧ i ≤ 300 ∧ o ≤ 300 ∧ Below w8.heap.size w8 wz ∧ Hid (Mx (s2.rdy.drop i) (s2.out.drop o) (L2.drop j)))
          case atStart => exact ⟨0, 0, 0, rfl, rfl, rfl, Nat.zero_le _, rfl, Nat.zero_le _, Nat.zero_le _, Below.refl _ _, HMX⟩
          case round =>
            clear HMX
            obtain ⟨j, i, o, rfl, rfl, rfl, hj, rfl, hi3, ho3, bz, HMX⟩ := hrel
            by_cases hjl : j < L2.length
            · have hjl' : (j : Int) < (L2.length : Int) := by omega
              have K9 := HK8.out.below bz
              obtain ⟨tbb, toff, rfl, hct⟩ := (K9.t.rng.ones).2.2 j (by simpa using hjl)
              have ct := hct _ rfl
              obtain ⟨mbb, moff, rfl, g0, g1, g2, g3, g4, g5⟩ := K9.m.rng.mss j (by simpa using hjl)
              simp only [List.getElem_map] at ct g0 g1 g2 g3 g4 g5
              have hmx := HMX.out
              rw [List.drop_eq_getElem_cons hjl] at hmx
              have hst := hmx.step
              clear K9 hct hmx HMX
              rcases hst with ⟨y, r', hdr, hyt, hym, hmx'⟩ | ⟨hno, y, o', hdo, hyt, hym, hmx'⟩
              · obtain ⟨hir, hiy, rfl⟩ := drop_cons hdr
                have hir' : (i : Int) < (s2.rdy.length : Int) := by omega
                obtain ⟨rb, roff, rfl, hri⟩ := (RowOf.items HR8.out).2.2 i hir
                obtain ⟨r0, r1, r2, r3, r4, r5, r6, r7⟩ := hri.below bz (Nat.le_refl _)
                rw [hiy] at r0 r1 r2 r3 r4 r5 r6 r7
                rw [← hyt] at ct
                rw [← hym] at g0 g1 g2 g3 g4 g5
                have HM' : Hid _ := hmx'
                clear hdr hiy hyt hym hmx' hri
                go_wp2
                go_quiet (fail)
                go_wp2
                go_roundg (L2.length - (j + 1))
                case measure => omega
                case rel => exact ⟨j + 1, i + 1, o, by go_num, by go_num, rfl, by omega, rfl, by omega, ho3, bz.trans ⟨rfl, rfl, rfl, Nat.le_refl _, fun _ _ => rfl⟩, HM'⟩
              · obtain ⟨hio, hiy, rfl⟩ := drop_cons hdo
                have hio' : (o : Int) < (s2.out.length : Int) := by omega
                obtain ⟨ob, ooff, rfl, hoi⟩ := (RowOf.items HO8.out).2.2 o hio
                obtain ⟨q0, q1, q2, q3, q4, q5, q6, q7⟩ := hoi.below bz (Nat.le_refl _)
                rw [hiy] at q0 q1 q2 q3 q4 q5 q6 q7
                rw [← hyt] at ct
                rw [← hym] at g0 g1 g2 g3 g4 g5
                have HM' : Hid (Mx (s2.rdy.drop i) (s2.out.drop (o + 1)) (L2.drop (j + 1))) := hmx'
                have hone : ∀ hi : i < s2.rdy.length, ¬ (s2.rdy[i].tag : Int) = (y.tag : Int) := fun hi e => hno s2.rdy[i] (by rw [List.drop_eq_getElem_cons hi]; exact List.mem_cons_self) (by rw [← hyt]; omega)
                clear hdo hiy hyt hym hmx' hoi hno
                by_cases hir : i < s2.rdy.length
                · have hir' : (i : Int) < (s2.rdy.length : Int) := by omega
                  have hne := hone hir
                  obtain ⟨rb, roff, rfl, hri⟩ := (RowOf.items HR8.out).2.2 i hir
                  obtain ⟨r0, _, _, _, _, _, _, _⟩ := hri.below bz (Nat.le_refl _)
                  generalize s2.rdy[i].tag = rt at *
                  clear hone hri
                  have hne1 : ((rt : Int) == (y.tag : Int)) = false := by simpa using hne
                  have hne2 : decide ((rt : Int) = (y.tag : Int)) = false := by simpa using hne
                  go_wp2
                  go_quiet (fail)
                  go_wp2
                  go_quiet (fail)
                  go_wp2
                  go_roundg (L2.length - (j + 1))
                  case measure => omega
                  case rel => exact ⟨j + 1, i, o + 1, by go_num, rfl, by go_num, by omega, rfl, hi3, by omega, bz.trans ⟨rfl, rfl, rfl, Nat.le_refl _, fun _ _ => rfl⟩, HM'⟩
                · have hir' : ¬ (i : Int) < (s2.rdy.length : Int) := by omega
                  have hir2 : decide ((i : Int) < (s2.rdy.length : Int)) = false := by simpa using hir'
                  clear hone
                  go_wp2
                  go_quiet (fail)
                  go_wp2
                  go_quiet (fail)
                  go_wp2
                  go_roundg (L2.length - (j + 1))
                  case measure => omega
                  case rel => exact ⟨j + 1, i, o + 1, by go_num, rfl, by go_num, by omega, rfl, hi3, by omega, bz.trans ⟨rfl, rfl, rfl, Nat.le_refl _, fun _ _ => rfl⟩, HM'⟩
            · obtain rfl : j = L2.length := by omega
              clear HMX
              go_wp2
              go_roundg (l.length - (k + 1))
              case measure => omega
              case rel => exact ⟨k + 1, by go_num, by omega, rfl, F2, s2, L2, HK8.out.below bz, HE⟩
      · obtain rfl : k = l.length := by omega
        go_wp2_with fail
        refine (lives_any _).mono ?_
        rintro e w4 ⟨rfl, b4⟩
        go_wp2
        go_ret
        exact ⟨rfl, b0.trans ((K1.h.below b4).bel.mono b0.size)⟩
end Go.Proofs.Ytmffmeddhcoliaa
