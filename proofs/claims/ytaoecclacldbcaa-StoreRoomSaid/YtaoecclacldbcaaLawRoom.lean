/-
  THE LAW StoreRoom.
-/
import Derived.Test.YtaoecclacldbcaaRooms
import Derived.Test.YtaoecclacldbcaaLight
import Derived.Test.YtaoecclacldbcaaNames2
namespace Go.Proofs.Ytaoecclacldbcaa
open Go.RowKit

/-- An act in a box. -/
def Bx (W : World) (b : Nat) (x : Ac) : Prop := W.cell? ⟨b, 0, none⟩ = some (.int .i64 x.kind) ∧ W.cell? ⟨b, 1, none⟩ = some (.string x.a) ∧ W.cell? ⟨b, 2, none⟩ = some (.string x.b) ∧ W.cell? ⟨b, 3, none⟩ = some (.slice x.da x.dl x.dc) ∧ W.cell? ⟨b, 4, none⟩ = some (.int .i64 x.n) ∧ W.cell? ⟨b, 5, none⟩ = some (.int .i64 x.m)
theorem Bx.go {W W' : World} {b : Nat} {x : Ac} (h : Bx W b x) (k : Below W.heap.size W W') : Bx W' b x := ⟨cell_on k h.1, cell_on k h.2.1, cell_on k h.2.2.1, cell_on k h.2.2.2.1, cell_on k h.2.2.2.2.1, cell_on k h.2.2.2.2.2⟩
/-- What the law's loops keep. -/
structure RoomIn (w wr : World) (p : Nat) (n : Int) (m : M) (c : Nat) : Prop where
  st : ∃ F, Mine w wr p F m
  lit : Lit n m
  cnt : m.count ≤ c
theorem RoomIn.ok {w wr : World} {p : Nat} {n : Int} {m : M} {c : Nat} (h : RoomIn w wr p n m c) : m.Ok := by
  obtain ⟨F, h⟩ := h.st
  exact h.ok
theorem RoomIn.bel {w wr : World} {p : Nat} {n : Int} {m : M} {c : Nat} (h : RoomIn w wr p n m c) : Below w.heap.size w wr := by
  obtain ⟨F, h⟩ := h.st
  exact h.bel
theorem RoomIn.go {w wr wr' : World} {p : Nat} {n : Int} {m : M} {c : Nat} (h : RoomIn w wr p n m c) (b : Below wr.heap.size wr wr') : RoomIn w wr' p n m c := by
  obtain ⟨F, h1⟩ := h.st
  exact ⟨⟨F, h1.go b⟩, h.lit, h.cnt⟩
theorem RoomIn.to {w wr wr' : World} {p : Nat} {n : Int} {m : M} {c : Nat} {F F' : Nat → Prop} {r : Int × M} (h : RoomIn w wr p n m c) (h0 : Mine w wr p F m) (s : St wr' p F' r.2) (mv : Moved wr wr' F F') (hs : Steps n m r) : RoomIn w wr' p n r.2 (c + 1) := by
  obtain ⟨h1, h2, h3⟩ := hs
  refine ⟨⟨F', h0.to s mv h2⟩, h1, ?_⟩
  have := h.cnt
  rcases h3 with ⟨_, h3⟩ | ⟨_, h3⟩
  · rw [h3]; omega
  · rw [h3]; omega
/-- What the law's second loop keeps: so many names are dropped. -/
def DropIn (w wz : World) (p : Nat) (q : Int) (m : M) (j : Nat) (na : Option Addr) (nc c : Nat) : Prop := ∃ F mj, Mine w wz p F mj ∧ Lit q mj ∧ mj.count ≤ c + j ∧ mj.dir = m.dir.drop j ∧ Row wz (.slice na m.names.length nc) (scells m.names) ∧ (∀ ad, na = some ad → ¬ F ad.block)
theorem Row.off {Y Z : World} {F F' : Nat → Prop} {na : Option Addr} {n nc : Nat} {cs : List Value} (h : Row Y (.slice na n nc) cs) (hb : ∀ ad, na = some ad → ¬ F ad.block) (mv : Moved Y Z F F') : Row Z (.slice na n nc) cs := by
  rcases h with h | ⟨a, cap, hv, h1, h2, h3⟩
  · exact .inl h
  · refine .inr ⟨a, cap, hv, h1, h2, fun j u hj => ?_⟩
    have h4 := h3 j u hj
    have h5 : (a.add j).block = a.block := Addr.block_add a j
    have h6 := World.block_lt_of_cell? _ _ h4
    rw [h5] at h6
    have h7 : na = some a := by injection hv
    have h8 := mv.block a.block h6 (hb a h7)
    rw [← h4]
    simp only [World.cell?, h5]
    rw [h8]
theorem names_lit {q : Int} {m : M} (h : Lit q m) : m.names = m.dir.map En.name := by
  unfold M.names
  rw [h.lit]
  rfl
/-- One name more. -/
theorem drop_next {w wz : World} {p : Nat} {q : Int} {m : M} {j : Nat} {na : Option Addr} {nc c : Nat} (h : DropIn w wz p q m j na nc c) (hm : m.names = m.dir.map En.name) (hj : j < m.names.length) (hc : c + j ≤ 800000) :
    ∃ b off, na = some ⟨b, off, none⟩ ∧ wz.cell? ⟨b, off + j, none⟩ = some (.string m.names[j]) ∧ Calls Try.prog 34 #[.pointer (some ⟨p, 0, none⟩), .string m.names[j]] wz fun e w' => e = .returned (.int .i64 0) ∧ DropIn w w' p q m (j + 1) na nc c := by
  obtain ⟨F, mj, h1, h2, h3, h4, h5, h6⟩ := h
  obtain ⟨b, off, cap, hv, _, _, hcell⟩ := h5.atStrs (by omega)
  injection hv with hv1 _ hv3
  subst hv1
  have hj' : j < m.dir.length := by rw [hm] at hj; simpa using hj
  have hd : mj.dir = m.dir[j] :: m.dir.drop (j + 1) := by rw [h4]; exact List.drop_eq_getElem_cons hj'
  have hn : m.names[j] = m.dir[j].name := by simp [hm]
  obtain ⟨d1, d2, d3⟩ := drop_first h2 h1.ok hd
  have hmem : m.dir[j] ∈ mj.dir := by rw [hd]; exact List.mem_cons_self
  have hsz : m.dir[j].name.size ≤ maxLen := by have := goodN_size (h1.ok.gd _ hmem); unfold maxLen; omega
  have hD := drop_any p F mj m.dir[j].name wz h1.st h1.ok (by omega) hsz
  rw [d1] at hD
  obtain ⟨s1, s2, _⟩ := lit_drop h2 h1.ok m.dir[j].name
  refine ⟨b, off, rfl, hcell j hj, ?_⟩
  rw [hn]
  refine hD.mono ?_
  rintro e w' ⟨rfl, F', st', mv'⟩
  refine ⟨rfl, F', _, h1.to st' mv' s2, s1, by omega, d2, h5.off h6 mv', fun ad had hF' => ?_⟩
  rcases mv'.sub _ hF' with hF | hF
  · exact h6 ad had hF
  · injection had with had
    have := World.block_lt_of_cell? _ _ (hcell j hj)
    rw [← had] at hF
    simp at this hF
    omega
theorem drop_end {w wz : World} {p : Nat} {q : Int} {m : M} {j : Nat} {na : Option Addr} {nc c : Nat} (h : DropIn w wz p q m j na nc c) (hm : m.names = m.dir.map En.name) (hj : j = m.names.length) :
    (Calls Try.prog 17 #[.pointer (some ⟨p, 0, none⟩)] wz fun e w' => e = .returned (.int .i64 0) ∧ w' = wz) ∧ Below w.heap.size w wz := by
  obtain ⟨F, mj, h1, h2, h3, h4, h5, h6⟩ := h
  have hd : mj.dir = [] := by
    rw [h4, List.drop_eq_nil_iff, hj, hm]
    simp
  have hu : mj.used = 0 := by
    unfold M.used M.need M.needL
    rw [hd, h2.lit]
    rfl
  have := used_any p F mj wz h1.st
  rw [hu] at this
  exact ⟨this, h1.bel⟩

set_option maxRecDepth 20000 in
set_option maxHeartbeats 8000000 in
theorem room_law (v : Value) (l : List Ac) (N : Int) (w : World) (hr : K.RowOf acells w v l) (hf : ∀ a ∈ l, a.Fits w) (hN : 0 ≤ N ∧ N < 18446744073709551616) :
    Calls Try.prog 7 #[.int .u64 N, v] w fun e w' => e = .returned (.bool true) ∧ Below w.heap.size w w' := by
  obtain ⟨va, vc, rfl⟩ := hr.slice
  obtain ⟨_, hlm, hat⟩ := acs_at hr
  have l63 : l.length ≤ 9223372036854775807 := by unfold maxLen at hlm; omega
  have HL : Hid (∀ V, Calls Try.prog 12 #[] V fun e w' => e = .returned (.bool true) ∧ Below V.heap.size V w') := lives_any
  obtain ⟨q, hq⟩ : ∃ q : Int, q = N % 200 := ⟨_, rfl⟩
  have q0 : 0 ≤ q := by omega
  have q7 : q < 200 := by omega
  have hqw : IntKind.i64.wrap (N % 200) = q := by rw [IntKind.wrap_i64]; omega
  have HR : Hid (K.RowOf acells w (.slice va l.length vc) l) := hr
  have HF : Hid (∀ a ∈ l, a.Fits w) := hf
  have HA : Hid _ := hat
  have hNw := new_any q w q0 (by omega)
  clear hr hf hat
  go_enter Try.func7, Try.ntmps7
  go_wp2_with fail
  rw [← hq]
  refine hNw.mono ?_
  rintro e w0 ⟨p, rfl, F0, s0, f0, b0⟩
  have H0 : Mine w w0 p F0 (M.new q) := ⟨s0, M.new_ok q0 (by omega), f0, b0⟩
  have R0 : RoomIn w w0 p q (M.new q) 0 := ⟨⟨F0, H0⟩, ⟨rfl, rfl, rfl, by simpa [M.new, M.need, M.needL] using q0⟩, Nat.le_refl _⟩
  clear hNw s0 f0 b0 H0
  have hLi := light_any (.slice va l.length vc) l w0 (HR.out.below R0.bel (Nat.le_refl _)) (fun a ha => (HF.out a ha).below R0.bel)
  go_wp2_with fail
  refine hLi.mono ?_
  rintro e w1 ⟨g, rfl, hg, b1⟩
  have R1 : Hid (RoomIn w w1 p q (M.new q) 0) := R0.go b1
  clear hLi R0
  cases g with
  | false =>
    have hB := R1.out.bel
    clear R1 hg b1
    go_wp2_with (go_at_call 12; refine (HL.out _).mono ?_; rintro e w4 ⟨rfl, b4⟩)
    go_ret
    exact ⟨rfl, keptW hB b4⟩
  | true =>
    obtain ⟨hl250, _⟩ := hg rfl
    clear hg b1
    go_wp2_with fail
    go_loopg [34] l.length (fun g u34 wr => ∃ (k : Nat) (m : M), u34 = .int .i64 k ∧ k ≤ l.length ∧ g = l.length - k ∧ Hid (RoomIn w wr p q m k))
    case atStart => exact ⟨0, _, rfl, Nat.zero_le _, rfl, R1⟩
    case round =>
      obtain ⟨k, m, rfl, hk, rfl, hG⟩ := hrel
      clear R1
      by_cases hlt : k < l.length
      · have hlt' : (k : Int) < (l.length : Int) := by omega
        obtain ⟨b, off, rfl, g0', g1', g2', g3', g4', g5'⟩ := HA.out k hlt
        have hfit := HF.out _ (List.getElem_mem hlt)
        obtain ⟨x, hx⟩ : ∃ x, l[k] = x := ⟨_, rfl⟩
        rw [hx] at g0' g1' g2' g3' g4' g5' hfit
        obtain ⟨X, hX⟩ : ∃ X, wr.alloc (.cells #[.int .i64 x.kind, .string x.a, .string x.b, .slice x.da x.dl x.dc, .int .i64 x.n, .int .i64 x.m] 31) = X := ⟨_, rfl⟩
        have hbx : Bx X wr.heap.size x := ac_box wr x hX
        have bX : Below wr.heap.size wr X := by rw [← hX]; exact (Below.refl _ _).alloc (Nat.le_refl _) _
        have g0 := cell_on hG.out.bel g0'
        have g1 := cell_on hG.out.bel g1'
        have g2 := cell_on hG.out.bel g2'
        have g3 := cell_on hG.out.bel g3'
        have g4 := cell_on hG.out.bel g4'
        have g5 := cell_on hG.out.bel g5'
        have RX := hG.out.go bX
        obtain ⟨F, HMX⟩ := RX.st
        have hlts := HMX.st.lts
        have hU := used_any p F m X HMX.st
        have hCt := count_any p F m X HMX.st
        have hcb : m.count ≤ 250 := by have := RX.cnt; omega
        have hNm := names_new p F m X HMX.st HMX.ok (by omega)
        have HBX : Hid (Bx X wr.heap.size x) := hbx
        obtain ⟨x0, x1, x2, x3, x4, x5⟩ := hbx
        have hlit := RX.lit
        have hok := HMX.ok
        have hused : ((m.used : Nat) : Int) ≤ q := by
          have h1 := hlit.fit
          unfold M.used
          rw [hlit.lit]
          simpa using h1
        have hnl : m.names.length ≤ 1000000 := by
          have h1 := hok.ld
          unfold M.names
          rw [hlit.lit]
          simp
          omega
        have HRX : Hid (RoomIn w X p q m k) := RX
        have HMX' : Hid (Mine w X p F m) := HMX
        have HFit : Hid (x.Fits w) := hfit
        have Hlts : Hid (∀ k, F k → k < X.heap.size) := hlts
        have Hlit : Hid (Lit q m ∧ m.Ok) := ⟨hlit, hok⟩
        clear g0' g1' g2' g3' g4' g5' hfit hG bX RX HMX hlts hx hlit hok
        obtain ⟨kd, hkd⟩ : ∃ z, x.kind = z := ⟨_, rfl⟩
        rw [hkd] at x0 g0 hX
        have HKd : x.kind = kd := hkd
        clear hkd
        by_cases hneg : kd < 0
        · clear hU hCt hNm
          go_wp2
          go_roundg (l.length - (k + 1))
          case measure => omega
          case rel => exact ⟨k + 1, m, by go_num, by omega, rfl, ⟨HRX.out.st, HRX.out.lit, Nat.le_succ_of_le HRX.out.cnt⟩⟩
        by_cases hbig : 6 < kd
        · clear hU hCt hNm
          go_wp2
          go_roundg (l.length - (k + 1))
          case measure => omega
          case rel => exact ⟨k + 1, m, by go_num, by omega, rfl, ⟨HRX.out.st, HRX.out.lit, Nat.le_succ_of_le HRX.out.cnt⟩⟩
        rcases (show kd = 0 ∨ kd = 1 ∨ kd = 2 ∨ kd = 3 ∨ kd = 4 ∨ kd = 5 ∨ kd = 6 by omega) with rfl | rfl | rfl | rfl | rfl | rfl | rfl
        · clear hneg hbig
          go_wp2_with fail
          refine hU.mono ?_
          rintro e X ⟨rfl, rfl⟩
          go_wp2_with fail
          refine hCt.mono ?_
          rintro e X ⟨rfl, rfl⟩
          go_wp2_with fail
          refine hNm.mono ?_
          rintro e Y ⟨v, rfl, ⟨rY, hbe⟩, bY⟩
          obtain ⟨na, nc, rfl, _⟩ := rY.sliceStrs
          have HMY := HMX'.out.go bY
          obtain ⟨y0, y1, y2, y3, y4, y5⟩ := HBX.out.go bY
          have RY := HRX.out.go bY
          obtain ⟨r, hr⟩ : ∃ r, m.make x.a = r := ⟨_, rfl⟩
          have hS := lit_make Hlit.out.1 Hlit.out.2 x.a
          have hC := make_any p F m x.a Y HMY.st Hlit.out.2 (by omega) HFit.out.al
          rw [hr] at hS hC
          have HX2 : Hid (∀ Z F', St Z p F' r.2 → Moved Y Z F F' → RoomIn w Z p q r.2 (k + 1) ∧ Row Z (.slice na m.names.length nc) (scells m.names)) := fun Z F' s mv => ⟨RY.to HMY s mv hS, rY.moved hbe Hlts.out mv⟩
          clear x0 x1 x2 x3 x4 x5 HMY RY rY hbe bY hU hCt hNm hr
          rw [HKd] at y0
          go_wp2_with fail
          refine hC.mono ?_
          rintro e Z ⟨rfl, F', s', mv'⟩
          obtain ⟨RZ, rZ⟩ := HX2.out Z F' s' mv'
          clear HX2 hC s' mv' y0 y1 y2 y3 y4 y5
          obtain ⟨hS1, hS2, hS3⟩ := hS
          obtain ⟨FZ, HMZ⟩ := RZ.st
          have hU := used_any p FZ r.2 Z HMZ.st
          have hCt := count_any p FZ r.2 Z HMZ.st
          have hused2 : ((r.2.used : Nat) : Int) ≤ q := by
            have h1 := hS1.fit
            unfold M.used
            rw [hS1.lit]
            simpa using h1
          have hgt : ¬ q < ((r.2.used : Nat) : Int) := by omega
          have HRZ : Hid (RoomIn w Z p q r.2 (k + 1)) := RZ
          rcases hS3 with ⟨he, hm⟩ | ⟨he, hc⟩
          · rw [hm] at hU hCt hgt
            have hNm := names_any p FZ m Z (by rw [← hm]; exact HMZ.st) Hlit.out.2 (by omega)
            have HT : Hid (∀ V va vc, Row V (.slice va m.names.length vc) (scells m.names) → Below Z.heap.size Z V → Calls Try.prog 14 #[.slice va m.names.length vc, .slice na m.names.length nc] V fun e w' => e = .returned (.bool true) ∧ Below V.heap.size V w') := fun V va vc h1 h2 => by
              have := texts_eq V _ _ m.names m.names h1 (rZ.below h2 (Nat.le_refl _)) hnl hnl
              simpa using this
            obtain ⟨e1, he1⟩ : ∃ e1, r.1 = e1 := ⟨_, rfl⟩
            rw [he1] at he ⊢
            clear RZ rZ HMZ he1 hS1 hS2 hm
            generalize m.used = uu at *
            generalize m.count = cc at *
            go_wp2_with (first
              | (go_at_call 17; refine hU.mono ?_; rintro e Z ⟨rfl, rfl⟩)
              | (go_at_call 19; refine hCt.mono ?_; rintro e Z ⟨rfl, rfl⟩)
              | (go_at_call 15; refine hNm.mono ?_; rintro e Z1 ⟨v1, rfl, r1, b1⟩; obtain ⟨na1, nc1, rfl, _⟩ := r1.sliceStrs)
              | (go_at_call 14; refine (HT.out _ _ _ r1 b1).mono ?_; rintro e Z2 ⟨rfl, b2⟩))
            go_roundg (l.length - (k + 1))
            case measure => omega
            case rel => exact ⟨k + 1, r.2, by go_num, by omega, rfl, (HRZ.out.go b1).go b2⟩
          · rw [he]
            rw [hc] at hCt
            have hcw : (((m.count + 1 : Nat)) : Int) = (m.count : Int) + 1 := by omega
            rw [hcw] at hCt
            clear RZ rZ HMZ hS1 hS2 he hc hcw
            generalize m.used = uu at *
            generalize m.count = cc at *
            generalize r.2.used = u2' at *
            go_wp2_with (first
              | (go_at_call 17; refine hU.mono ?_; rintro e Z ⟨rfl, rfl⟩)
              | (go_at_call 19; refine hCt.mono ?_; rintro e Z ⟨rfl, rfl⟩))
            go_roundg (l.length - (k + 1))
            case measure => omega
            case rel => exact ⟨k + 1, r.2, by go_num, by omega, rfl, HRZ⟩
        · clear hneg hbig
          go_wp2_with fail
          refine hU.mono ?_
          rintro e X ⟨rfl, rfl⟩
          go_wp2_with fail
          refine hCt.mono ?_
          rintro e X ⟨rfl, rfl⟩
          go_wp2_with fail
          refine hNm.mono ?_
          rintro e Y ⟨v, rfl, ⟨rY, hbe⟩, bY⟩
          obtain ⟨na, nc, rfl, _⟩ := rY.sliceStrs
          have HMY := HMX'.out.go bY
          obtain ⟨y0, y1, y2, y3, y4, y5⟩ := HBX.out.go bY
          have RY := HRX.out.go bY
          obtain ⟨bl, hbl, _⟩ := (HFit.out.below RY.bel).d
          obtain ⟨r, hr⟩ : ∃ r, m.write x.a bl = r := ⟨_, rfl⟩
          have hS := lit_write Hlit.out.1 Hlit.out.2 x.a bl
          have hC := write_any p F m x.a _ bl Y HMY.st Hlit.out.2 (by omega) HFit.out.al hbl
          rw [hr] at hS hC
          have HX2 : Hid (∀ Z F', St Z p F' r.2 → Moved Y Z F F' → RoomIn w Z p q r.2 (k + 1) ∧ Row Z (.slice na m.names.length nc) (scells m.names)) := fun Z F' s mv => ⟨RY.to HMY s mv hS, rY.moved hbe Hlts.out mv⟩
          clear x0 x1 x2 x3 x4 x5 HMY RY rY hbe bY hU hCt hNm hr
          clear hbl
          rw [HKd] at y0
          go_wp2_with fail
          refine hC.mono ?_
          rintro e Z ⟨rfl, F', s', mv'⟩
          obtain ⟨RZ, rZ⟩ := HX2.out Z F' s' mv'
          clear HX2 hC s' mv' y0 y1 y2 y3 y4 y5
          obtain ⟨hS1, hS2, hS3⟩ := hS
          obtain ⟨FZ, HMZ⟩ := RZ.st
          have hU := used_any p FZ r.2 Z HMZ.st
          have hCt := count_any p FZ r.2 Z HMZ.st
          have hused2 : ((r.2.used : Nat) : Int) ≤ q := by
            have h1 := hS1.fit
            unfold M.used
            rw [hS1.lit]
            simpa using h1
          have hgt : ¬ q < ((r.2.used : Nat) : Int) := by omega
          have HRZ : Hid (RoomIn w Z p q r.2 (k + 1)) := RZ
          rcases hS3 with ⟨he, hm⟩ | ⟨he, hc⟩
          · rw [hm] at hU hCt hgt
            have hNm := names_any p FZ m Z (by rw [← hm]; exact HMZ.st) Hlit.out.2 (by omega)
            have HT : Hid (∀ V va vc, Row V (.slice va m.names.length vc) (scells m.names) → Below Z.heap.size Z V → Calls Try.prog 14 #[.slice va m.names.length vc, .slice na m.names.length nc] V fun e w' => e = .returned (.bool true) ∧ Below V.heap.size V w') := fun V va vc h1 h2 => by
              have := texts_eq V _ _ m.names m.names h1 (rZ.below h2 (Nat.le_refl _)) hnl hnl
              simpa using this
            obtain ⟨e1, he1⟩ : ∃ e1, r.1 = e1 := ⟨_, rfl⟩
            rw [he1] at he ⊢
            clear RZ rZ HMZ he1 hS1 hS2 hm
            generalize m.used = uu at *
            generalize m.count = cc at *
            go_wp2_with (first
              | (go_at_call 17; refine hU.mono ?_; rintro e Z ⟨rfl, rfl⟩)
              | (go_at_call 19; refine hCt.mono ?_; rintro e Z ⟨rfl, rfl⟩)
              | (go_at_call 15; refine hNm.mono ?_; rintro e Z1 ⟨v1, rfl, r1, b1⟩; obtain ⟨na1, nc1, rfl, _⟩ := r1.sliceStrs)
              | (go_at_call 14; refine (HT.out _ _ _ r1 b1).mono ?_; rintro e Z2 ⟨rfl, b2⟩))
            go_roundg (l.length - (k + 1))
            case measure => omega
            case rel => exact ⟨k + 1, r.2, by go_num, by omega, rfl, (HRZ.out.go b1).go b2⟩
          · rw [he]
            rw [hc] at hCt
            have hcw : (((m.count + 1 : Nat)) : Int) = (m.count : Int) + 1 := by omega
            rw [hcw] at hCt
            clear RZ rZ HMZ hS1 hS2 he hc hcw
            generalize m.used = uu at *
            generalize m.count = cc at *
            generalize r.2.used = u2' at *
            go_wp2_with (first
              | (go_at_call 17; refine hU.mono ?_; rintro e Z ⟨rfl, rfl⟩)
              | (go_at_call 19; refine hCt.mono ?_; rintro e Z ⟨rfl, rfl⟩))
            go_roundg (l.length - (k + 1))
            case measure => omega
            case rel => exact ⟨k + 1, r.2, by go_num, by omega, rfl, HRZ⟩
        · clear hneg hbig
          go_wp2_with fail
          refine hU.mono ?_
          rintro e X ⟨rfl, rfl⟩
          go_wp2_with fail
          refine hCt.mono ?_
          rintro e X ⟨rfl, rfl⟩
          go_wp2_with fail
          refine hNm.mono ?_
          rintro e Y ⟨v, rfl, ⟨rY, hbe⟩, bY⟩
          obtain ⟨na, nc, rfl, _⟩ := rY.sliceStrs
          have HMY := HMX'.out.go bY
          obtain ⟨y0, y1, y2, y3, y4, y5⟩ := HBX.out.go bY
          have RY := HRX.out.go bY
          obtain ⟨r, hr⟩ : ∃ r, m.cut x.a x.n = r := ⟨_, rfl⟩
          have hS := lit_cut Hlit.out.1 Hlit.out.2 x.a x.n
          have hC := cut_any p F m x.a x.n Y HMY.st Hlit.out.2 (by omega) HFit.out.al
          rw [hr] at hS hC
          have HX2 : Hid (∀ Z F', St Z p F' r.2 → Moved Y Z F F' → RoomIn w Z p q r.2 (k + 1) ∧ Row Z (.slice na m.names.length nc) (scells m.names)) := fun Z F' s mv => ⟨RY.to HMY s mv hS, rY.moved hbe Hlts.out mv⟩
          clear x0 x1 x2 x3 x4 x5 HMY RY rY hbe bY hU hCt hNm hr
          rw [HKd] at y0
          go_wp2_with fail
          refine hC.mono ?_
          rintro e Z ⟨rfl, F', s', mv'⟩
          obtain ⟨RZ, rZ⟩ := HX2.out Z F' s' mv'
          clear HX2 hC s' mv' y0 y1 y2 y3 y4 y5
          obtain ⟨hS1, hS2, hS3⟩ := hS
          obtain ⟨FZ, HMZ⟩ := RZ.st
          have hU := used_any p FZ r.2 Z HMZ.st
          have hCt := count_any p FZ r.2 Z HMZ.st
          have hused2 : ((r.2.used : Nat) : Int) ≤ q := by
            have h1 := hS1.fit
            unfold M.used
            rw [hS1.lit]
            simpa using h1
          have hgt : ¬ q < ((r.2.used : Nat) : Int) := by omega
          have HRZ : Hid (RoomIn w Z p q r.2 (k + 1)) := RZ
          rcases hS3 with ⟨he, hm⟩ | ⟨he, hc⟩
          · rw [hm] at hU hCt hgt
            have hNm := names_any p FZ m Z (by rw [← hm]; exact HMZ.st) Hlit.out.2 (by omega)
            have HT : Hid (∀ V va vc, Row V (.slice va m.names.length vc) (scells m.names) → Below Z.heap.size Z V → Calls Try.prog 14 #[.slice va m.names.length vc, .slice na m.names.length nc] V fun e w' => e = .returned (.bool true) ∧ Below V.heap.size V w') := fun V va vc h1 h2 => by
              have := texts_eq V _ _ m.names m.names h1 (rZ.below h2 (Nat.le_refl _)) hnl hnl
              simpa using this
            obtain ⟨e1, he1⟩ : ∃ e1, r.1 = e1 := ⟨_, rfl⟩
            rw [he1] at he ⊢
            clear RZ rZ HMZ he1 hS1 hS2 hm
            generalize m.used = uu at *
            generalize m.count = cc at *
            go_wp2_with (first
              | (go_at_call 17; refine hU.mono ?_; rintro e Z ⟨rfl, rfl⟩)
              | (go_at_call 19; refine hCt.mono ?_; rintro e Z ⟨rfl, rfl⟩)
              | (go_at_call 15; refine hNm.mono ?_; rintro e Z1 ⟨v1, rfl, r1, b1⟩; obtain ⟨na1, nc1, rfl, _⟩ := r1.sliceStrs)
              | (go_at_call 14; refine (HT.out _ _ _ r1 b1).mono ?_; rintro e Z2 ⟨rfl, b2⟩))
            go_roundg (l.length - (k + 1))
            case measure => omega
            case rel => exact ⟨k + 1, r.2, by go_num, by omega, rfl, (HRZ.out.go b1).go b2⟩
          · rw [he]
            rw [hc] at hCt
            have hcw : (((m.count + 1 : Nat)) : Int) = (m.count : Int) + 1 := by omega
            rw [hcw] at hCt
            clear RZ rZ HMZ hS1 hS2 he hc hcw
            generalize m.used = uu at *
            generalize m.count = cc at *
            generalize r.2.used = u2' at *
            go_wp2_with (first
              | (go_at_call 17; refine hU.mono ?_; rintro e Z ⟨rfl, rfl⟩)
              | (go_at_call 19; refine hCt.mono ?_; rintro e Z ⟨rfl, rfl⟩))
            go_roundg (l.length - (k + 1))
            case measure => omega
            case rel => exact ⟨k + 1, r.2, by go_num, by omega, rfl, HRZ⟩
        · clear hneg hbig
          go_wp2_with fail
          refine hU.mono ?_
          rintro e X ⟨rfl, rfl⟩
          go_wp2_with fail
          refine hCt.mono ?_
          rintro e X ⟨rfl, rfl⟩
          go_wp2_with fail
          refine hNm.mono ?_
          rintro e Y ⟨v, rfl, ⟨rY, hbe⟩, bY⟩
          obtain ⟨na, nc, rfl, _⟩ := rY.sliceStrs
          have HMY := HMX'.out.go bY
          obtain ⟨y0, y1, y2, y3, y4, y5⟩ := HBX.out.go bY
          have RY := HRX.out.go bY
          obtain ⟨r, hr⟩ : ∃ r, m.sync x.a = r := ⟨_, rfl⟩
          have hS := lit_sync Hlit.out.1 Hlit.out.2 x.a
          have hC := sync_any p F m x.a Y HMY.st Hlit.out.2 (by omega) HFit.out.al
          rw [hr] at hS hC
          have HX2 : Hid (∀ Z F', St Z p F' r.2 → Moved Y Z F F' → RoomIn w Z p q r.2 (k + 1) ∧ Row Z (.slice na m.names.length nc) (scells m.names)) := fun Z F' s mv => ⟨RY.to HMY s mv hS, rY.moved hbe Hlts.out mv⟩
          clear x0 x1 x2 x3 x4 x5 HMY RY rY hbe bY hU hCt hNm hr
          rw [HKd] at y0
          go_wp2_with fail
          refine hC.mono ?_
          rintro e Z ⟨rfl, F', s', mv'⟩
          obtain ⟨RZ, rZ⟩ := HX2.out Z F' s' mv'
          clear HX2 hC s' mv' y0 y1 y2 y3 y4 y5
          obtain ⟨hS1, hS2, hS3⟩ := hS
          obtain ⟨FZ, HMZ⟩ := RZ.st
          have hU := used_any p FZ r.2 Z HMZ.st
          have hCt := count_any p FZ r.2 Z HMZ.st
          have hused2 : ((r.2.used : Nat) : Int) ≤ q := by
            have h1 := hS1.fit
            unfold M.used
            rw [hS1.lit]
            simpa using h1
          have hgt : ¬ q < ((r.2.used : Nat) : Int) := by omega
          have HRZ : Hid (RoomIn w Z p q r.2 (k + 1)) := RZ
          rcases hS3 with ⟨he, hm⟩ | ⟨he, hc⟩
          · rw [hm] at hU hCt hgt
            have hNm := names_any p FZ m Z (by rw [← hm]; exact HMZ.st) Hlit.out.2 (by omega)
            have HT : Hid (∀ V va vc, Row V (.slice va m.names.length vc) (scells m.names) → Below Z.heap.size Z V → Calls Try.prog 14 #[.slice va m.names.length vc, .slice na m.names.length nc] V fun e w' => e = .returned (.bool true) ∧ Below V.heap.size V w') := fun V va vc h1 h2 => by
              have := texts_eq V _ _ m.names m.names h1 (rZ.below h2 (Nat.le_refl _)) hnl hnl
              simpa using this
            obtain ⟨e1, he1⟩ : ∃ e1, r.1 = e1 := ⟨_, rfl⟩
            rw [he1] at he ⊢
            clear RZ rZ HMZ he1 hS1 hS2 hm
            generalize m.used = uu at *
            generalize m.count = cc at *
            go_wp2_with (first
              | (go_at_call 17; refine hU.mono ?_; rintro e Z ⟨rfl, rfl⟩)
              | (go_at_call 19; refine hCt.mono ?_; rintro e Z ⟨rfl, rfl⟩)
              | (go_at_call 15; refine hNm.mono ?_; rintro e Z1 ⟨v1, rfl, r1, b1⟩; obtain ⟨na1, nc1, rfl, _⟩ := r1.sliceStrs)
              | (go_at_call 14; refine (HT.out _ _ _ r1 b1).mono ?_; rintro e Z2 ⟨rfl, b2⟩))
            go_roundg (l.length - (k + 1))
            case measure => omega
            case rel => exact ⟨k + 1, r.2, by go_num, by omega, rfl, (HRZ.out.go b1).go b2⟩
          · rw [he]
            rw [hc] at hCt
            have hcw : (((m.count + 1 : Nat)) : Int) = (m.count : Int) + 1 := by omega
            rw [hcw] at hCt
            clear RZ rZ HMZ hS1 hS2 he hc hcw
            generalize m.used = uu at *
            generalize m.count = cc at *
            generalize r.2.used = u2' at *
            go_wp2_with (first
              | (go_at_call 17; refine hU.mono ?_; rintro e Z ⟨rfl, rfl⟩)
              | (go_at_call 19; refine hCt.mono ?_; rintro e Z ⟨rfl, rfl⟩))
            go_roundg (l.length - (k + 1))
            case measure => omega
            case rel => exact ⟨k + 1, r.2, by go_num, by omega, rfl, HRZ⟩
        · clear hneg hbig
          go_wp2_with fail
          refine hU.mono ?_
          rintro e X ⟨rfl, rfl⟩
          go_wp2_with fail
          refine hCt.mono ?_
          rintro e X ⟨rfl, rfl⟩
          go_wp2_with fail
          refine hNm.mono ?_
          rintro e Y ⟨v, rfl, ⟨rY, hbe⟩, bY⟩
          obtain ⟨na, nc, rfl, _⟩ := rY.sliceStrs
          have HMY := HMX'.out.go bY
          obtain ⟨y0, y1, y2, y3, y4, y5⟩ := HBX.out.go bY
          have RY := HRX.out.go bY
          obtain ⟨r, hr⟩ : ∃ r, m.move x.a x.b = r := ⟨_, rfl⟩
          have hS := lit_move Hlit.out.1 Hlit.out.2 x.a x.b
          have hC := move_any p F m x.a x.b Y HMY.st Hlit.out.2 (by omega) HFit.out.al HFit.out.bl
          rw [hr] at hS hC
          have HX2 : Hid (∀ Z F', St Z p F' r.2 → Moved Y Z F F' → RoomIn w Z p q r.2 (k + 1) ∧ Row Z (.slice na m.names.length nc) (scells m.names)) := fun Z F' s mv => ⟨RY.to HMY s mv hS, rY.moved hbe Hlts.out mv⟩
          clear x0 x1 x2 x3 x4 x5 HMY RY rY hbe bY hU hCt hNm hr
          rw [HKd] at y0
          go_wp2_with fail
          refine hC.mono ?_
          rintro e Z ⟨rfl, F', s', mv'⟩
          obtain ⟨RZ, rZ⟩ := HX2.out Z F' s' mv'
          clear HX2 hC s' mv' y0 y1 y2 y3 y4 y5
          obtain ⟨hS1, hS2, hS3⟩ := hS
          obtain ⟨FZ, HMZ⟩ := RZ.st
          have hU := used_any p FZ r.2 Z HMZ.st
          have hCt := count_any p FZ r.2 Z HMZ.st
          have hused2 : ((r.2.used : Nat) : Int) ≤ q := by
            have h1 := hS1.fit
            unfold M.used
            rw [hS1.lit]
            simpa using h1
          have hgt : ¬ q < ((r.2.used : Nat) : Int) := by omega
          have HRZ : Hid (RoomIn w Z p q r.2 (k + 1)) := RZ
          rcases hS3 with ⟨he, hm⟩ | ⟨he, hc⟩
          · rw [hm] at hU hCt hgt
            have hNm := names_any p FZ m Z (by rw [← hm]; exact HMZ.st) Hlit.out.2 (by omega)
            have HT : Hid (∀ V va vc, Row V (.slice va m.names.length vc) (scells m.names) → Below Z.heap.size Z V → Calls Try.prog 14 #[.slice va m.names.length vc, .slice na m.names.length nc] V fun e w' => e = .returned (.bool true) ∧ Below V.heap.size V w') := fun V va vc h1 h2 => by
              have := texts_eq V _ _ m.names m.names h1 (rZ.below h2 (Nat.le_refl _)) hnl hnl
              simpa using this
            obtain ⟨e1, he1⟩ : ∃ e1, r.1 = e1 := ⟨_, rfl⟩
            rw [he1] at he ⊢
            clear RZ rZ HMZ he1 hS1 hS2 hm
            generalize m.used = uu at *
            generalize m.count = cc at *
            go_wp2_with (first
              | (go_at_call 17; refine hU.mono ?_; rintro e Z ⟨rfl, rfl⟩)
              | (go_at_call 19; refine hCt.mono ?_; rintro e Z ⟨rfl, rfl⟩)
              | (go_at_call 15; refine hNm.mono ?_; rintro e Z1 ⟨v1, rfl, r1, b1⟩; obtain ⟨na1, nc1, rfl, _⟩ := r1.sliceStrs)
              | (go_at_call 14; refine (HT.out _ _ _ r1 b1).mono ?_; rintro e Z2 ⟨rfl, b2⟩))
            go_roundg (l.length - (k + 1))
            case measure => omega
            case rel => exact ⟨k + 1, r.2, by go_num, by omega, rfl, (HRZ.out.go b1).go b2⟩
          · rw [he]
            rw [hc] at hCt
            have hcw : (((m.count + 1 : Nat)) : Int) = (m.count : Int) + 1 := by omega
            rw [hcw] at hCt
            clear RZ rZ HMZ hS1 hS2 he hc hcw
            generalize m.used = uu at *
            generalize m.count = cc at *
            generalize r.2.used = u2' at *
            go_wp2_with (first
              | (go_at_call 17; refine hU.mono ?_; rintro e Z ⟨rfl, rfl⟩)
              | (go_at_call 19; refine hCt.mono ?_; rintro e Z ⟨rfl, rfl⟩))
            go_roundg (l.length - (k + 1))
            case measure => omega
            case rel => exact ⟨k + 1, r.2, by go_num, by omega, rfl, HRZ⟩
        · clear hneg hbig
          go_wp2_with fail
          refine hU.mono ?_
          rintro e X ⟨rfl, rfl⟩
          go_wp2_with fail
          refine hCt.mono ?_
          rintro e X ⟨rfl, rfl⟩
          go_wp2_with fail
          refine hNm.mono ?_
          rintro e Y ⟨v, rfl, ⟨rY, hbe⟩, bY⟩
          obtain ⟨na, nc, rfl, _⟩ := rY.sliceStrs
          have HMY := HMX'.out.go bY
          obtain ⟨y0, y1, y2, y3, y4, y5⟩ := HBX.out.go bY
          have RY := HRX.out.go bY
          obtain ⟨r, hr⟩ : ∃ r, m.drop x.a = r := ⟨_, rfl⟩
          have hS := lit_drop Hlit.out.1 Hlit.out.2 x.a
          have hC := drop_any p F m x.a Y HMY.st Hlit.out.2 (by omega) HFit.out.al
          rw [hr] at hS hC
          have HX2 : Hid (∀ Z F', St Z p F' r.2 → Moved Y Z F F' → RoomIn w Z p q r.2 (k + 1) ∧ Row Z (.slice na m.names.length nc) (scells m.names)) := fun Z F' s mv => ⟨RY.to HMY s mv hS, rY.moved hbe Hlts.out mv⟩
          clear x0 x1 x2 x3 x4 x5 HMY RY rY hbe bY hU hCt hNm hr
          rw [HKd] at y0
          go_wp2_with fail
          refine hC.mono ?_
          rintro e Z ⟨rfl, F', s', mv'⟩
          obtain ⟨RZ, rZ⟩ := HX2.out Z F' s' mv'
          clear HX2 hC s' mv' y0 y1 y2 y3 y4 y5
          obtain ⟨hS1, hS2, hS3⟩ := hS
          obtain ⟨FZ, HMZ⟩ := RZ.st
          have hU := used_any p FZ r.2 Z HMZ.st
          have hCt := count_any p FZ r.2 Z HMZ.st
          have hused2 : ((r.2.used : Nat) : Int) ≤ q := by
            have h1 := hS1.fit
            unfold M.used
            rw [hS1.lit]
            simpa using h1
          have hgt : ¬ q < ((r.2.used : Nat) : Int) := by omega
          have HRZ : Hid (RoomIn w Z p q r.2 (k + 1)) := RZ
          rcases hS3 with ⟨he, hm⟩ | ⟨he, hc⟩
          · rw [hm] at hU hCt hgt
            have hNm := names_any p FZ m Z (by rw [← hm]; exact HMZ.st) Hlit.out.2 (by omega)
            have HT : Hid (∀ V va vc, Row V (.slice va m.names.length vc) (scells m.names) → Below Z.heap.size Z V → Calls Try.prog 14 #[.slice va m.names.length vc, .slice na m.names.length nc] V fun e w' => e = .returned (.bool true) ∧ Below V.heap.size V w') := fun V va vc h1 h2 => by
              have := texts_eq V _ _ m.names m.names h1 (rZ.below h2 (Nat.le_refl _)) hnl hnl
              simpa using this
            obtain ⟨e1, he1⟩ : ∃ e1, r.1 = e1 := ⟨_, rfl⟩
            rw [he1] at he ⊢
            clear RZ rZ HMZ he1 hS1 hS2 hm
            generalize m.used = uu at *
            generalize m.count = cc at *
            go_wp2_with (first
              | (go_at_call 17; refine hU.mono ?_; rintro e Z ⟨rfl, rfl⟩)
              | (go_at_call 19; refine hCt.mono ?_; rintro e Z ⟨rfl, rfl⟩)
              | (go_at_call 15; refine hNm.mono ?_; rintro e Z1 ⟨v1, rfl, r1, b1⟩; obtain ⟨na1, nc1, rfl, _⟩ := r1.sliceStrs)
              | (go_at_call 14; refine (HT.out _ _ _ r1 b1).mono ?_; rintro e Z2 ⟨rfl, b2⟩))
            go_roundg (l.length - (k + 1))
            case measure => omega
            case rel => exact ⟨k + 1, r.2, by go_num, by omega, rfl, (HRZ.out.go b1).go b2⟩
          · rw [he]
            rw [hc] at hCt
            have hcw : (((m.count + 1 : Nat)) : Int) = (m.count : Int) + 1 := by omega
            rw [hcw] at hCt
            clear RZ rZ HMZ hS1 hS2 he hc hcw
            generalize m.used = uu at *
            generalize m.count = cc at *
            generalize r.2.used = u2' at *
            go_wp2_with (first
              | (go_at_call 17; refine hU.mono ?_; rintro e Z ⟨rfl, rfl⟩)
              | (go_at_call 19; refine hCt.mono ?_; rintro e Z ⟨rfl, rfl⟩))
            go_roundg (l.length - (k + 1))
            case measure => omega
            case rel => exact ⟨k + 1, r.2, by go_num, by omega, rfl, HRZ⟩
        · clear hneg hbig
          go_wp2_with fail
          refine hU.mono ?_
          rintro e X ⟨rfl, rfl⟩
          go_wp2_with fail
          refine hCt.mono ?_
          rintro e X ⟨rfl, rfl⟩
          go_wp2_with fail
          refine hNm.mono ?_
          rintro e Y ⟨v, rfl, ⟨rY, hbe⟩, bY⟩
          obtain ⟨na, nc, rfl, _⟩ := rY.sliceStrs
          have HMY := HMX'.out.go bY
          obtain ⟨y0, y1, y2, y3, y4, y5⟩ := HBX.out.go bY
          have RY := HRX.out.go bY
          obtain ⟨r, hr⟩ : ∃ r, m.commit  = r := ⟨_, rfl⟩
          have hS := lit_commit Hlit.out.1 Hlit.out.2 
          have hC := commit_any p F m  Y HMY.st Hlit.out.2 (by omega) 
          rw [hr] at hS hC
          have HX2 : Hid (∀ Z F', St Z p F' r.2 → Moved Y Z F F' → RoomIn w Z p q r.2 (k + 1) ∧ Row Z (.slice na m.names.length nc) (scells m.names)) := fun Z F' s mv => ⟨RY.to HMY s mv hS, rY.moved hbe Hlts.out mv⟩
          clear x0 x1 x2 x3 x4 x5 HMY RY rY hbe bY hU hCt hNm hr
          rw [HKd] at y0
          go_wp2_with fail
          refine hC.mono ?_
          rintro e Z ⟨rfl, F', s', mv'⟩
          obtain ⟨RZ, rZ⟩ := HX2.out Z F' s' mv'
          clear HX2 hC s' mv' y0 y1 y2 y3 y4 y5
          obtain ⟨hS1, hS2, hS3⟩ := hS
          obtain ⟨FZ, HMZ⟩ := RZ.st
          have hU := used_any p FZ r.2 Z HMZ.st
          have hCt := count_any p FZ r.2 Z HMZ.st
          have hused2 : ((r.2.used : Nat) : Int) ≤ q := by
            have h1 := hS1.fit
            unfold M.used
            rw [hS1.lit]
            simpa using h1
          have hgt : ¬ q < ((r.2.used : Nat) : Int) := by omega
          have HRZ : Hid (RoomIn w Z p q r.2 (k + 1)) := RZ
          rcases hS3 with ⟨he, hm⟩ | ⟨he, hc⟩
          · rw [hm] at hU hCt hgt
            have hNm := names_any p FZ m Z (by rw [← hm]; exact HMZ.st) Hlit.out.2 (by omega)
            have HT : Hid (∀ V va vc, Row V (.slice va m.names.length vc) (scells m.names) → Below Z.heap.size Z V → Calls Try.prog 14 #[.slice va m.names.length vc, .slice na m.names.length nc] V fun e w' => e = .returned (.bool true) ∧ Below V.heap.size V w') := fun V va vc h1 h2 => by
              have := texts_eq V _ _ m.names m.names h1 (rZ.below h2 (Nat.le_refl _)) hnl hnl
              simpa using this
            obtain ⟨e1, he1⟩ : ∃ e1, r.1 = e1 := ⟨_, rfl⟩
            rw [he1] at he ⊢
            clear RZ rZ HMZ he1 hS1 hS2 hm
            generalize m.used = uu at *
            generalize m.count = cc at *
            go_wp2_with (first
              | (go_at_call 17; refine hU.mono ?_; rintro e Z ⟨rfl, rfl⟩)
              | (go_at_call 19; refine hCt.mono ?_; rintro e Z ⟨rfl, rfl⟩)
              | (go_at_call 15; refine hNm.mono ?_; rintro e Z1 ⟨v1, rfl, r1, b1⟩; obtain ⟨na1, nc1, rfl, _⟩ := r1.sliceStrs)
              | (go_at_call 14; refine (HT.out _ _ _ r1 b1).mono ?_; rintro e Z2 ⟨rfl, b2⟩))
            go_roundg (l.length - (k + 1))
            case measure => omega
            case rel => exact ⟨k + 1, r.2, by go_num, by omega, rfl, (HRZ.out.go b1).go b2⟩
          · rw [he]
            rw [hc] at hCt
            have hcw : (((m.count + 1 : Nat)) : Int) = (m.count : Int) + 1 := by omega
            rw [hcw] at hCt
            clear RZ rZ HMZ hS1 hS2 he hc hcw
            generalize m.used = uu at *
            generalize m.count = cc at *
            generalize r.2.used = u2' at *
            go_wp2_with (first
              | (go_at_call 17; refine hU.mono ?_; rintro e Z ⟨rfl, rfl⟩)
              | (go_at_call 19; refine hCt.mono ?_; rintro e Z ⟨rfl, rfl⟩))
            go_roundg (l.length - (k + 1))
            case measure => omega
            case rel => exact ⟨k + 1, r.2, by go_num, by omega, rfl, HRZ⟩
      · have hlt' : ¬ (k : Int) < (l.length : Int) := by omega
        obtain ⟨F, HM⟩ := hG.out.st
        have hcb : m.count ≤ 250 := by have := hG.out.cnt; omega
        have hlit := hG.out.lit
        have hnm := names_lit hlit
        have hNm := names_new p F m wr HM.st HM.ok (by omega)
        have HD : Hid (∀ Y na nc, Row Y (.slice na m.names.length nc) (scells m.names) → Behind wr.heap.size (.slice na m.names.length nc) → Below wr.heap.size wr Y → DropIn w Y p q m 0 na nc 250) := fun Y na nc h1 h2 h3 => ⟨F, m, HM.go h3, hlit, by omega, by simp, h1, fun ad had hF => by
          subst had
          have := h2 ad _ _ rfl
          have := HM.st.lts _ hF
          omega⟩
        have hnl : m.names.length ≤ 250 := by have := HM.ok.ld; rw [hnm]; simp; omega
        have Hnm : Hid _ := hnm
        clear hG HM hlit HA HR HF hnm hlt hk
        go_wp2_with fail
        refine hNm.mono ?_
        rintro e Y ⟨v, rfl, ⟨rY, hbe⟩, bY⟩
        obtain ⟨na, nc, rfl, _⟩ := rY.sliceStrs
        have D0 : Hid (DropIn w Y p q m 0 na nc 250) := HD.out Y na nc rY hbe bY
        clear HD rY hbe bY hNm
        go_wp2_with fail
        go_loopg [142] m.names.length (fun g u142 wz => ∃ j : Nat, u142 = .int .i64 j ∧ j ≤ m.names.length ∧ g = m.names.length - j ∧ Hid (DropIn w wz p q m j na nc 250))
        case atStart => exact ⟨0, rfl, Nat.zero_le _, rfl, D0⟩
        case round =>
          obtain ⟨j, rfl, hj, rfl, hG⟩ := hrel
          clear D0
          by_cases hlt : j < m.names.length
          · have hlt2 : (j : Int) < (m.names.length : Int) := by omega
            obtain ⟨b, off, rfl, hcell, hD⟩ := drop_next hG.out Hnm.out hlt (by omega)
            generalize m.names[j] = nj at hcell hD
            clear hG
            go_wp2_with (go_at_call 34; refine hD.mono ?_; rintro e Z ⟨rfl, hZ⟩)
            go_roundg (m.names.length - (j + 1))
            case measure => omega
            case rel => exact ⟨j + 1, by go_num, by omega, rfl, hZ⟩
          · have hlt2 : ¬ (j : Int) < (m.names.length : Int) := by omega
            obtain ⟨hU, hB⟩ := drop_end hG.out Hnm.out (by omega)
            clear hG
            go_wp2_with (first
              | (go_at_call 17; refine hU.mono ?_; rintro e Z ⟨rfl, rfl⟩)
              | (go_at_call 12; refine (HL.out _).mono ?_; rintro e w4 ⟨rfl, b4⟩))
            go_ret
            exact ⟨rfl, keptW hB b4⟩
end Go.Proofs.Ytaoecclacldbcaa
