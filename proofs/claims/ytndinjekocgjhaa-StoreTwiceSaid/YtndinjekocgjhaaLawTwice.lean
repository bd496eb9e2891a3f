/-
  THE LAW StoreTwice.
-/
import Derived.Test.YtndinjekocgjhaaLawActs
import Derived.Test.YtndinjekocgjhaaRead2
namespace Go.Proofs.Ytndinjekocgjhaa
open Go.RowKit

/-- A row of bytes in memory, as a slice's cell. -/
structure Bv where
  a : Option Addr
  n : Nat
  c : Nat
def bvc (x : Bv) : List Value := [.slice x.a x.n x.c]
instance : K.Enc bvc 1 where
  len _ := rfl
  one r u hu := by
    simp only [bvc, List.mem_cons, List.not_mem_nil, or_false] at hu
    rcases hu with rfl
    rfl
  pos := by decide
theorem bytesInfo : ∃ i, Try.prog.info? 29 = some i ∧ i.zero = some (.slice none 0 0) ∧ i.size = 1 ∧ i.bytes = 24 := by
  have hinfo : (Try.prog.info? 29).map (fun i => (i.zero, i.size, i.bytes)) = some (some (.slice none 0 0), 1, 24) := by kernel_rfl
  exact info_parts hinfo
/-- Behind a failure, powered: a second failure changes nothing. -/
theorem fail_again (m : M) (a b : Int) : ((m.fail a).power.fail b).power = (m.fail a).power := by
  unfold M.fail M.power
  simp only [List.map_map, M.mk.injEq, true_and, and_true]
  exact List.map_congr_left fun x _ => failF_twice a b x
theorem names_lit' {m : M} (h : m.dark = false) : m.names = m.dir.map En.name := by
  unfold M.names
  rw [h]
  rfl
theorem read_named {m : M} (ok : m.Ok) (hd : m.dark = false) {n : ByteArray} (hn : n ∈ m.names) : (m.read n).2 = 0 ∧ n.size ≤ maxLen := by
  rw [names_lit' hd] at hn
  obtain ⟨e, he, rfl⟩ := List.mem_map.1 hn
  have hg := ok.gd e he
  have hf : m.first e.name true = 0 := by
    unfold M.first
    rw [hd, hg, findE_mem ok.od he]
    rfl
  refine ⟨by unfold M.read; rw [if_neg (by simp [hf])], ?_⟩
  have := goodN_size hg
  unfold maxLen
  omega
/-- A slice that is not empty does not lie there. -/
def Apart (g : Nat) (v : Value) : Prop := ∀ ad n c, v = .slice (some ad) n c → 0 < n → ad.block ≠ g
theorem row_apart {W : World} {v : Value} {cs : List Value} {g : Nat} (h : Row W v cs) (hg : W.heap.size ≤ g) : Apart g v := by
  intro ad n c e hn
  rcases h with ⟨h, _⟩ | ⟨a, cap, h, h1, h2, h3⟩
  · rw [h] at e; cases e
  · rw [h] at e
    injection e with e1 e2 e3
    injection e1 with e1
    subst e1 e2
    have hc := h3 0 cs[0] (by simp [hn])
    have h6 := World.block_lt_of_cell? _ _ hc
    rw [Addr.block_add] at h6
    omega
theorem holds_apart {W : World} {v : Value} {l : List UInt8} {g : Nat} (h : Holds W v l) (hg : W.heap.size ≤ g) : Apart g v := by
  intro ad n c e hn
  rcases h with ⟨h, _⟩ | ⟨a, cap, h, h1, h2, h3⟩
  · rw [h] at e; cases e
  · rw [h] at e
    injection e with e1 e2 e3
    injection e1 with e1
    subst e1 e2
    have hc := h3 0 (.int .u8 ((l[0]).toNat : Int)) (by simp [bcells, hn])
    have h6 := World.block_lt_of_cell? _ _ hc
    rw [Addr.block_add] at h6
    omega
theorem row_grown {W W' : World} {v : Value} {cs : List Value} {ob : Option Nat} (h : Row W v cs) (gr : W.grownBy W' ob) (ha : ∀ g, ob = some g → Apart g v) : Row W' v cs := by
  rcases h with h | ⟨a, cap, rfl, h1, h2, h3⟩
  · exact .inl h
  · refine .inr ⟨a, cap, rfl, h1, h2, fun j u hj => ?_⟩
    have h4 := h3 j u hj
    have hpos : 0 < cs.length := by have := (List.getElem?_eq_some_iff.1 hj).1; omega
    have h5 : (a.add j).block = a.block := Addr.block_add a j
    have h6 := World.block_lt_of_cell? _ _ h4
    rw [h5] at h6
    have h8 := gr.block a.block h6 (fun e => ha _ e.symm a _ _ rfl hpos rfl)
    rw [← h4]
    simp only [World.cell?, h5]
    rw [h8]
theorem holds_grown {W W' : World} {v : Value} {l : List UInt8} {ob : Option Nat} (h : Holds W v l) (gr : W.grownBy W' ob) (ha : ∀ g, ob = some g → Apart g v) : Holds W' v l := by
  rcases h with h | ⟨a, cap, rfl, h1, h2, h3⟩
  · exact .inl h
  · refine .inr ⟨a, cap, rfl, h1, h2, fun j u hj => ?_⟩
    have h4 := h3 j u hj
    have hpos : 0 < l.length := by have := (List.getElem?_eq_some_iff.1 hj).1; rw [bcells_length] at this; omega
    have h5 : (a.add j).block = a.block := Addr.block_add a j
    have h6 := World.block_lt_of_cell? _ _ h4
    rw [h5] at h6
    have h8 := gr.block a.block h6 (fun e => ha _ e.symm a _ _ rfl hpos rfl)
    rw [← h4]
    simp only [World.cell?, h5]
    rw [h8]
/-- A store of the call's own, its names, the bytes of the first files, all apart. -/
structure Reads (w wz : World) (p : Nat) (F : Nat → Prop) (m : M) (z : Nat) (na : Option Addr) (nc : Nat) (v : Value) (B : List Bv) : Prop where
  st : Mine w wz p F m
  lt : w.heap.size ≤ z
  zb : z ≤ wz.heap.size
  row : Row wz (.slice na m.names.length nc) (scells m.names)
  rb : Behind z (.slice na m.names.length nc)
  own : K.OwnOf bvc 1 29 wz z v B
  ap : ∀ g, v.ownBlock = some g → Apart g (.slice na m.names.length nc) ∧ ∀ x ∈ B, Apart g (.slice x.a x.n x.c)
  txt : ∀ i (hi : i < B.length), ∃ n, m.names[i]? = some n ∧ Holds wz (.slice B[i].a B[i].n B[i].c) (m.read n).1 ∧ Behind z (.slice B[i].a B[i].n B[i].c)
section
variable {w wz wz' : World} {p z : Nat} {F F' : Nat → Prop} {m : M} {na : Option Addr} {nc : Nat} {v : Value} {B : List Bv}
theorem Reads.go (h : Reads w wz p F m z na nc v B) (b : Below wz.heap.size wz wz') : Reads w wz' p F m z na nc v B :=
  ⟨h.st.go b, h.lt, Nat.le_trans h.zb b.size, h.row.below b (Nat.le_refl _), h.rb, h.own.kept b (Nat.le_refl _), h.ap, fun i hi => by
    obtain ⟨n, h1, h2, h3⟩ := h.txt i hi
    exact ⟨n, h1, h2.below b (Nat.le_refl _), h3⟩⟩
/-- The store has changed, and is the same. -/
theorem Reads.to (h : Reads w wz p F m z na nc v B) (hF : ∀ k, F k → k < z) (s : St wz' p F' m) (mv : Moved wz wz' F F') : Reads w wz' p F' m z na nc v B :=
  ⟨h.st.to s mv h.st.ok, h.lt, Nat.le_trans h.zb mv.size, h.row.moved h.rb hF mv, h.rb, h.own.same fun g hg => mv.block g (h.own.lt hg).2 (fun hf => by have := hF g hf; have := (h.own.lt hg).1; omega), h.ap, fun i hi => by
    obtain ⟨n, h1, h2, h3⟩ := h.txt i hi
    exact ⟨n, h1, holds_moved h2 h3 hF mv, h3⟩⟩
/-- One file more is read. -/
theorem Reads.more {v' : Value} {x : Bv} {n : ByteArray} (h : Reads w wz p F m z na nc v B) (hn : m.names[B.length]? = some n) (hx : Holds wz (.slice x.a x.n x.c) (m.read n).1) (hb : Behind z (.slice x.a x.n x.c)) (hax : ∀ g, v.ownBlock = some g → Apart g (.slice x.a x.n x.c)) (gr : wz.grownBy wz' v.ownBlock) (own : K.OwnOf bvc 1 29 wz' z v' (B ++ [x])) (new : K.NewOr wz v v') (hF : ∀ k, F k → k < z) : Reads w wz' p F m z na nc v' (B ++ [x]) := by
  have hst : St wz' p F m := h.st.st.same fun k hk => gr.block k (h.st.st.lts k hk) fun e => by have := hF k hk; have := (h.own.lt e.symm).1; omega
  have hbel : Below w.heap.size w wz' := h.own.below gr h.st.bel h.st.bel.size h.lt
  refine ⟨⟨hst, h.st.ok, h.st.frm, hbel⟩, h.lt, Nat.le_trans h.zb gr.size, row_grown h.row gr fun g hg => (h.ap g hg).1, h.rb, own, fun g hg => ?_, fun i hi => ?_⟩
  · rcases new with e | ⟨g', e, e2⟩
    · rw [e] at hg
      refine ⟨(h.ap g hg).1, fun y hy => ?_⟩
      rcases List.mem_append.1 hy with hy | hy
      · exact (h.ap g hg).2 y hy
      · rw [List.mem_singleton.1 hy]; exact hax g hg
    · rw [e] at hg
      injection hg with hg
      subst hg
      refine ⟨row_apart h.row e2, fun y hy => ?_⟩
      rcases List.mem_append.1 hy with hy | hy
      · obtain ⟨i, hi, rfl⟩ := List.mem_iff_getElem.1 hy
        obtain ⟨_, _, h2, _⟩ := h.txt i hi
        exact holds_apart h2 e2
      · rw [List.mem_singleton.1 hy]; exact holds_apart hx e2
  · by_cases hlt : i < B.length
    · obtain ⟨n', h1, h2, h3⟩ := h.txt i hlt
      rw [List.getElem_append_left hlt]
      exact ⟨n', h1, holds_grown h2 gr fun g hg => (h.ap g hg).2 _ (List.getElem_mem hlt), h3⟩
    · have e : i = B.length := by simp at hi; omega
      subst e
      simp only [List.getElem_concat_length]
      exact ⟨n, hn, holds_grown hx gr hax, hb⟩
end
set_option maxRecDepth 20000 in
set_option maxHeartbeats 8000000 in
theorem twice_law (v : Value) (l : List Ac) (a b : Int) (w : World) (hr : K.RowOf acells w v l) (hf : ∀ a ∈ l, a.Fits w) (ha : -9223372036854775808 ≤ a ∧ a < 9223372036854775808) (hb : -9223372036854775808 ≤ b ∧ b < 9223372036854775808) :
    Calls Try.prog 4 #[v, .int .i64 a, .int .i64 b] w fun e w' => e = .returned (.bool true) ∧ Below w.heap.size w w' := by
  obtain ⟨va, vc, rfl⟩ := hr.slice
  obtain ⟨_, hlm, hat⟩ := acs_at hr
  have l63 : l.length ≤ 9223372036854775807 := by unfold maxLen at hlm; omega
  have HL : Hid (∀ V, Calls Try.prog 8 #[] V fun e w' => e = .returned (.bool true) ∧ Below V.heap.size V w') := lives_any
  have HR : Hid (K.RowOf acells w (.slice va l.length vc) l) := hr
  have HF : Hid (∀ a ∈ l, a.Fits w) := hf
  have HA : Hid _ := hat
  clear hr hf hat
  have hNw := new_any 10000 w (by decide) (by decide)
  have hRw := fun V => rnew_any 10000 V (by decide) (by decide)
  go_enter Try.func4, Try.ntmps4
  go_wp2_with fail
  refine hNw.mono ?_
  rintro e w0 ⟨p, rfl, F0, s0, f0, b0⟩
  clear hNw
  go_wp2_with fail
  refine (hRw w0).mono ?_
  rintro e w1 ⟨q, rfl, G0, t0, g0, c0⟩
  clear hRw
  have T0 := two_new (by decide) (by decide) s0 f0 b0 t0 g0 c0
  clear s0 f0 b0 t0 g0 c0
  have hLi := light_any (.slice va l.length vc) l w1 (HR.out.below T0.bel (Nat.le_refl _)) (fun a ha => (HF.out a ha).below T0.bel)
  go_wp2_with fail
  refine hLi.mono ?_
  rintro e w2 ⟨g, rfl, hg, b2⟩
  have T2 : Hid (Two w w2 p F0 (M.new 10000) q G0 (M.new 10000)) := T0.below b2
  clear hLi T0
  cases g with
  | false =>
    have hB := T2.out.bel
    clear T2 hg b2
    go_wp2_with (go_at_call 8; refine (HL.out _).mono ?_; rintro e w4 ⟨rfl, b4⟩)
    go_ret
    exact ⟨rfl, keptW hB b4⟩
  | true =>
    obtain ⟨hl250, hbs⟩ := hg rfl
    have HBS : Hid _ := hbs
    clear hg b2 hbs
    go_wp2_with fail
    go_loopg [37] l.length (fun g u37 wr => ∃ (k : Nat) (m : M) (F G : Nat → Prop), u37 = .int .i64 k ∧ k ≤ l.length ∧ g = l.length - k ∧ Two w wr p F m q G m ∧ m.count ≤ k)
    case atStart => exact ⟨0, _, _, _, rfl, Nat.zero_le _, rfl, T2.out, Nat.le_refl _⟩
    case round =>
    obtain ⟨k, m, F, G, rfl, hk, rfl, H, hcn⟩ := hrel
    clear T2
    by_cases hlt : k < l.length
    · have hlt' : (k : Int) < (l.length : Int) := by omega
      obtain ⟨bb, off, rfl, g0', g1', g2', g3', g4', g5'⟩ := HA.out k hlt
      have hfit := HF.out _ (List.getElem_mem hlt)
      have hsz := HBS.out _ (List.getElem_mem hlt)
      obtain ⟨x, hx⟩ : ∃ x, l[k] = x := ⟨_, rfl⟩
      rw [hx] at g0' g1' g2' g3' g4' g5' hfit hsz
      obtain ⟨X, hX⟩ : ∃ X, wr.alloc (.cells #[.int .i64 x.kind, .string x.a, .string x.b, .slice x.da x.dl x.dc, .int .i64 x.n, .int .i64 x.m] 31) = X := ⟨_, rfl⟩
      have HX := H.box x hX
      have g0 := cell_on H.bel g0'
      have g1 := cell_on H.bel g1'
      have g2 := cell_on H.bel g2'
      have g3 := cell_on H.bel g3'
      have g4 := cell_on H.bel g4'
      have g5 := cell_on H.bel g5'
      obtain ⟨x0, x1, x2, x3, x4, x5⟩ := HX.box
      obtain ⟨bl, hbl, _⟩ := hfit.d
      have hbll : bl.length ≤ 1000000 := by
        have h1 : x.dl = bl.length := by
          rcases hbl with ⟨hv, rfl⟩ | ⟨a, cap, hv, _⟩
          · injection hv
          · injection hv
        have := hsz.1
        omega
      have kA : Calls Try.prog 9 #[.pointer (some ⟨p, 0, none⟩), .pointer (some ⟨q, 0, none⟩), .agg #[.int .i64 x.kind, .string x.a, .string x.b, .slice x.da x.dl x.dc, .int .i64 x.n, .int .i64 x.m]] X fun e w' => e = .returned (.bool true) ∧ ∃ F' G', Two w w' p F' (actM m x bl) q G' (actM m x bl) := act_any x bl w X p q F G m HX.two hfit hbl hbll (by omega)
      have HCn : Hid ((actM m x bl).count ≤ k + 1) := by have := actM_count m x bl; show _ ≤ _; omega
      clear g0' g1' g2' g3' g4' g5' hfit hbl hbll hsz HX H hx hcn
      generalize actM m x bl = m' at *
      go_wp2_with (go_at_call 9; refine kA.mono ?_; clear kA; rintro e wa ⟨rfl, Fa, Ga, Ha⟩)
      go_roundg (l.length - (k + 1))
      case measure => omega
      case rel => exact ⟨k + 1, _, _, _, by go_num, by omega, rfl, Ha, HCn.out⟩
    · have hlt' : ¬ (k : Int) < (l.length : Int) := by omega
      have M0 : Mine w wr p F m := ⟨H.t, H.ok1, H.ft, H.bel⟩
      have hc0 : m.count ≤ 250 := by omega
      clear H hcn HA HF HR HBS
      have hP0 := power_any p F m wr M0.st
      go_wp2_with fail
      refine hP0.mono ?_
      rintro e u1 ⟨rfl, F1, s1, mv1⟩
      have M1 := M0.to s1 mv1 M0.ok.power
      clear hP0 s1 mv1 M0
      have hF1 := fail_any p F1 m.power a u1 M1.st M1.ok (by show m.count ≤ _; omega) ha
      go_wp2_with fail
      refine hF1.mono ?_
      rintro e u2 ⟨rfl, F2, s2, mv2⟩
      have M2 := M1.to s2 mv2 (M1.ok.fail a)
      clear hF1 s2 mv2 M1
      have hP2 := power_any p F2 _ u2 M2.st
      go_wp2_with fail
      refine hP2.mono ?_
      rintro e u3 ⟨rfl, F3, s3, mv3⟩
      have M3 := M2.to s3 mv3 M2.ok.power
      clear hP2 s3 mv3 M2
      have HAG : Hid (∀ c, ((m.power.fail a).power.fail c).power = (m.power.fail a).power) := fun c => fail_again m.power a c
      have hc3 : (m.power.fail a).power.count ≤ 250 := hc0
      have hd3 : (m.power.fail a).power.dark = false := rfl
      generalize (m.power.fail a).power = m3 at *
      clear hc0
      have hNm := names_new p F3 m3 u3 M3.st M3.ok (by omega)
      go_wp2_with fail
      refine hNm.mono ?_
      rintro e u4 ⟨v4, rfl, ⟨r4, hbe4⟩, b4⟩
      obtain ⟨na, nc, rfl, _⟩ := r4.sliceStrs
      have HFz : Hid (∀ k, F3 k → k < u3.heap.size) := M3.st.lts
      have R0 : Reads w u4 p F3 m3 u3.heap.size na nc (.slice none 0 0) [] := ⟨M3.go b4, M3.bel.size, b4.size, r4, hbe4, K.ownOf_nil _ _, fun g hg => by simp [Value.ownBlock] at hg, fun i hi => by simp at hi⟩
      have hnl : m3.names.length ≤ 1000000 := ok_names M3.ok (by omega)
      have n63 : m3.names.length ≤ 9223372036854775807 := by omega
      have HOK : Hid (m3.Ok) := M3.ok
      obtain ⟨z, hz⟩ : ∃ z, u3.heap.size = z := ⟨_, rfl⟩
      rw [hz] at R0 HFz
      obtain ⟨i0, hi0, hz0, hzs, hzb⟩ := bytesInfo
      clear hNm M3 r4 hbe4 b4 hz
      go_wp2_with fail
      go_loopg [12, 57] m3.names.length (fun g u12 u57 wz => ∃ (B : List Bv), u57 = .int .i64 B.length ∧ B.length ≤ m3.names.length ∧ g = m3.names.length - B.length ∧ ∃ ba bc, u12 = .slice ba B.length bc ∧ Reads w wz p F3 m3 z na nc (.slice ba B.length bc) B)
      case atStart => exact ⟨[], rfl, Nat.zero_le _, rfl, _, _, rfl, R0⟩
      case round =>
      obtain ⟨B, rfl, hB, rfl, ba, bc, rfl, HRd⟩ := hrel
      clear R0
      by_cases hlt2 : B.length < m3.names.length
      · have hlt2' : (B.length : Int) < (m3.names.length : Int) := by omega
        obtain ⟨gb, goff, gcap, hgv, _, _, hgc⟩ := HRd.row.atStrs (by omega)
        injection hgv with hgv1 _ hgv3
        subst hgv1 hgv3
        have n0 := hgc B.length hlt2
        obtain ⟨nm, hnm⟩ : ∃ nm, m3.names[B.length] = nm := ⟨_, rfl⟩
        rw [hnm] at n0
        obtain ⟨hrd0, hrs⟩ := read_named HOK.out hd3 (n := nm) (by rw [← hnm]; exact List.getElem_mem _)
        have hRead := read_new p F3 m3 nm wr HRd.st.st HOK.out hrs
        have HG : Hid (m3.names[B.length]? = some nm) := by show _ = _; rw [← hnm]; simp [hlt2]
        have HRD : Hid (Reads w wr p F3 m3 z (some ⟨gb, goff, none⟩) nc (.slice ba B.length bc) B) := HRd
        have hzb0 : Hid (z ≤ wr.heap.size ∧ ∀ g, (Value.slice ba B.length bc).ownBlock = some g → g < wr.heap.size) := ⟨HRd.zb, fun g hg => (HRd.own.lt hg).2⟩
        clear HRd hgc hnm hrs
        generalize (m3.read nm).2 = ze at *
        go_wp2_with fail
        refine hRead.mono ?_
        rintro e y1 ⟨v1, rfl, ⟨hv1, hbe1⟩, by1⟩
        obtain ⟨xa, xc, rfl⟩ := hv1.slice
        have R1 := HRD.out.go by1
        obtain ⟨Y, foldY⟩ : ∃ Y, y1.alloc (.cells #[.slice xa (m3.read nm).1.length xc] 29) = Y := ⟨_, rfl⟩
        have bY : Below y1.heap.size y1 Y := by rw [← foldY]; exact (Below.refl _ _).alloc (Nat.le_refl _) _
        have R2 := R1.go bY
        have row1 : K.RowOf bvc Y (.slice (some ⟨y1.heap.size, 0, none⟩) 1 1) [⟨xa, (m3.read nm).1.length, xc⟩] := by rw [← foldY]; exact K.row_one y1 (⟨xa, (m3.read nm).1.length, xc⟩ : Bv) _ rfl
        have HM : Hid (∀ w5 va' vc', Y.grownBy w5 (Value.slice ba B.length bc).ownBlock → K.OwnOf bvc 1 29 w5 z (.slice va' (B.length + 1) vc') (B ++ [⟨xa, (m3.read nm).1.length, xc⟩]) → K.NewOr Y (.slice ba B.length bc) (.slice va' (B.length + 1) vc') → Reads w w5 p F3 m3 z (some ⟨gb, goff, none⟩) nc (.slice va' (B.length + 1) vc') (B ++ [⟨xa, (m3.read nm).1.length, xc⟩])) := fun w5 va' vc' gr own new => by
          refine R2.more HG.out (hv1.below bY (Nat.le_refl _)) (fun ad n c e => ?_) (fun g hg ad n c e _ => ?_) gr own new HFz.out
          · have := hbe1 ad n c e; have := hzb0.out.1; omega
          · have := hbe1 ad n c e; have := hzb0.out.2 g hg; omega
        have oB := R2.own
        have HSZ : Hid (z ≤ Y.heap.size) := R2.zb
        clear hRead HRD hv1 hbe1 by1 bY R1 R2 hzb0 HG
        generalize (m3.read nm).1.length = ln at *
        go_wp2_with (at_builtin; refine K.wpList_append_rows (enc := bvc) rfl (.tmp 67) (.tmp 69) 43 rfl Try.underlying43 i0 _ 24 hi0 hz0 hzs hzb rfl z (.slice ba B.length bc) _ B [⟨xa, ln, xc⟩] rfl rfl oB row1 (by unfold maxLen; simp; omega) (by simp; omega) HSZ.out ?_; intro v' w5 own' gr' new'; obtain ⟨va', vc', hv'⟩ := own'.rng.slice; rw [List.length_append, List.length_singleton] at hv'; subst hv'; have RR := HM.out w5 va' vc' gr' own' new'; clear own' gr' new' HM oB row1)
        go_roundg (m3.names.length - (B.length + 1))
        case measure => omega
        case rel =>
          have hBx : (B ++ [(⟨xa, ln, xc⟩ : Bv)]).length = B.length + 1 := by rw [List.length_append]; rfl
          exact ⟨B ++ [⟨xa, ln, xc⟩], by rw [hBx]; go_num, by rw [hBx]; omega, by rw [hBx], _, _, by rw [hBx], by rw [hBx]; exact RR⟩
      · have hlt2' : ¬ (B.length : Int) < (m3.names.length : Int) := by omega
        have hBl : B.length = m3.names.length := by omega
        have hF2 := fail_any p F3 m3 b wr HRd.st.st HOK.out (by omega) hb
        have HRD : Hid (Reads w wr p F3 m3 z na nc (.slice ba B.length bc) B) := HRd
        clear HRd hB
        go_wp2_with fail
        refine hF2.mono ?_
        rintro e y1 ⟨rfl, F4, s4, mv4⟩
        clear hF2
        have hP4 := power_any p F4 _ y1 s4
        rw [HAG.out b] at hP4
        have MV4 : Hid (Moved wr y1 F3 F4) := mv4
        clear s4 mv4
        go_wp2_with fail
        refine hP4.mono ?_
        rintro e y2 ⟨rfl, F5, s5, mv5⟩
        clear hP4
        have R5 := HRD.out.to HFz.out s5 (MV4.out.trans mv5)
        have hNm5 := names_any p F5 m3 y2 R5.st.st HOK.out (by omega)
        clear s5 mv5 MV4 HRD
        go_wp2_with fail
        refine hNm5.mono ?_
        rintro e y3 ⟨v3, rfl, r3, b3⟩
        clear hNm5
        obtain ⟨na3, nc3, rfl, _⟩ := r3.sliceStrs
        have R6 := R5.go b3
        have hTx : Calls Try.prog 10 #[.slice na3 m3.names.length nc3, .slice na m3.names.length nc] y3 fun e w' => e = .returned (.bool true) ∧ Below y3.heap.size y3 w' := by
          have := texts_eq y3 _ _ m3.names m3.names r3 R6.row hnl hnl
          simpa using this
        clear r3 b3 R5
        go_wp2_with fail
        refine hTx.mono ?_
        rintro e y4 ⟨rfl, b4⟩
        have R7 := R6.go b4
        clear hTx R6 b4
        go_wp2_with fail
        go_loopg [84] m3.names.length (fun g u84 wz => ∃ (j : Nat), u84 = .int .i64 j ∧ j ≤ m3.names.length ∧ g = m3.names.length - j ∧ Reads w wz p F5 m3 z na nc (.slice ba B.length bc) B)
        case atStart => exact ⟨0, rfl, Nat.zero_le _, rfl, R7⟩
        case round =>
        obtain ⟨j, rfl, hj, rfl, HRd⟩ := hrel
        clear R7
        by_cases hlt3 : j < m3.names.length
        · have hlt3' : (j : Int) < (m3.names.length : Int) := by omega
          obtain ⟨gb, goff, gcap, hgv, _, _, hgc⟩ := HRd.row.atStrs (by omega)
          injection hgv with hgv1 _ hgv3
          subst hgv1 hgv3
          have n0 := hgc j hlt3
          obtain ⟨nm, hnm⟩ : ∃ nm, m3.names[j] = nm := ⟨_, rfl⟩
          rw [hnm] at n0
          obtain ⟨hrd0, hrs⟩ := read_named HOK.out hd3 (n := nm) (by rw [← hnm]; exact List.getElem_mem _)
          have hRead := read_any p F5 m3 nm wr HRd.st.st HOK.out hrs
          rw [hrd0] at hRead
          have hjB : j < B.length := by omega
          have hjB' : (j : Int) < (B.length : Int) := by omega
          obtain ⟨n', hn1, hn2, _⟩ := HRd.txt j hjB
          have hn' : n' = nm := by
            have h1 : m3.names[j]? = some nm := by rw [← hnm]; simp [hlt3]
            rw [h1] at hn1
            exact (Option.some.inj hn1).symm
          subst hn'
          obtain ⟨bb, boff, bcap, hbv, _, _, hbc⟩ := HRd.own.rng.at (by omega)
          injection hbv with hbv1 _ hbv3
          subst hbv1 hbv3
          have k0 := K.row_cell hbc j hjB 0 (by decide) _ rfl
          simp only [Nat.mul_one, Nat.add_zero] at k0
          have HRD : Hid (Reads w wr p F5 m3 z (some ⟨gb, goff, none⟩) nc (.slice (some ⟨bb, boff, none⟩) B.length bc) B) := HRd
          have HN2 : Hid (Holds wr (.slice B[j].a B[j].n B[j].c) (m3.read n').1) := hn2
          clear HRd hgc hbc hn1 hn2 hnm hrs hrd0
          obtain ⟨xb, hxb⟩ : ∃ xb, B[j] = xb := ⟨_, rfl⟩
          rw [hxb] at k0 HN2
          clear hxb
          generalize (m3.read n').1 = bs at *
          go_wp2_with fail
          refine hRead.mono ?_
          rintro e y6 ⟨v6, rfl, hv6, b6⟩
          have k1 := cell_on b6 k0
          have hSm : Calls Try.prog 20 #[v6, .slice xb.a xb.n xb.c] y6 fun e w' => e = .returned (.bool true) ∧ w' = y6 := by
            have := same_any v6 _ bs bs y6 hv6 (HN2.out.below b6 (Nat.le_refl _))
            rwa [beq_self_eq_true] at this
          have R8 := HRD.out.go b6
          clear hRead HRD HN2 hv6 b6 k0 n0
          go_wp2_with fail
          refine hSm.mono ?_
          rintro e y7 ⟨rfl, rfl⟩
          clear hSm
          go_wp2
          go_roundg (m3.names.length - (j + 1))
          case measure => omega
          case rel => exact ⟨j + 1, by go_num, by omega, rfl, R8⟩
        · have hlt3' : ¬ (j : Int) < (m3.names.length : Int) := by omega
          have hBB := HRd.st.bel
          clear HRd
          go_wp2_with (go_at_call 8; refine (HL.out _).mono ?_; rintro e w4 ⟨rfl, b4⟩)
          go_ret
          exact ⟨rfl, keptW hBB b4⟩
end Go.Proofs.Ytndinjekocgjhaa
