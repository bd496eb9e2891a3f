/-
  A STORE of the call's own; the law's lives, by its contract.
-/
import Derived.Test.YtjgdmbfkondakaaTells
import Derived.Lib.SlBytesConst
namespace Go.Proofs.Ytjgdmbfkondakaa
open Go.RowKit Go.Maps

theorem keptW {w w1 w2 : World} (h : Below w.heap.size w w1) (k : Below w1.heap.size w1 w2) : Below w.heap.size w w2 := h.trans (k.mono h.size)
/-- A store of the call's own. -/
structure Mine (w wr : World) (p : Nat) (F : Nat → Prop) (m : M) : Prop where
  st : St wr p F m
  ok : m.Ok
  frm : ∀ k, F k → w.heap.size ≤ k
  bel : Below w.heap.size w wr
theorem Mine.go {w wr wr' : World} {p : Nat} {F : Nat → Prop} {m : M} (h : Mine w wr p F m) (b : Below wr.heap.size wr wr') : Mine w wr' p F m := ⟨h.st.kept b, h.ok, h.frm, keptW h.bel b⟩
theorem Mine.to {w wr wr' : World} {p : Nat} {F F' : Nat → Prop} {m m' : M} (h : Mine w wr p F m) (s : St wr' p F' m') (mv : Moved wr wr' F F') (ok : m'.Ok) : Mine w wr' p F' m' := ⟨s, ok, mv.from h.frm h.bel.size, mv.below h.frm h.bel h.bel.size⟩
theorem Mine.alloc {w wr : World} {p : Nat} {F : Nat → Prop} {m : M} (h : Mine w wr p F m) (o : Obj) : Mine w (wr.alloc o) p F m := h.go ((Below.refl _ _).alloc (Nat.le_refl _) _)
theorem holds_two (w : World) (a b : UInt8) (x y : Int) (fr : Nat × Nat) (hx : x = (a.toNat : Int)) (hy : y = (b.toNat : Int)) : Holds (w.alloc (.cells #[.int .u8 x, .int .u8 y] 5 fr)) (.slice (some ⟨w.heap.size, 0, none⟩) 2 2) [a, b] := by
  subst hx hy
  refine .inr ⟨⟨w.heap.size, 0, none⟩, 2, rfl, Nat.le_refl _, by unfold maxLen; omega, fun j u hj => ?_⟩
  rw [Addr.add_lit, Nat.zero_add, World.cell?_alloc_mark]
  simpa [bcells] using hj

def tA : ByteArray := ⟨#[97]⟩
def tB : ByteArray := ⟨#[98]⟩
def l1 : M := ((M.new 100).make tA).2
def l2 : M := (l1.write tA [120, 121]).2
def l3 : M := (l2.sync tA).2
def l4 : M := (l3.fail 0).power
def l5 : M := (l4.make tA).2
def l6 : M := (l5.write tA [120, 121]).2
def l7 : M := (l6.sync tA).2
def l8 : M := l7.commit.2
def l9 : M := (l8.write tA [122, 122]).2
def l10 : M := l9.fail 1
def l11 : M := l10.power
theorem lr1 : ((M.new 100).make tA).1 = 0 := by kernel_rfl
theorem lr2 : (l1.write tA [120, 121]).1 = 0 := by kernel_rfl
theorem lr3 : (l2.sync tA).1 = 0 := by kernel_rfl
theorem lr4 : l4.names = [] := by kernel_rfl
theorem lr5 : (l4.make tA).1 = 0 := by kernel_rfl
theorem lr6 : (l5.write tA [120, 121]).1 = 0 := by kernel_rfl
theorem lr7 : (l6.sync tA).1 = 0 := by kernel_rfl
theorem lr8 : l7.commit.1 = 0 := by kernel_rfl
theorem lr9 : (l8.write tA [122, 122]).1 = 0 := by kernel_rfl
theorem lr10 : l10.dark = true := by kernel_rfl
theorem lr11 : l10.make tB = (9, l10) := by kernel_rfl
theorem lr12 : l11.read tA = ([120, 121, 122], 0) := by kernel_rfl
theorem lr13 : l11.used = 19 := by kernel_rfl
theorem lo0 : (M.new 100).Ok := M.new_ok (by decide) (by decide)
theorem lo1 : l1.Ok := M.make_ok lo0 _
theorem lo2 : l2.Ok := M.write_ok lo1 _ _
theorem lo3 : l3.Ok := M.sync_ok lo2 _
theorem lo4 : l4.Ok := (lo3.fail 0).power
theorem lo5 : l5.Ok := M.make_ok lo4 _
theorem lo6 : l6.Ok := M.write_ok lo5 _ _
theorem lo7 : l7.Ok := M.sync_ok lo6 _
theorem lo8 : l8.Ok := M.commit_ok lo7
theorem lo9 : l9.Ok := M.write_ok lo8 _ _
theorem lo10 : l10.Ok := lo9.fail 1
theorem lo11 : l11.Ok := lo10.power
theorem lc : (M.new 100).count ≤ 900000 ∧ l1.count ≤ 900000 ∧ l2.count ≤ 900000 ∧ l3.count ≤ 900000 ∧ l4.count ≤ 900000 ∧ l5.count ≤ 900000 ∧ l6.count ≤ 900000 ∧ l7.count ≤ 900000 ∧ l8.count ≤ 900000 ∧ l9.count ≤ 900000 ∧ l10.count ≤ 900000 :=
  ⟨of_decide_eq_true (by kernel_rfl), of_decide_eq_true (by kernel_rfl), of_decide_eq_true (by kernel_rfl), of_decide_eq_true (by kernel_rfl), of_decide_eq_true (by kernel_rfl), of_decide_eq_true (by kernel_rfl), of_decide_eq_true (by kernel_rfl), of_decide_eq_true (by kernel_rfl), of_decide_eq_true (by kernel_rfl), of_decide_eq_true (by kernel_rfl), of_decide_eq_true (by kernel_rfl)⟩

set_option maxRecDepth 20000 in
set_option maxHeartbeats 4000000 in
theorem lives_any (w : World) : Calls Try.prog 19 #[] w fun e w' => e = .returned (.bool true) ∧ Below w.heap.size w w' := by
  obtain ⟨k0, k1, k2, k3, k4, k5, k6, k7, k8, k9, k10⟩ := lc
  have ta : tA.size ≤ maxLen := of_decide_eq_true (by kernel_rfl)
  have tb : tB.size ≤ maxLen := of_decide_eq_true (by kernel_rfl)
  have HX : Hid (∀ (V : World) (v : Value), Holds V v [120, 121, 122] → (convert 22 9 v).run Try.prog V = .ok (.string ⟨#[120, 121, 122]⟩) V) := fun V v hv => by
    have := run_string_of hv 22 9 5 Try.underlying22 Try.underlying5 Try.underlying9
    exact this
  have kc := fun (w : World) (C : Array Value) (n c : Nat) => Lib.run_convert_bytes_const (P := Try.prog) w 22 5 C n c Try.underlying22 Try.underlying5
  have hN := new_any 100 w (by decide) (by decide)
  go_enter Try.func19, Try.ntmps19
  go_wp2_with fail
  refine hN.mono ?_
  rintro e w0 ⟨p, rfl, F0, s0, f0, b0⟩
  have H0 : Mine w w0 p F0 (M.new 100) := ⟨s0, lo0, f0, b0⟩
  have hM1 := make_any p F0 _ tA w0 H0.st lo0 k0 ta
  rw [lr1] at hM1
  clear hN s0 f0 b0
  go_wp2_with fail
  refine hM1.mono ?_
  rintro e w1 ⟨rfl, F1, s1, m1⟩
  have H1 : Mine w w1 p F1 l1 := H0.to s1 m1 lo1
  clear hM1 s1 m1 H0
  have hW2 := write_any p F1 l1 tA _ [120, 121] _ (H1.alloc (.cells #[.int .u8 120, .int .u8 121] 5 (2, 2 + 1))).st lo1 k1 ta (holds_two w1 120 121 120 121 _ rfl rfl)
  rw [lr2] at hW2
  go_wp2_with fail
  refine hW2.mono ?_
  rintro e w2 ⟨rfl, F2, s2, m2⟩
  have H2 : Mine w w2 p F2 l2 := (H1.alloc _).to s2 m2 lo2
  clear hW2 s2 m2 H1
  have hS3 := sync_any p F2 l2 tA w2 H2.st lo2 k2 ta
  rw [lr3] at hS3
  go_wp2_with fail
  refine hS3.mono ?_
  rintro e w3 ⟨rfl, F3, s3, m3⟩
  have H3 : Mine w w3 p F3 l3 := H2.to s3 m3 lo3
  clear hS3 s3 m3 H2
  have hF4 := fail_any p F3 l3 0 w3 H3.st lo3 (by omega) (by decide)
  go_wp2_with fail
  refine hF4.mono ?_
  rintro e w4 ⟨rfl, F4, s4, m4⟩
  have H4 : Mine w w4 p F4 (l3.fail 0) := H3.to s4 m4 (lo3.fail 0)
  clear hF4 s4 m4 H3
  have hP4 := power_any p F4 _ w4 H4.st
  go_wp2_with fail
  refine hP4.mono ?_
  rintro e w5 ⟨rfl, F5, s5, m5⟩
  have H5 : Mine w w5 p F5 l4 := H4.to s5 m5 lo4
  clear hP4 s5 m5 H4
  have hN5 := names_any p F5 l4 w5 H5.st lo4 (by omega)
  rw [lr4] at hN5
  go_wp2_with fail
  refine hN5.mono ?_
  rintro e w6 ⟨v6, rfl, r6, b6⟩
  obtain ⟨a6, c6, rfl, _⟩ := r6.sliceStrs
  have H6 : Mine w w6 p F5 l4 := H5.go b6
  clear hN5 r6 b6 H5
  have hM6 := make_any p F5 l4 tA w6 H6.st lo4 k4 ta
  rw [lr5] at hM6
  go_wp2_with fail
  refine hM6.mono ?_
  rintro e w7 ⟨rfl, F7, s7, m7⟩
  have H7 : Mine w w7 p F7 l5 := H6.to s7 m7 lo5
  clear hM6 s7 m7 H6
  have hW7 := write_any p F7 l5 tA _ [120, 121] _ (H7.alloc (.cells #[.int .u8 120, .int .u8 121] 5 (2, 2 + 1))).st lo5 k5 ta (holds_two w7 120 121 120 121 _ rfl rfl)
  rw [lr6] at hW7
  go_wp2_with fail
  refine hW7.mono ?_
  rintro e w8 ⟨rfl, F8, s8, m8⟩
  have H8 : Mine w w8 p F8 l6 := (H7.alloc _).to s8 m8 lo6
  clear hW7 s8 m8 H7
  have hS8 := sync_any p F8 l6 tA w8 H8.st lo6 k6 ta
  rw [lr7] at hS8
  go_wp2_with fail
  refine hS8.mono ?_
  rintro e w9 ⟨rfl, F9, s9, m9⟩
  have H9 : Mine w w9 p F9 l7 := H8.to s9 m9 lo7
  clear hS8 s9 m9 H8
  have hC9 := commit_any p F9 l7 w9 H9.st lo7 k7
  rw [lr8] at hC9
  go_wp2_with fail
  refine hC9.mono ?_
  rintro e w10 ⟨rfl, F10, s10, m10⟩
  have H10 : Mine w w10 p F10 l8 := H9.to s10 m10 lo8
  clear hC9 s10 m10 H9
  have hW10 := write_any p F10 l8 tA _ [122, 122] _ (H10.alloc (.cells #[.int .u8 122, .int .u8 122] 5 (2, 2 + 1))).st lo8 k8 ta (holds_two w10 122 122 122 122 _ rfl rfl)
  rw [lr9] at hW10
  go_wp2_with fail
  refine hW10.mono ?_
  rintro e w11 ⟨rfl, F11, s11, m11⟩
  have H11 : Mine w w11 p F11 l9 := (H10.alloc _).to s11 m11 lo9
  clear hW10 s11 m11 H10
  have hF11 := fail_any p F11 l9 1 w11 H11.st lo9 (by omega) (by decide)
  go_wp2_with fail
  refine hF11.mono ?_
  rintro e w12 ⟨rfl, F12, s12, m12⟩
  have H12 : Mine w w12 p F12 l10 := H11.to s12 m12 lo10
  clear hF11 s12 m12 H11
  have hO := on_any p F12 l10 w12 H12.st
  rw [lr10] at hO
  go_wp2_with fail
  refine hO.mono ?_
  rintro e w12 ⟨rfl, rfl⟩
  clear hO
  have hM12 := make_any p F12 l10 tB w12 H12.st lo10 k10 tb
  rw [lr11] at hM12
  go_wp2_with fail
  refine hM12.mono ?_
  rintro e w13 ⟨rfl, F13, s13, m13⟩
  have H13 : Mine w w13 p F13 l10 := H12.to s13 m13 lo10
  clear hM12 s13 m13 H12
  have hP13 := power_any p F13 l10 w13 H13.st
  go_wp2_with fail
  refine hP13.mono ?_
  rintro e w14 ⟨rfl, F14, s14, m14⟩
  have H14 : Mine w w14 p F14 l11 := H13.to s14 m14 lo11
  clear hP13 s14 m14 H13
  have hR14 := read_any p F14 l11 tA w14 H14.st lo11 ta
  rw [lr12] at hR14
  go_wp2_with fail
  refine hR14.mono ?_
  rintro e w15 ⟨v15, rfl, hv15, b15⟩
  have H15 : Mine w w15 p F14 l11 := H14.go b15
  have hcv := HX.out w15 v15 hv15
  obtain ⟨a15, c15, rfl⟩ := hv15.slice
  have hcv' : (convert 22 9 (.slice a15 3 c15)).run Try.prog w15 = .ok (.string ⟨#[120, 121, 122]⟩) w15 := hcv
  clear hcv
  clear hR14 b15 H14 hv15
  have hU := used_any p F14 l11 w15 H15.st
  rw [lr13] at hU
  go_wp2_with (go_at_call 16; refine hU.mono ?_; rintro e w15 ⟨rfl, rfl⟩)
  go_ret
  exact ⟨rfl, H15.bel⟩
end Go.Proofs.Ytjgdmbfkondakaa
