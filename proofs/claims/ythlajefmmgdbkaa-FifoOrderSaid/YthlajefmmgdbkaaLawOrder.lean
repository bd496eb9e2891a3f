/-
  THE STATEMENT FifoOrder, walked.
-/
import Derived.Test.YthlajefmmgdbkaaOrders
namespace Go.Proofs.Ythlajefmmgdbkaa
open Go.RowKit Go.Sort

theorem newS_has (n t : Nat) (b : ByteArray) (bs : List ByteArray) : Has (newS n) t b ↔ ∃ i, i < 0 ∧ t = i + 1 ∧ bs[i]? = some b := by
  constructor
  · rintro ⟨x, hx | hx, _⟩ <;> cases hx
  · rintro ⟨i, h, _⟩; omega

theorem below_drewN (w : World) (q : Nat) : Below w.heap.size w (w.drewN q) := ⟨rfl, rfl, rfl, Nat.le_refl _, fun _ _ => rfl⟩

set_option maxRecDepth 20000 in
set_option maxHeartbeats 4000000 in
theorem order_law (v0 v1 : Value) (bs : List ByteArray) (ns : List Nat) (w : World) (hb : RowOf scell w v0 bs) (hn : RowOf ncell w v1 ns) (hnb : ∀ n ∈ ns, n < 18446744073709551616) (hsz : ∀ b ∈ bs, b.size ≤ maxLen) (lb : bs.length ≤ maxLen) (ln : ns.length ≤ maxLen) :
    Calls Try.prog 6 #[v0, v1] w fun e w' => e = .returned (.bool true) ∧ Below w.heap.size w w' := by
  have hN := new_any 1000 w (by decide) (by decide)
  obtain ⟨a0, cap0, rfl⟩ := hb.slice
  obtain ⟨a1, cap1, rfl⟩ := hn.slice
  obtain ⟨_, hcm0, hA⟩ := hb.ones
  obtain ⟨_, hcm1, hB⟩ := hn.ones
  have l63 : bs.length ≤ 9223372036854775807 := by unfold maxLen at lb; omega
  have n63 : ns.length ≤ 9223372036854775807 := by unfold maxLen at ln; omega
  clear hb hn hcm0 hcm1
  go_enter Try.func6, Try.ntmps6
  go_wp2_with fail
  refine hN.mono ?_
  rintro e w1 ⟨p, rfl, F, q1, hF, b1⟩
  have H0 : Hold w w1 p F (newS 1000) := ⟨q1, newS_ok (by decide) (by decide), hF, b1⟩
  clear hN q1 hF b1
  by_cases h1 : 100 < bs.length
  · have h1' : (100 : Int) < (bs.length : Int) := by omega
    go_wp2_with fail
    refine (lives_any w1).mono ?_
    rintro e w2 ⟨rfl, b2⟩
    go_wp2
    go_ret
    exact ⟨rfl, (H0.below b2).bel⟩
  · have h1' : ¬ (100 : Int) < (bs.length : Int) := by omega
    by_cases h2 : 100 < ns.length
    · have h2' : (100 : Int) < (ns.length : Int) := by omega
      go_wp2_with fail
      refine (lives_any w1).mono ?_
      rintro e w2 ⟨rfl, b2⟩
      go_wp2
      go_ret
      exact ⟨rfl, (H0.below b2).bel⟩
    · have h2' : ¬ (100 : Int) < (ns.length : Int) := by omega
      go_wp2
      go_loopw [7, 36] (fun u7 u36 wr => ∃ k : Nat, u36 = .int .i64 k ∧ k ≤ bs.length ∧ ∃ F s, Hold w wr p F s ∧ Hid (s.most = 1000 ∧ s.out = [] ∧ s.rdy.length = k ∧ s.next = k + 1 ∧ ∀ t b, Has s t b ↔ ∃ i, i < k ∧ t = i + 1 ∧ bs[i]? = some b)) (fun u7 u36 wr => bs.length - (intOf u36).toNat)
      case atStart => exact ⟨0, rfl, Nat.zero_le _, F, newS 1000, H0, rfl, rfl, rfl, rfl, fun t b => newS_has 1000 t b bs⟩
      case round =>
        obtain ⟨k, rfl, hk, F1, s, H1, HI⟩ := hrel
        by_cases hlt2 : k < bs.length
        · have hlt : (k : Int) < (bs.length : Int) := by omega
          obtain ⟨b, off, rfl, hc⟩ := hA k hlt2
          have c0 := (H1.bel.cell (p := ⟨b, off + k, none⟩) (World.block_lt_of_cell? _ _ (hc _ rfl))).trans (hc _ rfl)
          have hbk : bs[k]? = some bs[k] := List.getElem?_eq_getElem hlt2
          have hszk := hsz _ (List.getElem_mem hlt2)
          have s63 : bs[k].size ≤ 9223372036854775807 := by unfold maxLen at hszk; omega
          have HBK : Hid (bs[k]? = some bs[k]) := hbk
          clear hA hB hbk hszk
          generalize bs[k] = body at *
          by_cases h3 : 500 < body.size
          · have h3' : (500 : Int) < (body.size : Int) := by omega
            go_wp2_with fail
            refine (lives_any wr).mono ?_
            rintro e w2 ⟨rfl, b2⟩
            go_wp2
            go_ret
            exact ⟨rfl, (H1.below b2).bel⟩
          · have h3' : ¬ (500 : Int) < (body.size : Int) := by omega
            have hpf := push_full (m := ⟨0, 0, 0, ⟨#[]⟩, ⟨#[]⟩, body⟩) HI.out.1 HI.out.2.1 HI.out.2.2.1 HI.out.2.2.2.1 (by omega) HBK.out HI.out.2.2.2.2
            have hP := push_any p F1 s ⟨0, 0, 0, ⟨#[]⟩, ⟨#[]⟩, body⟩ wr H1.q H1.ok
            have okP := H1.ok.push ⟨0, 0, 0, ⟨#[]⟩, ⟨#[]⟩, body⟩
            rw [hpf.1] at hP okP
            have HF : Hid _ := hpf.2
            clear hpf
            go_wp2_with fail
            refine hP.mono ?_
            rintro e w2 ⟨rfl, F2, q2, m2⟩
            go_wp2
            go_roundw
            case rel => exact ⟨k + 1, by go_num, by omega, F2, _, H1.go q2 m2 okP, HI.out.1, HI.out.2.1, by simp [HI.out.2.2.1], rfl, HF.out⟩
            case measure => simp [intOf]; omega
        · obtain rfl : k = bs.length := by omega
          have HF : Hid (s.most = 1000 ∧ Full s bs 0) := ⟨HI.out.1, fun t b => by
            rw [HI.out.2.2.2.2 t b]
            constructor
            · rintro ⟨i, h1, h2, h3⟩; exact ⟨i, Nat.zero_le _, h2, h3⟩
            · rintro ⟨i, _, h2, h3⟩; exact ⟨i, (List.getElem?_eq_some_iff.1 h3).1, h2, h3⟩⟩
          clear HI
          go_wp2
          go_loopw [9, 59] (fun u9 u59 wr => ∃ k : Nat, u59 = .int .i64 k ∧ k ≤ ns.length ∧ ∃ F s, Hold w wr p F s ∧ Hid (s.most = 1000 ∧ Full s bs 0)) (fun u9 u59 wr => ns.length - (intOf u59).toNat)
          case atStart => exact ⟨0, rfl, Nat.zero_le _, F1, s, H1, HF⟩
          case round =>
            clear H1 HF
            obtain ⟨k, rfl, hk, F1, s, H1, HI⟩ := hrel
            by_cases hlt2 : k < ns.length
            · have hlt : (k : Int) < (ns.length : Int) := by omega
              obtain ⟨b, off, rfl, hc⟩ := hB k hlt2
              have c0 := (H1.bel.cell (p := ⟨b, off + k, none⟩) (World.block_lt_of_cell? _ _ (hc _ rfl))).trans (hc _ rfl)
              have hnk := hnb _ (List.getElem_mem hlt2)
              clear hA hB
              generalize ns[k] = n at *
              have w1' : IntKind.i64.wrap ((bs.length : Int) + 1) = (bs.length : Int) + 1 := by rw [IntKind.wrap_i64]; omega
              have w2' : IntKind.u64.wrap ((bs.length : Int) + 1) = (bs.length : Int) + 1 := by rw [IntKind.wrap_u64]; omega
              go_wp2_with fail
              refine (give_any p F1 s wr H1.q H1.ok).mono ?_
              rintro e w2 ⟨rfl, F2, q2, m2⟩
              have H2 := H1.go q2 m2 H1.ok.give
              have hmod : n % (bs.length + 1) < bs.length + 1 := Nat.mod_lt _ (by omega)
              have w3' : IntKind.u64.wrap (1 + (n : Int) % ((bs.length : Int) + 1)) = ((1 + n % (bs.length + 1) : Nat) : Int) := by
                have e : (n : Int) % ((bs.length : Int) + 1) = ((n % (bs.length + 1) : Nat) : Int) := by first | (push_cast; rfl) | simp
                rw [e, IntKind.wrap_u64]; omega
              have W3 : Hid _ := w3'
              have htg : 1 + n % (bs.length + 1) < 18446744073709551616 := by omega
              clear w3'
              go_wp2_with fail
              rw [W3.out]
              generalize 1 + n % (bs.length + 1) = tg at *
              refine (back_any p F2 s.give.2.2 tg w2 H2.q H2.ok htg).mono ?_
              rintro e w3 ⟨rfl, F3, q3, m3⟩
              have H3 := H2.go q3 m3 (H2.ok.back tg)
              have HK : Hid (((s.give.2.2.back tg).2).most = 1000 ∧ Full (s.give.2.2.back tg).2 bs 0) := ⟨by rw [(back_keep _ _).1, (give_keep _).1]; exact HI.out.1, fun t b => by rw [back_has H2.ok, give_has]; exact HI.out.2 t b⟩
              go_wp2
              go_roundw
              case rel => exact ⟨k + 1, by go_num, by omega, F3, _, H3, HK⟩
              case measure => simp [intOf]; omega
            · obtain rfl : k = ns.length := by omega
              have hR := reset_any p F1 s wr H1.q H1.ok
              have hkp := reset_keep H1.ok
              have okR := H1.ok.reset
              have HS : Hid (s.reset.2.most = 1000 ∧ s.reset.2.out = [] ∧ Full s.reset.2 bs 0) := ⟨by rw [hkp.1]; exact HI.out.1, hkp.2.1, fun t b => by rw [hkp.2.2 t b]; exact HI.out.2 t b⟩
              clear hkp HI hB
              go_wp2_with fail
              refine hR.mono ?_
              rintro e w2 ⟨rfl, F2, q2, m2⟩
              have H2 := H1.go q2 m2 okR
              generalize s.reset.2 = s2 at *
              clear H1 hR q2 m2
              go_wp2
              go_loopw [11, 12, 13, 79] (fun u11 u12 u13 u79 wr => ∃ k : Nat, u79 = .int .i64 k ∧ k ≤ bs.length ∧ ∃ F s, Hold w wr p F s ∧ Hid (s.most = 1000 ∧ s.out = [] ∧ Full s bs k)) (fun u11 u12 u13 u79 wr => bs.length - (intOf u79).toNat)
              case atStart => exact ⟨0, rfl, Nat.zero_le _, F2, s2, H2, HS⟩
              case round =>
                clear H2 HS
                obtain ⟨k, rfl, hk, F1, s, H1, HI⟩ := hrel
                by_cases hlt2 : k < bs.length
                · have hlt : (k : Int) < (bs.length : Int) := by omega
                  obtain ⟨b, off, rfl, hc⟩ := hA k hlt2
                  have c0 := (H1.bel.cell (p := ⟨b, off + k, none⟩) (World.block_lt_of_cell? _ _ (hc _ rfl))).trans (hc _ rfl)
                  obtain ⟨x, r, hr, hxt, hxb, hd, hfu⟩ := order_step H1.ok HI.out.2.1 HI.out.2.2 hlt2
                  have hG := give_any p F1 s wr H1.q H1.ok
                  have okG := H1.ok.give
                  have hg := give_some hr
                  rw [hg] at hG okG hd
                  have okD := okG.done x.tag
                  simp only at hd hG okG okD
                  have HD : Hid _ := hd
                  have HU : Hid (s.most = 1000 ∧ Full { s with rdy := r, out := [] } bs (k + 1)) := ⟨HI.out.1, hfu⟩
                  have HXB : Hid (bs[k] = x.m.body) := hxb.symm
                  have hxl : x.tag < 18446744073709551616 := by omega
                  have c0' : wr.cell? ⟨b, off + k, none⟩ = some (.string x.m.body) := by rw [c0, HXB.out]
                  clear hA hc c0 hxb hd hfu hg hxt HI
                  go_wp2_with fail
                  refine hG.mono ?_
                  rintro e w2 ⟨rfl, F2, q2, m2⟩
                  have H2 := (H1.go q2 m2 okG).below (below_alloc w2 (.cells #[.int .u64 (x.tag : Int), .int .i64 x.m.o, .int .u64 x.m.s, .int .i64 x.m.hop, .string x.m.ex, .string x.m.key, .string x.m.body, .bool x.again] 38))
                  have hDn := done_any p F2 _ x.tag _ H2.q H2.ok hxl
                  rw [HD.out] at hDn okD
                  go_wp2_with fail
                  refine hDn.mono ?_
                  rintro e w3 ⟨rfl, F3, q3, m3⟩
                  have H3 := H2.go q3 m3 okD
                  go_wp2
                  go_roundw
                  case rel => exact ⟨k + 1, by go_num, by omega, F3, _, H3, HU.out.1, rfl, HU.out.2⟩
                  case measure => simp [intOf]; omega
                · obtain rfl : k = bs.length := by omega
                  have hr0 := order_end HI.out.2.2
                  have hG := give_any p F1 s wr H1.q H1.ok
                  rw [give_none hr0] at hG
                  have hrm : (s.most : Int) - s.rdy.length - s.out.length = 1000 := by rw [hr0, HI.out.1, HI.out.2.1]; rfl
                  have ok1 := H1.ok
                  clear hA HI
                  go_wp2_with fail
                  refine hG.mono ?_
                  rintro e w2 ⟨rfl, F2, q2, m2⟩
                  have H2 := (H1.go q2 m2 ok1).below (below_alloc w2 (.cells #[.int .u64 0, .int .i64 0, .int .u64 0, .int .i64 0, .string ⟨#[]⟩, .string ⟨#[]⟩, .string ⟨#[]⟩, .bool false] 38))
                  have hRm := room_any p F2 s _ H2.q H2.ok
                  rw [hrm] at hRm
                  go_wp2_with fail
                  refine hRm.mono ?_
                  rintro e w3 ⟨rfl, qn, rfl⟩
                  go_wp2_with fail
                  refine (lives_any _).mono ?_
                  rintro e w4 ⟨rfl, b4⟩
                  have H3 := (H2.below (below_drewN _ qn)).below b4
                  go_wp2
                  go_ret
                  exact ⟨rfl, H3.bel⟩
end Go.Proofs.Ythlajefmmgdbkaa
