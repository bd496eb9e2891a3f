/-
  THE DOCUMENT's set, by its contract.
-/
import Derived.Test.YtndinjekocgjhaaRPlan
namespace Go.Proofs.Ytndinjekocgjhaa
open Go.RowKit

def setStep (n : ByteArray) (x : En) (s : List En × Bool) (e : En) : List En × Bool :=
  if e.name = n then s else if 0 < cmpS e.name n ∧ s.2 = false then (s.1 ++ [x] ++ [e], true) else (s.1 ++ [e], s.2)
def setFin (x : En) (s : List En × Bool) : List En := if s.2 then s.1 else s.1 ++ [x]
theorem cutE_cons (e : En) (r : List En) (n : ByteArray) : cutE (e :: r) n = if e.name = n then cutE r n else e :: cutE r n := by
  unfold cutE
  rw [List.filter_cons]
  by_cases h : e.name = n <;> simp [h]
theorem set_done (n : ByteArray) (x : En) (l : List En) (acc : List En) : l.foldl (setStep n x) (acc, true) = (acc ++ cutE l n, true) := by
  induction l generalizing acc with
  | nil => simp [cutE]
  | cons e r ih =>
    rw [List.foldl_cons, cutE_cons]
    unfold setStep
    by_cases h : e.name = n
    · rw [if_pos h, if_pos h]; exact ih acc
    · rw [if_neg h, if_neg h, if_neg (by simp)]
      rw [show (acc, true).1 = acc from rfl, show (acc, true).2 = true from rfl]
      have := ih (acc ++ [e])
      unfold setStep at this
      rw [this]
      simp
theorem set_open (n : ByteArray) (f : Nat) (l : List En) (acc : List En) : setFin ⟨n, f⟩ (l.foldl (setStep n ⟨n, f⟩) (acc, false)) = acc ++ insC cmpE ⟨n, f⟩ (cutE l n) := by
  induction l generalizing acc with
  | nil => simp [cutE, setFin, insC]
  | cons e r ih =>
    rw [List.foldl_cons, cutE_cons]
    by_cases h : e.name = n
    · rw [if_pos h, show setStep n ⟨n, f⟩ (acc, false) e = (acc, false) by unfold setStep; rw [if_pos h]]
      exact ih acc
    · rw [if_neg h, insC]
      have h0 : cmpE e ⟨n, f⟩ = cmpS e.name n := rfl
      rw [h0]
      by_cases h1 : cmpS e.name n < 0
      · rw [if_pos h1, show setStep n ⟨n, f⟩ (acc, false) e = (acc ++ [e], false) by unfold setStep; rw [if_neg h, if_neg (by omega)]]
        rw [ih (acc ++ [e])]
        simp
      · have h2 : cmpS e.name n ≠ 0 := fun e' => h (cmpS_eq e')
        rw [if_neg h1, show setStep n ⟨n, f⟩ (acc, false) e = (acc ++ [⟨n, f⟩] ++ [e], true) by unfold setStep; rw [if_neg h, if_pos ⟨by omega, rfl⟩]]
        rw [set_done]
        simp [setFin]
theorem set_put (n : ByteArray) (f : Nat) (l : List En) : setFin ⟨n, f⟩ (l.foldl (setStep n ⟨n, f⟩) ([], false)) = putE l n f := by
  rw [set_open]; rfl
theorem set_cut (n : ByteArray) (x : En) (l : List En) : setFin x (l.foldl (setStep n x) ([], true)) = cutE l n := by
  rw [set_done]; simp [setFin]

theorem entInfo : ∃ i, Try.prog.info? 77 = some i ∧ i.zero = some (.agg #[.string ⟨#[]⟩, .int .i64 0]) ∧ i.size = 2 ∧ i.bytes = 24 := by
  have hinfo : (Try.prog.info? 77).map (fun i => (i.zero, i.size, i.bytes)) = some (some (.agg #[.string ⟨#[]⟩, .int .i64 0]), 2, 24) := by kernel_rfl
  exact info_parts hinfo
theorem less_cb : ∀ a b : List UInt8, Op.bytesLess a b = decide (Lib.compareBytes a b < 0)
  | [], [] => by simp [Op.bytesLess, Lib.compareBytes]
  | [], _ :: _ => by simp [Op.bytesLess, Lib.compareBytes]
  | _ :: _, [] => by simp [Op.bytesLess, Lib.compareBytes]
  | x :: a, y :: b => by
    rw [Op.bytesLess, less_cb a b, Lib.compareBytes]
    by_cases h1 : x < y
    · rw [if_pos h1]; simp [h1]
    · rw [if_neg h1]
      by_cases h2 : y < x
      · rw [if_pos h2]
        have h3 : (x == y) = false := by
          rw [beq_eq_false_iff_ne]
          intro e
          rw [e] at h2
          exact absurd h2 (by rw [UInt8.lt_iff_toNat_lt]; omega)
        simp [h1, h3]
      · rw [if_neg h2]
        have h3 : x = y := by
          rw [UInt8.lt_iff_toNat_lt] at h1 h2
          exact UInt8.toNat_inj.1 (by omega)
        simp [h3]
theorem less_cmp (a b : ByteArray) : Op.bytesLess a.toList b.toList = decide (cmpS a b < 0) := by
  rw [less_cb, ByteArray.toList_eq, ByteArray.toList_eq]; rfl
theorem step_len (n : ByteArray) (x : En) (l : List En) (acc : List En) (d : Bool) : (l.foldl (setStep n x) (acc, d)).1.length ≤ acc.length + l.length + (if d then 0 else if (l.foldl (setStep n x) (acc, d)).2 then 1 else 0) := by
  induction l generalizing acc d with
  | nil => simp
  | cons e r ih =>
    rw [List.foldl_cons]
    unfold setStep
    by_cases h : e.name = n
    · rw [if_pos h]
      have := ih acc d
      unfold setStep at this
      rw [List.length_cons]
      omega
    · rw [if_neg h]
      by_cases h1 : 0 < cmpS e.name n ∧ (acc, d).2 = false
      · rw [if_pos h1]
        have := ih (acc ++ [x] ++ [e]) true
        have h2 := set_done n x r (acc ++ [x] ++ [e])
        unfold setStep at this h2
        obtain ⟨_, hd⟩ := h1
        simp only at hd
        subst hd
        rw [h2] at this ⊢
        simp at this ⊢
        omega
      · rw [if_neg h1]
        have := ih (acc ++ [e]) d
        unfold setStep at this
        simp only [List.length_append, List.length_cons, List.length_nil] at this ⊢
        omega
section
variable {w : World} {p : Nat} {A D S : Value} {L : List Rf} {kp : Int} {m : M}
theorem cell_on' {b i : Nat} {u : Value} {w' : World} (h : w.cell? ⟨b, i, none⟩ = some u) (hb : Below w.heap.size w w') : w'.cell? ⟨b, i, none⟩ = some u := cell_on hb h
theorem RAt.newDir {w1 V : World} {v : Value} {acc : List En} (h : RAt w p A D S L kp m) (hb : Below w.heap.size w w1) (own : K.OwnOf ecl 2 77 w1 w.heap.size v acc) (hV : V.heap = (w1.setCell ⟨p, 2, none⟩ v).heap) (h1 : V.os = w1.os) (h2 : V.tape = w1.tape) (h3 : V.output = w1.output) :
    ∃ D', RAt V p A D' S L kp { m with dir := acc } ∧ (∀ g, D'.ownBlock = some g → w.heap.size ≤ g) ∧ Moved w V (fun k => k = p) (fun k => k = p) := by
  have hp : p < w.heap.size := h.lts p (.inl rfl)
  have ho : ∀ k, k ≠ p → V.heap[k]? = w1.heap[k]? := fun k hk => by rw [hV, Below.heap_setCell _ _ _ _ hk]
  have h' := h.kept hb
  have ho' : ∀ g, v.ownBlock = some g → V.heap[g]? = w1.heap[g]? := fun g hg => ho g (by have := (own.lt hg).1; omega)
  refine ⟨v, ⟨?_, h'.keep, own_same h'.all fun g hg => ho g (h'.ne (.inl hg)), own_same (own.mono (Nat.zero_le _)) ho', own_same h'.sur fun g hg => ho g (h'.ne (.inr (.inr (.inl hg)))), h'.len, fun i hi => (h'.now i hi).same fun g hg => ho g (h'.ne (.inr (.inr (.inr ⟨_, List.getElem_mem hi, .inl hg⟩)))), fun i hi => (h'.sure i hi).same fun g hg => ho g (h'.ne (.inr (.inr (.inr ⟨_, List.getElem_mem hi, .inr hg⟩))))⟩, fun g hg => (own.lt hg).1, ?_⟩
  · rw [hV]
    exact heap_set_list (i := 2) h'.blk v
  · refine ⟨h1.trans hb.os, h2.trans hb.tape, h3.trans hb.output, by rw [hV]; simpa using hb.size, fun k hk hn => (ho k hn).trans (hb.block k hk), fun k hk => .inl hk⟩
set_option maxRecDepth 20000 in
set_option maxHeartbeats 2000000 in
theorem rset_at (h : RAt w p A D S L kp m) (n : ByteArray) (f : Int) (fn : Nat) (d0 : Bool) (hf0 : d0 = false → f = (fn : Int)) (hf1 : decide (f < 0) = d0) (hlen : m.dir.length ≤ 1000000) :
    Calls Try.prog 62 #[.pointer (some ⟨p, 0, none⟩), .string n, .int .i64 f] w fun e w' => e = .returned (.tuple #[]) ∧ ∃ D', RAt w' p A D' S L kp { m with dir := setFin ⟨n, fn⟩ (m.dir.foldl (setStep n ⟨n, fn⟩) ([], d0)) } ∧ (∀ g, D'.ownBlock = some g → w.heap.size ≤ g) ∧ Moved w w' (fun k => k = p) (fun k => k = p) := by
  obtain ⟨_, _, c2, _, _, _, _, _⟩ := h.cells
  have f2 := h.frozen 2
  have hr := h.dir.rng
  obtain ⟨va, vc, rfl⟩ := hr.slice
  obtain ⟨_, hlm, hat⟩ := ens_at hr
  obtain ⟨l, hl⟩ : ∃ l, m.dir = l := ⟨_, rfl⟩
  rw [hl] at c2 hat hlen ⊢
  have l63 : l.length ≤ 9223372036854775807 := by omega
  have HA : Hid _ := hat
  obtain ⟨i0, hi0, hz0, hzs, hzb⟩ := entInfo
  have HR : Hid (RAt w p A (.slice va l.length vc) S L kp m) := by rw [← hl]; exact h
  have HD : Hid (∀ k acc, (l.take k).foldl (setStep n ⟨n, fn⟩) ([], d0) = (acc, false) → f = (fn : Int)) := fun k acc he => by
    cases d0 with
    | false => exact hf0 rfl
    | true => rw [set_done] at he; simp at he
  clear hr hat h hl hf0
  go_enter Try.func62, Try.ntmps62
  go_wp2
  go_loopg [6, 7, 17] l.length (fun g u6 u7 u17 wr => ∃ (k : Nat) (d : Bool) (acc : List En), u17 = .int .i64 k ∧ k ≤ l.length ∧ g = l.length - k ∧ u7 = .bool d ∧ Hid ((l.take k).foldl (setStep n ⟨n, fn⟩) ([], d0) = (acc, d)) ∧ Hid (K.OwnOf ecl 2 77 wr w.heap.size u6 acc) ∧ Hid (Below w.heap.size w wr))
  case atStart => exact ⟨0, d0, [], rfl, Nat.zero_le _, rfl, by first | rfl | rw [hf1], rfl, K.ownOf_nil _ _, Below.refl _ _⟩
  case round =>
    obtain ⟨k, d, acc, rfl, hk, rfl, rfl, HF, HO, hB⟩ := hrel
    have hal : acc.length ≤ k + 1 := by
      have := step_len n ⟨n, fn⟩ (l.take k) [] d0
      rw [HF.out] at this
      simp only [List.length_nil, List.length_take] at this
      split at this
      · omega
      · split at this <;> omega
    obtain ⟨aa, ac, rfl⟩ := HO.out.rng.slice
    by_cases hlt : k < l.length
    · have hlt' : (k : Int) < (l.length : Int) := by omega
      obtain ⟨b, off, rfl, g0', g1'⟩ := HA.out k hlt
      have g0 := cell_on hB.out g0'
      have g1 := cell_on hB.out g1'
      obtain ⟨ek, hek⟩ : ∃ z, l[k] = z := ⟨_, rfl⟩
      rw [hek] at g0 g1
      have HF' : Hid ((l.take (k + 1)).foldl (setStep n ⟨n, fn⟩) ([], d0) = setStep n ⟨n, fn⟩ (acc, d) ek) := by
        show _ = _
        rw [List.take_succ_eq_append_getElem hlt, List.foldl_append, HF.out, hek]; rfl
      obtain ⟨X, hX⟩ : ∃ X, wr.alloc (.cells #[.string ek.name, .int .i64 (ek.f : Int)] 77) = X := ⟨_, rfl⟩
      have x0 : X.cell? ⟨wr.heap.size, 0, none⟩ = some (.string ek.name) := by
        have h := heap_alloc_new wr (.cells #[.string ek.name, .int .i64 (ek.f : Int)] 77)
        rw [hX] at h
        simp only [World.cell?]; rw [h]; rfl
      have x1 : X.cell? ⟨wr.heap.size, 1, none⟩ = some (.int .i64 (ek.f : Int)) := by
        have h := heap_alloc_new wr (.cells #[.string ek.name, .int .i64 (ek.f : Int)] 77)
        rw [hX] at h
        simp only [World.cell?]; rw [h]; rfl
      have oX : K.OwnOf ecl 2 77 X w.heap.size (.slice aa acc.length ac) acc := by rw [← hX]; exact HO.out.alloc _
      have HBX : Hid (Below w.heap.size w X) := by rw [← hX]; exact hB.out.alloc hB.out.size _
      clear g0' g1'
      by_cases he : ek.name = n
      · have HS : Hid (setStep n ⟨n, fn⟩ (acc, d) ek = (acc, d)) := by show _ = _; unfold setStep; rw [if_pos he]
        go_wp2
        go_roundg (l.length - (k + 1))
        case measure => omega
        case rel => exact ⟨k + 1, d, acc, by go_num, by omega, rfl, rfl, HF'.out.trans HS.out, HO.out.alloc _, hB.out.alloc hB.out.size _⟩
      · have hq : (ek.name.toList == n.toList) = false := by
          rw [Bool.eq_false_iff]
          intro h
          have h := eq_of_beq h
          rw [ByteArray.toList_eq, ByteArray.toList_eq] at h
          exact he (ByteArray.ext (Array.toList_inj.1 h))
        have hne : cmpS ek.name n ≠ 0 := fun e' => he (cmpS_eq e')
        have hlc := less_cmp ek.name n
        by_cases hgt : 0 < cmpS ek.name n ∧ d = false
        · obtain ⟨hg, rfl⟩ := hgt
          have hff := HD.out k acc HF.out
          subst hff
          rw [decide_eq_false (by omega)] at hlc
          have HS : Hid (setStep n ⟨n, fn⟩ (acc, false) ek = (acc ++ [⟨n, fn⟩] ++ [ek], true)) := by show _ = _; unfold setStep; rw [if_neg he, if_pos ⟨hg, rfl⟩]
          have HZ : Hid (∀ o w1, (X.alloc o).grownBy w1 (Value.slice aa acc.length ac).ownBlock → w1.cell? ⟨wr.heap.size, 0, none⟩ = some (.string ek.name) ∧ w1.cell? ⟨wr.heap.size, 1, none⟩ = some (.int .i64 (ek.f : Int))) := fun o w1 gr => by
            have hz : X.heap.size = wr.heap.size + 1 := by rw [← hX]; simp
            have hb := gr.block wr.heap.size (by simp [hz]; omega) (fun hh => by have := (HO.out.lt hh.symm).2; omega)
            have e0 := bcell (o := o) x0
            have e1 := bcell (o := o) x1
            simp only [World.cell?] at e0 e1 ⊢
            rw [hb]
            exact ⟨e0, e1⟩
          go_wp2_with (first | (at_builtin; refine K.wpList_append_rows (enc := ecl) rfl (.tmp 33) (.tmp 37) 38 rfl Try.underlying38 i0 _ 24 hi0 hz0 hzs hzb rfl w.heap.size (.slice aa acc.length ac) _ acc [⟨n, fn⟩] rfl rfl (oX.alloc _) (K.row_one _ (⟨n, fn⟩ : En) _ rfl) (by unfold maxLen; simp; omega) (by simp; omega) (by have := Below.size HBX.out; simp; omega) ?_; intro v' w' own' gr' _; have HW : Hid (Below w.heap.size w w') := (oX.alloc _).below gr' (Below.alloc HBX.out (Below.size HBX.out) _) (by have := Below.size HBX.out; simp; omega) (Nat.le_refl _); obtain ⟨z0, z1⟩ := HZ.out _ _ gr'; obtain ⟨va', vc', hv'⟩ := own'.rng.slice; rw [List.length_append, List.length_singleton] at hv'; subst hv') | (at_builtin; refine K.wpList_append_rows (enc := ecl) rfl (.tmp 39) (.tmp 41) 38 rfl Try.underlying38 i0 _ 24 hi0 hz0 hzs hzb rfl w.heap.size (.slice va' (acc.length + 1) vc') _ (acc ++ [⟨n, fn⟩]) [ek] rfl rfl (own'.alloc _) (K.row_one _ (ek) _ rfl) (by unfold maxLen; simp; omega) (by simp; omega) (by have := Below.size HW.out; simp; omega) ?_; intro v2 w2 own2 gr2 _; have HW2 : Hid (Below w.heap.size w w2) := (own'.alloc _).below gr2 (Below.alloc HW.out (Below.size HW.out) _) (by have := Below.size HW.out; simp; omega) (Nat.le_refl _); obtain ⟨va2, vc2, hv2⟩ := own2.rng.slice; rw [List.length_append, List.length_singleton, List.length_append, List.length_singleton] at hv2; subst hv2))
          go_roundg (l.length - (k + 1))
          case measure => omega
          case rel => exact ⟨k + 1, true, acc ++ [(⟨n, fn⟩ : En)] ++ [ek], by go_num, by omega, rfl, rfl, HF'.out.trans HS.out, own2, HW2⟩
        · have HS : Hid (setStep n ⟨n, fn⟩ (acc, d) ek = (acc ++ [ek], d)) := by show _ = _; unfold setStep; rw [if_neg he, if_neg hgt]
          have hc : (cmpS ek.name n < 0) ∨ d = true := by
            cases d with
            | true => exact .inr rfl
            | false => exact .inl (by simp only [and_true] at hgt; omega)
          rcases hc with hc | rfl
          · rw [decide_eq_true hc] at hlc
            go_wp2_with (at_builtin; refine K.wpList_append_rows (enc := ecl) rfl (.tmp 39) (.tmp 41) 38 rfl Try.underlying38 i0 _ 24 hi0 hz0 hzs hzb rfl w.heap.size (.slice aa acc.length ac) _ acc [ek] rfl rfl (oX.alloc _) (K.row_one _ _ _ rfl) (by unfold maxLen; simp; omega) (by simp; omega) (by have := Below.size HBX.out; simp; omega) ?_; intro v' w' own' gr' _; have HW : Hid (Below w.heap.size w w') := (oX.alloc _).below gr' (Below.alloc HBX.out (Below.size HBX.out) _) (by have := Below.size HBX.out; simp; omega) (Nat.le_refl _); obtain ⟨va', vc', hv'⟩ := own'.rng.slice; rw [List.length_append, List.length_singleton] at hv'; subst hv')
            go_roundg (l.length - (k + 1))
            case measure => omega
            case rel => exact ⟨k + 1, d, acc ++ [ek], by go_num, by omega, rfl, rfl, HF'.out.trans HS.out, own', HW⟩
          · by_cases hc : cmpS ek.name n < 0
            · rw [decide_eq_true hc] at hlc
              go_wp2_with (at_builtin; refine K.wpList_append_rows (enc := ecl) rfl (.tmp 39) (.tmp 41) 38 rfl Try.underlying38 i0 _ 24 hi0 hz0 hzs hzb rfl w.heap.size (.slice aa acc.length ac) _ acc [ek] rfl rfl (oX.alloc _) (K.row_one _ (ek) _ rfl) (by unfold maxLen; simp; omega) (by simp; omega) (by have := Below.size HBX.out; simp; omega) ?_; intro v' w' own' gr' _; have HW : Hid (Below w.heap.size w w') := (oX.alloc _).below gr' (Below.alloc HBX.out (Below.size HBX.out) _) (by have := Below.size HBX.out; simp; omega) (Nat.le_refl _); obtain ⟨va', vc', hv'⟩ := own'.rng.slice; rw [List.length_append, List.length_singleton] at hv'; subst hv')
              go_roundg (l.length - (k + 1))
              case measure => omega
              case rel => exact ⟨k + 1, true, acc ++ [ek], by go_num, by omega, rfl, rfl, HF'.out.trans HS.out, own', HW⟩
            · rw [decide_eq_false hc] at hlc
              go_wp2_with (at_builtin; refine K.wpList_append_rows (enc := ecl) rfl (.tmp 39) (.tmp 41) 38 rfl Try.underlying38 i0 _ 24 hi0 hz0 hzs hzb rfl w.heap.size (.slice aa acc.length ac) _ acc [ek] rfl rfl (oX.alloc _) (K.row_one _ (ek) _ rfl) (by unfold maxLen; simp; omega) (by simp; omega) (by have := Below.size HBX.out; simp; omega) ?_; intro v' w' own' gr' _; have HW : Hid (Below w.heap.size w w') := (oX.alloc _).below gr' (Below.alloc HBX.out (Below.size HBX.out) _) (by have := Below.size HBX.out; simp; omega) (Nat.le_refl _); obtain ⟨va', vc', hv'⟩ := own'.rng.slice; rw [List.length_append, List.length_singleton] at hv'; subst hv')
              go_roundg (l.length - (k + 1))
              case measure => omega
              case rel => exact ⟨k + 1, true, acc ++ [ek], by go_num, by omega, rfl, rfl, HF'.out.trans HS.out, own', HW⟩
    · have e : k = l.length := by omega
      have hlt' : ¬ (k : Int) < (l.length : Int) := by omega
      have oX := HO.out
      have HBX := hB
      have HFin : Hid (l.foldl (setStep n ⟨n, fn⟩) ([], d0) = (acc, d)) := by
        show _ = _
        have := HF.out
        rwa [e, List.take_length] at this
      have y2 := cell_on hB.out c2
      have HN : Hid (∀ w1 v acc', Below w.heap.size w w1 → K.OwnOf ecl 2 77 w1 w.heap.size v acc' → w1.frozen? ⟨p, 2, none⟩ = false ∧ ∀ V : World, V.heap = (w1.setCell ⟨p, 2, none⟩ v).heap → V.os = w1.os → V.tape = w1.tape → V.output = w1.output → ∃ D', RAt V p A D' S L kp { m with dir := acc' } ∧ (∀ g, D'.ownBlock = some g → w.heap.size ≤ g) ∧ Moved w V (fun k => k = p) (fun k => k = p)) := fun w1 v acc' hb own => ⟨(HR.out.kept hb).frozen 2, fun V hV h1 h2 h3 => HR.out.newDir hb own hV h1 h2 h3⟩
      cases d with
      | true =>
        have fz := (HN.out wr _ acc hB.out oX).1
        go_wp2
        go_end0
        rw [HFin.out]
        exact ⟨rfl, (HN.out wr _ acc hB.out oX).2 _ rfl rfl rfl rfl⟩
      | false =>
        have hff := HD.out k acc HF.out
        subst hff
        go_wp2_with (at_builtin; refine K.wpList_append_rows (enc := ecl) rfl (.tmp 46) (.tmp 50) 38 rfl Try.underlying38 i0 _ 24 hi0 hz0 hzs hzb rfl w.heap.size (.slice aa acc.length ac) _ acc [⟨n, fn⟩] rfl rfl (oX.alloc _) (K.row_one _ (⟨n, fn⟩ : En) _ rfl) (by unfold maxLen; simp; omega) (by simp; omega) (by have := Below.size HBX.out; simp; omega) ?_; intro v' w' own' gr' _; have HW : Hid (Below w.heap.size w w') := (oX.alloc _).below gr' (Below.alloc HBX.out (Below.size HBX.out) _) (by have := Below.size HBX.out; simp; omega) (Nat.le_refl _); have fz := (HN.out w' _ (acc ++ [⟨n, fn⟩]) HW.out own').1; have y3 := cell_on' c2 HW.out; obtain ⟨va', vc', hv'⟩ := own'.rng.slice; rw [List.length_append, List.length_singleton] at hv'; subst hv')
        have HN2 := (HN.out w' _ (acc ++ [⟨n, fn⟩]) HW.out own')
        go_end0
        rw [HFin.out]
        exact ⟨rfl, HN2.2 _ rfl rfl rfl rfl⟩
end
end Go.Proofs.Ytndinjekocgjhaa
