/-
  TEXTS BEHIND BYTES: the document's text, putTexts, by their contracts.
-/
import Derived.Test.YtopacoghnofliaaDoorFits13
import Derived.Test.YtopacoghnofliaaDoorSeal
import Derived.Lib.AppendStr
namespace Go.Proofs.YtopacoghnofliaaDoor
open Go.RowKit


theorem strCells_eq (s : ByteArray) : Lib.strCells s = bcells (txt s) := by
  first | rfl | simp [Lib.strCells, bcells, txt]

set_option maxRecDepth 20000 in
theorem wpList_append_text {w : World} {ops : Array Oper} {rest : List Oper} {o : Oper} {a : Act} {Q : Exit → Act → World → Prop} (hgd : o.guard = none) (s x : Operand)
    (ho : o.op = .call { callee := .builtin .append, args := #[s, x], argTypes := #[34, 9] }) (base : Nat) (v : Value) (xs : List UInt8) (t : ByteArray) (hs : a.eval s = v) (hx : a.eval x = .string t)
    (hown : Owns w base 5 v xs) (hlen : xs.length + t.size ≤ 140737488355328) (hbase : base ≤ w.heap.size)
    (h : ∀ v' w', Owns w' base 5 v' (xs ++ txt t) → Below base w w' → base ≤ w'.heap.size → wpList Tryd.prog ops Q rest (a.put o.dst v') w') : wpList Tryd.prog ops Q (o :: rest) a w := by
  obtain ⟨i, hi, hz, hsz, hby⟩ := isU8W.info
  refine Lib.wpList_append_own_string w hgd s x 34 9 ho base 5 i Tryd.underlying34 Tryd.underlying9 hi hz hsz hby v xs.length (bcells xs) hs hown t hx (by unfold maxLen; omega) hlen hbase ?_
  intro v' w' h1 h2 _
  refine h v' w' ?_ (Owns.below hown h2 (Below.refl _ _) hbase) (Nat.le_trans hbase h2.size)
  unfold Owns
  rw [strCells_eq] at h1
  rw [List.length_append, txt_length, show bcells (xs ++ txt t) = bcells xs ++ bcells (txt t) by simp [bcells]]
  exact h1

theorem textL_short {s : ByteArray} (h : s.size ≤ 65535) : textL s = putL 2 s.size ++ txt s := by
  unfold textL
  rw [Nat.min_eq_left h, List.take_of_length_le (by rw [txt_length]; exact h)]

theorem textL_length {s : ByteArray} (h : s.size ≤ 65535) : (textL s).length = s.size + 2 := by
  rw [textL_short h, List.length_append, putL_length, txt_length]
  omega

set_option maxRecDepth 20000 in
theorem rtext_any (v : Value) (bs : List UInt8) (s : ByteArray) (w : World) (hv : Holds w v bs) (hl : bs.length ≤ 10000000) (hs : s.size ≤ 65535) :
    Calls Tryd.prog 45 #[v, .string s] w fun e w' => ∃ v', e = .returned v' ∧ Owns w' w.heap.size 5 v' (bs ++ textL s) ∧ Below w.heap.size w w' := by
  rw [textL_short hs]
  have hP := rput_good v bs 2 s.size w hv (by omega) (by decide)
  have h5 : ¬ (65535 : Int) < (s.size : Int) := by omega
  obtain ⟨a, c, rfl⟩ := hv.slice
  go_enter Tryd.func45, Tryd.ntmps45
  go_wp2_with fail
  refine hP.mono ?_
  rintro e w1 ⟨v1, rfl, o1, b1⟩
  obtain ⟨a1, c1, rfl⟩ := o1.holds.slice
  have hlen : (bs ++ putL 2 s.size).length + s.size ≤ 140737488355328 := by rw [List.length_append, putL_length]; omega
  have HO : Hid (Owns w1 w.heap.size 5 (.slice a1 (bs ++ putL 2 s.size).length c1) (bs ++ putL 2 s.size) ∧ Below w.heap.size w w1) := ⟨o1, b1⟩
  clear hP o1 b1
  go_wp2_with (at_builtin; refine wpList_append_text rfl (.tmp 14) (.tmp 15) rfl w.heap.size (.slice a1 (bs ++ putL 2 s.size).length c1) (bs ++ putL 2 s.size) s (by first | rfl | simp [Act.eval]) rfl HO.out.1 hlen HO.out.2.size ?_; intro v2 w2 o2 b2 z2)
  go_ret
  exact ⟨_, rfl, by rw [← List.append_assoc]; exact o2, HO.out.2.trans b2⟩

theorem extract_whole (s : ByteArray) : s.extract 0 s.size = s := by
  first | exact ByteArray.extract_zero_size | simp

/-- Texts one behind the other. -/
def textsL (ts : List ByteArray) : List UInt8 := ts.flatMap textL

theorem textsL_snoc (ts : List ByteArray) (k : Nat) (h : k < ts.length) : textsL (ts.take (k + 1)) = textsL (ts.take k) ++ textL ts[k] := by
  unfold textsL
  rw [List.take_succ_eq_append_getElem h, List.flatMap_append]
  simp

theorem textsL_len (ts : List ByteArray) (hs : ∀ s ∈ ts, s.size ≤ 65535) : ∀ k, k ≤ ts.length → (textsL (ts.take k)).length ≤ k * 65537
  | 0, _ => by simp [textsL]
  | k + 1, h => by
    have ih := textsL_len ts hs k (by omega)
    rw [textsL_snoc ts k (by omega), List.length_append, textL_length (hs _ (List.getElem_mem _))]
    have := hs ts[k] (List.getElem_mem _)
    omega

set_option maxRecDepth 20000 in
set_option maxHeartbeats 2000000 in
theorem puts_any (v tv : Value) (bs : List UInt8) (ts : List ByteArray) (w : World) (htab : Tab w) (hv : Holds w v bs) (ht : Row w tv (scells ts)) (hl : bs.length ≤ 1000000) (hs : ∀ s ∈ ts, s.size ≤ 65535) (hp : 0 < ts.length) (h9 : ts.length ≤ 9) :
    Calls Tryd.prog 42 #[v, tv] w fun e w' => ∃ v', e = .returned v' ∧ Owns w' w.heap.size 5 v' (bs ++ textsL ts) ∧ Below w.heap.size w w' := by
  obtain ⟨tb, to, tc, rfl, _, _, hat⟩ := ht.atStrs hp
  have HA : Hid (∀ j (hj : j < ts.length), w.cell? ⟨tb, to + j, none⟩ = some (.string ts[j])) := hat
  have HT : Hid (Tab w) := htab
  have HS : Hid (Holds w v bs ∧ ∀ s ∈ ts, s.size ≤ 65535) := ⟨hv, hs⟩
  obtain ⟨va, vc, rfl⟩ := hv.slice
  clear hat htab hs hv ht
  go_enter Tryd.func42, Tryd.ntmps42
  go_wp2
  go_loopg [0, 9] ts.length (fun g u0 u9 wr => ∃ k : Nat, u9 = .int .i64 k ∧ k ≤ ts.length ∧ g = ts.length - k ∧ Hid (Holds wr u0 (bs ++ textsL (ts.take k)) ∧ (0 < k → Owns wr w.heap.size 5 u0 (bs ++ textsL (ts.take k))) ∧ Below w.heap.size w wr))
  case atStart => exact ⟨0, rfl, Nat.zero_le _, rfl, by simpa [textsL] using HS.out.1, fun h => by omega, Below.refl _ _⟩
  case round =>
    obtain ⟨k, rfl, hk, rfl, HK⟩ := hrel
    by_cases hlt : k < ts.length
    · have hlt' : (k : Int) < (ts.length : Int) := by omega
      have hc := cell_on HK.out.2.2 (HA.out k hlt)
      obtain ⟨s, hse⟩ : ∃ z, ts[k] = z := ⟨_, rfl⟩
      have hs5 := HS.out.2 _ (List.getElem_mem hlt)
      rw [hse] at hc hs5
      have hst := textsL_snoc ts k hlt
      rw [hse] at hst
      have hln := textsL_len ts HS.out.2 k hk
      obtain ⟨B, hB⟩ : ∃ z, bs ++ textsL (ts.take k) = z := ⟨_, rfl⟩
      have hBl : B.length ≤ 2000000 := by rw [← hB, List.length_append]; omega
      have HB : Hid (bs ++ textsL (ts.take (k + 1)) = B ++ putL 2 s.size ++ txt s) := by
        show bs ++ textsL (ts.take (k + 1)) = _
        rw [hst, ← List.append_assoc, hB, textL_short hs5, List.append_assoc]
      have hhold := HK.out.1
      rw [hB] at hhold
      obtain ⟨ua, uc, rfl⟩ := hhold.slice
      have hP := put_good (.slice ua B.length uc) B 2 s.size wr (HT.out.below HK.out.2.2 HT.out.pos) hhold (by omega) (by decide) (by omega)
      have HW : Hid (Below w.heap.size w wr) := HK.out.2.2
      have hmin : min (s.size : Int) 65535 = (s.size : Int) := by omega
      have hsub : ∀ W, (Instr.slice 9 (.string s) none (some (.int .i64 (s.size : Int))) none).run Tryd.prog W = .ok (.string s) W := fun W => by
        have := run_sub W 9 Tryd.underlying9 s 0 s.size (by omega) (Nat.le_refl _) 0 s.size rfl rfl
        rw [extract_whole] at this
        first | exact this | simpa using this
      clear hst hln hB hhold HK hse
      go_wp2_with fail
      refine hP.mono ?_
      rintro e w1 ⟨v1, rfl, o1, b1⟩
      obtain ⟨L, hL⟩ : ∃ z, (B ++ putL 2 s.size).length = z := ⟨_, rfl⟩
      obtain ⟨a1, c1, hv1⟩ := o1.holds.slice
      rw [hL] at hv1
      subst hv1
      have hlen : (B ++ putL 2 s.size).length + s.size ≤ 140737488355328 := by rw [List.length_append, putL_length]; omega
      have HO : Hid (Owns w1 w.heap.size 5 (.slice a1 L c1) (B ++ putL 2 s.size) ∧ Below w.heap.size w w1 ∧ (B ++ putL 2 s.size).length + s.size ≤ 140737488355328) := ⟨o1.mono HW.out.size, keptW HW.out b1, hlen⟩
      clear hP o1 b1 hL hlen
      go_wp2_with (at_builtin; refine wpList_append_text rfl (.tmp 22) (.tmp 23) rfl w.heap.size (.slice a1 L c1) (B ++ putL 2 s.size) s rfl rfl HO.out.1 HO.out.2.2 HO.out.2.1.size ?_; intro v2 w2 o2 b2 z2)
      go_roundg (ts.length - (k + 1))
      case measure => omega
      case rel => exact ⟨k + 1, by go_num, by omega, rfl, by rw [HB.out]; exact o2.holds, fun _ => by rw [HB.out]; exact o2, HO.out.2.1.trans b2⟩
    · have hlt' : ¬ (k : Int) < (ts.length : Int) := by omega
      obtain rfl : k = ts.length := by omega
      go_wp2
      go_ret
      have h1 := HK.out.2.1 hp
      rw [List.take_length] at h1
      exact ⟨_, rfl, h1, HK.out.2.2⟩

end Go.Proofs.YtopacoghnofliaaDoor
