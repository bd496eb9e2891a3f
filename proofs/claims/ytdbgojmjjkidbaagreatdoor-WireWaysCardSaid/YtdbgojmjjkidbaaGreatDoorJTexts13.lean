/-
  TEXTS BEHIND BYTES: the document's text, putTexts, by their contracts.
-/
import Derived.Test.YtdbgojmjjkidbaaGreatDoorJModel13
import Derived.Test.YtdbgojmjjkidbaaGreatDoorJSeal
import Derived.Lib.AppendStr
import Derived.Deep.RegionWith
import Derived.Deep.RegionLaw
namespace Go.Proofs.YtdbgojmjjkidbaaGreatDoor
open Go.RowKit


theorem strCells_eq (s : ByteArray) : Lib.strCells s = bcells (txt s) := by
  first | rfl | simp [Lib.strCells, bcells, txt]

set_option maxRecDepth 20000 in
theorem wpList_append_text {w : World} {ops : Array Oper} {rest : List Oper} {o : Oper} {a : Act} {Q : Exit → Act → World → Prop} (hgd : o.guard = none) (s x : Operand)
    (ho : o.op = .call { callee := .builtin .append, args := #[s, x], argTypes := #[78, 9] }) (base : Nat) (v : Value) (xs : List UInt8) (t : ByteArray) (hs : a.eval s = v) (hx : a.eval x = .string t)
    (hown : Owns w base 5 v xs) (hlen : xs.length + t.size ≤ 140737488355328) (hbase : base ≤ w.heap.size)
    (h : ∀ v' w', Owns w' base 5 v' (xs ++ txt t) → Below base w w' → base ≤ w'.heap.size → wpList Tryz.prog ops Q rest (a.put o.dst v') w') : wpList Tryz.prog ops Q (o :: rest) a w := by
  obtain ⟨i, hi, hz, hsz, hby⟩ := isU8W.info
  refine Lib.wpList_append_own_string w hgd s x 78 9 ho base 5 i Tryz.underlying78 Tryz.underlying9 hi hz hsz hby v xs.length (bcells xs) hs hown t hx (by unfold maxLen; omega) hlen hbase ?_
  intro v' w' h1 h2 _
  refine h v' w' ?_ (Owns.below hown h2 (Below.refl _ _) hbase) (Nat.le_trans hbase h2.size)
  unfold Owns
  rw [strCells_eq] at h1
  rw [List.length_append, txt_length, show bcells (xs ++ txt t) = bcells xs ++ bcells (txt t) by simp [bcells]]
  exact h1

theorem textL_short {s : ByteArray} (h : s.size ≤ 65535) : textL s = putL 2 s.size ++ txt s := by
  unfold textL
  rw [Nat.min_eq_left h, List.take_of_length_le (by rw [txt_length]; exact h)]

theorem textL_length {s : ByteArray} (h : s.size ≤ 65535) : (textL s).length = s.size + 2 := by
  rw [textL_short h, List.length_append, putL_length, txt_length]
  omega

set_option maxRecDepth 20000 in
theorem rtext_any (v : Value) (bs : List UInt8) (s : ByteArray) (w : World) (hv : Holds w v bs) (hl : bs.length ≤ 10000000) (hs : s.size ≤ 65535) :
    Calls Tryz.prog 85 #[v, .string s] w fun e w' => ∃ v', e = .returned v' ∧ Owns w' w.heap.size 5 v' (bs ++ textL s) ∧ Below w.heap.size w w' := by
  rw [textL_short hs]
  have hP := rput_good v bs 2 s.size w hv (by omega) (by decide)
  have h5 : ¬ (65535 : Int) < (s.size : Int) := by omega
  obtain ⟨a, c, rfl⟩ := hv.slice
  go_enter Tryz.func85, Tryz.ntmps85
  go_wp2_with fail
  refine hP.mono ?_
  rintro e w1 ⟨v1, rfl, o1, b1⟩
  obtain ⟨a1, c1, rfl⟩ := o1.holds.slice
  have hlen : (bs ++ putL 2 s.size).length + s.size ≤ 140737488355328 := by rw [List.length_append, putL_length]; omega
  have HO : Hid (Owns w1 w.heap.size 5 (.slice a1 (bs ++ putL 2 s.size).length c1) (bs ++ putL 2 s.size) ∧ Below w.heap.size w w1) := ⟨o1, b1⟩
  clear hP o1 b1
  go_wp2_with (at_builtin; refine wpList_append_text rfl (.tmp 14) (.tmp 15) rfl w.heap.size (.slice a1 (bs ++ putL 2 s.size).length c1) (bs ++ putL 2 s.size) s (by first | rfl | simp [Act.eval]) rfl HO.out.1 hlen HO.out.2.size ?_; intro v2 w2 o2 b2 z2)
  go_ret
  exact ⟨_, rfl, by rw [← List.append_assoc]; exact o2, HO.out.2.trans b2⟩

theorem extract_whole (s : ByteArray) : s.extract 0 s.size = s := by
  first | exact ByteArray.extract_zero_size | simp

/-- Texts one behind the other. -/
def textsL (ts : List ByteArray) : List UInt8 := ts.flatMap textL

theorem textsL_snoc (ts : List ByteArray) (k : Nat) (h : k < ts.length) : textsL (ts.take (k + 1)) = textsL (ts.take k) ++ textL ts[k] := by
  unfold textsL
  rw [List.take_succ_eq_append_getElem h, List.flatMap_append]
  simp

theorem textsL_len (ts : List ByteArray) (hs : ∀ s ∈ ts, s.size ≤ 65535) : ∀ k, k ≤ ts.length → (textsL (ts.take k)).length ≤ k * 65537
  | 0, _ => by simp [textsL]
  | k + 1, h => by
    have ih := textsL_len ts hs k (by omega)
    rw [textsL_snoc ts k (by omega), List.length_append, textL_length (hs _ (List.getElem_mem _))]
    have := hs ts[k] (List.getElem_mem _)
    omega

set_option maxRecDepth 20000 in
set_option maxHeartbeats 2000000 in
theorem puts_any (v tv : Value) (bs : List UInt8) (ts : List ByteArray) (w : World) (htab : Tab w) (hv : Holds w v bs) (ht : Row w tv (scells ts)) (hl : bs.length ≤ 1000000) (hs : ∀ s ∈ ts, s.size ≤ 65535) (hp : 0 < ts.length) (h9 : ts.length ≤ 9) :
    Calls Tryz.prog 82 #[v, tv] w fun e w' => ∃ v', e = .returned v' ∧ Owns w' w.heap.size 5 v' (bs ++ textsL ts) ∧ Below w.heap.size w w' := by
  obtain ⟨tb, to, tc, rfl, _, _, hat⟩ := ht.atStrs hp
  have HA : Hid (∀ j (hj : j < ts.length), w.cell? ⟨tb, to + j, none⟩ = some (.string ts[j])) := hat
  have HT : Hid (Tab w) := htab
  have HS : Hid (Holds w v bs ∧ ∀ s ∈ ts, s.size ≤ 65535) := ⟨hv, hs⟩
  obtain ⟨va, vc, rfl⟩ := hv.slice
  clear hat htab hs hv ht
  go_enter Tryz.func82, Tryz.ntmps82
  go_wp2
  go_loopg [0, 9] ts.length (fun g u0 u9 wr => ∃ k : Nat, u9 = .int .i64 k ∧ k ≤ ts.length ∧ g = ts.length - k ∧ Hid (Holds wr u0 (bs ++ textsL (ts.take k)) ∧ (0 < k → Owns wr w.heap.size 5 u0 (bs ++ textsL (ts.take k))) ∧ Below w.heap.size w wr))
  case atStart => exact ⟨0, rfl, Nat.zero_le _, rfl, by simpa [textsL] using HS.out.1, fun h => by omega, Below.refl _ _⟩
  case round =>
    obtain ⟨k, rfl, hk, rfl, HK⟩ := hrel
    by_cases hlt : k < ts.length
    · have hlt' : (k : Int) < (ts.length : Int) := by omega
      have hc := cell_on HK.out.2.2 (HA.out k hlt)
      obtain ⟨s, hse⟩ : ∃ z, ts[k] = z := ⟨_, rfl⟩
      have hs5 := HS.out.2 _ (List.getElem_mem hlt)
      rw [hse] at hc hs5
      have hst := textsL_snoc ts k hlt
      rw [hse] at hst
      have hln := textsL_len ts HS.out.2 k hk
      obtain ⟨B, hB⟩ : ∃ z, bs ++ textsL (ts.take k) = z := ⟨_, rfl⟩
      have hBl : B.length ≤ 2000000 := by rw [← hB, List.length_append]; omega
      have HB : Hid (bs ++ textsL (ts.take (k + 1)) = B ++ putL 2 s.size ++ txt s) := by
        show bs ++ textsL (ts.take (k + 1)) = _
        rw [hst, ← List.append_assoc, hB, textL_short hs5, List.append_assoc]
      have hhold := HK.out.1
      rw [hB] at hhold
      obtain ⟨ua, uc, rfl⟩ := hhold.slice
      have hP := put_good (.slice ua B.length uc) B 2 s.size wr (HT.out.below HK.out.2.2 HT.out.pos) hhold (by omega) (by decide) (by omega)
      have HW : Hid (Below w.heap.size w wr) := HK.out.2.2
      have hmin : min (s.size : Int) 65535 = (s.size : Int) := by omega
      have hsub : ∀ W, (Instr.slice 9 (.string s) none (some (.int .i64 (s.size : Int))) none).run Tryz.prog W = .ok (.string s) W := fun W => by
        have := run_sub W 9 Tryz.underlying9 s 0 s.size (by omega) (Nat.le_refl _) 0 s.size rfl rfl
        rw [extract_whole] at this
        first | exact this | simpa using this
      clear hst hln hB hhold HK hse
      go_wp2_with fail
      refine hP.mono ?_
      rintro e w1 ⟨v1, rfl, o1, b1⟩
      obtain ⟨L, hL⟩ : ∃ z, (B ++ putL 2 s.size).length = z := ⟨_, rfl⟩
      obtain ⟨a1, c1, hv1⟩ := o1.holds.slice
      rw [hL] at hv1
      subst hv1
      have hlen : (B ++ putL 2 s.size).length + s.size ≤ 140737488355328 := by rw [List.length_append, putL_length]; omega
      have HO : Hid (Owns w1 w.heap.size 5 (.slice a1 L c1) (B ++ putL 2 s.size) ∧ Below w.heap.size w w1 ∧ (B ++ putL 2 s.size).length + s.size ≤ 140737488355328) := ⟨o1.mono HW.out.size, keptW HW.out b1, hlen⟩
      clear hP o1 b1 hL hlen
      go_wp2_with (at_builtin; refine wpList_append_text rfl (.tmp 22) (.tmp 23) rfl w.heap.size (.slice a1 L c1) (B ++ putL 2 s.size) s rfl rfl HO.out.1 HO.out.2.2 HO.out.2.1.size ?_; intro v2 w2 o2 b2 z2)
      go_roundg (ts.length - (k + 1))
      case measure => omega
      case rel => exact ⟨k + 1, by go_num, by omega, rfl, by rw [HB.out]; exact o2.holds, fun _ => by rw [HB.out]; exact o2, HO.out.2.1.trans b2⟩
    · have hlt' : ¬ (k : Int) < (ts.length : Int) := by omega
      obtain rfl : k = ts.length := by omega
      go_wp2
      go_ret
      have h1 := HK.out.2.1 hp
      rw [List.take_length] at h1
      exact ⟨_, rfl, h1, HK.out.2.2⟩

end Go.Proofs.YtdbgojmjjkidbaaGreatDoor

/-
  MessageBytes, by its contract.
-/
namespace Go.Proofs.YtdbgojmjjkidbaaGreatDoor
open Go.RowKit


theorem wrap_u64 (n : Int) : IntKind.u64.wrap n = ((u64 n : Nat) : Int) := by
  unfold u64 IntKind.wrap
  simp only [IntKind.signed, IntKind.bits]
  simp
  omega

theorem u64_lt (n : Int) : u64 n < 18446744073709551616 := by unfold u64; omega

theorem seq_cast {n : Int} (h : 0 ≤ n) : ((n.toNat : Nat) : Int) = n := by omega

/-- Some texts in a row of their own. -/
theorem row_texts (w : World) (ts : List ByteArray) (n : Nat) (hn : n = ts.length) (h9 : n ≤ 9) (cs : Array Value) (hc : cs = (scells ts).toArray) : Row (w.alloc (.cells cs 9)) (.slice (some ⟨w.heap.size, 0, none⟩) n n) (scells ts) := by
  subst hn hc
  refine .inr ⟨⟨w.heap.size, 0, none⟩, ts.length, by rw [scells_length], by rw [scells_length]; exact Nat.le_refl _, by unfold maxLen; omega, fun j u hj => ?_⟩
  have := heap_alloc_new w (.cells (scells ts).toArray 9)
  rw [Addr.add_lit, Nat.zero_add]
  simp only [World.cell?]
  rw [this]
  simpa using hj

/-- Short texts. -/
def Ms.Short (m : Ms) : Prop := m.ex.size ≤ 65535 ∧ m.key.size ≤ 65535 ∧ m.body.size ≤ 65535

theorem bytesM_eq (m : Ms) : bytesM m = [] ++ putL 1 (u64 m.origin) ++ putL 8 m.seq.toNat ++ putL 1 (u64 m.hop) ++ textsL [m.ex, m.key, m.body] := by
  simp [bytesM, textsL]

set_option maxRecDepth 20000 in
set_option maxHeartbeats 2000000 in
theorem msgBytes_any (m : Ms) (w : World) (ht : Tab w) (hm : m.Fits) (hs : m.Short) :
    Calls Tryz.prog 61 #[mv m] w fun e w' => ∃ v', e = .returned v' ∧ Owns w' w.heap.size 5 v' (bytesM m) ∧ Below w.heap.size w w' := by
  rw [bytesM_eq]
  obtain ⟨W, fold⟩ : ∃ W, w.alloc (.cells #[.int .i64 m.origin, .int .u64 m.seq, .int .i64 m.hop, .string m.ex, .string m.key, .string m.body] 33) = W := ⟨_, rfl⟩
  have b0 : Below w.heap.size w W := by rw [← fold]; exact box_below w _
  have y0 : W.cell? ⟨w.heap.size, 0, none⟩ = some (.int .i64 m.origin) := by rw [← fold]; exact box_cell w _ _ _ _ rfl
  have y1 : W.cell? ⟨w.heap.size, 1, none⟩ = some (.int .u64 m.seq) := by rw [← fold]; exact box_cell w _ _ _ _ rfl
  have y2 : W.cell? ⟨w.heap.size, 2, none⟩ = some (.int .i64 m.hop) := by rw [← fold]; exact box_cell w _ _ _ _ rfl
  have y3 : W.cell? ⟨w.heap.size, 3, none⟩ = some (.string m.ex) := by rw [← fold]; exact box_cell w _ _ _ _ rfl
  have y4 : W.cell? ⟨w.heap.size, 4, none⟩ = some (.string m.key) := by rw [← fold]; exact box_cell w _ _ _ _ rfl
  have y5 : W.cell? ⟨w.heap.size, 5, none⟩ = some (.string m.body) := by rw [← fold]; exact box_cell w _ _ _ _ rfl
  have c0 := wrap_u64 m.origin
  have c2 := wrap_u64 m.hop
  have c1 := seq_cast hm.s.1
  have HM : Hid (m.Short ∧ m.seq.toNat < 18446744073709551616) := ⟨hs, by have := hm.s; omega⟩
  obtain ⟨sq, hsq⟩ : ∃ z, m.seq.toNat = z := ⟨_, rfl⟩
  obtain ⟨og, hog⟩ : ∃ z, u64 m.origin = z := ⟨_, rfl⟩
  obtain ⟨hp, hhp⟩ : ∃ z, u64 m.hop = z := ⟨_, rfl⟩
  have l0 : og < 18446744073709551616 := by rw [← hog]; exact u64_lt _
  have l2 : hp < 18446744073709551616 := by rw [← hhp]; exact u64_lt _
  rw [hsq] at c1 HM ⊢
  rw [hog] at c0 ⊢
  rw [hhp] at c2 ⊢
  rw [← c1] at y1
  have HT : Hid (Tab W) := ht.below b0 ht.pos
  have HB0 : Hid (Below w.heap.size w W) := b0
  have hP := put_good (.slice none 0 0) [] 1 og W (ht.below b0 ht.pos) (.inl ⟨rfl, rfl⟩) (by simp) (by decide) l0
  clear hs hm ht b0 hsq hog hhp c1
  go_enter Tryz.func61, Tryz.ntmps61
  go_wp2_with fail
  try rw [fold]
  refine hP.mono ?_
  rintro e w1 ⟨v1, rfl, o1, b1⟩
  obtain ⟨a1, k1, hv1⟩ := o1.holds.slice
  obtain ⟨n1, hn1⟩ : ∃ z, ([] ++ putL 1 og).length = z := ⟨_, rfl⟩
  rw [hn1] at hv1
  subst hv1
  have z0 := cell_on b1 y0; have z1 := cell_on b1 y1; have z2 := cell_on b1 y2; have z3 := cell_on b1 y3; have z4 := cell_on b1 y4; have z5 := cell_on b1 y5
  have hP2 := put_good (.slice a1 n1 k1) ([] ++ putL 1 og) 8 sq w1 (HT.out.below b1 HT.out.pos) o1.holds (by simp [putL_length]) (by decide) HM.out.2
  have HB1 : Hid (Below w.heap.size w w1 ∧ Below W.heap.size W w1) := ⟨keptW HB0.out b1, b1⟩
  clear hP o1 b1 hn1 y0 y1 y2 y3 y4 y5
  go_wp2_with fail
  refine hP2.mono ?_
  rintro e w2 ⟨v2, rfl, o2, b2⟩
  obtain ⟨a2, k2, hv2⟩ := o2.holds.slice
  obtain ⟨n2, hn2⟩ : ∃ z, ([] ++ putL 1 og ++ putL 8 sq).length = z := ⟨_, rfl⟩
  rw [hn2] at hv2
  subst hv2
  have y0 := cell_on b2 z0; have y1 := cell_on b2 z1; have y2 := cell_on b2 z2; have y3 := cell_on b2 z3; have y4 := cell_on b2 z4; have y5 := cell_on b2 z5
  have hP3 := put_good (.slice a2 n2 k2) ([] ++ putL 1 og ++ putL 8 sq) 1 hp w2 (HT.out.below (keptW HB1.out.2 b2) HT.out.pos) o2.holds (by simp [putL_length]) (by decide) l2
  have HB2 : Hid (Below w.heap.size w w2 ∧ Below W.heap.size W w2) := ⟨keptW HB1.out.1 b2, keptW HB1.out.2 b2⟩
  clear hP2 o2 b2 hn2 z0 z1 z2 z3 z4 z5 HB1
  go_wp2_with fail
  refine hP3.mono ?_
  rintro e w3 ⟨v3, rfl, o3, b3⟩
  obtain ⟨a3, k3, hv3⟩ := o3.holds.slice
  obtain ⟨n3, hn3⟩ : ∃ z, ([] ++ putL 1 og ++ putL 8 sq ++ putL 1 hp).length = z := ⟨_, rfl⟩
  rw [hn3] at hv3
  subst hv3
  have z0 := cell_on b3 y0; have z1 := cell_on b3 y1; have z2 := cell_on b3 y2; have z3 := cell_on b3 y3; have z4 := cell_on b3 y4; have z5 := cell_on b3 y5
  obtain ⟨w4, hw4⟩ : ∃ z, w3.alloc (.cells #[.string m.ex, .string m.key, .string m.body] 9) = z := ⟨_, rfl⟩
  have b4 : Below w3.heap.size w3 w4 := by rw [← hw4]; exact box_below w3 _
  have hrow : Row w4 (.slice (some ⟨w3.heap.size, 0, none⟩) 3 3) (scells [m.ex, m.key, m.body]) := by rw [← hw4]; exact row_texts w3 [m.ex, m.key, m.body] 3 rfl (by omega) _ rfl
  have hPt := puts_any (.slice a3 n3 k3) _ ([] ++ putL 1 og ++ putL 8 sq ++ putL 1 hp) [m.ex, m.key, m.body] w4 (HT.out.below (keptW (keptW HB2.out.2 b3) b4) HT.out.pos) (o3.holds.below b4 (Nat.le_refl _)) hrow (by simp [putL_length]) (by
    intro s hs
    obtain ⟨h1, h2, h3⟩ := HM.out.1
    simp only [List.mem_cons, List.not_mem_nil, or_false] at hs
    rcases hs with rfl | rfl | rfl
    · exact h1
    · exact h2
    · exact h3) (by simp) (by simp)
  have HB4 : Hid (Below w.heap.size w w4) := keptW (keptW HB2.out.1 b3) b4
  clear hP3 o3 b3 hn3 y0 y1 y2 y3 y4 y5 hrow b4
  go_wp2_with fail
  try rw [hw4]
  refine hPt.mono ?_
  rintro e w5 ⟨v5, rfl, o5, b5⟩
  go_wp2
  go_ret
  exact ⟨_, rfl, o5.mono HB4.out.size, keptW HB4.out b5⟩

end Go.Proofs.YtdbgojmjjkidbaaGreatDoor

/-
  The document's Message, by its contract.
-/
namespace Go.Proofs.YtdbgojmjjkidbaaGreatDoor
open Go.RowKit


theorem drewN_below (w : World) (n : Nat) : Below w.heap.size w (w.drewN n) := ⟨rfl, rfl, rfl, Nat.le_refl _, fun _ _ => rfl⟩

theorem drew_below (w : World) : Below w.heap.size w w.drew := (Below.refl _ _).drew


/-- A text behind bytes, told by lengths that have letters. -/
theorem rtext_at (B : List UInt8) (s : ByteArray) (L n : Nat) (_hn : B.length = n) (hL : (B ++ textL s).length = L) (hB : B.length ≤ 10000000) (hs : s.size ≤ 65535) (a : Option Addr) (c : Nat) (V : World) (hv : Holds V (.slice a n c) B) :
    Calls Tryz.prog 85 #[.slice a n c, .string s] V fun e w' => ∃ a' c', e = .returned (.slice a' L c') ∧ Owns w' V.heap.size 5 (.slice a' L c') (B ++ textL s) ∧ Below V.heap.size V w' := by
  refine (rtext_any _ B s V hv hB hs).mono ?_
  rintro e w' ⟨v', rfl, o, b⟩
  obtain ⟨a', c', h⟩ := o.holds.slice
  rw [hL] at h
  subst h
  exact ⟨a', c', rfl, o, b⟩

set_option maxRecDepth 20000 in
set_option maxHeartbeats 4000000 in
theorem rmsg_any (v : Value) (bs : List UInt8) (m : Ms) (w : World) (hv : Holds w v bs) (hbs : bs.length ≤ 1000000) (hm : m.Fits) (hs : m.Short) :
    Calls Tryz.prog 64 #[v, mv m] w fun e w' => ∃ v', e = .returned v' ∧ Owns w' w.heap.size 5 v' (bs ++ bytesM m) ∧ Below w.heap.size w w' := by
  obtain ⟨va, vc, rfl⟩ := hv.slice
  obtain ⟨vn, hvn⟩ : ∃ z, bs.length = z := ⟨_, rfl⟩
  obtain ⟨W, fold⟩ : ∃ W, w.alloc (.cells #[.int .i64 m.origin, .int .u64 m.seq, .int .i64 m.hop, .string m.ex, .string m.key, .string m.body] 33) = W := ⟨_, rfl⟩
  have b0 : Below w.heap.size w W := by rw [← fold]; exact box_below w _
  have y0 : W.cell? ⟨w.heap.size, 0, none⟩ = some (.int .i64 m.origin) := by rw [← fold]; exact box_cell w _ _ _ _ rfl
  have y1 : W.cell? ⟨w.heap.size, 1, none⟩ = some (.int .u64 m.seq) := by rw [← fold]; exact box_cell w _ _ _ _ rfl
  have y2 : W.cell? ⟨w.heap.size, 2, none⟩ = some (.int .i64 m.hop) := by rw [← fold]; exact box_cell w _ _ _ _ rfl
  have y3 : W.cell? ⟨w.heap.size, 3, none⟩ = some (.string m.ex) := by rw [← fold]; exact box_cell w _ _ _ _ rfl
  have y4 : W.cell? ⟨w.heap.size, 4, none⟩ = some (.string m.key) := by rw [← fold]; exact box_cell w _ _ _ _ rfl
  have y5 : W.cell? ⟨w.heap.size, 5, none⟩ = some (.string m.body) := by rw [← fold]; exact box_cell w _ _ _ _ rfl
  have c0 := wrap_u64 m.origin
  have c2 := wrap_u64 m.hop
  have c1 := seq_cast hm.s.1
  have hM : bs ++ bytesM m = bs ++ putL 1 (u64 m.origin) ++ putL 8 m.seq.toNat ++ putL 1 (u64 m.hop) ++ textL m.ex ++ textL m.key ++ textL m.body := by simp [bytesM]
  rw [hM]
  obtain ⟨sq, hsq⟩ : ∃ z, m.seq.toNat = z := ⟨_, rfl⟩
  obtain ⟨og, hog⟩ : ∃ z, u64 m.origin = z := ⟨_, rfl⟩
  obtain ⟨hp, hhp⟩ : ∃ z, u64 m.hop = z := ⟨_, rfl⟩
  rw [hsq] at c1 ⊢
  rw [hog] at c0 ⊢
  rw [hhp] at c2 ⊢
  rw [← c1] at y1
  rw [hvn] at hv ⊢
  have HS : Hid (m.Short ∧ bs.length ≤ 1000000) := ⟨hs, hbs⟩
  have HB0 : Hid (Below w.heap.size w W) := b0
  have hP := rput_good (.slice va vn vc) bs 1 og W (hv.below b0 (Nat.le_refl _)) (by omega) (by decide)
  clear hs hm b0 hsq hog hhp c1 hM hvn hbs hv
  go_enter Tryz.func64, Tryz.ntmps64
  go_wp2_with fail
  try rw [fold]
  refine hP.mono ?_
  rintro e w1 ⟨v1, rfl, o1, b1⟩
  obtain ⟨a1, k1, hv1⟩ := o1.holds.slice
  obtain ⟨n1, hn1⟩ : ∃ z, (bs ++ putL 1 og).length = z := ⟨_, rfl⟩
  rw [hn1] at hv1
  subst hv1
  have z0 := cell_on b1 y0; have z1 := cell_on b1 y1; have z2 := cell_on b1 y2; have z3 := cell_on b1 y3; have z4 := cell_on b1 y4; have z5 := cell_on b1 y5
  have hP2 := rput_good (.slice a1 n1 k1) (bs ++ putL 1 og) 8 sq w1 o1.holds (by have := HS.out.2; simp [putL_length]; omega) (by decide)
  have HB1 : Hid (Below w.heap.size w w1) := keptW HB0.out b1
  clear hP o1 b1 hn1 y0 y1 y2 y3 y4 y5
  go_wp2_with fail
  refine hP2.mono ?_
  rintro e w2 ⟨v2, rfl, o2, b2⟩
  obtain ⟨a2, k2, hv2⟩ := o2.holds.slice
  obtain ⟨n2, hn2⟩ : ∃ z, (bs ++ putL 1 og ++ putL 8 sq).length = z := ⟨_, rfl⟩
  rw [hn2] at hv2
  subst hv2
  have y0 := cell_on b2 z0; have y1 := cell_on b2 z1; have y2 := cell_on b2 z2; have y3 := cell_on b2 z3; have y4 := cell_on b2 z4; have y5 := cell_on b2 z5
  have hP3 := rput_good (.slice a2 n2 k2) (bs ++ putL 1 og ++ putL 8 sq) 1 hp w2 o2.holds (by have := HS.out.2; simp [putL_length]; omega) (by decide)
  have HB2 : Hid (Below w.heap.size w w2) := keptW HB1.out b2
  clear hP2 o2 b2 hn2 z0 z1 z2 z3 z4 z5 HB1
  go_wp2_with fail
  refine hP3.mono ?_
  rintro e w3 ⟨v3, rfl, o3, b3⟩
  obtain ⟨B, hB⟩ : ∃ z, bs ++ putL 1 og ++ putL 8 sq ++ putL 1 hp = z := ⟨_, rfl⟩
  rw [hB] at o3
  have HBq : Hid (bs ++ putL 1 og ++ putL 8 sq ++ putL 1 hp = B) := hB
  obtain ⟨a3, k3, hv3⟩ := o3.holds.slice
  obtain ⟨n3, hn3⟩ : ∃ z, B.length = z := ⟨_, rfl⟩
  rw [hn3] at hv3
  subst hv3
  have hBl : B.length ≤ 1000100 := by rw [← hB]; have := HS.out.2; simp [putL_length]; omega
  obtain ⟨n4, hn4⟩ : ∃ z, (B ++ textL m.ex).length = z := ⟨_, rfl⟩
  obtain ⟨n5, hn5⟩ : ∃ z, (B ++ textL m.ex ++ textL m.key).length = z := ⟨_, rfl⟩
  obtain ⟨n6, hn6⟩ : ∃ z, (B ++ textL m.ex ++ textL m.key ++ textL m.body).length = z := ⟨_, rfl⟩
  have t1 := textL_length HS.out.1.1
  have t2 := textL_length HS.out.1.2.1
  have hs1 := HS.out.1.1
  have hs2 := HS.out.1.2.1
  have HT1 : Hid (∀ V, Below w3.heap.size w3 V → Calls Tryz.prog 85 #[.slice a3 n3 k3, .string m.ex] V fun e w' => ∃ a' c', e = .returned (.slice a' n4 c') ∧ Owns w' V.heap.size 5 (.slice a' n4 c') (B ++ textL m.ex) ∧ Below V.heap.size V w') := fun V b => rtext_at B m.ex n4 n3 hn3 hn4 (by omega) HS.out.1.1 a3 k3 V (o3.holds.below b (Nat.le_refl _))
  have HT2 : Hid (∀ V a c, Holds V (.slice a n4 c) (B ++ textL m.ex) → Calls Tryz.prog 85 #[.slice a n4 c, .string m.key] V fun e w' => ∃ a' c', e = .returned (.slice a' n5 c') ∧ Owns w' V.heap.size 5 (.slice a' n5 c') (B ++ textL m.ex ++ textL m.key) ∧ Below V.heap.size V w') := fun V a c h => rtext_at _ m.key n5 n4 hn4 hn5 (by rw [List.length_append]; omega) HS.out.1.2.1 a c V h
  have HT3 : Hid (∀ V a c, Holds V (.slice a n5 c) (B ++ textL m.ex ++ textL m.key) → Calls Tryz.prog 85 #[.slice a n5 c, .string m.body] V fun e w' => ∃ a' c', e = .returned (.slice a' n6 c') ∧ Owns w' V.heap.size 5 (.slice a' n6 c') (B ++ textL m.ex ++ textL m.key ++ textL m.body) ∧ Below V.heap.size V w') := fun V a c h => rtext_at _ m.body n6 n5 hn5 hn6 (by rw [List.length_append, List.length_append]; omega) HS.out.1.2.2 a c V h
  have z3 := cell_on b3 y3; have z4 := cell_on b3 y4; have z5 := cell_on b3 y5
  have HZ : Hid (∀ V, Below w3.heap.size w3 V → V.cell? ⟨w.heap.size, 3, none⟩ = some (.string m.ex) ∧ V.cell? ⟨w.heap.size, 4, none⟩ = some (.string m.key) ∧ V.cell? ⟨w.heap.size, 5, none⟩ = some (.string m.body)) := fun V b => ⟨cell_on b z3, cell_on b z4, cell_on b z5⟩
  have HB3 : Hid (Below w.heap.size w w3) := keptW HB2.out b3
  clear hP3 o3 b3 hB hn3 hBl hn4 hn5 hn6 t1 t2 hs1 hs2 y0 y1 y2 y3 y4 y5 HB2 HS
  go_wp2
  first
  | (go_region_law (first
      | (rw [if_pos (by simp [Region.wanted])]; go_simp; refine Calls.mono (HT3.out u2 p2 q2 o2.holds) ?_; rintro e u3 ⟨p3, q3, rfl, o3, b3⟩; have d3 : Below w3.heap.size w3 u3 := keptW d2 b3; dsimp only)
      | (rw [if_pos (by simp [Region.wanted])]; go_simp; refine Calls.mono (HT2.out u1 p1 q1 o1.holds) ?_; rintro e u2 ⟨p2, q2, rfl, o2, b2⟩; have d2 : Below w3.heap.size w3 u2 := keptW d1 b2; obtain ⟨r6, r7, r8⟩ := HZ.out u2 d2; dsimp only)
      | (rw [if_pos (by simp [Region.wanted])]; go_simp; refine Calls.mono (HT1.out _ (by first | exact Below.refl _ _ | exact drew_below _ | exact drewN_below _ _)) ?_; rintro e u1 ⟨p1, q1, rfl, o1, b1⟩; have d1 : Below w3.heap.size w3 u1 := Below.trans (by first | exact Below.refl _ _ | exact drew_below _ | exact drewN_below _ _) b1; obtain ⟨r3, r4, r5⟩ := HZ.out u1 d1; dsimp only)))
  | fail
  all_goals go_wp2
  all_goals go_ret
  all_goals exact ⟨_, rfl, by rw [HBq.out]; exact o3.mono (by have := HB3.out.size; have := d2.size; omega), keptW HB3.out d3⟩

end Go.Proofs.YtdbgojmjjkidbaaGreatDoor
