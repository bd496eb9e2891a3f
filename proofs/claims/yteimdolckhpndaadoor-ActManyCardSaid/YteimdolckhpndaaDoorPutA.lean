/-
  put, letter by letter, by its contract.
-/
import Derived.Test.YteimdolckhpndaaDoorPutEx
import Derived.Laws.AppendOwnNone
namespace Go.Proofs.YteimdolckhpndaaDoor
open Go.RowKit

theorem Owns.kept {w w' : World} {b B : Nat} {e : TypeId} {v : Value} {bs : List UInt8} (h : Owns w b e v bs) (hb : Below B w w') (hB : w.heap.size ≤ B) : Owns w' b e v bs := by
  refine ⟨h.1, ?_⟩
  rcases h.2 with hn | ⟨g, cap, cur, hv, hbg, hg, rest⟩
  · exact .inl hn
  · refine .inr ⟨g, cap, cur, hv, hbg, ?_, rest⟩
    rw [hb.block g (by have := (Array.getElem?_eq_some_iff.1 hg).1; omega)]
    exact hg
theorem below_then {w u w' : World} {r : Option Nat} (h : Below w.heap.size w u) (g : u.grownBy w' r) : w.grownBy w' r := ⟨g.os.trans h.os, g.tape.trans h.tape, g.output.trans h.output, Nat.le_trans h.size g.size, fun k hk hr => (g.block k (Nat.lt_of_lt_of_le hk h.size) hr).trans (h.block k hk)⟩
theorem wpList_append_bytesG {P : Program} {w : World} {ops : Array Oper} {rest : List Oper} {o : Oper} {a : Act} {Q : Exit → Act → World → Prop} (hgd : o.guard = none) (s x : Operand) (t e : TypeId) (U : U8 P t e)
    (ho : o.op = .call { callee := .builtin .append, args := #[s, x], argTypes := #[t, t] }) (base : Nat) (v src : Value) (xs ys : List UInt8) (hs : a.eval s = v) (hx : a.eval x = src)
    (hown : Owns w base e v xs) (hy : Holds w src ys) (hlen : xs.length + ys.length ≤ 140737488355328) (hbase : base ≤ w.heap.size)
    (h : ∀ v' w', Owns w' base e v' (xs ++ ys) → w.grownBy w' v.ownBlock → base ≤ w'.heap.size → wpList P ops Q rest (a.put o.dst v') w') : wpList P ops Q (o :: rest) a w := by
  obtain ⟨i, hi, hz, hsz, hby⟩ := U.info
  rcases hy with ⟨rfl, rfl⟩ | ⟨ad, cap, rfl, h1, h2, h3⟩
  · refine wpList_append_own_none hgd s x t ho base e i 1 U.ht hi v xs.length (bcells xs) hs hown hx ?_
    exact h v w (by simpa [Owns] using hown) (grown_of (Below.refl _ _) _) hbase
  · refine wpList_append_own w hgd s x t ho base e i (.int .u8 0) 1 1 U.ht hi hz hsz hby rfl (by decide) v xs.length (bcells xs) hs hown ad ys.length cap (bcells ys) hx (by simp [bcells]) h3 (bcells_one ys)
      (by unfold maxLen; omega) (by omega) hbase ?_
    intro v' w' ho' hg _
    refine h v' w' ?_ hg (Nat.le_trans hbase hg.size)
    unfold Owns
    rw [bcells_append, List.length_append]
    exact ho'
theorem bigU8 : U8 Tryd.prog 37 5 := isU8W
set_option maxRecDepth 20000 in
set_option maxHeartbeats 4000000 in
theorem putA_any (v : Value) (bs : List UInt8) (base : Nat) (a : Ax) (c : UInt8) (hc : c ∈ lettersAll) (w : World) (ht : Tab w) (ho : Owns w base 5 v bs) (hb : base ≤ w.heap.size) (hl : bs.length ≤ 10000) (ha : a.Fits) (hf : fitsA a c = true) :
    Calls Tryd.prog 37 #[v, av a, .int .i32 (c.toNat : Int)] w (PutPost base v w (bs ++ putS a c)) := by
  obtain ⟨W, fold⟩ : ∃ W, w.alloc (.cells #[.int .i64 a.kind, .string a.name, .int .i64 a.n, .int .u64 a.tag, .int .i64 a.to, .string a.xn, .int .i64 a.xk, .bool a.xf, .string a.be, .string a.bq, .string a.bp, .int .i64 a.m.origin, .int .u64 a.m.seq, .int .i64 a.m.hop, .string a.m.ex, .string a.m.key, .string a.m.body] 32) = W := ⟨_, rfl⟩
  have b0 : Below w.heap.size w W := by rw [← fold]; exact box_below w _
  have x0 : W.heap[w.heap.size]? = some (.cells (xcells a).toArray 32 (0, 0)) := by rw [← fold]; exact heap_alloc_new w _
  obtain ⟨y0, y1, y2, y3, y4, y5, y6, y7, y8, y9, y10, y11, y12, y13, y14, y15, y16⟩ := cells17 x0
  have hv := ho.holds.below b0 (Nat.le_refl _)
  have hT := ht.below b0 ht.pos
  obtain ⟨va, vc, rfl⟩ := ho.holds.slice
  obtain ⟨vn, hvn⟩ : ∃ z, bs.length = z := ⟨_, rfl⟩
  rw [hvn] at hv ho ⊢
  obtain ⟨FL, hFL⟩ : ∃ z, bs ++ putS a c = z := ⟨_, rfl⟩
  rw [hFL]
  have HH : Hid (Holds W (.slice va vn vc) bs ∧ Tab W ∧ bs.length ≤ 10000 ∧ a.Fits ∧ Below w.heap.size w W ∧ base ≤ w.heap.size ∧ bs ++ putS a c = FL ∧ fitsA a c = true ∧ Owns w base 5 (.slice va vn vc) bs) := ⟨hv, hT, hl, ha, b0, hb, hFL, hf, ho⟩
  clear hv hT hl ha b0 hb hFL hf ho ht x0 hvn
  simp only [lettersAll, List.mem_cons, List.not_mem_nil, or_false] at hc
  rcases hc with rfl | rfl | rfl | rfl | rfl | rfl | rfl | rfl
  · have h1 := name_short (show nameB (txt a.name) = true from HH.out.2.2.2.2.2.2.2.1)
    obtain ⟨V, foldV⟩ : ∃ X, W.alloc (.cells #[.string a.name] 9) = X := ⟨_, rfl⟩
    have bV : Below W.heap.size W V := by rw [← foldV]; exact box_below W _
    have hP := puts_any (.slice va vn vc) (.slice (some ⟨W.heap.size, 0, none⟩) 1 1) bs [a.name] V (HH.out.2.1.below bV HH.out.2.1.pos) (HH.out.1.below bV (Nat.le_refl _)) (by rw [← foldV]; exact row_texts W [a.name] 1 rfl (by omega) _ rfl) (by have := HH.out.2.2.1; omega) (by
      intro s hs
      simp only [List.mem_cons, List.not_mem_nil, or_false] at hs
      rw [hs]; omega) (by simp) (by simp)
    have BV : Hid (Below W.heap.size W V) := bV
    clear bV
    go_enter Tryd.func37, Tryd.ntmps37
    go_wp2_with fail
    try rw [fold]
    try rw [foldV]
    refine hP.mono ?_
    rintro e u3 ⟨v3, rfl, o3, b3⟩
    clear hP
    go_wp2
    go_ret
    rw [← HH.out.2.2.2.2.2.2.1]
    exact put_post HH.out.2.2.2.2.2.1 (keptW HH.out.2.2.2.2.1 BV.out) (by first | exact o3 | (simpa [putS, textsL, bdL] using o3)) b3
  · have cw := wrap_u64 a.n
    obtain ⟨nn, hnn⟩ : ∃ z, u64 a.n = z := ⟨_, rfl⟩
    have ln : nn < 18446744073709551616 := by rw [← hnn]; exact u64_lt _
    have HN : Hid (u64 a.n = nn) := hnn
    rw [hnn] at cw
    clear hnn
    have hP := put_good (.slice va vn vc) bs 2 (nn) W HH.out.2.1 HH.out.1 (Nat.le_trans HH.out.2.2.1 (by decide)) (by decide) ln
    go_enter Tryd.func37, Tryd.ntmps37
    go_wp2_with fail
    try rw [fold]
    refine hP.mono ?_
    rintro e u3 ⟨v3, rfl, o3, b3⟩
    clear hP
    go_wp2
    go_ret
    rw [← HH.out.2.2.2.2.2.2.1]
    exact put_post HH.out.2.2.2.2.2.1 HH.out.2.2.2.2.1 (by have h := o3; rw [← HN.out] at h; exact h) b3
  · have cw := wrap_u64 a.n
    obtain ⟨nn, hnn⟩ : ∃ z, u64 a.n = z := ⟨_, rfl⟩
    have ln : nn < 18446744073709551616 := by rw [← hnn]; exact u64_lt _
    have HN : Hid (u64 a.n = nn) := hnn
    rw [hnn] at cw
    clear hnn
    have hP := put_good (.slice va vn vc) bs 2 (nn) W HH.out.2.1 HH.out.1 (Nat.le_trans HH.out.2.2.1 (by decide)) (by decide) ln
    go_enter Tryd.func37, Tryd.ntmps37
    go_wp2_with fail
    try rw [fold]
    refine hP.mono ?_
    rintro e u3 ⟨v3, rfl, o3, b3⟩
    clear hP
    go_wp2
    go_ret
    rw [← HH.out.2.2.2.2.2.2.1]
    exact put_post HH.out.2.2.2.2.2.1 HH.out.2.2.2.2.1 (by have h := o3; rw [← HN.out] at h; exact h) b3
  · have cs := seq_cast HH.out.2.2.2.1.t.1
    obtain ⟨nn, hnn⟩ : ∃ z, a.tag.toNat = z := ⟨_, rfl⟩
    have ln : nn < 18446744073709551616 := by have := HH.out.2.2.2.1.t; omega
    have HN : Hid (a.tag.toNat = nn) := hnn
    rw [hnn] at cs
    rw [← cs] at y3
    clear hnn cs
    have hP := put_good (.slice va vn vc) bs 8 (nn) W HH.out.2.1 HH.out.1 (Nat.le_trans HH.out.2.2.1 (by decide)) (by decide) ln
    go_enter Tryd.func37, Tryd.ntmps37
    go_wp2_with fail
    try rw [fold]
    refine hP.mono ?_
    rintro e u3 ⟨v3, rfl, o3, b3⟩
    clear hP
    go_wp2
    go_ret
    rw [← HH.out.2.2.2.2.2.2.1]
    exact put_post HH.out.2.2.2.2.2.1 HH.out.2.2.2.2.1 (by have h := o3; rw [← HN.out] at h; exact h) b3
  · have cw := wrap_u64 a.to
    obtain ⟨nn, hnn⟩ : ∃ z, u64 a.to = z := ⟨_, rfl⟩
    have ln : nn < 18446744073709551616 := by rw [← hnn]; exact u64_lt _
    have HN : Hid (u64 a.to = nn) := hnn
    rw [hnn] at cw
    clear hnn
    have hP := put_good (.slice va vn vc) bs 1 (nn) W HH.out.2.1 HH.out.1 (Nat.le_trans HH.out.2.2.1 (by decide)) (by decide) ln
    go_enter Tryd.func37, Tryd.ntmps37
    go_wp2_with fail
    try rw [fold]
    refine hP.mono ?_
    rintro e u3 ⟨v3, rfl, o3, b3⟩
    clear hP
    go_wp2
    go_ret
    rw [← HH.out.2.2.2.2.2.2.1]
    exact put_post HH.out.2.2.2.2.2.1 HH.out.2.2.2.2.1 (by have h := o3; rw [← HN.out] at h; exact h) b3
  · have h0 : goodX a.xn a.xk = true := HH.out.2.2.2.2.2.2.2.1
    have h1 := name_short (by unfold goodX at h0; simp only [Bool.and_eq_true] at h0; exact h0.2)
    have hP := putEx_any (.slice va vn vc) bs a.xn a.xk a.xf W HH.out.2.1 HH.out.1 (Nat.le_trans HH.out.2.2.1 (by decide)) (by omega)
    clear h0
    go_enter Tryd.func37, Tryd.ntmps37
    go_wp2_with fail
    try rw [fold]
    refine hP.mono ?_
    rintro e u3 ⟨v3, rfl, o3, b3, z3⟩
    clear hP
    go_wp2
    go_ret
    rw [← HH.out.2.2.2.2.2.2.1]
    exact put_post HH.out.2.2.2.2.2.1 HH.out.2.2.2.2.1 o3 (below_of_grown b3)
  · have h0 : goodBd a.be a.bq a.bp = true := HH.out.2.2.2.2.2.2.2.1
    have h0' : (nameB (txt a.be) = true ∧ nameB (txt a.bq) = true) ∧ (a.bp.size : Int) ≤ 60 := by unfold goodBd at h0; simpa only [Bool.and_eq_true, decide_eq_true_eq] using h0
    have h1 := name_short h0'.1.1
    have h2 := name_short h0'.1.2
    have h3 := h0'.2
    clear h0 h0'
    obtain ⟨V, foldV⟩ : ∃ X, W.alloc (.cells #[.string a.be, .string a.bq, .string a.bp] 9) = X := ⟨_, rfl⟩
    have bV : Below W.heap.size W V := by rw [← foldV]; exact box_below W _
    have hP := puts_any (.slice va vn vc) (.slice (some ⟨W.heap.size, 0, none⟩) 3 3) bs [a.be, a.bq, a.bp] V (HH.out.2.1.below bV HH.out.2.1.pos) (HH.out.1.below bV (Nat.le_refl _)) (by rw [← foldV]; exact row_texts W [a.be, a.bq, a.bp] 3 rfl (by omega) _ rfl) (by have := HH.out.2.2.1; omega) (by
      intro s hs
      simp only [List.mem_cons, List.not_mem_nil, or_false] at hs
      rcases hs with rfl | rfl | rfl <;> omega) (by simp) (by simp)
    have BV : Hid (Below W.heap.size W V) := bV
    clear bV
    go_enter Tryd.func37, Tryd.ntmps37
    go_wp2_with fail
    try rw [fold]
    try rw [foldV]
    refine hP.mono ?_
    rintro e u3 ⟨v3, rfl, o3, b3⟩
    clear hP
    go_wp2
    go_ret
    rw [← HH.out.2.2.2.2.2.2.1]
    exact put_post HH.out.2.2.2.2.2.1 (keptW HH.out.2.2.2.2.1 BV.out) (by first | exact o3 | (simpa [putS, textsL, bdL] using o3)) b3
  · have h0 : goodM a.m = true := HH.out.2.2.2.2.2.2.2.1
    obtain ⟨_, _, _, g1, g2, g3⟩ := goodM_tells h0
    have hP := msgBytes_any a.m W HH.out.2.1 HH.out.2.2.2.1.m ⟨by omega, by omega, by omega⟩
    have HL : Hid ((bytesM a.m).length ≤ 296) := (bytesM_len h0).2
    clear h0 g1 g2 g3
    go_enter Tryd.func37, Tryd.ntmps37
    go_wp2_with fail
    try rw [fold]
    refine hP.mono ?_
    rintro e u3 ⟨v3, rfl, o3, b3⟩
    obtain ⟨a3, c3, hv3⟩ := o3.holds.slice
    obtain ⟨n3, hn3⟩ : ∃ z, (bytesM a.m).length = z := ⟨_, rfl⟩
    rw [hn3] at hv3
    subst hv3
    have ow : Owns u3 base 5 (.slice va vn vc) bs := HH.out.2.2.2.2.2.2.2.2.kept (keptW HH.out.2.2.2.2.1 b3) (Nat.le_refl _)
    have HO : Hid (Owns u3 base 5 (.slice va vn vc) bs ∧ Holds u3 (.slice a3 n3 c3) (bytesM a.m) ∧ bs.length + (bytesM a.m).length ≤ 140737488355328 ∧ base ≤ u3.heap.size ∧ Below w.heap.size w u3) := ⟨ow, by have := o3.holds; exact this, by have h1 := HH.out.2.2.1; have h2 := HL.out; omega, Nat.le_trans HH.out.2.2.2.2.2.1 (keptW HH.out.2.2.2.2.1 b3).size, keptW HH.out.2.2.2.2.1 b3⟩
    clear hP o3 b3 ow hn3
    go_wp2_with (at_builtin; refine wpList_append_bytesG rfl (.tmp 58) (.tmp 61) 37 5 bigU8 rfl base _ _ bs (bytesM a.m) rfl rfl HO.out.1 HO.out.2.1 HO.out.2.2.1 HO.out.2.2.2.1 ?_; intro v4 w4 o4 b4 z4)
    go_ret
    rw [← HH.out.2.2.2.2.2.2.1]
    exact ⟨v4, rfl, o4, below_then HO.out.2.2.2.2 b4, z4⟩
end Go.Proofs.YteimdolckhpndaaDoor
