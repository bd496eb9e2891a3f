/-
  THE READER READS INTO AN ACT: takeName .. takeBinding, by their contracts.
-/
import Derived.Test.YtdbgojmjjkidbaaGreatDoorJMem13
import Derived.Deep.RegionHeld3
namespace Go.Proofs.YtdbgojmjjkidbaaGreatDoor
open Go.RowKit


theorem aft_name {s s1 : Option (List UInt8)} {z : Ax} {t : ByteArray} (h : Aft s textP t s1) : Aft s (takeP z 110) { z with name := t } s1 := by
  have := Aft.out (fun x => ({ z with name := x } : Ax)) h
  unfold takeP
  rw [if_pos rfl]
  exact this

theorem aft_n {s s1 : Option (List UInt8)} {z : Ax} {t : Nat} (h : Aft s (numP 2) t s1) : Aft s (takeP z 100) { z with n := (t : Int) } s1 := by
  have := Aft.out (fun x : Nat => ({ z with n := (x : Int) } : Ax)) h
  unfold takeP
  rw [if_neg (by decide), if_pos (by decide)]
  exact this

theorem take_nn (z : Ax) : takeP z 99 = takeP z 100 := by
  unfold takeP
  rw [if_neg (by decide), if_pos (by decide), if_neg (by decide), if_pos (by decide)]

theorem aft_tag {s s1 : Option (List UInt8)} {z : Ax} {t : Nat} (h : Aft s (numP 8) t s1) : Aft s (takeP z 116) { z with tag := (t : Int) } s1 := by
  have := Aft.out (fun x : Nat => ({ z with tag := (x : Int) } : Ax)) h
  unfold takeP
  rw [if_neg (by decide), if_neg (by decide), if_pos (by decide)]
  exact this

theorem aft_to {s s1 : Option (List UInt8)} {z : Ax} {t : Nat} (h : Aft s (numP 1) t s1) : Aft s (takeP z 115) { z with to := (t : Int) } s1 := by
  have := Aft.out (fun x : Nat => ({ z with to := (x : Int) } : Ax)) h
  unfold takeP
  rw [if_neg (by decide), if_neg (by decide), if_neg (by decide), if_pos (by decide)]
  exact this

theorem aft_ex0 {s s1 s2 s3 : Option (List UInt8)} {n : ByteArray} {k : Nat} {f : Bool} (h1 : Aft s textP n s1) (h2 : Aft s1 (numP 1) k s2) (h3 : Aft s2 yesP f s3) : Aft s exP (n, (k : Int), f) s3 :=
  Aft.bind (Q := fun n => bindP (numP 1) fun k => bindP yesP fun f => pureP (n, (k : Int), f)) h1 (Aft.bind (Q := fun k : Nat => bindP yesP fun f => pureP (n, (k : Int), f)) h2 (Aft.out (fun f => (n, (k : Int), f)) h3))

theorem aft_bd0 {s s1 s2 s3 : Option (List UInt8)} {e q b : ByteArray} (h1 : Aft s textP e s1) (h2 : Aft s1 textP q s2) (h3 : Aft s2 textP b s3) : Aft s bdP (e, q, b) s3 :=
  Aft.bind (Q := fun e => bindP textP fun q => bindP textP fun p => pureP (e, q, p)) h1 (Aft.bind (Q := fun q => bindP textP fun p => pureP (e, q, p)) h2 (Aft.out (fun f => (e, q, f)) h3))

theorem aft_ex1 {s s3 : Option (List UInt8)} {z : Ax} {x : ByteArray × Int × Bool} (h : Aft s exP x s3) : Aft s (takeP z 120) { z with xn := x.1, xk := x.2.1, xf := x.2.2 } s3 := by
  have := Aft.out (fun x : ByteArray × Int × Bool => ({ z with xn := x.1, xk := x.2.1, xf := x.2.2 } : Ax)) h
  unfold takeP
  rw [if_neg (by decide), if_neg (by decide), if_neg (by decide), if_neg (by decide), if_pos (by decide)]
  exact this

theorem aft_bd1 {s s3 : Option (List UInt8)} {z : Ax} {x : ByteArray × ByteArray × ByteArray} (h : Aft s bdP x s3) : Aft s (takeP z 98) { z with be := x.1, bq := x.2.1, bp := x.2.2 } s3 := by
  have := Aft.out (fun x : ByteArray × ByteArray × ByteArray => ({ z with be := x.1, bq := x.2.1, bp := x.2.2 } : Ax)) h
  unfold takeP
  rw [if_neg (by decide), if_neg (by decide), if_neg (by decide), if_neg (by decide), if_neg (by decide), if_pos (by decide)]
  exact this

theorem aft_m {s s1 : Option (List UInt8)} {z : Ax} {m : Ms} (h : Aft s msgP m s1) : Aft s (takeP z 109) { z with m := m } s1 := by
  have := Aft.out (fun x => ({ z with m := x } : Ax)) h
  unfold takeP
  rw [if_neg (by decide), if_neg (by decide), if_neg (by decide), if_neg (by decide), if_neg (by decide), if_neg (by decide)]
  exact this

theorem aft_msg {s s1 s2 s3 s4 s5 s6 : Option (List UInt8)} {o q h : Nat} {e k b : ByteArray} (h1 : Aft s (numP 1) o s1) (h2 : Aft s1 (numP 8) q s2) (h3 : Aft s2 (numP 1) h s3) (h4 : Aft s3 textP e s4) (h5 : Aft s4 textP k s5) (h6 : Aft s5 textP b s6) : Aft s msgP ⟨o, q, h, e, k, b⟩ s6 :=
  Aft.bind (Q := fun o : Nat => bindP (numP 8) fun s => bindP (numP 1) fun h => bindP textP fun e => bindP textP fun k => bindP textP fun b => pureP (⟨o, s, h, e, k, b⟩ : Ms)) h1 (Aft.bind (Q := fun s : Nat => bindP (numP 1) fun h => bindP textP fun e => bindP textP fun k => bindP textP fun b => pureP (⟨o, s, h, e, k, b⟩ : Ms)) h2 (Aft.bind (Q := fun h : Nat => bindP textP fun e => bindP textP fun k => bindP textP fun b => pureP (⟨o, q, h, e, k, b⟩ : Ms)) h3 (Aft.bind (Q := fun e => bindP textP fun k => bindP textP fun b => pureP (⟨o, q, h, e, k, b⟩ : Ms)) h4 (Aft.bind (Q := fun k => bindP textP fun b => pureP (⟨o, q, h, e, k, b⟩ : Ms)) h5 (Aft.out (fun b => (⟨o, q, h, e, k, b⟩ : Ms)) h6)))))

end Go.Proofs.YtdbgojmjjkidbaaGreatDoor

/-
  THE READER READS A MESSAGE, by its contract.
-/
namespace Go.Proofs.YtdbgojmjjkidbaaGreatDoor
open Go.RowKit


theorem alloc_lt {w : World} {o : Obj} : w.heap.size < (w.alloc o).heap.size := by rw [World.size_alloc]; omega

theorem cells6 {w : World} {g : Nat} {t : TypeId} {v0 v1 v2 v3 v4 v5 : Value} (h : w.heap[g]? = some (.cells [v0, v1, v2, v3, v4, v5].toArray t (0, 0))) : w.cell? ⟨g, 0, none⟩ = some v0 ∧ w.cell? ⟨g, 1, none⟩ = some v1 ∧ w.cell? ⟨g, 2, none⟩ = some v2 ∧ w.cell? ⟨g, 3, none⟩ = some v3 ∧ w.cell? ⟨g, 4, none⟩ = some v4 ∧ w.cell? ⟨g, 5, none⟩ = some v5 :=
  ⟨box_at h rfl, box_at h rfl, box_at h rfl, box_at h rfl, box_at h rfl, box_at h rfl⟩

theorem cells2 {w : World} {g : Nat} {t : TypeId} {v0 v1 : Value} (h : w.heap[g]? = some (.cells [v0, v1].toArray t (0, 0))) : w.cell? ⟨g, 0, none⟩ = some v0 ∧ w.cell? ⟨g, 1, none⟩ = some v1 :=
  ⟨box_at h rfl, box_at h rfl⟩

theorem info6 : (Tryz.prog.info? 33).map (·.size) = some 6 := by kernel_rfl

/-- The list of a message's cells, all nought. -/
abbrev zMsg : List Value := [.int .i64 0, .int .u64 0, .int .i64 0, .string ⟨#[]⟩, .string ⟨#[]⟩, .string ⟨#[]⟩]

theorem noBytes_zMsg : NoBytes zMsg := by
  intro v hv x e
  subst e
  simp at hv

/-- A reader beside the box g of a message and the box i of an id. -/
structure Mid (w U : World) (p g i : Nat) (o sq : Int) (s : Option (List UInt8)) : Prop where
  tab : Tab U
  rd : Rd 144 U p s
  hg : U.heap[g]? = some (.cells zMsg.toArray 33 (0, 0))
  hi : U.heap[i]? = some (.cells [.int .i64 o, .int .u64 sq].toArray 31 (0, 0))
  bar : Bar p w U
  gp : g ≠ p
  ip : i ≠ p

theorem Mid.go {w U V : World} {p g i : Nat} {o sq : Int} {s s' : Option (List UInt8)} (h : Mid w U p g i o sq s) (hr : Rd 144 V p s') (hb : Bar p U V) : Mid w V p g i o sq s' :=
  ⟨h.tab.bar h.rd hb, hr, hb.box h.hg h.gp, hb.box h.hi h.ip, h.bar.trans hb, h.gp, h.ip⟩

theorem Mid.drew {w U : World} {p g i : Nat} {o sq : Int} {s : Option (List UInt8)} (h : Mid w U p g i o sq s) : Mid w U.drew p g i o sq s :=
  ⟨h.tab.below (drew_below U) h.tab.pos, h.rd.kept (drew_below U), h.hg, h.hi, h.bar.trans (Bar.of (drew_below U)), h.gp, h.ip⟩

set_option maxRecDepth 20000 in
set_option maxHeartbeats 4000000 in
theorem msg_any (p : Nat) (s : Option (List UInt8)) (w : World) (ht : Tab w) (hr : Rd 144 w p s) :
    Calls Tryz.prog 101 #[.pointer (some ⟨p, 0, none⟩)] w (MsgPost 144 p s w) := by
  obtain ⟨W, fold⟩ : ∃ W, w.alloc (.cells #[.int .i64 0, .int .u64 0, .int .i64 0, .string ⟨#[]⟩, .string ⟨#[]⟩, .string ⟨#[]⟩] 33) = W := ⟨_, rfl⟩
  have b0 : Below w.heap.size w W := by rw [← fold]; exact box_below w _
  have x0 : W.heap[w.heap.size]? = some (.cells zMsg.toArray 33 (0, 0)) := by rw [← fold]; exact heap_alloc_new w _
  have hlt := hr.lt
  have hC := num1_any p s W (ht.below b0 ht.pos) (hr.kept b0)
  have H0 : Hid (Tab W ∧ Rd 144 W p s ∧ W.heap[w.heap.size]? = some (.cells zMsg.toArray 33 (0, 0)) ∧ Bar p w W ∧ w.heap.size ≠ p) := ⟨ht.below b0 ht.pos, hr.kept b0, x0, Bar.of b0, by omega⟩
  clear ht hr b0 x0 hlt
  go_enter Tryz.func101, Tryz.ntmps101
  go_wp2_with fail
  try rw [fold]
  refine hC.mono ?_
  rintro e w1 ⟨t1, s1, rfl, n1, a1, r1, b1⟩
  clear hC
  have wr1 := wrap_num n1 (by decide)
  have H1 : Hid (Tab w1 ∧ Rd 144 w1 p s1 ∧ w1.heap[w.heap.size]? = some (.cells zMsg.toArray 33 (0, 0)) ∧ Bar p w w1 ∧ w.heap.size ≠ p) := ⟨H0.out.1.bar H0.out.2.1 b1, r1, b1.box H0.out.2.2.1 H0.out.2.2.2.2, H0.out.2.2.2.1.trans b1, H0.out.2.2.2.2⟩
  have N1 : Hid (t1 < 256 ^ 1) := n1
  have A1 : Hid (Aft s (numP 1) t1 s1) := a1
  have hC := num8_any p s1 w1 H1.out.1 H1.out.2.1
  clear n1 a1 r1 b1
  go_wp2_with fail
  refine hC.mono ?_
  rintro e w2 ⟨t2, s2, rfl, n2, a2, r2, b2⟩
  clear hC
  have N2 : Hid (t2 < 256 ^ 8) := n2
  have A2 : Hid (Aft s1 (numP 8) t2 s2) := a2
  have H2 : Hid (Tab w2 ∧ Rd 144 w2 p s2 ∧ w2.heap[w.heap.size]? = some (.cells zMsg.toArray 33 (0, 0)) ∧ Bar p w w2 ∧ w.heap.size ≠ p) := ⟨H1.out.1.bar H1.out.2.1 b2, r2, b2.box H1.out.2.2.1 H1.out.2.2.2.2, H1.out.2.2.2.1.trans b2, H1.out.2.2.2.2⟩
  clear n2 a2 r2 b2
  obtain ⟨U, foldU⟩ : ∃ U, w2.alloc (.cells #[.int .i64 (t1 : Int), .int .u64 (t2 : Int)] 31) = U := ⟨_, rfl⟩
  have bU : Below w2.heap.size w2 U := by rw [← foldU]; exact box_below w2 _
  have M0 : Hid (Mid w U p w.heap.size w2.heap.size t1 t2 s2) := ⟨H2.out.1.below bU H2.out.1.pos, H2.out.2.1.kept bU, (bU.block _ (Array.getElem?_eq_some_iff.1 H2.out.2.2.1).1).trans H2.out.2.2.1, by rw [← foldU]; exact heap_alloc_new w2 _, H2.out.2.2.2.1.trans (Bar.of bU), H2.out.2.2.2.2, by have := H2.out.2.1.lt; omega⟩
  have hs2 : Hid (w.heap.size ≤ w.heap.size) := Nat.le_refl _
  clear bU
  obtain ⟨i, hi⟩ : ∃ z, w2.heap.size = z := ⟨_, rfl⟩
  rw [hi] at M0
  go_wp2
  try rw [foldU]
  try rw [hi]
  obtain ⟨e2, d2⟩ := cells2 M0.out.hi
  first
  | (go_region_law (first
      | (rw [if_pos (by simp [Region.wanted])]; go_simp; refine Calls.mono (text_any p s5 u5 m5.out.tab m5.out.rd) ?_; rintro e u6 ⟨t6, s6, rfl, n6, a6, r6, b6⟩; have m6 : Hid (Mid w u6 p w.heap.size i t1 t2 s6) := m5.out.go r6 b6; have A6 : Hid (Aft s5 textP t6 s6 ∧ t6.size < 65536) := ⟨a6, n6⟩; obtain ⟨e6, d6⟩ := cells2 m6.out.hi; have F6 := fun j => box_free m6.out.hg j; obtain ⟨c60, c61, c62, c63, c64, c65⟩ := cells6 m6.out.hg; clear n6 a6 r6 b6; dsimp only)
      | (rw [if_pos (by simp [Region.wanted])]; go_simp; refine Calls.mono (text_any p s4 u4 m4.out.tab m4.out.rd) ?_; rintro e u5 ⟨t5, s5, rfl, n5, a5, r5, b5⟩; have m5 : Hid (Mid w u5 p w.heap.size i t1 t2 s5) := m4.out.go r5 b5; have A5 : Hid (Aft s4 textP t5 s5 ∧ t5.size < 65536) := ⟨a5, n5⟩; obtain ⟨e5, d5⟩ := cells2 m5.out.hi; have F5 := fun j => box_free m5.out.hg j; obtain ⟨c50, c51, c52, c53, c54, c55⟩ := cells6 m5.out.hg; clear n5 a5 r5 b5; dsimp only)
      | (rw [if_pos (by simp [Region.wanted])]; go_simp; refine Calls.mono (text_any p s3 u3 m3.out.tab m3.out.rd) ?_; rintro e u4 ⟨t4, s4, rfl, n4, a4, r4, b4⟩; have m4 : Hid (Mid w u4 p w.heap.size i t1 t2 s4) := m3.out.go r4 b4; have A4 : Hid (Aft s3 textP t4 s4 ∧ t4.size < 65536) := ⟨a4, n4⟩; obtain ⟨e4, d4⟩ := cells2 m4.out.hi; have F4 := fun j => box_free m4.out.hg j; obtain ⟨c40, c41, c42, c43, c44, c45⟩ := cells6 m4.out.hg; clear n4 a4 r4 b4; dsimp only)
      | (rw [if_pos (by simp [Region.wanted])]; go_simp; refine Calls.mono (num1_any p s2 _ (show Mid w _ p w.heap.size i t1 t2 s2 from by first | exact M0.out | exact M0.out.drew).tab (show Mid w _ p w.heap.size i t1 t2 s2 from by first | exact M0.out | exact M0.out.drew).rd) ?_; rintro e u3 ⟨t3, s3, rfl, n3, a3, r3, b3⟩; have wr3 := wrap_num n3 (by decide); have m3 : Hid (Mid w u3 p w.heap.size i t1 t2 s3) := (show Mid w _ p w.heap.size i t1 t2 s2 from by first | exact M0.out | exact M0.out.drew).go r3 b3; have A3 : Hid (Aft s2 (numP 1) t3 s3 ∧ t3 < 256 ^ 1) := ⟨a3, n3⟩; obtain ⟨e3, d3⟩ := cells2 m3.out.hi; have F3 := fun j => box_free m3.out.hg j; obtain ⟨c30, c31, c32, c33, c34, c35⟩ := cells6 m3.out.hg; clear n3 a3 r3 b3; dsimp only)))
  | fail
  all_goals go_wp2
  all_goals refine bodyPost_ret (results_cell_row rfl _ _ w.heap.size 33 (mcells ⟨t1, t2, t3, t4, t5, t6⟩).toArray (0, 0) _ rfl (set_list (set_list (set_list (set_list (set_list (set_list m6.out.hg _) _) _) _) _) _) Tryz.underlying33 rfl info6) rfl ?_
  all_goals refine ⟨⟨t1, t2, t3, t4, t5, t6⟩, s6, rfl, ?_, aft_msg A1.out A2.out A3.out.1 A4.out.1 A5.out.1 A6.out.1, ?_, ?_⟩
  all_goals first
    | (refine ⟨?_, ?_, ?_, short_max A4.out.2, short_max A5.out.2, short_max A6.out.2⟩
       · have := num_le N1.out (by decide); exact ⟨by show _ ≤ (t1 : Int); omega, by show (t1 : Int) < _; omega⟩
       · have := N2.out; exact ⟨by show _ ≤ (t2 : Int); omega, by show (t2 : Int) < _; omega⟩
       · have := num_le A3.out.2 (by decide); exact ⟨by show _ ≤ (t3 : Int); omega, by show (t3 : Int) < _; omega⟩)
    | exact m6.out.rd.only m6.out.hg noBytes_zMsg (Ne.symm m6.out.gp) (fun k _ hk => by rw [Below.heap_setCell _ _ _ _ hk, Below.heap_setCell _ _ _ _ hk, Below.heap_setCell _ _ _ _ hk, Below.heap_setCell _ _ _ _ hk, Below.heap_setCell _ _ _ _ hk, Below.heap_setCell _ _ _ _ hk])
    | exact (((((m6.out.bar.setNew (Nat.le_refl _) _ _).setNew (Nat.le_refl _) _ _).setNew (Nat.le_refl _) _ _).setNew (Nat.le_refl _) _ _).setNew (Nat.le_refl _) _ _).setNew (Nat.le_refl _) _ _

end Go.Proofs.YtdbgojmjjkidbaaGreatDoor

/-
  THE READER READS A MESSAGE INTO AN ACT, by its contract.
-/
namespace Go.Proofs.YtdbgojmjjkidbaaGreatDoor
open Go.RowKit

end Go.Proofs.YtdbgojmjjkidbaaGreatDoor

/-
  THE CALL OF A LETTER: a method value, by its contract.
-/
namespace Go.Proofs.YtdbgojmjjkidbaaGreatDoor
open Go.RowKit

def lettersAll : List UInt8 := [110, 100, 99, 116, 115, 120, 98, 109]

theorem lettersL_in {k : Int} {l : List UInt8} (h : lettersL k = some l) : ∀ c ∈ l, c ∈ lettersAll := by
  unfold lettersL at h
  have st : ∀ (i : Int) (x : List UInt8) (o : Option (List UInt8)), (∀ c ∈ x, c ∈ lettersAll) → (if k = i then some x else o) = some l → (∀ c ∈ l, c ∈ lettersAll) ∨ o = some l := by
    intro i x o hx he
    by_cases hk : k = i
    · rw [if_pos hk] at he
      obtain rfl := Option.some.inj he
      exact .inl hx
    · rw [if_neg hk] at he
      exact .inr he
  rcases st _ _ _ (by decide) h with h | h
  · exact h
  rcases st _ _ _ (by decide) h with h | h
  · exact h
  rcases st _ _ _ (by decide) h with h | h
  · exact h
  rcases st _ _ _ (by decide) h with h | h
  · exact h
  rcases st _ _ _ (by decide) h with h | h
  · exact h
  rcases st _ _ _ (by decide) h with h | h
  · exact h
  rcases st _ _ _ (by decide) h with h | h
  · exact h
  rcases st _ _ _ (by decide) h with h | h
  · exact h
  rcases st _ _ _ (by decide) h with h | h
  · exact h
  rcases st _ _ _ (by decide) h with h | h
  · exact h
  rcases st _ _ _ (by decide) h with h | h
  · exact h
  rcases st _ _ _ (by decide) h with h | h
  · exact h
  exact absurd h (by simp)

/-- .. one letter more. -/
theorem takesP_snoc (c : UInt8) : ∀ (cs : List UInt8) (z : Ax), takesP (cs ++ [c]) z = bindP (takesP cs z) fun z => takeP z c
  | [], z => by
    funext l
    simp only [List.nil_append, takesP, bindP, pureP, Option.bind_some]
    cases takeP z c l with
    | none => rfl
    | some r => rfl
  | d :: cs, z => by
    funext l
    simp only [List.cons_append, takesP, bindP]
    cases takeP z d l with
    | none => rfl
    | some r =>
      simp only [Option.bind_some]
      rw [takesP_snoc c cs r.1]
      rfl

end Go.Proofs.YtdbgojmjjkidbaaGreatDoor

/-
  THE READER READS AN ACT, by its contract.
-/
namespace Go.Proofs.YtdbgojmjjkidbaaGreatDoor
open Go.RowKit

theorem setRow_other (w : World) (g : Nat) (cs : Array Value) (k : Nat) (h : k ≠ g) : (w.setRow g cs).heap[k]? = w.heap[k]? := by
  simp only [World.setRow, Array.getElem?_modify]
  rw [if_neg (fun e => h e.symm)]

/-- How what reads an act ends. -/
def ActPost (T : TypeId) (p : Nat) (s : Option (List UInt8)) (w : World) (e : Ending) (w' : World) : Prop :=
  ∃ (z : Ax) (s' : Option (List UInt8)), e = .returned (av z) ∧ z.Fits ∧ Aft s actP z s' ∧ Rd T w' p s' ∧ Bar p w w'

theorem zA_fits (k : Nat) (h : k < 65536) : (zA (k : Int)).Fits := by
  refine ⟨⟨?_, ?_⟩, Nat.zero_le _, by simp [zA], by simp [zA], by simp [zA], Nat.zero_le _, by simp [zA], Nat.zero_le _, Nat.zero_le _, Nat.zero_le _, ⟨by simp [zA, zM], by simp [zA, zM], by simp [zA, zM], Nat.zero_le _, Nat.zero_le _, Nat.zero_le _⟩⟩
  · show _ ≤ (k : Int); omega
  · show (k : Int) < _; omega

theorem lettersS_get (k : Int) : txt (lettersS k) = (lettersL k).getD [] := by simp [lettersS, txt]

end Go.Proofs.YtdbgojmjjkidbaaGreatDoor

/-
  Read, ReadMessage, by their contracts.
-/
namespace Go.Proofs.YtdbgojmjjkidbaaGreatDoor
open Go.RowKit

theorem results_msg_tmp {fn : Func} {p u : Tmp} (h : fn.results = #[.cell p 33, .tmp u]) (tmps : Array Value) (w : World) (g : Nat) (m : Ms) (hp : tmps.getD p undef = .pointer (some ⟨g, 0, none⟩)) (hg : w.heap[g]? = some (.cells (mcells m).toArray 33 (0, 0))) :
    (results fn tmps).run Tryz.prog w = .ok (.tuple #[mv m, tmps.getD u undef]) w := by
  rw [results_cell_tmp h, hp]
  simp [asAddr, run_loadVar_row w g _ _ _ _ _ hg Tryz.underlying33 rfl info6, Result.andThen]
  rfl

/-- What is told of what was read. -/
def actOf (o : Option Ax) : Ax := o.getD (zA 0)

def errOf {α : Type} (o : Option α) : Int := if o.isSome then 0 else 7

def msgOf (o : Option (Ms × Nat)) : Ms := (o.map (·.1)).getD zM

def sizeOf' (o : Option (Ms × Nat)) : Nat := (o.map (·.2)).getD 0

theorem left_done (tn : Bool) (l : List UInt8) : decide (left tn l = some []) = (!tn && decide (l.length = 0)) := by
  cases tn <;> cases l <;> simp [left]

/-- A result's box and a reader that are made at once. -/
structure Made (T R : TypeId) (C : List Value) (w U : World) (v : Value) (bs : List UInt8) : Prop where
  rd : Rd R U (w.heap.size + 1) (some bs)
  box : U.heap[w.heap.size]? = some (.cells C.toArray T (0, 0))
  bel : Below w.heap.size w U
  size : U.heap.size = w.heap.size + 2

theorem made_new (T R : TypeId) (C : List Value) (w : World) (v : Value) (bs : List UInt8) (hv : Holds w v bs) (hl : bs.length ≤ 100000) : Made T R C w ((w.alloc (.cells C.toArray T)).alloc (.cells #[v, .bool false] R)) v bs := by
  have b0 := box_below w (.cells C.toArray T)
  have hs : (w.alloc (.cells C.toArray T)).heap.size = w.heap.size + 1 := World.size_alloc _ _
  have hr := rd_new R (w.alloc (.cells C.toArray T)) v bs (hv.below b0 (Nat.le_refl _)) hl
  rw [hs] at hr
  refine ⟨hr, heap_alloc2_old w _ _, keptW b0 (box_below _ _), by rw [World.size_alloc, hs]⟩

end Go.Proofs.YtdbgojmjjkidbaaGreatDoor

/-
  ReadMessage, by its contract.
-/
namespace Go.Proofs.YtdbgojmjjkidbaaGreatDoor
open Go.RowKit


/-- What is left is no longer. -/
def Shr {α : Type} (P : Prs α) : Prop := ∀ l x r, P l = some (x, r) → r.length ≤ l.length

theorem Shr.bind {α β : Type} {P : Prs α} {Q : α → Prs β} (h : Shr P) (k : ∀ x, Shr (Q x)) : Shr (bindP P Q) := by
  intro l y r hr
  unfold bindP at hr
  cases hp : P l with
  | none => rw [hp] at hr; exact absurd hr (by simp)
  | some p =>
    obtain ⟨x, s⟩ := p
    rw [hp] at hr
    exact Nat.le_trans (k x s y r hr) (h l x s hp)

theorem shr_pure {α : Type} (x : α) : Shr (pureP x) := fun l y r h => by
  unfold pureP at h
  simp only [Option.some.injEq, Prod.mk.injEq] at h
  rw [h.2]
  exact Nat.le_refl _

theorem shr_num (k : Nat) : Shr (numP k) := fun l y r h => by
  unfold numP at h
  split at h
  · simp only [Option.some.injEq, Prod.mk.injEq] at h
    rw [← h.2, List.length_drop]
    omega
  · exact absurd h (by simp)

theorem shr_head (k : Nat) : Shr (headP k) := fun l y r h => by
  unfold headP at h
  split at h
  · simp only [Option.some.injEq, Prod.mk.injEq] at h
    rw [← h.2, List.length_drop]
    omega
  · exact absurd h (by simp)

theorem shr_text : Shr textP := ((shr_num 2).bind shr_head).bind fun _ => shr_pure _

theorem shr_msg : Shr msgP := (shr_num 1).bind fun _ => (shr_num 8).bind fun _ => (shr_num 1).bind fun _ => shr_text.bind fun _ => shr_text.bind fun _ => shr_text.bind fun _ => shr_pure _

theorem one6 (m : Ms) : (mcells m).toArray.all (·.oneCell') = true := by simp [mcells, Value.oneCell']

theorem aft_le {bs l : List UInt8} {z : Ms} (h : Aft (some bs) msgP z (left false l)) : l.length ≤ bs.length := by
  unfold Aft at h
  rw [Option.bind_some] at h
  cases hp : msgP bs with
  | none => rw [hp] at h; exact absurd h (by simp [left])
  | some r =>
    obtain ⟨m, l'⟩ := r
    rw [hp] at h
    obtain ⟨_, h2⟩ := h
    simp only [left, Bool.false_eq_true, if_false, Option.some.injEq] at h2
    rw [h2]
    exact shr_msg _ _ _ hp

set_option maxRecDepth 20000 in
set_option maxHeartbeats 4000000 in
theorem readM_any (v : Value) (bs : List UInt8) (w : World) (ht : Tab w) (hv : Holds w v bs) (hl : bs.length ≤ 100000) :
    Calls Tryz.prog 90 #[v] w fun e w' => e = .returned (.tuple #[mv (msgOf (readM bs)), .int .i64 (sizeOf' (readM bs) : Int)]) ∧ Below w.heap.size w w' := by
  have M := made_new 33 144 (mcells zM) w v bs hv hl
  obtain ⟨U, fold⟩ : ∃ U, (w.alloc (.cells #[.int .i64 0, .int .u64 0, .int .i64 0, .string ⟨#[]⟩, .string ⟨#[]⟩, .string ⟨#[]⟩] 33)).alloc (.cells #[v, .bool false] 144) = U := ⟨_, rfl⟩
  have M : Made 33 144 (mcells zM) w U v bs := by rw [← fold]; exact M
  have hA := msg_any (w.heap.size + 1) (some bs) U (ht.below M.bel ht.pos) M.rd
  have HM : Hid (Made 33 144 (mcells zM) w U v bs ∧ bs.length ≤ 100000) := ⟨M, hl⟩
  obtain ⟨va, vc, rfl⟩ := hv.slice
  clear M ht hv hl
  go_enter Tryz.func90, Tryz.ntmps90
  go_wp2_with fail
  try rw [fold]
  refine hA.mono ?_
  rintro e w1 ⟨z, s1, rfl, fz, af, rd, bar⟩
  clear hA
  have b1 : Below w.heap.size w w1 := bar.below HM.out.1.bel (by omega) (by have := HM.out.1.size; omega)
  have x1 := bar.box HM.out.1.box (by omega)
  obtain ⟨V0, fold0⟩ : ∃ X, w1.alloc (.cells #[.int .i64 0, .int .u64 0, .int .i64 0, .string ⟨#[]⟩, .string ⟨#[]⟩, .string ⟨#[]⟩] 33) = X := ⟨_, rfl⟩
  have hz0 : V0.heap[w1.heap.size]? = some (.cells (mcells zM).toArray 33 (0, 0)) := by rw [← fold0]; exact heap_alloc_new w1 _
  have bV0 : Below w1.heap.size w1 V0 := by rw [← fold0]; exact box_below w1 _
  obtain ⟨V, hV⟩ : ∃ X, V0.setRow w1.heap.size (mcells z).toArray = X := ⟨_, rfl⟩
  have bV : Below w1.heap.size w1 V := by rw [← hV]; exact below_setRow bV0 (Nat.le_refl _) _
  have xV : V.heap[w1.heap.size]? = some (.cells (mcells z).toArray 33 (0, 0)) := by rw [← hV]; exact setRow_heap _ _ _ _ _ _ hz0
  have hG := goodM_any z V fz
  have x2 := (bV.block _ (Array.getElem?_eq_some_iff.1 x1).1).trans x1
  have rV := rd.kept bV
  have HF : Hid (Below w.heap.size w V ∧ V.heap[w.heap.size]? = some (.cells (mcells zM).toArray 33 (0, 0)) ∧ V.heap[w1.heap.size]? = some (.cells (mcells z).toArray 33 (0, 0)) ∧ Aft (some bs) msgP z s1 ∧ V0.heap[w1.heap.size]? = some (.cells (mcells zM).toArray 33 (0, 0)) ∧ V0.setRow w1.heap.size (mcells z).toArray = V ∧ w.heap.size < w1.heap.size) := ⟨keptW b1 bV, x2, xV, af, hz0, hV, (Array.getElem?_eq_some_iff.1 x1).1⟩
  obtain ⟨ra, n, rc, tn, l, blk, hh, hl, rfl, lo⟩ := rV
  clear lo
  obtain rfl : n = l.length := by obtain ⟨_, _, hv⟩ := hh.slice; injection hv
  have c1 : V.cell? ⟨w.heap.size + 1, 1, none⟩ = some (.bool tn) := by simp only [World.cell?]; rw [blk]; rfl
  have HD : Hid (V.heap[w.heap.size + 1]? = some (.cells #[.slice ra l.length rc, .bool tn] 144 (0, 0))) := blk
  clear rd af fz bar b1 x1 hz0 bV0 bV xV x2 blk hh hl
  cases tn
  rotate_left
  · have HR : Hid (readM bs = none) := readM_aft HF.out.2.2.2.1
    clear hG
    go_wp2_with (first | refine wpList_store_row rfl 33 _ _ rfl w1.heap.size (mcells z).toArray rfl rfl 33 (mcells zM).toArray HF.out.2.2.2.2.1 info6 rfl (one6 z) ?_ | refine wpList_store_row rfl 33 _ _ rfl w.heap.size (mcells zM).toArray rfl rfl 33 (mcells zM).toArray HF.out.2.1 info6 rfl (one6 zM) ?_)
    refine bodyPost_ret (results_msg_tmp rfl _ _ w.heap.size zM rfl (setRow_heap _ _ _ _ _ _ HF.out.2.1)) rfl ⟨?_, below_setRow HF.out.1 (Nat.le_refl _) _⟩
    rw [HR.out]
    rfl
  · have HR : Hid (readM bs = if goodM z = true then some (z, bs.length - l.length) else none) := readM_aft HF.out.2.2.2.1
    have HLe : Hid (l.length ≤ bs.length) := aft_le HF.out.2.2.2.1
    obtain ⟨y0, y1, y2, y3, y4, y5⟩ := cells6 HF.out.2.2.1
    go_wp2_with (refine wpList_store_row rfl 33 _ _ rfl w1.heap.size (mcells z).toArray rfl rfl 33 (mcells zM).toArray HF.out.2.2.2.2.1 info6 rfl (one6 z) ?_)
    refine hG.mono ?_
    rintro e X ⟨rfl, bX⟩
    clear hG y0 y1 y2 y3 y4 y5
    have HX : Hid (Below w.heap.size w X ∧ X.heap[w.heap.size]? = some (.cells (mcells zM).toArray 33 (0, 0)) ∧ X.heap[w1.heap.size]? = some (.cells (mcells z).toArray 33 (0, 0)) ∧ X.heap[w.heap.size + 1]? = some (.cells [.slice ra l.length rc, .bool false].toArray 144 (0, 0))) := ⟨keptW HF.out.1 bX, (bX.block _ (Array.getElem?_eq_some_iff.1 HF.out.2.1).1).trans HF.out.2.1, (bX.block _ (Array.getElem?_eq_some_iff.1 HF.out.2.2.1).1).trans HF.out.2.2.1, (bX.block _ (Array.getElem?_eq_some_iff.1 HD.out).1).trans HD.out⟩
    clear bX c1
    cases hg : goodM z
    · have HR2 : Hid (readM bs = none) := by
        show readM bs = none
        rw [HR.out, hg]
        rfl
      clear hg
      go_wp2_with (refine wpList_store_row rfl 33 _ _ rfl w.heap.size (mcells zM).toArray rfl rfl 33 (mcells zM).toArray HX.out.2.1 info6 rfl (one6 zM) ?_)
      refine bodyPost_ret (results_msg_tmp rfl _ _ w.heap.size zM rfl (setRow_heap _ _ _ _ _ _ HX.out.2.1)) rfl ⟨?_, below_setRow HX.out.1 (Nat.le_refl _) _⟩
      rw [HR2.out]
      rfl
    · have HR2 : Hid (readM bs = some (z, bs.length - l.length)) := by
        show readM bs = _
        rw [HR.out, hg]
        rfl
      clear hg
      obtain ⟨y0, y1, y2, y3, y4, y5⟩ := cells6 HX.out.2.2.1
      obtain ⟨c0, c1⟩ := cells2 HX.out.2.2.2
      obtain ⟨x0, x1, x2, x3, x4, x5⟩ := cells6 HX.out.2.1
      have fx := fun j => box_free HX.out.2.1 j
      have hwr : IntKind.i64.wrap ((bs.length : Int) - (l.length : Int)) = ((bs.length - l.length : Nat) : Int) := by have h1 := HLe.out; have h2 := HM.out.2; rw [IntKind.wrap_i64]; omega
      obtain ⟨D, hD⟩ : ∃ D, bs.length - l.length = D := ⟨_, rfl⟩
      rw [hD] at hwr HR2
      clear hD
      go_wp2
      have ne1 : w1.heap.size ≠ w.heap.size := by have := HF.out.2.2.2.2.2.2; omega
      have ne2 : ¬ w.heap.size = w1.heap.size := by have := HF.out.2.2.2.2.2.2; omega
      go_region_held3 (fun w' => w'.cell? ⟨w1.heap.size, 0, none⟩ = some (.int .i64 z.origin) ∧ w'.cell? ⟨w1.heap.size, 1, none⟩ = some (.int .u64 z.seq) ∧ w'.cell? ⟨w1.heap.size, 2, none⟩ = some (.int .i64 z.hop) ∧ w'.cell? ⟨w1.heap.size, 3, none⟩ = some (.string z.ex) ∧ w'.cell? ⟨w1.heap.size, 4, none⟩ = some (.string z.key) ∧ w'.cell? ⟨w1.heap.size, 5, none⟩ = some (.string z.body) ∧ w'.cell? ⟨w.heap.size + 1, 0, none⟩ = some (.slice ra l.length rc)) (go_keep) (first | fail)
      all_goals go_wp2
      obtain ⟨Y, hY⟩ : ∃ Y, (((((X.setCell ⟨w.heap.size, 0, none⟩ (.int .i64 z.origin)).setCell ⟨w.heap.size, 1, none⟩ (.int .u64 z.seq)).setCell ⟨w.heap.size, 2, none⟩ (.int .i64 z.hop)).setCell ⟨w.heap.size, 3, none⟩ (.string z.ex)).setCell ⟨w.heap.size, 4, none⟩ (.string z.key)).setCell ⟨w.heap.size, 5, none⟩ (.string z.body) = Y := ⟨_, rfl⟩
      have yg : Y.heap[w.heap.size]? = some (.cells (mcells z).toArray 33 (0, 0)) := by rw [← hY]; exact set_list (set_list (set_list (set_list (set_list (set_list HX.out.2.1 _) _) _) _) _) _
      have yb : Below w.heap.size w Y := by rw [← hY]; exact (((((HX.out.1.setCell (p := ⟨w.heap.size, 0, none⟩) (Nat.le_refl _) _).setCell (p := ⟨w.heap.size, 1, none⟩) (Nat.le_refl _) _).setCell (p := ⟨w.heap.size, 2, none⟩) (Nat.le_refl _) _).setCell (p := ⟨w.heap.size, 3, none⟩) (Nat.le_refl _) _).setCell (p := ⟨w.heap.size, 4, none⟩) (Nat.le_refl _) _).setCell (p := ⟨w.heap.size, 5, none⟩) (Nat.le_refl _) _
      rw [hY]
      refine bodyPost_ret (results_msg_tmp rfl _ Y.drew w.heap.size z rfl yg) rfl ⟨?_, yb.drew⟩
      rw [HR2.out]
      rfl

end Go.Proofs.YtdbgojmjjkidbaaGreatDoor
