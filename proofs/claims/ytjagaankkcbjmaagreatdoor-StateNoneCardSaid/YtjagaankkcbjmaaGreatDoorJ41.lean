/-
  deed, and Apply by the deed of an act's kind.
-/
import Derived.Test.YtjagaankkcbjmaaGreatDoorJ34
import Derived.Test.YtjagaankkcbjmaaGreatDoorJ27
import Derived.Test.YtjagaankkcbjmaaGreatDoorJ37
namespace Go.Proofs.YtjagaankkcbjmaaGreatDoor
open Go.RowKit

/-- How Apply ends. -/
def AppPost (p : Nat) (G : Nat → Prop) (w : World) (ns : List ByteArray) (er : Int) (s' : Sm) (e : Ending) (w' : World) : Prop := ∃ v', e = .returned (.tuple #[v', .int .i64 er]) ∧ Row w' v' (scells ns) ∧ ∃ G', SS w' p G' s' ∧ Moved w w' G G'
theorem app_none {p : Nat} {G : Nat → Prop} {w V V' : World} {er : Int} {s' : Sm} (b : Below w.heap.size w V) (h : DeedPost p G V er s' (.returned (.int .i64 er)) V') : AppPost p G w [] er s' (.returned (.tuple #[.slice none 0 0, .int .i64 er])) V' := by
  obtain ⟨_, G', h1, h2⟩ := h
  exact ⟨_, rfl, .inl ⟨rfl, rfl⟩, G', h1, Moved.from_below b h2⟩
set_option maxRecDepth 20000 in
theorem deed1_any (w : World) : Calls Tryz.prog 38 #[.int .i64 1] w fun e w' => e = .returned (.func (.func 94) #[] #[]) ∧ w' = w := by
  go_enter Tryz.func38, Tryz.ntmps38
  go_wp2
  go_ret
  exact ⟨rfl, rfl⟩
set_option maxRecDepth 20000 in
theorem deed3_any (w : World) : Calls Tryz.prog 38 #[.int .i64 3] w fun e w' => e = .returned (.func (.func 96) #[] #[]) ∧ w' = w := by
  go_enter Tryz.func38, Tryz.ntmps38
  go_wp2
  go_ret
  exact ⟨rfl, rfl⟩
set_option maxRecDepth 20000 in
theorem deed7_any (w : World) : Calls Tryz.prog 38 #[.int .i64 7] w fun e w' => e = .returned (.func (.func 100) #[] #[]) ∧ w' = w := by
  go_enter Tryz.func38, Tryz.ntmps38
  go_wp2
  go_ret
  exact ⟨rfl, rfl⟩
set_option maxRecDepth 20000 in
set_option maxHeartbeats 1000000 in
theorem apply1_any (p : Nat) (G : Nat → Prop) (s : Sm) (a : Ax) (w : World) (h : SS w p G s) (hK : Kinds w) (ha : a.Fits) (hg : goodA a = true) (hk : a.kind = 1) (er : Int) (s' : Sm) (hD : ∀ V, Below w.heap.size w V → Calls Tryz.prog 94 #[.pointer (some ⟨p, 0, none⟩), av a] V (DeedPost p G V er s')) :
    Calls Tryz.prog 13 #[.pointer (some ⟨p, 0, none⟩), av a] w (AppPost p G w [] er s') := by
  obtain ⟨W, fold⟩ : ∃ W, w.alloc (.cells #[.int .i64 a.kind, .string a.name, .int .i64 a.n, .int .u64 a.tag, .int .i64 a.to, .string a.xn, .int .i64 a.xk, .bool a.xf, .string a.be, .string a.bq, .string a.bp, .int .i64 a.m.origin, .int .u64 a.m.seq, .int .i64 a.m.hop, .string a.m.ex, .string a.m.key, .string a.m.body] 42) = W := ⟨_, rfl⟩
  have hB : Boxd w W a := by rw [← fold]; exact boxd_new w a
  have hM := made14_any p G s W (h.kept hB.bel)
  have hG := goodA_any a W (hK.below hB.bel) ha
  have H0 : Hid (SS w p G s ∧ Boxd w W a) := ⟨h, hB⟩
  clear h hB hK ha
  rw [hg] at hG
  have HD : Hid (∀ V, Below w.heap.size w V → Calls Tryz.prog 94 #[.pointer (some ⟨p, 0, none⟩), av a] V (DeedPost p G V er s')) := hD
  have HKi : Hid (a.kind = 1) := hk
  clear hD hk
  go_enter Tryz.func13, Tryz.ntmps13
  go_wp2_with fail
  try rw [fold]
  refine hM.mono ?_
  rintro e W ⟨rfl, rfl⟩
  clear hM
  go_wp2_with (refine wpList_load_row rfl 42 _ rfl w.heap.size rfl 42 (xcells a).toArray (0, 0) _ H0.out.2.box Tryz.underlying42 rfl info17 ?_)
  refine hG.mono ?_
  rintro e V1 ⟨rfl, b1⟩
  have HB : Hid (Below w.heap.size w V1 ∧ V1.heap[w.heap.size]? = some (.cells (xcells a).toArray 42 (0, 0))) := ⟨keptW H0.out.2.bel b1, (b1.block _ (Array.getElem?_eq_some_iff.1 H0.out.2.box).1).trans H0.out.2.box⟩
  have x0 : V1.cell? ⟨w.heap.size, 0, none⟩ = some (.int .i64 1) := by rw [(cells17 HB.out.2).1, HKi.out]
  have hE := deed1_any V1
  clear hG b1 fold
  go_wp2_with fail
  refine hE.mono ?_
  rintro e V1 ⟨rfl, rfl⟩
  have hD := HD.out V1 HB.out.1
  clear hE HD
  go_wp2_with (refine wpList_load_row rfl 42 _ rfl w.heap.size rfl 42 (xcells a).toArray (0, 0) _ HB.out.2 Tryz.underlying42 rfl info17 ?_)
  refine hD.mono ?_
  rintro e V2 hP
  obtain ⟨rfl, G2, hS2, m2⟩ := hP
  have HP : Hid (DeedPost p G V1 er s' (.returned (.int .i64 er)) V2) := ⟨rfl, G2, hS2, m2⟩
  have hbl := (Array.getElem?_eq_some_iff.1 HB.out.2).1
  have y0 : V2.cell? ⟨w.heap.size, 0, none⟩ = some (.int .i64 1) := (World.cell?_of_block (w := V1) (a := ⟨w.heap.size, 0, none⟩) (m2.block w.heap.size hbl (fun hk => by have := H0.out.1.lts _ hk; omega))).trans x0
  clear hD hS2 m2 hbl
  by_cases he : er = 0
  · subst he
    go_wp2
    go_ret2
    exact app_none HB.out.1 HP.out
  · go_wp2
    go_ret2
    exact app_none HB.out.1 HP.out
set_option maxRecDepth 20000 in
set_option maxHeartbeats 1000000 in
theorem apply3_any (p : Nat) (G : Nat → Prop) (s : Sm) (a : Ax) (w : World) (h : SS w p G s) (hK : Kinds w) (ha : a.Fits) (hg : goodA a = true) (hk : a.kind = 3) (er : Int) (s' : Sm) (hD : ∀ V, Below w.heap.size w V → Calls Tryz.prog 96 #[.pointer (some ⟨p, 0, none⟩), av a] V (DeedPost p G V er s')) :
    Calls Tryz.prog 13 #[.pointer (some ⟨p, 0, none⟩), av a] w (AppPost p G w [] er s') := by
  obtain ⟨W, fold⟩ : ∃ W, w.alloc (.cells #[.int .i64 a.kind, .string a.name, .int .i64 a.n, .int .u64 a.tag, .int .i64 a.to, .string a.xn, .int .i64 a.xk, .bool a.xf, .string a.be, .string a.bq, .string a.bp, .int .i64 a.m.origin, .int .u64 a.m.seq, .int .i64 a.m.hop, .string a.m.ex, .string a.m.key, .string a.m.body] 42) = W := ⟨_, rfl⟩
  have hB : Boxd w W a := by rw [← fold]; exact boxd_new w a
  have hM := made14_any p G s W (h.kept hB.bel)
  have hG := goodA_any a W (hK.below hB.bel) ha
  have H0 : Hid (SS w p G s ∧ Boxd w W a) := ⟨h, hB⟩
  clear h hB hK ha
  rw [hg] at hG
  have HD : Hid (∀ V, Below w.heap.size w V → Calls Tryz.prog 96 #[.pointer (some ⟨p, 0, none⟩), av a] V (DeedPost p G V er s')) := hD
  have HKi : Hid (a.kind = 3) := hk
  clear hD hk
  go_enter Tryz.func13, Tryz.ntmps13
  go_wp2_with fail
  try rw [fold]
  refine hM.mono ?_
  rintro e W ⟨rfl, rfl⟩
  clear hM
  go_wp2_with (refine wpList_load_row rfl 42 _ rfl w.heap.size rfl 42 (xcells a).toArray (0, 0) _ H0.out.2.box Tryz.underlying42 rfl info17 ?_)
  refine hG.mono ?_
  rintro e V1 ⟨rfl, b1⟩
  have HB : Hid (Below w.heap.size w V1 ∧ V1.heap[w.heap.size]? = some (.cells (xcells a).toArray 42 (0, 0))) := ⟨keptW H0.out.2.bel b1, (b1.block _ (Array.getElem?_eq_some_iff.1 H0.out.2.box).1).trans H0.out.2.box⟩
  have x0 : V1.cell? ⟨w.heap.size, 0, none⟩ = some (.int .i64 3) := by rw [(cells17 HB.out.2).1, HKi.out]
  have hE := deed3_any V1
  clear hG b1 fold
  go_wp2_with fail
  refine hE.mono ?_
  rintro e V1 ⟨rfl, rfl⟩
  have hD := HD.out V1 HB.out.1
  clear hE HD
  go_wp2_with (refine wpList_load_row rfl 42 _ rfl w.heap.size rfl 42 (xcells a).toArray (0, 0) _ HB.out.2 Tryz.underlying42 rfl info17 ?_)
  refine hD.mono ?_
  rintro e V2 hP
  obtain ⟨rfl, G2, hS2, m2⟩ := hP
  have HP : Hid (DeedPost p G V1 er s' (.returned (.int .i64 er)) V2) := ⟨rfl, G2, hS2, m2⟩
  have hbl := (Array.getElem?_eq_some_iff.1 HB.out.2).1
  have y0 : V2.cell? ⟨w.heap.size, 0, none⟩ = some (.int .i64 3) := (World.cell?_of_block (w := V1) (a := ⟨w.heap.size, 0, none⟩) (m2.block w.heap.size hbl (fun hk => by have := H0.out.1.lts _ hk; omega))).trans x0
  clear hD hS2 m2 hbl
  by_cases he : er = 0
  · subst he
    go_wp2
    go_ret2
    exact app_none HB.out.1 HP.out
  · go_wp2
    go_ret2
    exact app_none HB.out.1 HP.out
end Go.Proofs.YtjagaankkcbjmaaGreatDoor

/-
  Has, and Apply of ActEnter, by their contracts.
-/
namespace Go.Proofs.YtjagaankkcbjmaaGreatDoor
open Go.RowKit

set_option maxRecDepth 20000 in
set_option maxHeartbeats 1000000 in
theorem has14_any (p : Nat) (G : Nat → Prop) (s : Sm) (o n : Int) (w : World) (h : SS w p G s) (bk : s.Bk) (hn : 0 ≤ n ∧ n < 18446744073709551616) : Calls Tryz.prog 18 #[.pointer (some ⟨p, 0, none⟩), .agg #[.int .i64 o, .int .u64 n]] w fun e w' => e = .returned (.bool (hasM s o n)) ∧ Below w.heap.size w w' := by
  obtain ⟨W, fold⟩ : ∃ W, w.alloc (.cells #[.int .i64 o, .int .u64 n] 38) = W := ⟨_, rfl⟩
  have bW : Below w.heap.size w W := by rw [← fold]; exact box_below w _
  have kW : W.heap[w.heap.size]? = some (.cells [.int .i64 o, .int .u64 n].toArray 38 (0, 0)) := by rw [← fold]; exact heap_alloc_new w _
  have hS := h.kept bW
  have hM := made14_any p G s W.drew (hS.kept (drew_below W))
  obtain ⟨ft, d, hs', hF⟩ := hS
  obtain ⟨has, hhas⟩ : ∃ z, hasM s o n = z := ⟨_, rfl⟩
  have HH : Hid (∀ V, Below W.heap.size W V → Calls Tryz.prog 63 #[.pointer (some ⟨d.bp, 0, none⟩), .agg #[.int .i64 o, .int .u64 n]] V fun e w' => e = .returned (.bool has) ∧ Below V.heap.size V w') := fun V b => by
    have := S.bhas_any (S.ptrS d.bp) s.bk o n.toNat V (hs'.book.kept b).told (bk.at o).1 (bk.at o).2
    rw [show ((n.toNat : Nat) : Int) = n by omega] at this
    unfold hasM at hhas
    rw [hhas] at this
    exact this
  have c8 : W.cell? ⟨p, 8, none⟩ = some (.pointer (some ⟨d.bp, 0, none⟩)) := (cells10 hs'.blk).2.2.2.2.2.2.2.2.1
  have y0 : W.cell? ⟨w.heap.size, 0, none⟩ = some (.int .i64 o) := box_at kW rfl
  have y1 : W.cell? ⟨w.heap.size, 1, none⟩ = some (.int .u64 n) := box_at kW rfl
  have HK : Hid (Below w.heap.size w W ∧ ∀ V, Below W.heap.size W V → V.cell? ⟨p, 8, none⟩ = some (.pointer (some ⟨d.bp, 0, none⟩)) ∧ V.cell? ⟨w.heap.size, 0, none⟩ = some (.int .i64 o) ∧ V.cell? ⟨w.heap.size, 1, none⟩ = some (.int .u64 n)) := ⟨bW, fun V b => ⟨cell_on b c8, cell_on b y0, cell_on b y1⟩⟩
  rw [hhas]
  clear hs' hF h bk hn hhas bW kW
  go_enter Tryz.func18, Tryz.ntmps18
  go_wp2
  try rw [fold]
  (go_region_held3 (fun w' => w'.cell? ⟨p, 8, none⟩ = some (.pointer (some ⟨d.bp, 0, none⟩)) ∧ w'.cell? ⟨w.heap.size, 0, none⟩ = some (.int .i64 o) ∧ w'.cell? ⟨w.heap.size, 1, none⟩ = some (.int .u64 n)) (first | exact ⟨c8, y0, y1⟩ | go_keep) (first
    | (go_at_call 36; refine hM.mono ?_; rintro e w2 ⟨rfl, rfl⟩; clear hM)
    | (go_at_call 63; refine (HH.out W.drew (drew_below W)).mono ?_; rintro e w3 ⟨rfl, b3⟩; have B3 : Hid (Below W.heap.size W w3) := keptW (drew_below W) b3; obtain ⟨f0, f1, f2⟩ := HK.out.2 w3 B3.out; clear b3)))
  all_goals go_wp2
  all_goals go_ret
  all_goals exact ⟨rfl, keptW HK.out.1 B3.out⟩
set_option maxRecDepth 20000 in
set_option maxHeartbeats 1000000 in
theorem apply7_any (p : Nat) (G : Nat → Prop) (s : Sm) (a : Ax) (w : World) (h : SS w p G s) (hK : Kinds w) (ha : a.Fits) (hg : goodA a = true) (hk : a.kind = 7) (er : Int) (s' : Sm) (fit' : s'.Fit) (ok' : s'.tb.Ok) (hm : a.m.In) (hD : ∀ V, Below w.heap.size w V → Calls Tryz.prog 100 #[.pointer (some ⟨p, 0, none⟩), av a] V (DeedPost p G V er s')) :
    Calls Tryz.prog 13 #[.pointer (some ⟨p, 0, none⟩), av a] w (AppPost p G w (if er = 0 then intoM s' a.m else []) er s') := by
  obtain ⟨W, fold⟩ : ∃ W, w.alloc (.cells #[.int .i64 a.kind, .string a.name, .int .i64 a.n, .int .u64 a.tag, .int .i64 a.to, .string a.xn, .int .i64 a.xk, .bool a.xf, .string a.be, .string a.bq, .string a.bp, .int .i64 a.m.origin, .int .u64 a.m.seq, .int .i64 a.m.hop, .string a.m.ex, .string a.m.key, .string a.m.body] 42) = W := ⟨_, rfl⟩
  have hB : Boxd w W a := by rw [← fold]; exact boxd_new w a
  have hM := made14_any p G s W (h.kept hB.bel)
  have hG := goodA_any a W (hK.below hB.bel) ha
  have H0 : Hid (SS w p G s ∧ Boxd w W a) := ⟨h, hB⟩
  clear h hB hK ha
  rw [hg] at hG
  have HD : Hid (∀ V, Below w.heap.size w V → Calls Tryz.prog 100 #[.pointer (some ⟨p, 0, none⟩), av a] V (DeedPost p G V er s')) := hD
  have HKi : Hid (a.kind = 7 ∧ s'.Fit ∧ s'.tb.Ok ∧ a.m.In) := ⟨hk, fit', ok', hm⟩
  obtain ⟨ns, hns⟩ : ∃ z, (if er = 0 then intoM s' a.m else []) = z := ⟨_, rfl⟩
  rw [hns]
  have HNs : Hid ((if er = 0 then intoM s' a.m else []) = ns) := hns
  clear hD hk fit' ok' hm hns
  go_enter Tryz.func13, Tryz.ntmps13
  go_wp2_with fail
  try rw [fold]
  refine hM.mono ?_
  rintro e W ⟨rfl, rfl⟩
  clear hM
  go_wp2_with (refine wpList_load_row rfl 42 _ rfl w.heap.size rfl 42 (xcells a).toArray (0, 0) _ H0.out.2.box Tryz.underlying42 rfl info17 ?_)
  refine hG.mono ?_
  rintro e V1 ⟨rfl, b1⟩
  have HB : Hid (Below w.heap.size w V1 ∧ V1.heap[w.heap.size]? = some (.cells (xcells a).toArray 42 (0, 0))) := ⟨keptW H0.out.2.bel b1, (b1.block _ (Array.getElem?_eq_some_iff.1 H0.out.2.box).1).trans H0.out.2.box⟩
  have x0 : V1.cell? ⟨w.heap.size, 0, none⟩ = some (.int .i64 7) := by rw [(cells17 HB.out.2).1, HKi.out.1]
  have hE := deed7_any V1
  clear hG b1 fold
  go_wp2_with fail
  refine hE.mono ?_
  rintro e V1 ⟨rfl, rfl⟩
  have hD := HD.out V1 HB.out.1
  clear hE HD
  go_wp2_with (refine wpList_load_row rfl 42 _ rfl w.heap.size rfl 42 (xcells a).toArray (0, 0) _ HB.out.2 Tryz.underlying42 rfl info17 ?_)
  refine hD.mono ?_
  rintro e V2 hP
  obtain ⟨rfl, G2, hS2, m2⟩ := hP
  have HP : Hid (DeedPost p G V1 er s' (.returned (.int .i64 er)) V2) := ⟨rfl, G2, hS2, m2⟩
  have hbl := (Array.getElem?_eq_some_iff.1 HB.out.2).1
  have y0 : V2.cell? ⟨w.heap.size, 0, none⟩ = some (.int .i64 7) := (World.cell?_of_block (w := V1) (a := ⟨w.heap.size, 0, none⟩) (m2.block w.heap.size hbl (fun hk => by have := H0.out.1.lts _ hk; omega))).trans x0
  have hbx : V2.heap[w.heap.size]? = some (.cells (xcells a).toArray 42 (0, 0)) := (m2.block w.heap.size hbl (fun hk => by have := H0.out.1.lts _ hk; omega)).trans HB.out.2
  have hI := into_any p G2 s' a.m V2 hS2 HKi.out.2.1 HKi.out.2.2.1 HKi.out.2.2.2.ex HKi.out.2.2.2.key
  have H2 : Hid (SS V2 p G2 s' ∧ Moved V1 V2 G G2) := ⟨hS2, m2⟩
  obtain ⟨y0', y1, y2, y3, y4, y5, y6, y7, y8, y9, y10, y11, y12, y13, y14, y15, y16⟩ := cells17 hbx
  clear hD hS2 m2 hbl y0' y1 y2 y3 y4 y5 y6 y7 y8 y9 y10 hbx
  by_cases he : er = 0
  · subst he
    have e : intoM s' a.m = ns := HNs.out
    rw [e] at hI
    clear e
    go_wp2_with fail
    refine hI.mono ?_
    rintro e V3 ⟨v3, rfl, ⟨r3, _⟩, b3⟩
    obtain ⟨va, vc, rfl⟩ := r3.sliceStrs
    have H3 : Hid (Row V3 (.slice va ns.length vc) (scells ns) ∧ Below V2.heap.size V2 V3) := ⟨r3, b3⟩
    clear hI r3 b3
    go_wp2
    go_ret2
    exact ⟨_, rfl, H3.out.1, G2, H2.out.1.kept H3.out.2, (Moved.from_below HB.out.1 H2.out.2).trans (.of_below H3.out.2)⟩
  · obtain rfl : [] = ns := by have := HNs.out; rw [if_neg he] at this; exact this
    clear hI
    go_wp2
    go_ret2
    exact app_none HB.out.1 HP.out
end Go.Proofs.YtjagaankkcbjmaaGreatDoor
