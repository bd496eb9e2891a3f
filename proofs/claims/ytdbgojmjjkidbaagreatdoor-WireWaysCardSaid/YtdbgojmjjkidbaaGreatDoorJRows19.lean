/-
  THE TABLE OF KINDS in memory; rowOf, isSite, Kind, by their contracts; the document's site, Kind.
-/
import Derived.Test.YtdbgojmjjkidbaaGreatDoorJModel19
import Derived.Test.YtdbgojmjjkidbaaGreatDoorJModel13
import Derived.Test.YtdbgojmjjkidbaaGreatDoorJTexts13
import Derived.Test.YtdbgojmjjkidbaaGreatDoorJOnly
import Derived.Laws.StructEq
namespace Go.Proofs.YtdbgojmjjkidbaaGreatDoor
open Go.RowKit


/-- The table of kinds lies in memory as the text lays it. -/
def PKinds (w : World) : Prop := ∀ j u, [Value.int .i64 1, .string ⟨#[104, 101, 108, 108, 111]⟩, .string ⟨#[101]⟩, .int .i64 2, .string ⟨#[119, 101, 108, 99, 111, 109, 101]⟩, .string ⟨#[97]⟩, .int .i64 3, .string ⟨#[100, 97, 116, 97]⟩, .string ⟨#[101, 110, 109]⟩, .int .i64 4, .string ⟨#[97, 99, 107]⟩, .string ⟨#[101, 110, 107]⟩][j]? = some u → w.cell? ⟨0, j, none⟩ = some u

theorem PKinds.below {w w' : World} (h : PKinds w) (hb : Below w.heap.size w w') : PKinds w' := fun j u hj => cell_on hb (h j u hj)

/-- The letters of a kind. -/
def letP (k : Int) : ByteArray := if k = 1 then ⟨#[101]⟩ else if k = 2 then ⟨#[97]⟩ else if k = 3 then ⟨#[101, 110, 109]⟩ else if k = 4 then ⟨#[101, 110, 107]⟩ else ⟨#[]⟩

def isK (k : Int) : Bool := inB k 1 4

def rowP (k : Int) : List Value := if isK k = true then [.int .i64 k, .string (nameP k), .string (letP k)] else [.int .i64 0, .string ⟨#[]⟩, .string ⟨#[]⟩]

theorem oneR (k : Int) (n l : ByteArray) : [Value.int .i64 k, .string n, .string l].toArray.all (·.oneCell') = true := by simp [Value.oneCell']

theorem infoR : (Tryz.prog.info? 99).map (·.size) = some 3 := by kernel_rfl

theorem results_row_tmp {fn : Func} {p u : Tmp} (h : fn.results = #[.cell p 99, .tmp u]) (tmps : Array Value) (w : World) (g : Nat) (L : List Value) (hL : L.length = 3) (hp : tmps.getD p undef = .pointer (some ⟨g, 0, none⟩)) (hg : w.heap[g]? = some (.cells L.toArray 99 (0, 0))) :
    (results fn tmps).run Tryz.prog w = .ok (.tuple #[.agg L.toArray, tmps.getD u undef]) w := by
  rw [results_cell_tmp h, hp]
  simp [asAddr, run_loadVar_row w g _ _ _ _ _ hg Tryz.underlying99 rfl (by rw [infoR]; simp [hL]), Result.andThen]

theorem isK_no {k : Int} (h : ∀ j : Nat, j < 4 → k ≠ (j : Int) + 1) : isK k = false := by
  have h1 := h 0 (by omega); have h2 := h 1 (by omega); have h3 := h 2 (by omega); have h4 := h 3 (by omega)
  unfold isK inB
  rw [Bool.and_eq_false_iff, decide_eq_false_iff_not, decide_eq_false_iff_not]
  omega

set_option maxRecDepth 20000 in
set_option maxHeartbeats 4000000 in
theorem rowOf_any (k : Int) (w : World) (ht : PKinds w) :
    Calls Tryz.prog 56 #[.int .i64 k] w fun e w' => e = .returned (.tuple #[.agg (rowP k).toArray, .bool (isK k)]) ∧ Below w.heap.size w w' := by
  have i0 : ∀ w : World, (Instr.index 123 (.agg #[.int .i64 1, .string ⟨#[104, 101, 108, 108, 111]⟩, .string ⟨#[101]⟩, .int .i64 2, .string ⟨#[119, 101, 108, 99, 111, 109, 101]⟩, .string ⟨#[97]⟩, .int .i64 3, .string ⟨#[100, 97, 116, 97]⟩, .string ⟨#[101, 110, 109]⟩, .int .i64 4, .string ⟨#[97, 99, 107]⟩, .string ⟨#[101, 110, 107]⟩]) (.int .i64 0)).run Tryz.prog w = .ok (.agg #[.int .i64 1, .string ⟨#[104, 101, 108, 108, 111]⟩, .string ⟨#[101]⟩]) w := fun _ => by kernel_rfl
  have i1 : ∀ w : World, (Instr.index 123 (.agg #[.int .i64 1, .string ⟨#[104, 101, 108, 108, 111]⟩, .string ⟨#[101]⟩, .int .i64 2, .string ⟨#[119, 101, 108, 99, 111, 109, 101]⟩, .string ⟨#[97]⟩, .int .i64 3, .string ⟨#[100, 97, 116, 97]⟩, .string ⟨#[101, 110, 109]⟩, .int .i64 4, .string ⟨#[97, 99, 107]⟩, .string ⟨#[101, 110, 107]⟩]) (.int .i64 1)).run Tryz.prog w = .ok (.agg #[.int .i64 2, .string ⟨#[119, 101, 108, 99, 111, 109, 101]⟩, .string ⟨#[97]⟩]) w := fun _ => by kernel_rfl
  have i2 : ∀ w : World, (Instr.index 123 (.agg #[.int .i64 1, .string ⟨#[104, 101, 108, 108, 111]⟩, .string ⟨#[101]⟩, .int .i64 2, .string ⟨#[119, 101, 108, 99, 111, 109, 101]⟩, .string ⟨#[97]⟩, .int .i64 3, .string ⟨#[100, 97, 116, 97]⟩, .string ⟨#[101, 110, 109]⟩, .int .i64 4, .string ⟨#[97, 99, 107]⟩, .string ⟨#[101, 110, 107]⟩]) (.int .i64 2)).run Tryz.prog w = .ok (.agg #[.int .i64 3, .string ⟨#[100, 97, 116, 97]⟩, .string ⟨#[101, 110, 109]⟩]) w := fun _ => by kernel_rfl
  have i3 : ∀ w : World, (Instr.index 123 (.agg #[.int .i64 1, .string ⟨#[104, 101, 108, 108, 111]⟩, .string ⟨#[101]⟩, .int .i64 2, .string ⟨#[119, 101, 108, 99, 111, 109, 101]⟩, .string ⟨#[97]⟩, .int .i64 3, .string ⟨#[100, 97, 116, 97]⟩, .string ⟨#[101, 110, 109]⟩, .int .i64 4, .string ⟨#[97, 99, 107]⟩, .string ⟨#[101, 110, 107]⟩]) (.int .i64 3)).run Tryz.prog w = .ok (.agg #[.int .i64 4, .string ⟨#[97, 99, 107]⟩, .string ⟨#[101, 110, 107]⟩]) w := fun _ => by kernel_rfl
  have HT : Hid (PKinds w) := ht
  obtain ⟨W, fold⟩ : ∃ W, w.alloc (.cells #[.int .i64 0, .string ⟨#[]⟩, .string ⟨#[]⟩] 99) = W := ⟨_, rfl⟩
  have b0 : Below w.heap.size w W := by rw [← fold]; exact box_below w _
  have x0 : W.heap[w.heap.size]? = some (.cells [.int .i64 0, .string ⟨#[]⟩, .string ⟨#[]⟩].toArray 99 (0, 0)) := by rw [← fold]; exact heap_alloc_new w _
  have htW := ht.below b0
  have H0 : Hid (Below w.heap.size w W ∧ W.heap[w.heap.size]? = some (.cells [.int .i64 0, .string ⟨#[]⟩, .string ⟨#[]⟩].toArray 99 (0, 0)) ∧ W.heap.size = w.heap.size + 1) := ⟨b0, x0, by rw [← fold]; exact World.size_alloc _ _⟩
  clear ht b0 x0
  go_enter Tryz.func56, Tryz.ntmps56
  go_wp2_with (refine wpList_load_cells rfl 123 _ rfl 0 rfl _ _ htW Tryz.underlying123 rfl (by kernel_rfl) ?_)
  clear htW
  try rw [fold]
  go_loopg [7] 4 (fun g u7 wr => ∃ i : Nat, u7 = .int .i64 i ∧ i ≤ 4 ∧ g = 4 - i ∧ Hid ((∀ j : Nat, j < i → k ≠ (j : Int) + 1) ∧ Below W.heap.size W wr))
  case atStart => exact ⟨0, rfl, by omega, rfl, fun j hj => by omega, Below.refl _ _⟩
  case round =>
    obtain ⟨i, rfl, hi, rfl, HI⟩ := hrel
    have hx := (HI.out.2.block w.heap.size (by rw [H0.out.2.2]; omega)).trans H0.out.2.1
    have HX : Hid (wr.heap[w.heap.size]? = some (.cells [.int .i64 0, .string ⟨#[]⟩, .string ⟨#[]⟩].toArray 99 (0, 0)) ∧ Below w.heap.size w wr) := ⟨hx, keptW H0.out.1 HI.out.2⟩
    clear hx
    rcases (show i = 0 ∨ i = 1 ∨ i = 2 ∨ i = 3 ∨ i = 4 by omega) with rfl | rfl | rfl | rfl | rfl
    · obtain ⟨V, hV⟩ : ∃ V, wr.alloc (.cells #[.int .i64 1, .string ⟨#[104, 101, 108, 108, 111]⟩, .string ⟨#[101]⟩] 99) = V := ⟨_, rfl⟩
      have hb : Below wr.heap.size wr V := by rw [← hV]; exact box_below wr _
      have hv : V.heap[wr.heap.size]? = some (.cells [.int .i64 1, .string ⟨#[104, 101, 108, 108, 111]⟩, .string ⟨#[101]⟩].toArray 99 (0, 0)) := by rw [← hV]; exact heap_alloc_new wr _
      have hr := (hb.block _ (Array.getElem?_eq_some_iff.1 HX.out.1).1).trans HX.out.1
      have HB : Hid (Below w.heap.size w V ∧ Below W.heap.size W V ∧ V.heap[w.heap.size]? = some (.cells [.int .i64 0, .string ⟨#[]⟩, .string ⟨#[]⟩].toArray 99 (0, 0)) ∧ V.heap[wr.heap.size]? = some (.cells [.int .i64 1, .string ⟨#[104, 101, 108, 108, 111]⟩, .string ⟨#[101]⟩].toArray 99 (0, 0))) := ⟨keptW HX.out.2 hb, keptW HI.out.2 hb, hr, hv⟩
      have y0 : V.cell? ⟨wr.heap.size, 0, none⟩ = some (.int .i64 1) := box_at hv rfl
      clear hb hr hv HX
      by_cases hk : k = 1
      · subst hk
        go_wp2_with (first | refine wpList_load_row rfl 99 _ rfl wr.heap.size rfl 99 [.int .i64 1, .string ⟨#[104, 101, 108, 108, 111]⟩, .string ⟨#[101]⟩].toArray (0, 0) _ HB.out.2.2.2 Tryz.underlying99 rfl infoR ?_ | refine wpList_store_row rfl 99 _ _ rfl w.heap.size [.int .i64 1, .string ⟨#[104, 101, 108, 108, 111]⟩, .string ⟨#[101]⟩].toArray rfl rfl 99 [.int .i64 0, .string ⟨#[]⟩, .string ⟨#[]⟩].toArray HB.out.2.2.1 infoR rfl (oneR _ _ _) ?_)
        refine bodyPost_ret (results_row_tmp rfl _ _ w.heap.size [.int .i64 1, .string ⟨#[104, 101, 108, 108, 111]⟩, .string ⟨#[101]⟩] rfl rfl (setRow_heap _ _ _ _ _ _ HB.out.2.2.1)) rfl ⟨rfl, below_setRow HB.out.1 (Nat.le_refl _) _⟩
      · have hk' : ((1 : Int) == k) = false := by rw [beq_eq_false_iff_ne]; omega
        have HN : Hid (∀ j : Nat, j < 1 → k ≠ (j : Int) + 1) := fun j hj => by
          by_cases e : j = 0
          · subst e; show k ≠ _; omega
          · exact HI.out.1 j (by omega)
        clear hk HI
        go_wp2
        try rw [hV]
        go_roundg (4 - 1)
        case measure => omega
        case rel => exact ⟨1, by go_num, by omega, rfl, HN.out, HB.out.2.1⟩
    · obtain ⟨V, hV⟩ : ∃ V, wr.alloc (.cells #[.int .i64 2, .string ⟨#[119, 101, 108, 99, 111, 109, 101]⟩, .string ⟨#[97]⟩] 99) = V := ⟨_, rfl⟩
      have hb : Below wr.heap.size wr V := by rw [← hV]; exact box_below wr _
      have hv : V.heap[wr.heap.size]? = some (.cells [.int .i64 2, .string ⟨#[119, 101, 108, 99, 111, 109, 101]⟩, .string ⟨#[97]⟩].toArray 99 (0, 0)) := by rw [← hV]; exact heap_alloc_new wr _
      have hr := (hb.block _ (Array.getElem?_eq_some_iff.1 HX.out.1).1).trans HX.out.1
      have HB : Hid (Below w.heap.size w V ∧ Below W.heap.size W V ∧ V.heap[w.heap.size]? = some (.cells [.int .i64 0, .string ⟨#[]⟩, .string ⟨#[]⟩].toArray 99 (0, 0)) ∧ V.heap[wr.heap.size]? = some (.cells [.int .i64 2, .string ⟨#[119, 101, 108, 99, 111, 109, 101]⟩, .string ⟨#[97]⟩].toArray 99 (0, 0))) := ⟨keptW HX.out.2 hb, keptW HI.out.2 hb, hr, hv⟩
      have y0 : V.cell? ⟨wr.heap.size, 0, none⟩ = some (.int .i64 2) := box_at hv rfl
      clear hb hr hv HX
      by_cases hk : k = 2
      · subst hk
        go_wp2_with (first | refine wpList_load_row rfl 99 _ rfl wr.heap.size rfl 99 [.int .i64 2, .string ⟨#[119, 101, 108, 99, 111, 109, 101]⟩, .string ⟨#[97]⟩].toArray (0, 0) _ HB.out.2.2.2 Tryz.underlying99 rfl infoR ?_ | refine wpList_store_row rfl 99 _ _ rfl w.heap.size [.int .i64 2, .string ⟨#[119, 101, 108, 99, 111, 109, 101]⟩, .string ⟨#[97]⟩].toArray rfl rfl 99 [.int .i64 0, .string ⟨#[]⟩, .string ⟨#[]⟩].toArray HB.out.2.2.1 infoR rfl (oneR _ _ _) ?_)
        refine bodyPost_ret (results_row_tmp rfl _ _ w.heap.size [.int .i64 2, .string ⟨#[119, 101, 108, 99, 111, 109, 101]⟩, .string ⟨#[97]⟩] rfl rfl (setRow_heap _ _ _ _ _ _ HB.out.2.2.1)) rfl ⟨rfl, below_setRow HB.out.1 (Nat.le_refl _) _⟩
      · have hk' : ((2 : Int) == k) = false := by rw [beq_eq_false_iff_ne]; omega
        have HN : Hid (∀ j : Nat, j < 2 → k ≠ (j : Int) + 1) := fun j hj => by
          by_cases e : j = 1
          · subst e; show k ≠ _; omega
          · exact HI.out.1 j (by omega)
        clear hk HI
        go_wp2
        try rw [hV]
        go_roundg (4 - 2)
        case measure => omega
        case rel => exact ⟨2, by go_num, by omega, rfl, HN.out, HB.out.2.1⟩
    · obtain ⟨V, hV⟩ : ∃ V, wr.alloc (.cells #[.int .i64 3, .string ⟨#[100, 97, 116, 97]⟩, .string ⟨#[101, 110, 109]⟩] 99) = V := ⟨_, rfl⟩
      have hb : Below wr.heap.size wr V := by rw [← hV]; exact box_below wr _
      have hv : V.heap[wr.heap.size]? = some (.cells [.int .i64 3, .string ⟨#[100, 97, 116, 97]⟩, .string ⟨#[101, 110, 109]⟩].toArray 99 (0, 0)) := by rw [← hV]; exact heap_alloc_new wr _
      have hr := (hb.block _ (Array.getElem?_eq_some_iff.1 HX.out.1).1).trans HX.out.1
      have HB : Hid (Below w.heap.size w V ∧ Below W.heap.size W V ∧ V.heap[w.heap.size]? = some (.cells [.int .i64 0, .string ⟨#[]⟩, .string ⟨#[]⟩].toArray 99 (0, 0)) ∧ V.heap[wr.heap.size]? = some (.cells [.int .i64 3, .string ⟨#[100, 97, 116, 97]⟩, .string ⟨#[101, 110, 109]⟩].toArray 99 (0, 0))) := ⟨keptW HX.out.2 hb, keptW HI.out.2 hb, hr, hv⟩
      have y0 : V.cell? ⟨wr.heap.size, 0, none⟩ = some (.int .i64 3) := box_at hv rfl
      clear hb hr hv HX
      by_cases hk : k = 3
      · subst hk
        go_wp2_with (first | refine wpList_load_row rfl 99 _ rfl wr.heap.size rfl 99 [.int .i64 3, .string ⟨#[100, 97, 116, 97]⟩, .string ⟨#[101, 110, 109]⟩].toArray (0, 0) _ HB.out.2.2.2 Tryz.underlying99 rfl infoR ?_ | refine wpList_store_row rfl 99 _ _ rfl w.heap.size [.int .i64 3, .string ⟨#[100, 97, 116, 97]⟩, .string ⟨#[101, 110, 109]⟩].toArray rfl rfl 99 [.int .i64 0, .string ⟨#[]⟩, .string ⟨#[]⟩].toArray HB.out.2.2.1 infoR rfl (oneR _ _ _) ?_)
        refine bodyPost_ret (results_row_tmp rfl _ _ w.heap.size [.int .i64 3, .string ⟨#[100, 97, 116, 97]⟩, .string ⟨#[101, 110, 109]⟩] rfl rfl (setRow_heap _ _ _ _ _ _ HB.out.2.2.1)) rfl ⟨rfl, below_setRow HB.out.1 (Nat.le_refl _) _⟩
      · have hk' : ((3 : Int) == k) = false := by rw [beq_eq_false_iff_ne]; omega
        have HN : Hid (∀ j : Nat, j < 3 → k ≠ (j : Int) + 1) := fun j hj => by
          by_cases e : j = 2
          · subst e; show k ≠ _; omega
          · exact HI.out.1 j (by omega)
        clear hk HI
        go_wp2
        try rw [hV]
        go_roundg (4 - 3)
        case measure => omega
        case rel => exact ⟨3, by go_num, by omega, rfl, HN.out, HB.out.2.1⟩
    · obtain ⟨V, hV⟩ : ∃ V, wr.alloc (.cells #[.int .i64 4, .string ⟨#[97, 99, 107]⟩, .string ⟨#[101, 110, 107]⟩] 99) = V := ⟨_, rfl⟩
      have hb : Below wr.heap.size wr V := by rw [← hV]; exact box_below wr _
      have hv : V.heap[wr.heap.size]? = some (.cells [.int .i64 4, .string ⟨#[97, 99, 107]⟩, .string ⟨#[101, 110, 107]⟩].toArray 99 (0, 0)) := by rw [← hV]; exact heap_alloc_new wr _
      have hr := (hb.block _ (Array.getElem?_eq_some_iff.1 HX.out.1).1).trans HX.out.1
      have HB : Hid (Below w.heap.size w V ∧ Below W.heap.size W V ∧ V.heap[w.heap.size]? = some (.cells [.int .i64 0, .string ⟨#[]⟩, .string ⟨#[]⟩].toArray 99 (0, 0)) ∧ V.heap[wr.heap.size]? = some (.cells [.int .i64 4, .string ⟨#[97, 99, 107]⟩, .string ⟨#[101, 110, 107]⟩].toArray 99 (0, 0))) := ⟨keptW HX.out.2 hb, keptW HI.out.2 hb, hr, hv⟩
      have y0 : V.cell? ⟨wr.heap.size, 0, none⟩ = some (.int .i64 4) := box_at hv rfl
      clear hb hr hv HX
      by_cases hk : k = 4
      · subst hk
        go_wp2_with (first | refine wpList_load_row rfl 99 _ rfl wr.heap.size rfl 99 [.int .i64 4, .string ⟨#[97, 99, 107]⟩, .string ⟨#[101, 110, 107]⟩].toArray (0, 0) _ HB.out.2.2.2 Tryz.underlying99 rfl infoR ?_ | refine wpList_store_row rfl 99 _ _ rfl w.heap.size [.int .i64 4, .string ⟨#[97, 99, 107]⟩, .string ⟨#[101, 110, 107]⟩].toArray rfl rfl 99 [.int .i64 0, .string ⟨#[]⟩, .string ⟨#[]⟩].toArray HB.out.2.2.1 infoR rfl (oneR _ _ _) ?_)
        refine bodyPost_ret (results_row_tmp rfl _ _ w.heap.size [.int .i64 4, .string ⟨#[97, 99, 107]⟩, .string ⟨#[101, 110, 107]⟩] rfl rfl (setRow_heap _ _ _ _ _ _ HB.out.2.2.1)) rfl ⟨rfl, below_setRow HB.out.1 (Nat.le_refl _) _⟩
      · have hk' : ((4 : Int) == k) = false := by rw [beq_eq_false_iff_ne]; omega
        have HN : Hid (∀ j : Nat, j < 4 → k ≠ (j : Int) + 1) := fun j hj => by
          by_cases e : j = 3
          · subst e; show k ≠ _; omega
          · exact HI.out.1 j (by omega)
        clear hk HI
        go_wp2
        try rw [hV]
        go_roundg (4 - 4)
        case measure => omega
        case rel => exact ⟨4, by go_num, by omega, rfl, HN.out, HB.out.2.1⟩
    · have hn := isK_no HI.out.1
      have HN : Hid (isK k = false) := hn
      clear hn
      go_wp2_with (refine wpList_store_row rfl 99 _ _ rfl w.heap.size [.int .i64 0, .string ⟨#[]⟩, .string ⟨#[]⟩].toArray rfl rfl 99 [.int .i64 0, .string ⟨#[]⟩, .string ⟨#[]⟩].toArray HX.out.1 infoR rfl (oneR _ _ _) ?_)
      refine bodyPost_ret (results_row_tmp rfl _ _ w.heap.size [.int .i64 0, .string ⟨#[]⟩, .string ⟨#[]⟩] rfl rfl (setRow_heap _ _ _ _ _ _ HX.out.1)) rfl ⟨?_, below_setRow HX.out.2 (Nat.le_refl _) _⟩
      unfold rowP
      rw [HN.out]
      rfl

theorem isSite_any (n : Int) (w : World) : Calls Tryz.prog 57 #[.int .i64 n] w fun e w' => e = .returned (.bool (inB n 1 8)) ∧ w' = w := by
  unfold inB
  by_cases h1 : 1 ≤ n
  · have e1 : decide (1 ≤ n) = true := by simpa using h1
    go_enter Tryz.func57, Tryz.ntmps57
    go_wp2
    go_ret
    exact ⟨by rw [e1]; simp, rfl⟩
  · have e1 : decide (1 ≤ n) = false := by simpa using h1
    go_enter Tryz.func57, Tryz.ntmps57
    go_wp2
    go_ret
    exact ⟨by first | (rw [e1]; simp) | simp, rfl⟩

theorem rsite_any (n : Int) (w : World) : Calls Tryz.prog 54 #[.int .i64 n] w fun e w' => e = .returned (.bool (inB n 1 8)) ∧ w' = w := by
  unfold inB
  by_cases h1 : 1 ≤ n
  · have e1 : decide (1 ≤ n) = true := by simpa using h1
    go_enter Tryz.func54, Tryz.ntmps54
    go_wp2
    go_ret
    exact ⟨by first | (rw [e1]; simp) | simp [h1], rfl⟩
  · have e1 : decide (1 ≤ n) = false := by simpa using h1
    go_enter Tryz.func54, Tryz.ntmps54
    go_wp2
    go_ret
    exact ⟨by first | (rw [e1]; simp) | simp, rfl⟩

end Go.Proofs.YtdbgojmjjkidbaaGreatDoor

/-
  Acts and messages are COMPARED: what '==' answers of them.
-/
namespace Go.Proofs.YtdbgojmjjkidbaaGreatDoor
open Go.RowKit


theorem eqf_cons {P : Program} {w : World} {d : Nat} {xs ys : Array Value} {f : Field} {fs : List Field} {a b : Value} {r s : Bool} (hn : f.name ≠ "_") (ha : (part f.type xs f.offset).run P w = .ok a w) (hb : (part f.type ys f.offset).run P w = .ok b w) (hr : (Op.equalIn d f.type a b).run P w = .ok r w) (hs : (Op.eqFields d xs ys fs).run P w = .ok s w) : (Op.eqFields d xs ys (f :: fs)).run P w = .ok (r && s) w := by
  unfold Op.eqFields
  rw [if_pos hn]
  simp only [Sem.run_bind, ha, hb, hr, Result.andThen_ok]
  cases r with
  | true => simp [hs]
  | false => simp

theorem eqf_nil {P : Program} {w : World} {d : Nat} {xs ys : Array Value} : (Op.eqFields d xs ys []).run P w = .ok true w := by
  simp [Op.eqFields]

theorem part_one {P : Program} {w : World} {t : TypeId} {xs : Array Value} {i : Nat} {v : Value} (h : (isAgg t).run P w = .ok false w) (hv : xs[i]? = some v) : (part t xs i).run P w = .ok v w := by
  unfold part
  simp [h, hv]

theorem part_agg {P : Program} {w : World} {t : TypeId} {xs : Array Value} {i n : Nat} (h : (isAgg t).run P w = .ok true w) (hz : (sizeOf t).run P w = .ok n w) : (part t xs i).run P w = .ok (.agg (xs.extract i (i + n))) w := by
  unfold part
  simp [h, hz]

section

variable (w : World)

theorem agg_int : (isAgg 3).run Tryz.prog w = .ok false w := by have := Tryz.isAgg3; simp [this]

theorem agg_u64 : (isAgg 28).run Tryz.prog w = .ok false w := by have := Tryz.isAgg28; simp [this]

theorem agg_str : (isAgg 9).run Tryz.prog w = .ok false w := by have := Tryz.isAgg9; simp [this]

theorem agg_bool : (isAgg 4).run Tryz.prog w = .ok false w := by have := Tryz.isAgg4; simp [this]

theorem agg_Id : (isAgg 31).run Tryz.prog w = .ok true w := by have := Tryz.isAgg31; simp [this]

theorem size_Id : (sizeOf 31).run Tryz.prog w = .ok 2 w := by have := Tryz.sizeOf31; simp [this]

theorem agg_Ms : (isAgg 33).run Tryz.prog w = .ok true w := by have := Tryz.isAgg33; simp [this]

theorem size_Ms : (sizeOf 33).run Tryz.prog w = .ok 6 w := by have := Tryz.sizeOf33; simp [this]

end

set_option maxRecDepth 20000 in
theorem eqId (d : Nat) (x0 y0 x1 y1 : Int) (w : World) : (Op.equalIn (d + 1+1) 31 (.agg #[.int .i64 x0, .int .u64 x1]) (.agg #[.int .i64 y0, .int .u64 y1])).run Tryz.prog w = .ok ((x0 == y0) && ((x1 == y1) && true)) w := by
  have hS : Tryz.prog.underlying 31 = some (.struct (Tryz.prog.fieldsOf 31)) := by kernel_rfl
  have hp : Tryz.prog.stoodInHeld 31 = false := by kernel_rfl
  rw [run_equalIn_agg w (d + 1) 31 _ _ hS hp]
  simp only [Program.fieldsOf, Tryz.underlying31]
  refine eqf_cons (by decide) (part_one (agg_int w) rfl) (part_one (agg_int w) rfl) (run_equalIn_int w _ _ _ _ _ _ Tryz.underlying3) ?_
  refine eqf_cons (by decide) (part_one (agg_u64 w) rfl) (part_one (agg_u64 w) rfl) (run_equalIn_int w _ _ _ _ _ _ Tryz.underlying28) ?_
  exact eqf_nil

set_option maxRecDepth 20000 in
theorem eqMs (d : Nat) (x0 y0 x1 y1 x2 y2 : Int) (x3 y3 x4 y4 x5 y5 : ByteArray) (w : World) : (Op.equalIn (d + 2+1) 33 (.agg #[.int .i64 x0, .int .u64 x1, .int .i64 x2, .string x3, .string x4, .string x5]) (.agg #[.int .i64 y0, .int .u64 y1, .int .i64 y2, .string y3, .string y4, .string y5])).run Tryz.prog w = .ok (((x0 == y0) && ((x1 == y1) && true)) && ((x2 == y2) && ((x3.toList == y3.toList) && ((x4.toList == y4.toList) && ((x5.toList == y5.toList) && true))))) w := by
  have hS : Tryz.prog.underlying 33 = some (.struct (Tryz.prog.fieldsOf 33)) := by kernel_rfl
  have hp : Tryz.prog.stoodInHeld 33 = false := by kernel_rfl
  rw [run_equalIn_agg w (d + 2) 33 _ _ hS hp]
  simp only [Program.fieldsOf, Tryz.underlying33]
  refine eqf_cons (by decide) (part_agg (agg_Id w) (size_Id w)) (part_agg (agg_Id w) (size_Id w)) (eqId (d + 0) x0 y0 x1 y1 w) ?_
  refine eqf_cons (by decide) (part_one (agg_int w) rfl) (part_one (agg_int w) rfl) (run_equalIn_int w _ _ _ _ _ _ Tryz.underlying3) ?_
  refine eqf_cons (by decide) (part_one (agg_str w) rfl) (part_one (agg_str w) rfl) (run_equalIn_string w _ _ _ _ Tryz.underlying9) ?_
  refine eqf_cons (by decide) (part_one (agg_str w) rfl) (part_one (agg_str w) rfl) (run_equalIn_string w _ _ _ _ Tryz.underlying9) ?_
  refine eqf_cons (by decide) (part_one (agg_str w) rfl) (part_one (agg_str w) rfl) (run_equalIn_string w _ _ _ _ Tryz.underlying9) ?_
  exact eqf_nil

theorem toList_beq (a b : ByteArray) : (a.toList == b.toList) = decide (a = b) := by
  by_cases h : a = b
  · subst h
    simp
  · rw [decide_eq_false h, beq_eq_false_iff_ne]
    intro e
    rw [ByteArray.toList_eq, ByteArray.toList_eq] at e
    obtain ⟨⟨x⟩⟩ := a
    obtain ⟨⟨y⟩⟩ := b
    exact h (by rw [show x = y from e])

theorem int_beq (a b : Int) : (a == b) = decide (a = b) := by
  by_cases h : a = b <;> simp [h]

theorem bool_beq (a b : Bool) : (a == b) = decide (a = b) := by
  cases a <;> cases b <;> rfl

theorem run_eqM (m n : Ms) (w : World) : (binOp .eql 33 (mv m) (mv n)).run Tryz.prog w = .ok (.bool (decide (m = n))) w := by
  rw [run_eql_struct, eqMs 9997]
  simp only [Result.andThen_ok, toList_beq, int_beq]
  congr 2
  rw [Bool.eq_iff_iff]
  simp only [Bool.and_eq_true, decide_eq_true_eq]
  constructor
  · rintro ⟨⟨h1, h2, _⟩, h3, h4, h5, h6, _⟩
    cases m; cases n; simp_all
  · rintro rfl
    exact ⟨⟨rfl, rfl, trivial⟩, rfl, rfl, rfl, rfl, trivial⟩

theorem run_neM (m n : Ms) (w : World) : (binOp .neq 33 (mv m) (mv n)).run Tryz.prog w = .ok (.bool (!decide (m = n))) w := by
  have h := run_eqM m n w
  rw [run_eql_struct] at h
  rw [run_neq_struct]
  revert h
  generalize (Op.equalIn 10000 33 (mv m) (mv n)).run Tryz.prog w = r
  intro h
  cases r with
  | ok b w' =>
    simp only [Result.andThen_ok] at h ⊢
    injection h with h1 h2
    injection h1 with h1
    rw [h1, h2]
  | _ => simp [Result.andThen] at h

theorem eqGuardM : Tryz.prog.eqGuardType Tryz.prog.depth 33 = false := by kernel_rfl

end Go.Proofs.YtdbgojmjjkidbaaGreatDoor

/-
  Packets are COMPARED: what '==' answers of them.
-/
namespace Go.Proofs.YtdbgojmjjkidbaaGreatDoor
open Go.RowKit


theorem agg_u16 (w : World) : (isAgg 29).run Tryz.prog w = .ok false w := by have := Tryz.isAgg29; simp [this]

set_option maxRecDepth 20000 in
theorem eqPk (d : Nat) (x0 y0 x1 y1 x2 y2 x3 y3 x4 y4 x5 y5 x6 y6 x7 y7 x8 y8 : Int) (x9 y9 x10 y10 x11 y11 : ByteArray) (w : World) : (Op.equalIn (d + 3+1) 35 (.agg #[.int .i64 x0, .int .i64 x1, .int .i64 x2, .int .u64 x3, .int .u16 x4, .int .u64 x5, .int .i64 x6, .int .u64 x7, .int .i64 x8, .string x9, .string x10, .string x11]) (.agg #[.int .i64 y0, .int .i64 y1, .int .i64 y2, .int .u64 y3, .int .u16 y4, .int .u64 y5, .int .i64 y6, .int .u64 y7, .int .i64 y8, .string y9, .string y10, .string y11])).run Tryz.prog w = .ok ((x0 == y0) && ((x1 == y1) && ((x2 == y2) && ((x3 == y3) && ((x4 == y4) && ((x5 == y5) && ((((x6 == y6) && ((x7 == y7) && true)) && ((x8 == y8) && ((x9.toList == y9.toList) && ((x10.toList == y10.toList) && ((x11.toList == y11.toList) && true))))) && true))))))) w := by
  have hS : Tryz.prog.underlying 35 = some (.struct (Tryz.prog.fieldsOf 35)) := by kernel_rfl
  have hp : Tryz.prog.stoodInHeld 35 = false := by kernel_rfl
  rw [run_equalIn_agg w (d + 3) 35 _ _ hS hp]
  simp only [Program.fieldsOf, Tryz.underlying35]
  refine eqf_cons (by decide) (part_one (agg_int w) rfl) (part_one (agg_int w) rfl) (run_equalIn_int w _ _ _ _ _ _ Tryz.underlying3) ?_
  refine eqf_cons (by decide) (part_one (agg_int w) rfl) (part_one (agg_int w) rfl) (run_equalIn_int w _ _ _ _ _ _ Tryz.underlying3) ?_
  refine eqf_cons (by decide) (part_one (agg_int w) rfl) (part_one (agg_int w) rfl) (run_equalIn_int w _ _ _ _ _ _ Tryz.underlying3) ?_
  refine eqf_cons (by decide) (part_one (agg_u64 w) rfl) (part_one (agg_u64 w) rfl) (run_equalIn_int w _ _ _ _ _ _ Tryz.underlying28) ?_
  refine eqf_cons (by decide) (part_one (agg_u16 w) rfl) (part_one (agg_u16 w) rfl) (run_equalIn_int w _ _ _ _ _ _ Tryz.underlying29) ?_
  refine eqf_cons (by decide) (part_one (agg_u64 w) rfl) (part_one (agg_u64 w) rfl) (run_equalIn_int w _ _ _ _ _ _ Tryz.underlying28) ?_
  refine eqf_cons (by decide) (part_agg (agg_Ms w) (size_Ms w)) (part_agg (agg_Ms w) (size_Ms w)) (eqMs (d + 0) x6 y6 x7 y7 x8 y8 x9 y9 x10 y10 x11 y11 w) ?_
  exact eqf_nil

theorem run_eqP (p q : Pk) (w : World) : (binOp .eql 35 (pv p) (pv q)).run Tryz.prog w = .ok (.bool (decide (p = q))) w := by
  rw [run_eql_struct, eqPk 9996]
  simp only [Result.andThen_ok, toList_beq, int_beq]
  congr 2
  rw [Bool.eq_iff_iff]
  simp only [Bool.and_eq_true, decide_eq_true_eq]
  constructor
  · rintro ⟨h0, h1, h2, h3, h4, h5, ⟨⟨h11, h12, _⟩, h13, h14, h15, h16, _⟩, _⟩
    obtain ⟨k, f, d, e, n, x, m⟩ := p
    obtain ⟨k', f', d', e', n', x', m'⟩ := q
    obtain ⟨o, s, hp, e, ky, bo⟩ := m
    obtain ⟨o', s', hp', e', ky', bo'⟩ := m'
    dsimp only at *
    subst_vars
    rfl
  · rintro rfl
    exact ⟨rfl, rfl, rfl, rfl, rfl, rfl, ⟨⟨rfl, rfl, trivial⟩, rfl, rfl, rfl, rfl, trivial⟩, trivial⟩

theorem eqGuardP : Tryz.prog.eqGuardType Tryz.prog.depth 35 = false := by kernel_rfl

theorem info12 : (Tryz.prog.info? 35).map (·.size) = some 12 := by kernel_rfl

theorem one12 (p : Pk) : (pcells p).toArray.all (·.oneCell') = true := by simp [pcells, Value.oneCell']

end Go.Proofs.YtdbgojmjjkidbaaGreatDoor
