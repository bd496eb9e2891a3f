/-
  THE TABLE OF KINDS in memory; rowOf, isSite, Kind, by their contracts; the document's site, Kind.
-/
import Derived.Test.YtopacoghnofliaaDoorModel19
import Derived.Test.YtopacoghnofliaaDoorLetters
import Derived.Test.YtopacoghnofliaaDoorRMsgs
import Derived.Test.YtopacoghnofliaaDoorOnly2
import Derived.Test.YtopacoghnofliaaDoorEq13
import Derived.Test.YtopacoghnofliaaDoorMem13b
namespace Go.Proofs.YtopacoghnofliaaDoor
open Go.RowKit

/-- The table of kinds lies in memory as the text lays it. -/
def PKinds (w : World) : Prop := ∀ j u, [Value.int .i64 1, .string ⟨#[104, 101, 108, 108, 111]⟩, .string ⟨#[101]⟩, .int .i64 2, .string ⟨#[119, 101, 108, 99, 111, 109, 101]⟩, .string ⟨#[97]⟩, .int .i64 3, .string ⟨#[100, 97, 116, 97]⟩, .string ⟨#[101, 110, 109]⟩, .int .i64 4, .string ⟨#[97, 99, 107]⟩, .string ⟨#[101, 110, 107]⟩][j]? = some u → w.cell? ⟨0, j, none⟩ = some u
theorem PKinds.below {w w' : World} (h : PKinds w) (hb : Below w.heap.size w w') : PKinds w' := fun j u hj => cell_on hb (h j u hj)
/-- The letters of a kind. -/
def letP (k : Int) : ByteArray := if k = 1 then ⟨#[101]⟩ else if k = 2 then ⟨#[97]⟩ else if k = 3 then ⟨#[101, 110, 109]⟩ else if k = 4 then ⟨#[101, 110, 107]⟩ else ⟨#[]⟩
def isK (k : Int) : Bool := inB k 1 4
def rowP (k : Int) : List Value := if isK k = true then [.int .i64 k, .string (nameP k), .string (letP k)] else [.int .i64 0, .string ⟨#[]⟩, .string ⟨#[]⟩]
theorem oneR (k : Int) (n l : ByteArray) : [Value.int .i64 k, .string n, .string l].toArray.all (·.oneCell') = true := by simp [Value.oneCell']
theorem infoR : (Tryd.prog.info? 48).map (·.size) = some 3 := by kernel_rfl
theorem results_row_tmp {fn : Func} {p u : Tmp} (h : fn.results = #[.cell p 48, .tmp u]) (tmps : Array Value) (w : World) (g : Nat) (L : List Value) (hL : L.length = 3) (hp : tmps.getD p undef = .pointer (some ⟨g, 0, none⟩)) (hg : w.heap[g]? = some (.cells L.toArray 48 (0, 0))) :
    (results fn tmps).run Tryd.prog w = .ok (.tuple #[.agg L.toArray, tmps.getD u undef]) w := by
  rw [results_cell_tmp h, hp]
  simp [asAddr, run_loadVar_row w g _ _ _ _ _ hg Tryd.underlying48 rfl (by rw [infoR]; simp [hL]), Result.andThen]
theorem isK_no {k : Int} (h : ∀ j : Nat, j < 4 → k ≠ (j : Int) + 1) : isK k = false := by
  have h1 := h 0 (by omega); have h2 := h 1 (by omega); have h3 := h 2 (by omega); have h4 := h 3 (by omega)
  unfold isK inB
  rw [Bool.and_eq_false_iff, decide_eq_false_iff_not, decide_eq_false_iff_not]
  omega
set_option maxRecDepth 20000 in
set_option maxHeartbeats 4000000 in
theorem rowOf_any (k : Int) (w : World) (ht : PKinds w) :
    Calls Tryd.prog 19 #[.int .i64 k] w fun e w' => e = .returned (.tuple #[.agg (rowP k).toArray, .bool (isK k)]) ∧ Below w.heap.size w w' := by
  have i0 : ∀ w : World, (Instr.index 69 (.agg #[.int .i64 1, .string ⟨#[104, 101, 108, 108, 111]⟩, .string ⟨#[101]⟩, .int .i64 2, .string ⟨#[119, 101, 108, 99, 111, 109, 101]⟩, .string ⟨#[97]⟩, .int .i64 3, .string ⟨#[100, 97, 116, 97]⟩, .string ⟨#[101, 110, 109]⟩, .int .i64 4, .string ⟨#[97, 99, 107]⟩, .string ⟨#[101, 110, 107]⟩]) (.int .i64 0)).run Tryd.prog w = .ok (.agg #[.int .i64 1, .string ⟨#[104, 101, 108, 108, 111]⟩, .string ⟨#[101]⟩]) w := fun _ => by kernel_rfl
  have i1 : ∀ w : World, (Instr.index 69 (.agg #[.int .i64 1, .string ⟨#[104, 101, 108, 108, 111]⟩, .string ⟨#[101]⟩, .int .i64 2, .string ⟨#[119, 101, 108, 99, 111, 109, 101]⟩, .string ⟨#[97]⟩, .int .i64 3, .string ⟨#[100, 97, 116, 97]⟩, .string ⟨#[101, 110, 109]⟩, .int .i64 4, .string ⟨#[97, 99, 107]⟩, .string ⟨#[101, 110, 107]⟩]) (.int .i64 1)).run Tryd.prog w = .ok (.agg #[.int .i64 2, .string ⟨#[119, 101, 108, 99, 111, 109, 101]⟩, .string ⟨#[97]⟩]) w := fun _ => by kernel_rfl
  have i2 : ∀ w : World, (Instr.index 69 (.agg #[.int .i64 1, .string ⟨#[104, 101, 108, 108, 111]⟩, .string ⟨#[101]⟩, .int .i64 2, .string ⟨#[119, 101, 108, 99, 111, 109, 101]⟩, .string ⟨#[97]⟩, .int .i64 3, .string ⟨#[100, 97, 116, 97]⟩, .string ⟨#[101, 110, 109]⟩, .int .i64 4, .string ⟨#[97, 99, 107]⟩, .string ⟨#[101, 110, 107]⟩]) (.int .i64 2)).run Tryd.prog w = .ok (.agg #[.int .i64 3, .string ⟨#[100, 97, 116, 97]⟩, .string ⟨#[101, 110, 109]⟩]) w := fun _ => by kernel_rfl
  have i3 : ∀ w : World, (Instr.index 69 (.agg #[.int .i64 1, .string ⟨#[104, 101, 108, 108, 111]⟩, .string ⟨#[101]⟩, .int .i64 2, .string ⟨#[119, 101, 108, 99, 111, 109, 101]⟩, .string ⟨#[97]⟩, .int .i64 3, .string ⟨#[100, 97, 116, 97]⟩, .string ⟨#[101, 110, 109]⟩, .int .i64 4, .string ⟨#[97, 99, 107]⟩, .string ⟨#[101, 110, 107]⟩]) (.int .i64 3)).run Tryd.prog w = .ok (.agg #[.int .i64 4, .string ⟨#[97, 99, 107]⟩, .string ⟨#[101, 110, 107]⟩]) w := fun _ => by kernel_rfl
  have HT : Hid (PKinds w) := ht
  obtain ⟨W, fold⟩ : ∃ W, w.alloc (.cells #[.int .i64 0, .string ⟨#[]⟩, .string ⟨#[]⟩] 48) = W := ⟨_, rfl⟩
  have b0 : Below w.heap.size w W := by rw [← fold]; exact box_below w _
  have x0 : W.heap[w.heap.size]? = some (.cells [.int .i64 0, .string ⟨#[]⟩, .string ⟨#[]⟩].toArray 48 (0, 0)) := by rw [← fold]; exact heap_alloc_new w _
  have htW := ht.below b0
  have H0 : Hid (Below w.heap.size w W ∧ W.heap[w.heap.size]? = some (.cells [.int .i64 0, .string ⟨#[]⟩, .string ⟨#[]⟩].toArray 48 (0, 0)) ∧ W.heap.size = w.heap.size + 1) := ⟨b0, x0, by rw [← fold]; exact World.size_alloc _ _⟩
  clear ht b0 x0
  go_enter Tryd.func19, Tryd.ntmps19
  go_wp2_with (refine wpList_load_cells rfl 69 _ rfl 0 rfl _ _ htW Tryd.underlying69 rfl (by kernel_rfl) ?_)
  clear htW
  try rw [fold]
  go_loopg [7] 4 (fun g u7 wr => ∃ i : Nat, u7 = .int .i64 i ∧ i ≤ 4 ∧ g = 4 - i ∧ Hid ((∀ j : Nat, j < i → k ≠ (j : Int) + 1) ∧ Below W.heap.size W wr))
  case atStart => exact ⟨0, rfl, by omega, rfl, fun j hj => by omega, Below.refl _ _⟩
  case round =>
    obtain ⟨i, rfl, hi, rfl, HI⟩ := hrel
    have hx := (HI.out.2.block w.heap.size (by rw [H0.out.2.2]; omega)).trans H0.out.2.1
    have HX : Hid (wr.heap[w.heap.size]? = some (.cells [.int .i64 0, .string ⟨#[]⟩, .string ⟨#[]⟩].toArray 48 (0, 0)) ∧ Below w.heap.size w wr) := ⟨hx, keptW H0.out.1 HI.out.2⟩
    clear hx
    rcases (show i = 0 ∨ i = 1 ∨ i = 2 ∨ i = 3 ∨ i = 4 by omega) with rfl | rfl | rfl | rfl | rfl
    · obtain ⟨V, hV⟩ : ∃ V, wr.alloc (.cells #[.int .i64 1, .string ⟨#[104, 101, 108, 108, 111]⟩, .string ⟨#[101]⟩] 48) = V := ⟨_, rfl⟩
      have hb : Below wr.heap.size wr V := by rw [← hV]; exact box_below wr _
      have hv : V.heap[wr.heap.size]? = some (.cells [.int .i64 1, .string ⟨#[104, 101, 108, 108, 111]⟩, .string ⟨#[101]⟩].toArray 48 (0, 0)) := by rw [← hV]; exact heap_alloc_new wr _
      have hr := (hb.block _ (Array.getElem?_eq_some_iff.1 HX.out.1).1).trans HX.out.1
      have HB : Hid (Below w.heap.size w V ∧ Below W.heap.size W V ∧ V.heap[w.heap.size]? = some (.cells [.int .i64 0, .string ⟨#[]⟩, .string ⟨#[]⟩].toArray 48 (0, 0)) ∧ V.heap[wr.heap.size]? = some (.cells [.int .i64 1, .string ⟨#[104, 101, 108, 108, 111]⟩, .string ⟨#[101]⟩].toArray 48 (0, 0))) := ⟨keptW HX.out.2 hb, keptW HI.out.2 hb, hr, hv⟩
      have y0 : V.cell? ⟨wr.heap.size, 0, none⟩ = some (.int .i64 1) := box_at hv rfl
      clear hb hr hv HX
      by_cases hk : k = 1
      · subst hk
        go_wp2_with (first | refine wpList_load_row rfl 48 _ rfl wr.heap.size rfl 48 [.int .i64 1, .string ⟨#[104, 101, 108, 108, 111]⟩, .string ⟨#[101]⟩].toArray (0, 0) _ HB.out.2.2.2 Tryd.underlying48 rfl infoR ?_ | refine wpList_store_row rfl 48 _ _ rfl w.heap.size [.int .i64 1, .string ⟨#[104, 101, 108, 108, 111]⟩, .string ⟨#[101]⟩].toArray rfl rfl 48 [.int .i64 0, .string ⟨#[]⟩, .string ⟨#[]⟩].toArray HB.out.2.2.1 infoR rfl (oneR _ _ _) ?_)
        refine bodyPost_ret (results_row_tmp rfl _ _ w.heap.size [.int .i64 1, .string ⟨#[104, 101, 108, 108, 111]⟩, .string ⟨#[101]⟩] rfl rfl (setRow_heap _ _ _ _ _ _ HB.out.2.2.1)) rfl ⟨rfl, below_setRow HB.out.1 (Nat.le_refl _) _⟩
      · have hk' : ((1 : Int) == k) = false := by rw [beq_eq_false_iff_ne]; omega
        have HN : Hid (∀ j : Nat, j < 1 → k ≠ (j : Int) + 1) := fun j hj => by
          by_cases e : j = 0
          · subst e; show k ≠ _; omega
          · exact HI.out.1 j (by omega)
        clear hk HI
        go_wp2
        try rw [hV]
        go_roundg (4 - 1)
        case measure => omega
        case rel => exact ⟨1, by go_num, by omega, rfl, HN.out, HB.out.2.1⟩
    · obtain ⟨V, hV⟩ : ∃ V, wr.alloc (.cells #[.int .i64 2, .string ⟨#[119, 101, 108, 99, 111, 109, 101]⟩, .string ⟨#[97]⟩] 48) = V := ⟨_, rfl⟩
      have hb : Below wr.heap.size wr V := by rw [← hV]; exact box_below wr _
      have hv : V.heap[wr.heap.size]? = some (.cells [.int .i64 2, .string ⟨#[119, 101, 108, 99, 111, 109, 101]⟩, .string ⟨#[97]⟩].toArray 48 (0, 0)) := by rw [← hV]; exact heap_alloc_new wr _
      have hr := (hb.block _ (Array.getElem?_eq_some_iff.1 HX.out.1).1).trans HX.out.1
      have HB : Hid (Below w.heap.size w V ∧ Below W.heap.size W V ∧ V.heap[w.heap.size]? = some (.cells [.int .i64 0, .string ⟨#[]⟩, .string ⟨#[]⟩].toArray 48 (0, 0)) ∧ V.heap[wr.heap.size]? = some (.cells [.int .i64 2, .string ⟨#[119, 101, 108, 99, 111, 109, 101]⟩, .string ⟨#[97]⟩].toArray 48 (0, 0))) := ⟨keptW HX.out.2 hb, keptW HI.out.2 hb, hr, hv⟩
      have y0 : V.cell? ⟨wr.heap.size, 0, none⟩ = some (.int .i64 2) := box_at hv rfl
      clear hb hr hv HX
      by_cases hk : k = 2
      · subst hk
        go_wp2_with (first | refine wpList_load_row rfl 48 _ rfl wr.heap.size rfl 48 [.int .i64 2, .string ⟨#[119, 101, 108, 99, 111, 109, 101]⟩, .string ⟨#[97]⟩].toArray (0, 0) _ HB.out.2.2.2 Tryd.underlying48 rfl infoR ?_ | refine wpList_store_row rfl 48 _ _ rfl w.heap.size [.int .i64 2, .string ⟨#[119, 101, 108, 99, 111, 109, 101]⟩, .string ⟨#[97]⟩].toArray rfl rfl 48 [.int .i64 0, .string ⟨#[]⟩, .string ⟨#[]⟩].toArray HB.out.2.2.1 infoR rfl (oneR _ _ _) ?_)
        refine bodyPost_ret (results_row_tmp rfl _ _ w.heap.size [.int .i64 2, .string ⟨#[119, 101, 108, 99, 111, 109, 101]⟩, .string ⟨#[97]⟩] rfl rfl (setRow_heap _ _ _ _ _ _ HB.out.2.2.1)) rfl ⟨rfl, below_setRow HB.out.1 (Nat.le_refl _) _⟩
      · have hk' : ((2 : Int) == k) = false := by rw [beq_eq_false_iff_ne]; omega
        have HN : Hid (∀ j : Nat, j < 2 → k ≠ (j : Int) + 1) := fun j hj => by
          by_cases e : j = 1
          · subst e; show k ≠ _; omega
          · exact HI.out.1 j (by omega)
        clear hk HI
        go_wp2
        try rw [hV]
        go_roundg (4 - 2)
        case measure => omega
        case rel => exact ⟨2, by go_num, by omega, rfl, HN.out, HB.out.2.1⟩
    · obtain ⟨V, hV⟩ : ∃ V, wr.alloc (.cells #[.int .i64 3, .string ⟨#[100, 97, 116, 97]⟩, .string ⟨#[101, 110, 109]⟩] 48) = V := ⟨_, rfl⟩
      have hb : Below wr.heap.size wr V := by rw [← hV]; exact box_below wr _
      have hv : V.heap[wr.heap.size]? = some (.cells [.int .i64 3, .string ⟨#[100, 97, 116, 97]⟩, .string ⟨#[101, 110, 109]⟩].toArray 48 (0, 0)) := by rw [← hV]; exact heap_alloc_new wr _
      have hr := (hb.block _ (Array.getElem?_eq_some_iff.1 HX.out.1).1).trans HX.out.1
      have HB : Hid (Below w.heap.size w V ∧ Below W.heap.size W V ∧ V.heap[w.heap.size]? = some (.cells [.int .i64 0, .string ⟨#[]⟩, .string ⟨#[]⟩].toArray 48 (0, 0)) ∧ V.heap[wr.heap.size]? = some (.cells [.int .i64 3, .string ⟨#[100, 97, 116, 97]⟩, .string ⟨#[101, 110, 109]⟩].toArray 48 (0, 0))) := ⟨keptW HX.out.2 hb, keptW HI.out.2 hb, hr, hv⟩
      have y0 : V.cell? ⟨wr.heap.size, 0, none⟩ = some (.int .i64 3) := box_at hv rfl
      clear hb hr hv HX
      by_cases hk : k = 3
      · subst hk
        go_wp2_with (first | refine wpList_load_row rfl 48 _ rfl wr.heap.size rfl 48 [.int .i64 3, .string ⟨#[100, 97, 116, 97]⟩, .string ⟨#[101, 110, 109]⟩].toArray (0, 0) _ HB.out.2.2.2 Tryd.underlying48 rfl infoR ?_ | refine wpList_store_row rfl 48 _ _ rfl w.heap.size [.int .i64 3, .string ⟨#[100, 97, 116, 97]⟩, .string ⟨#[101, 110, 109]⟩].toArray rfl rfl 48 [.int .i64 0, .string ⟨#[]⟩, .string ⟨#[]⟩].toArray HB.out.2.2.1 infoR rfl (oneR _ _ _) ?_)
        refine bodyPost_ret (results_row_tmp rfl _ _ w.heap.size [.int .i64 3, .string ⟨#[100, 97, 116, 97]⟩, .string ⟨#[101, 110, 109]⟩] rfl rfl (setRow_heap _ _ _ _ _ _ HB.out.2.2.1)) rfl ⟨rfl, below_setRow HB.out.1 (Nat.le_refl _) _⟩
      · have hk' : ((3 : Int) == k) = false := by rw [beq_eq_false_iff_ne]; omega
        have HN : Hid (∀ j : Nat, j < 3 → k ≠ (j : Int) + 1) := fun j hj => by
          by_cases e : j = 2
          · subst e; show k ≠ _; omega
          · exact HI.out.1 j (by omega)
        clear hk HI
        go_wp2
        try rw [hV]
        go_roundg (4 - 3)
        case measure => omega
        case rel => exact ⟨3, by go_num, by omega, rfl, HN.out, HB.out.2.1⟩
    · obtain ⟨V, hV⟩ : ∃ V, wr.alloc (.cells #[.int .i64 4, .string ⟨#[97, 99, 107]⟩, .string ⟨#[101, 110, 107]⟩] 48) = V := ⟨_, rfl⟩
      have hb : Below wr.heap.size wr V := by rw [← hV]; exact box_below wr _
      have hv : V.heap[wr.heap.size]? = some (.cells [.int .i64 4, .string ⟨#[97, 99, 107]⟩, .string ⟨#[101, 110, 107]⟩].toArray 48 (0, 0)) := by rw [← hV]; exact heap_alloc_new wr _
      have hr := (hb.block _ (Array.getElem?_eq_some_iff.1 HX.out.1).1).trans HX.out.1
      have HB : Hid (Below w.heap.size w V ∧ Below W.heap.size W V ∧ V.heap[w.heap.size]? = some (.cells [.int .i64 0, .string ⟨#[]⟩, .string ⟨#[]⟩].toArray 48 (0, 0)) ∧ V.heap[wr.heap.size]? = some (.cells [.int .i64 4, .string ⟨#[97, 99, 107]⟩, .string ⟨#[101, 110, 107]⟩].toArray 48 (0, 0))) := ⟨keptW HX.out.2 hb, keptW HI.out.2 hb, hr, hv⟩
      have y0 : V.cell? ⟨wr.heap.size, 0, none⟩ = some (.int .i64 4) := box_at hv rfl
      clear hb hr hv HX
      by_cases hk : k = 4
      · subst hk
        go_wp2_with (first | refine wpList_load_row rfl 48 _ rfl wr.heap.size rfl 48 [.int .i64 4, .string ⟨#[97, 99, 107]⟩, .string ⟨#[101, 110, 107]⟩].toArray (0, 0) _ HB.out.2.2.2 Tryd.underlying48 rfl infoR ?_ | refine wpList_store_row rfl 48 _ _ rfl w.heap.size [.int .i64 4, .string ⟨#[97, 99, 107]⟩, .string ⟨#[101, 110, 107]⟩].toArray rfl rfl 48 [.int .i64 0, .string ⟨#[]⟩, .string ⟨#[]⟩].toArray HB.out.2.2.1 infoR rfl (oneR _ _ _) ?_)
        refine bodyPost_ret (results_row_tmp rfl _ _ w.heap.size [.int .i64 4, .string ⟨#[97, 99, 107]⟩, .string ⟨#[101, 110, 107]⟩] rfl rfl (setRow_heap _ _ _ _ _ _ HB.out.2.2.1)) rfl ⟨rfl, below_setRow HB.out.1 (Nat.le_refl _) _⟩
      · have hk' : ((4 : Int) == k) = false := by rw [beq_eq_false_iff_ne]; omega
        have HN : Hid (∀ j : Nat, j < 4 → k ≠ (j : Int) + 1) := fun j hj => by
          by_cases e : j = 3
          · subst e; show k ≠ _; omega
          · exact HI.out.1 j (by omega)
        clear hk HI
        go_wp2
        try rw [hV]
        go_roundg (4 - 4)
        case measure => omega
        case rel => exact ⟨4, by go_num, by omega, rfl, HN.out, HB.out.2.1⟩
    · have hn := isK_no HI.out.1
      have HN : Hid (isK k = false) := hn
      clear hn
      go_wp2_with (refine wpList_store_row rfl 48 _ _ rfl w.heap.size [.int .i64 0, .string ⟨#[]⟩, .string ⟨#[]⟩].toArray rfl rfl 48 [.int .i64 0, .string ⟨#[]⟩, .string ⟨#[]⟩].toArray HX.out.1 infoR rfl (oneR _ _ _) ?_)
      refine bodyPost_ret (results_row_tmp rfl _ _ w.heap.size [.int .i64 0, .string ⟨#[]⟩, .string ⟨#[]⟩] rfl rfl (setRow_heap _ _ _ _ _ _ HX.out.1)) rfl ⟨?_, below_setRow HX.out.2 (Nat.le_refl _) _⟩
      unfold rowP
      rw [HN.out]
      rfl
theorem isSite_any (n : Int) (w : World) : Calls Tryd.prog 20 #[.int .i64 n] w fun e w' => e = .returned (.bool (inB n 1 8)) ∧ w' = w := by
  unfold inB
  by_cases h1 : 1 ≤ n
  · have e1 : decide (1 ≤ n) = true := by simpa using h1
    go_enter Tryd.func20, Tryd.ntmps20
    go_wp2
    go_ret
    exact ⟨by rw [e1]; simp, rfl⟩
  · have e1 : decide (1 ≤ n) = false := by simpa using h1
    go_enter Tryd.func20, Tryd.ntmps20
    go_wp2
    go_ret
    exact ⟨by first | (rw [e1]; simp) | simp, rfl⟩
theorem rsite_any (n : Int) (w : World) : Calls Tryd.prog 23 #[.int .i64 n] w fun e w' => e = .returned (.bool (inB n 1 8)) ∧ w' = w := by
  unfold inB
  by_cases h1 : 1 ≤ n
  · have e1 : decide (1 ≤ n) = true := by simpa using h1
    go_enter Tryd.func23, Tryd.ntmps23
    go_wp2
    go_ret
    exact ⟨by first | (rw [e1]; simp) | simp [h1], rfl⟩
  · have e1 : decide (1 ≤ n) = false := by simpa using h1
    go_enter Tryd.func23, Tryd.ntmps23
    go_wp2
    go_ret
    exact ⟨by first | (rw [e1]; simp) | simp, rfl⟩
end Go.Proofs.YtopacoghnofliaaDoor

/-
  Packets are COMPARED: what '==' answers of them.
-/
namespace Go.Proofs.YtopacoghnofliaaDoor
open Go.RowKit

theorem agg_u16 (w : World) : (isAgg 23).run Tryd.prog w = .ok false w := by have := Tryd.isAgg23; simp [this]
set_option maxRecDepth 20000 in
theorem eqPk (d : Nat) (x0 y0 x1 y1 x2 y2 x3 y3 x4 y4 x5 y5 x6 y6 x7 y7 x8 y8 : Int) (x9 y9 x10 y10 x11 y11 : ByteArray) (w : World) : (Op.equalIn (d + 3+1) 29 (.agg #[.int .i64 x0, .int .i64 x1, .int .i64 x2, .int .u64 x3, .int .u16 x4, .int .u64 x5, .int .i64 x6, .int .u64 x7, .int .i64 x8, .string x9, .string x10, .string x11]) (.agg #[.int .i64 y0, .int .i64 y1, .int .i64 y2, .int .u64 y3, .int .u16 y4, .int .u64 y5, .int .i64 y6, .int .u64 y7, .int .i64 y8, .string y9, .string y10, .string y11])).run Tryd.prog w = .ok ((x0 == y0) && ((x1 == y1) && ((x2 == y2) && ((x3 == y3) && ((x4 == y4) && ((x5 == y5) && ((((x6 == y6) && ((x7 == y7) && true)) && ((x8 == y8) && ((x9.toList == y9.toList) && ((x10.toList == y10.toList) && ((x11.toList == y11.toList) && true))))) && true))))))) w := by
  have hS : Tryd.prog.underlying 29 = some (.struct (Tryd.prog.fieldsOf 29)) := by kernel_rfl
  have hp : Tryd.prog.stoodInHeld 29 = false := by kernel_rfl
  rw [run_equalIn_agg w (d + 3) 29 _ _ hS hp]
  simp only [Program.fieldsOf, Tryd.underlying29]
  refine eqf_cons (by decide) (part_one (agg_int w) rfl) (part_one (agg_int w) rfl) (run_equalIn_int w _ _ _ _ _ _ Tryd.underlying3) ?_
  refine eqf_cons (by decide) (part_one (agg_int w) rfl) (part_one (agg_int w) rfl) (run_equalIn_int w _ _ _ _ _ _ Tryd.underlying3) ?_
  refine eqf_cons (by decide) (part_one (agg_int w) rfl) (part_one (agg_int w) rfl) (run_equalIn_int w _ _ _ _ _ _ Tryd.underlying3) ?_
  refine eqf_cons (by decide) (part_one (agg_u64 w) rfl) (part_one (agg_u64 w) rfl) (run_equalIn_int w _ _ _ _ _ _ Tryd.underlying22) ?_
  refine eqf_cons (by decide) (part_one (agg_u16 w) rfl) (part_one (agg_u16 w) rfl) (run_equalIn_int w _ _ _ _ _ _ Tryd.underlying23) ?_
  refine eqf_cons (by decide) (part_one (agg_u64 w) rfl) (part_one (agg_u64 w) rfl) (run_equalIn_int w _ _ _ _ _ _ Tryd.underlying22) ?_
  refine eqf_cons (by decide) (part_agg (agg_Ms w) (size_Ms w)) (part_agg (agg_Ms w) (size_Ms w)) (eqMs (d + 0) x6 y6 x7 y7 x8 y8 x9 y9 x10 y10 x11 y11 w) ?_
  exact eqf_nil
theorem run_eqP (p q : Pk) (w : World) : (binOp .eql 29 (pv p) (pv q)).run Tryd.prog w = .ok (.bool (decide (p = q))) w := by
  rw [run_eql_struct, eqPk 9996]
  simp only [Result.andThen_ok, toList_beq, int_beq]
  congr 2
  rw [Bool.eq_iff_iff]
  simp only [Bool.and_eq_true, decide_eq_true_eq]
  constructor
  · rintro ⟨h0, h1, h2, h3, h4, h5, ⟨⟨h11, h12, _⟩, h13, h14, h15, h16, _⟩, _⟩
    obtain ⟨k, f, d, e, n, x, m⟩ := p
    obtain ⟨k', f', d', e', n', x', m'⟩ := q
    obtain ⟨o, s, hp, e, ky, bo⟩ := m
    obtain ⟨o', s', hp', e', ky', bo'⟩ := m'
    dsimp only at *
    subst_vars
    rfl
  · rintro rfl
    exact ⟨rfl, rfl, rfl, rfl, rfl, rfl, ⟨⟨rfl, rfl, trivial⟩, rfl, rfl, rfl, rfl, trivial⟩, trivial⟩
theorem eqGuardP : Tryd.prog.eqGuardType Tryd.prog.depth 29 = false := by kernel_rfl
theorem info12 : (Tryd.prog.info? 29).map (·.size) = some 12 := by kernel_rfl
theorem one12 (p : Pk) : (pcells p).toArray.all (·.oneCell') = true := by simp [pcells, Value.oneCell']
end Go.Proofs.YtopacoghnofliaaDoor

/-
  Good's closure, that takes a letter's part out of what is left, and Good, by their contracts.
-/
namespace Go.Proofs.YtopacoghnofliaaDoor
open Go.RowKit

/-- May that which a letter stands for be so? -/
def fitP (p : Pk) (c : UInt8) : Bool := if c = 101 then decide (1 ≤ p.ep) else if c = 109 then goodM p.m else true
/-- What is left without it. -/
def wipeP (z : Pk) (c : UInt8) : Pk := if c = 101 ∨ c = 97 then { z with ep := 0 } else if c = 110 then { z with num := 0 } else if c = 107 then { z with mask := 0 } else if c = 109 then { z with m := zM } else z
def leftP (p : Pk) : Pk := { p with kind := 0, fr := 0, dest := 0 }
def nilP : Pk := ⟨0, 0, 0, 0, 0, 0, zM⟩
theorem kindB_eq (p : Pk) : kindB p = (isK p.kind && ((txt (letP p.kind)).all (fitP p) && decide ((txt (letP p.kind)).foldl wipeP (leftP p) = nilP))) := by
  unfold kindB isK inB letP
  by_cases h1 : p.kind = 1
  · rw [if_pos h1, if_pos h1, h1]
    have : (txt ⟨#[101]⟩) = [101] := rfl
    rw [this]
    simp only [List.all_cons, List.all_nil, List.foldl_cons, List.foldl_nil, fitP, wipeP, leftP, nilP]
    simp
  rw [if_neg h1, if_neg h1]
  by_cases h2 : p.kind = 2
  · rw [if_pos h2, if_pos h2, h2]
    have : (txt ⟨#[97]⟩) = [97] := rfl
    rw [this]
    simp only [List.all_cons, List.all_nil, List.foldl_cons, List.foldl_nil, fitP, wipeP, leftP, nilP]
    simp
  rw [if_neg h2, if_neg h2]
  by_cases h3 : p.kind = 3
  · rw [if_pos h3, if_pos h3, h3]
    have : (txt ⟨#[101, 110, 109]⟩) = [101, 110, 109] := rfl
    rw [this]
    simp only [List.all_cons, List.all_nil, List.foldl_cons, List.foldl_nil, fitP, wipeP, leftP, nilP]
    simp
    cases decide (1 ≤ p.ep) <;> simp
  rw [if_neg h3, if_neg h3]
  by_cases h4 : p.kind = 4
  · rw [if_pos h4, if_pos h4, h4]
    have : (txt ⟨#[101, 110, 107]⟩) = [101, 110, 107] := rfl
    rw [this]
    simp only [List.all_cons, List.all_nil, List.foldl_cons, List.foldl_nil, fitP, wipeP, leftP, nilP]
    simp
  rw [if_neg h4, if_neg h4]
  have : (decide (1 ≤ p.kind) && decide (p.kind ≤ 4)) = false := by
    rw [Bool.and_eq_false_iff, decide_eq_false_iff_not, decide_eq_false_iff_not]
    omega
  rw [this, Bool.false_and]
theorem letP_mem {k : Int} : ∀ c ∈ txt (letP k), c = 101 ∨ c = 97 ∨ c = 110 ∨ c = 107 ∨ c = 109 := by
  unfold letP
  split
  · decide
  split
  · decide
  split
  · decide
  split
  · decide
  · intro c hc; cases hc
/-- The cells of a packet in a box. -/
theorem cells12 {w : World} {g : Nat} {t : TypeId} {p : Pk} (h : w.heap[g]? = some (.cells (pcells p).toArray t (0, 0))) : w.cell? ⟨g, 0, none⟩ = some (.int .i64 p.kind) ∧ w.cell? ⟨g, 1, none⟩ = some (.int .i64 p.fr) ∧ w.cell? ⟨g, 2, none⟩ = some (.int .i64 p.dest) ∧ w.cell? ⟨g, 3, none⟩ = some (.int .u64 p.ep) ∧ w.cell? ⟨g, 4, none⟩ = some (.int .u16 p.num) ∧ w.cell? ⟨g, 5, none⟩ = some (.int .u64 p.mask) ∧ w.cell? ⟨g, 6, none⟩ = some (.int .i64 p.m.origin) ∧ w.cell? ⟨g, 7, none⟩ = some (.int .u64 p.m.seq) ∧ w.cell? ⟨g, 8, none⟩ = some (.int .i64 p.m.hop) ∧ w.cell? ⟨g, 9, none⟩ = some (.string p.m.ex) ∧ w.cell? ⟨g, 10, none⟩ = some (.string p.m.key) ∧ w.cell? ⟨g, 11, none⟩ = some (.string p.m.body) :=
  ⟨box_at h rfl, box_at h rfl, box_at h rfl, box_at h rfl, box_at h rfl, box_at h rfl, box_at h rfl, box_at h rfl, box_at h rfl, box_at h rfl, box_at h rfl, box_at h rfl⟩
set_option maxRecDepth 20000 in
set_option maxHeartbeats 4000000 in
theorem takeP_any (p z : Pk) (c : UInt8) (hc : c = 101 ∨ c = 97 ∨ c = 110 ∨ c = 107 ∨ c = 109) (q b : Nat) (W : World) (hq : W.heap[q]? = some (.cells (pcells z).toArray 29 (0, 0))) (hb : W.heap[b]? = some (.cells (pcells p).toArray 29 (0, 0))) (hne : b ≠ q) (hp : p.m.Fits) :
    Calls Tryd.prog 21 #[.int .i32 (c.toNat : Int), .pointer (some ⟨q, 0, none⟩), .pointer (some ⟨b, 0, none⟩)] W fun e W' => e = .returned (.bool (fitP p c)) ∧ W'.heap[q]? = some (.cells (pcells (wipeP z c)).toArray 29 (0, 0)) ∧ Bar q W W' := by
  have f := fun j => box_free hq j
  obtain ⟨z0, z1, z2, z3, z4, z5, z6, z7, z8, z9, z10, z11⟩ := cells12 hq
  obtain ⟨y0, y1, y2, y3, y4, y5, y6, y7, y8, y9, y10, y11⟩ := cells12 hb
  have HQ : Hid (W.heap[q]? = some (.cells (pcells z).toArray 29 (0, 0)) ∧ W.heap[b]? = some (.cells (pcells p).toArray 29 (0, 0)) ∧ p.m.Fits) := ⟨hq, hb, hp⟩
  have hne2 : ¬ q = b := fun e => hne e.symm
  clear hq hb hp
  rcases hc with rfl | rfl | rfl | rfl | rfl
  · rw [show ((((101 : UInt8)).toNat : Nat) : Int) = 101 from rfl]
    cases h : decide (1 ≤ p.ep)
    · go_enter Tryd.func21, Tryd.ntmps21
      go_wp2
      go_ret
      exact ⟨by unfold fitP; rw [if_pos rfl, h]; rfl, set_list HQ.out.1 _, Bar.set _ _ _ _⟩
    · go_enter Tryd.func21, Tryd.ntmps21
      go_wp2
      go_ret
      exact ⟨by unfold fitP; rw [if_pos rfl, h]; rfl, set_list HQ.out.1 _, Bar.set _ _ _ _⟩
  · rw [show ((((97 : UInt8)).toNat : Nat) : Int) = 97 from rfl]
    cases h : decide (1 ≤ p.ep)
    · go_enter Tryd.func21, Tryd.ntmps21
      go_wp2
      go_ret
      exact ⟨rfl, set_list HQ.out.1 _, Bar.set _ _ _ _⟩
    · go_enter Tryd.func21, Tryd.ntmps21
      go_wp2
      go_ret
      exact ⟨rfl, set_list HQ.out.1 _, Bar.set _ _ _ _⟩
  · rw [show ((((110 : UInt8)).toNat : Nat) : Int) = 110 from rfl]
    go_enter Tryd.func21, Tryd.ntmps21
    go_wp2
    go_ret
    exact ⟨rfl, set_list HQ.out.1 _, Bar.set _ _ _ _⟩
  · rw [show ((((107 : UInt8)).toNat : Nat) : Int) = 107 from rfl]
    go_enter Tryd.func21, Tryd.ntmps21
    go_wp2
    go_ret
    exact ⟨rfl, set_list HQ.out.1 _, Bar.set _ _ _ _⟩
  · rw [show ((((109 : UInt8)).toNat : Nat) : Int) = 109 from rfl]
    obtain ⟨V, hV⟩ : ∃ V, (((((W.setCell ⟨q, 6, none⟩ (.int .i64 0)).setCell ⟨q, 7, none⟩ (.int .u64 0)).setCell ⟨q, 8, none⟩ (.int .i64 0)).setCell ⟨q, 9, none⟩ (.string ⟨#[]⟩)).setCell ⟨q, 10, none⟩ (.string ⟨#[]⟩)).setCell ⟨q, 11, none⟩ (.string ⟨#[]⟩) = V := ⟨_, rfl⟩
    have bV : Bar q W V := by rw [← hV]; exact (((((Bar.set q W 6 _).trans (Bar.set q _ 7 _)).trans (Bar.set q _ 8 _)).trans (Bar.set q _ 9 _)).trans (Bar.set q _ 10 _)).trans (Bar.set q _ 11 _)
    have hqV : V.heap[q]? = some (.cells (pcells (wipeP z 109)).toArray 29 (0, 0)) := by rw [← hV]; exact set_list (set_list (set_list (set_list (set_list (set_list HQ.out.1 _) _) _) _) _) _
    have hbV := (bV.block b (Array.getElem?_eq_some_iff.1 HQ.out.2.1).1 hne).trans HQ.out.2.1
    have HV : Hid (Bar q W V ∧ V.heap[q]? = some (.cells (pcells (wipeP z 109)).toArray 29 (0, 0))) := ⟨bV, hqV⟩
    obtain ⟨y0, y1, y2, y3, y4, y5, y6, y7, y8, y9, y10, y11⟩ := cells12 hbV
    have hG := goodM_any p.m V HQ.out.2.2
    clear bV hqV hbV
    go_enter Tryd.func21, Tryd.ntmps21
    go_wp2_with fail
    try rw [hV]
    refine hG.mono ?_
    rintro e U ⟨rfl, bU⟩
    go_wp2
    go_ret
    exact ⟨rfl, (bU.block q (Array.getElem?_eq_some_iff.1 HV.out.2).1).trans HV.out.2, HV.out.1.trans (Bar.of bU)⟩
end Go.Proofs.YtopacoghnofliaaDoor

/-
  Good of a packet, by its contract.
-/
namespace Go.Proofs.YtopacoghnofliaaDoor
open Go.RowKit

/-- A packet in a box, what is left of it in another one, and an iterator over its kind's letters. -/
structure PIn (w wr : World) (b q : Nat) (p z : Pk) (s : ByteArray) (i pos : Nat) : Prop where
  x : wr.heap[b]? = some (.cells (pcells p).toArray 29 (0, 0))
  l : wr.heap[q]? = some (.cells (pcells z).toArray 29 (0, 0))
  it : wr.heap[i]? = some (.stringIter s pos)
  bel : Below w.heap.size w wr
theorem PIn.ne {w wr : World} {b q : Nat} {p z : Pk} {s : ByteArray} {i pos : Nat} (h : PIn w wr b q p z s i pos) : b ≠ i ∧ q ≠ i := by
  refine ⟨?_, ?_⟩
  · intro e
    have h1 := h.x
    rw [e, h.it] at h1
    cases h1
  · intro e
    have h1 := h.l
    rw [e, h.it] at h1
    cases h1
theorem PIn.next {w wr : World} {b q : Nat} {p z : Pk} {s : ByteArray} {i pos : Nat} (h : PIn w wr b q p z s i pos) (hi : w.heap.size ≤ i) : PIn w (wr.iterAt i s (pos + 1)) b q p z s i (pos + 1) :=
  ⟨(iterAt_other h.ne.1).trans h.x, (iterAt_other h.ne.2).trans h.l, Lib.iterAt_heap _ _ _ _ _ h.it, iterAt_below h.bel hi⟩
theorem PIn.go {w wr V : World} {b q : Nat} {p z z' : Pk} {s : ByteArray} {i pos : Nat} (h : PIn w wr b q p z s i pos) (hb : Bar q wr V) (hl : V.heap[q]? = some (.cells (pcells z').toArray 29 (0, 0))) (hbq : b ≠ q) (hq : w.heap.size ≤ q) : PIn w V b q p z' s i pos :=
  ⟨(hb.block b (Array.getElem?_eq_some_iff.1 h.x).1 hbq).trans h.x, hl, (hb.block i (Array.getElem?_eq_some_iff.1 h.it).1 (Ne.symm h.ne.2)).trans h.it, hb.below h.bel hq h.bel.size⟩
theorem letP_ascii {k : Int} : ∀ c ∈ txt (letP k), c.toNat < 128 := fun c hc => by
  rcases letP_mem c hc with rfl | rfl | rfl | rfl | rfl <;> decide
theorem goodP_of {p : Pk} (h1 : inB p.fr 1 8 = true) (h2 : inB p.dest 1 8 = true) (h3 : (p.fr == p.dest) = false) : goodP p = kindB p := by
  have h3' : decide (p.fr = p.dest) = false := by simpa using h3
  unfold goodP
  rw [h1, h2, h3']
  rfl
set_option maxRecDepth 20000 in
set_option maxHeartbeats 4000000 in
theorem goodP_any (p : Pk) (w : World) (hK : PKinds w) (hp : p.m.Fits) : Calls Tryd.prog 9 #[pv p] w fun e w' => e = .returned (.bool (goodP p)) ∧ Below w.heap.size w w' := by
  obtain ⟨W, fold⟩ : ∃ W, w.alloc (.cells #[.int .i64 p.kind, .int .i64 p.fr, .int .i64 p.dest, .int .u64 p.ep, .int .u16 p.num, .int .u64 p.mask, .int .i64 p.m.origin, .int .u64 p.m.seq, .int .i64 p.m.hop, .string p.m.ex, .string p.m.key, .string p.m.body] 29) = W := ⟨_, rfl⟩
  have b0 : Below w.heap.size w W := by rw [← fold]; exact box_below w _
  have x0 : W.heap[w.heap.size]? = some (.cells (pcells p).toArray 29 (0, 0)) := by rw [← fold]; exact heap_alloc_new w _
  have y0 : W.cell? ⟨w.heap.size, 0, none⟩ = some (.int .i64 p.kind) := box_at x0 rfl
  have hL := rowOf_any p.kind W (hK.below b0)
  have HA : Hid p.m.Fits := hp
  clear hp hK
  go_enter Tryd.func9, Tryd.ntmps9
  go_wp2_with fail
  try rw [fold]
  refine hL.mono ?_
  rintro e V ⟨rfl, b1⟩
  clear hL
  have x1 := (b1.block _ (Array.getElem?_eq_some_iff.1 x0).1).trans x0
  have bV : Below w.heap.size w V := keptW b0 b1
  clear y0 x0 b1 b0
  cases hk : isK p.kind with
  | false =>
    have HF : Hid (goodP p = false) := by
      show goodP p = false
      unfold goodP
      rw [kindB_eq, hk]
      simp
    have HX : Hid (Below w.heap.size w (V.alloc (.cells #[.int .i64 0, .string ⟨#[]⟩, .string ⟨#[]⟩] 48))) := keptW bV (box_below V _)
    rw [show rowP p.kind = [.int .i64 0, .string ⟨#[]⟩, .string ⟨#[]⟩] by unfold rowP; rw [hk]; rfl]
    go_wp2
    go_ret
    exact ⟨by rw [HF.out]; rfl, HX.out⟩
  | true =>
    rw [show rowP p.kind = [.int .i64 p.kind, .string (nameP p.kind), .string (letP p.kind)] by unfold rowP; rw [hk]; rfl]
    have HK : Hid (isK p.kind = true) := hk
    obtain ⟨s, hs⟩ : ∃ z, letP p.kind = z := ⟨_, rfl⟩
    obtain ⟨nm, hnm⟩ : ∃ z, nameP p.kind = z := ⟨_, rfl⟩
    have HS : Hid (letP p.kind = s) := hs
    rw [hs, hnm]
    clear hk hs hnm
    obtain ⟨V1, fold1⟩ : ∃ X, V.alloc (.cells #[.int .i64 p.kind, .string nm, .string s] 48) = X := ⟨_, rfl⟩
    have b1 : Below V.heap.size V V1 := by rw [← fold1]; exact box_below V _
    have r1 : V1.heap[V.heap.size]? = some (.cells [.int .i64 p.kind, .string nm, .string s].toArray 48 (0, 0)) := by rw [← fold1]; exact heap_alloc_new V _
    have x2 := (b1.block _ (Array.getElem?_eq_some_iff.1 x1).1).trans x1
    obtain ⟨y0, y1, y2, y3, y4, y5, y6, y7, y8, y9, y10, y11⟩ := cells12 x2
    have HX : Hid (Below w.heap.size w V1 ∧ V1.heap[V.heap.size]? = some (.cells [.int .i64 p.kind, .string nm, .string s].toArray 48 (0, 0)) ∧ V1.heap[w.heap.size]? = some (.cells (pcells p).toArray 29 (0, 0)) ∧ V.heap.size < V1.heap.size ∧ w.heap.size < V.heap.size) := ⟨keptW bV b1, r1, x2, (Array.getElem?_eq_some_iff.1 r1).1, (Array.getElem?_eq_some_iff.1 x1).1⟩
    clear x1 bV b1 r1 x2
    cases h1 : inB p.fr 1 8
    · have HF : Hid (goodP p = false) := by show goodP p = false; unfold goodP; rw [h1]; simp
      go_wp2_with (go_at_call 20; refine (isSite_any _ _).mono ?_; rintro e u ⟨rfl, rfl⟩)
      go_ret
      exact ⟨by rw [HF.out]; rfl, HX.out.1⟩
    cases h2 : inB p.dest 1 8
    · have HF : Hid (goodP p = false) := by show goodP p = false; unfold goodP; rw [h2]; simp
      go_wp2_with (go_at_call 20; refine (isSite_any _ _).mono ?_; rintro e u ⟨rfl, rfl⟩)
      go_ret
      exact ⟨by rw [HF.out]; rfl, HX.out.1⟩
    cases h3 : (p.fr == p.dest)
    rotate_left
    · have HF : Hid (goodP p = false) := by
        show goodP p = false
        have : decide (p.fr = p.dest) = true := by simpa using h3
        unfold goodP; rw [this]; simp
      go_wp2_with (go_at_call 20; refine (isSite_any _ _).mono ?_; rintro e u ⟨rfl, rfl⟩)
      go_ret
      exact ⟨by rw [HF.out]; rfl, HX.out.1⟩
    have HG : Hid (goodP p = kindB p) := goodP_of h1 h2 h3
    obtain ⟨V2, fold2⟩ : ∃ X, V1.alloc (.cells #[.int .i64 0, .int .i64 0, .int .i64 0, .int .u64 0, .int .u16 0, .int .u64 0, .int .i64 0, .int .u64 0, .int .i64 0, .string ⟨#[]⟩, .string ⟨#[]⟩, .string ⟨#[]⟩] 29) = X := ⟨_, rfl⟩
    have b2 : Below V1.heap.size V1 V2 := by rw [← fold2]; exact box_below V1 _
    have l2 : V2.heap[V1.heap.size]? = some (.cells (pcells nilP).toArray 29 (0, 0)) := by rw [← fold2]; exact heap_alloc_new V1 _
    obtain ⟨V3, fold3⟩ : ∃ X, V2.setRow V1.heap.size (pcells p).toArray = X := ⟨_, rfl⟩
    have b3 : Below V1.heap.size V1 V3 := by rw [← fold3]; exact below_setRow b2 (Nat.le_refl _) _
    have l3 : V3.heap[V1.heap.size]? = some (.cells (pcells p).toArray 29 (0, 0)) := by rw [← fold3]; exact setRow_heap _ _ _ _ _ _ l2
    have HX3 : Hid (Below w.heap.size w V3 ∧ V3.heap[V.heap.size]? = some (.cells [.int .i64 p.kind, .string nm, .string s].toArray 48 (0, 0)) ∧ V3.heap[w.heap.size]? = some (.cells (pcells p).toArray 29 (0, 0)) ∧ V.heap.size < V1.heap.size ∧ w.heap.size < V.heap.size ∧ V3.heap[V1.heap.size]? = some (.cells (pcells p).toArray 29 (0, 0))) := ⟨keptW HX.out.1 b3, (b3.block _ HX.out.2.2.2.1).trans HX.out.2.1, (b3.block _ (by have := HX.out.2.2.2; omega)).trans HX.out.2.2.1, HX.out.2.2.2.1, HX.out.2.2.2.2, l3⟩
    have HL2 : Hid (V2.heap[V1.heap.size]? = some (.cells (pcells nilP).toArray 29 (0, 0))) := l2
    have f3 := fun j => box_free l3 j
    obtain ⟨z0, z1, z2, z3, z4, z5, z6, z7, z8, z9, z10, z11⟩ := cells12 l3
    obtain ⟨V4, fold4⟩ : ∃ X, ((V3.setCell ⟨V1.heap.size, 0, none⟩ (.int .i64 0)).setCell ⟨V1.heap.size, 1, none⟩ (.int .i64 0)).setCell ⟨V1.heap.size, 2, none⟩ (.int .i64 0) = X := ⟨_, rfl⟩
    have b4 : Bar V1.heap.size V3 V4 := by rw [← fold4]; exact ((Bar.set _ V3 0 _).trans (Bar.set _ _ 1 _)).trans (Bar.set _ _ 2 _)
    have l4 : V4.heap[V1.heap.size]? = some (.cells (pcells (leftP p)).toArray 29 (0, 0)) := by rw [← fold4]; exact set_list (set_list (set_list l3 _) _) _
    have r4 := (b4.block V.heap.size (by have := b3.size; have := HX.out.2.2.2; omega) (by have := HX.out.2.2.2; omega)).trans HX3.out.2.1
    have x4 := (b4.block w.heap.size (by have := b3.size; have := HX.out.2.2.2; omega) (by have := HX.out.2.2.2; omega)).trans HX3.out.2.2.1
    have k4 : V4.cell? ⟨V.heap.size, 2, none⟩ = some (.string s) := box_at r4 rfl
    have B4 : Below w.heap.size w V4 := b4.below HX3.out.1 (by have := HX.out.2.2.2; omega) HX3.out.1.size
    obtain ⟨i, hi⟩ : ∃ z, V4.heap.size = z := ⟨_, rfl⟩
    have bI := box_below V4 (.stringIter s 0)
    have HI : Hid (PIn w (V4.iter s 0) w.heap.size V1.heap.size p (leftP p) s i 0 ∧ w.heap.size ≤ i ∧ w.heap.size ≤ V1.heap.size ∧ w.heap.size ≠ V1.heap.size) := ⟨⟨(bI.block _ (Array.getElem?_eq_some_iff.1 x4).1).trans x4, (bI.block _ (Array.getElem?_eq_some_iff.1 l4).1).trans l4, by rw [← hi]; exact heap_alloc_new V4 _, keptW B4 bI⟩, by rw [← hi]; exact B4.size, by have := HX.out.2.2.2; omega, by have := HX.out.2.2.2; omega⟩
    clear b2 l2 b3 l3 b4 l4 r4 x4 B4 bI
    go_wp2_with (first | (go_at_call 20; refine (isSite_any _ _).mono ?_; rintro e V1 ⟨rfl, rfl⟩) | refine wpList_load_row rfl 29 _ rfl w.heap.size rfl 29 (pcells p).toArray (0, 0) _ HX.out.2.2.1 Tryd.underlying29 rfl info12 ?_ | refine wpList_store_row rfl 29 _ _ rfl V1.heap.size (pcells p).toArray rfl rfl 29 (pcells nilP).toArray HL2.out info12 rfl (one12 p) ?_)
    go_loopg [8] s.size (fun g u8 wr => ∃ (pos : Nat) (z : Pk), pos ≤ s.size ∧ g = s.size - pos ∧ Hid (PIn w wr w.heap.size V1.heap.size p z s i pos ∧ ((txt s).take pos).all (fitP p) = true ∧ z = ((txt s).take pos).foldl wipeP (leftP p)))
    case atStart => exact ⟨0, leftP p, Nat.zero_le _, rfl, HI.out.1, rfl, rfl⟩
    case round =>
      obtain ⟨pos, z, hpos, rfl, HR⟩ := hrel
      by_cases hlt : pos < s.size
      · have hlt2 : pos < (txt s).length := by rw [txt_length]; exact hlt
        obtain ⟨c, hc⟩ : ∃ z, s[pos]'hlt = z := ⟨_, rfl⟩
        have hget : (txt s)[pos]'hlt2 = c := by rw [← hc]; exact Array.getElem_toList (xs := s.data) hlt
        have hmem : c ∈ txt s := by rw [← hget]; exact List.getElem_mem hlt2
        have hc8 : (s[pos]'hlt).toNat < 128 := by rw [hc]; have := hmem; rw [← HS.out] at this; exact letP_ascii _ this
        have hnx := fun ty => Lib.run_next_ascii_at (P := Tryd.prog) wr i s pos ty HR.out.1.it hlt hc8
        obtain ⟨W1, hW1⟩ : ∃ z, wr.iterAt i s (pos + 1) = z := ⟨_, rfl⟩
        have H1 := HR.out.1.next HI.out.2.1
        rw [hW1] at H1 hnx
        rw [hc] at hnx
        have HT : Hid (((txt s).take (pos + 1)).all (fitP p) = fitP p c ∧ wipeP z c = ((txt s).take (pos + 1)).foldl wipeP (leftP p)) := by
          refine ⟨?_, ?_⟩
          · rw [List.take_succ_eq_append_getElem hlt2, List.all_append, hget, HR.out.2.1]
            simp
          · rw [List.take_succ_eq_append_getElem hlt2, List.foldl_append, hget, ← HR.out.2.2]
            rfl
        have hF := takeP_any p z c (letP_mem c (by rw [HS.out]; exact hmem)) V1.heap.size w.heap.size W1 H1.l H1.x HI.out.2.2.2 HA.out
        have HN : Hid (PIn w W1 w.heap.size V1.heap.size p z s i (pos + 1) ∧ c ∈ txt s) := ⟨H1, hmem⟩
        clear H1 HR hW1 hc hget hc8 hlt2 hmem
        go_wp2_with fail
        refine hF.mono ?_
        rintro e V5 ⟨rfl, hl5, b5⟩
        have HB : Hid (PIn w V5 w.heap.size V1.heap.size p (wipeP z c) s i (pos + 1)) := HN.out.1.go b5 hl5 HI.out.2.2.2 HI.out.2.2.1
        clear hF b5 hl5
        cases hf : fitP p c
        · have HF : Hid (goodP p = false) := by
            show goodP p = false
            have : (txt s).all (fitP p) = false := by rw [List.all_eq_false]; exact ⟨c, HN.out.2, by rw [hf]; simp⟩
            rw [HG.out, kindB_eq, HS.out, this]
            simp
          clear hf
          go_wp2
          go_ret
          exact ⟨by rw [HF.out]; rfl, HB.out.bel⟩
        · have HF : Hid (fitP p c = true) := hf
          clear hf
          go_wp2
          go_roundg (s.size - (pos + 1))
          case measure => omega
          case rel => exact ⟨pos + 1, wipeP z c, by omega, rfl, HB.out, by rw [HT.out.1]; exact HF.out, HT.out.2⟩
      · have hnx := fun ty => Lib.run_next_end_at (P := Tryd.prog) wr i s pos ty HR.out.1.it hlt
        have HF : Hid (goodP p = decide (z = nilP)) := by
          show _ = _
          have h1 := HR.out.2.1
          have h2 := HR.out.2.2
          rw [List.take_of_length_le (by rw [txt_length]; omega)] at h1 h2
          rw [HG.out, kindB_eq, HK.out, HS.out, h1, ← h2]
          rfl
        have HN : Hid (PIn w wr w.heap.size V1.heap.size p z s i pos) := HR.out.1
        clear HR
        have heqA : ∀ X : World, (binOp .eql 29 (.agg (pcells z).toArray) (.agg #[.int .i64 0, .int .i64 0, .int .i64 0, .int .u64 0, .int .u16 0, .int .u64 0, .int .i64 0, .int .u64 0, .int .i64 0, .string ⟨#[]⟩, .string ⟨#[]⟩, .string ⟨#[]⟩])).run Tryd.prog X = .ok (.bool (decide (z = nilP))) X := fun X => run_eqP z nilP X
        have hgA := eqGuardP
        go_wp2_with (refine wpList_load_row rfl 29 _ rfl V1.heap.size rfl 29 (pcells z).toArray (0, 0) _ HN.out.l Tryd.underlying29 rfl info12 ?_)
        go_ret
        exact ⟨by rw [HF.out]; rfl, HN.out.bel⟩
end Go.Proofs.YtopacoghnofliaaDoor
