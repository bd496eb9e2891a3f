/-
  WHAT THE WORLD HOLDS FROM THE START; Name, number, by their contracts.
-/
import Derived.Test.YtjgdmbfkondakaaGreatDoorJDigits
import Derived.Test.YtjgdmbfkondakaaGreatDoorJShelfL
import Derived.Test.YtjgdmbfkondakaaGreatDoorJTells
import Derived.Test.YtjgdmbfkondakaaGreatDoorJWhole
import Derived.Test.YtjgdmbfkondakaaGreatDoorJMoved
import Derived.BigCall
import Derived.Lib.AtoiBound
namespace Go.Proofs.YtjgdmbfkondakaaGreatDoor
open Go.RowKit Go.Shelf Go.Sort

theorem keptW {w W w' : World} (h : RowKit.Below w.heap.size w W) (b : RowKit.Below W.heap.size W w') : RowKit.Below w.heap.size w w' := h.trans (b.mono h.size)
/-- The tables, and the library's error. -/
structure Env (w : World) : Prop where
  tab : Tab w
  pow : Lib.TabIs Tryz.prog w "internal/strconv.uint64pow10" .u64 Lib.pow10Tab
  err : ∃ ev, w.cell? ⟨2, 0, none⟩ = some ev ∧ (ev = .nilIface ∨ ∃ te pe, ev = .iface te pe)
  pos : 6 ≤ w.heap.size
theorem var_named : Tryz.prog.globalNamed "internal/strconv.uint64pow10" = some 1 := by kernel_rfl
theorem Env.same {w w' : World} (h : Env w) (hs : ∀ k, k < 6 → w'.heap[k]? = w.heap[k]?) (hz : w.heap.size ≤ w'.heap.size) : Env w' := by
  refine ⟨fun j u hj => ?_, ?_, ?_, Nat.le_trans h.pos hz⟩
  · have := h.tab j u hj
    rw [← this]
    simp only [World.cell?]
    rw [hs _ (by decide)]
  · have := h.pow
    unfold Lib.TabIs World.var? at *
    rw [var_named] at *
    simp only [Option.bind_some] at *
    rw [hs _ (by decide)]
    exact this
  · obtain ⟨ev, h1, h2⟩ := h.err
    refine ⟨ev, ?_, h2⟩
    rw [← h1]
    simp only [World.cell?]
    rw [hs _ (by decide)]
theorem Env.below {w w' : World} (h : Env w) (hb : RowKit.Below w.heap.size w w') : Env w' := h.same (fun k hk => hb.block k (by have := h.pos; omega)) hb.size
theorem Env.moved {w w' : World} {F F' : Nat → Prop} (h : Env w) (m : Moved w w' F F') (hF : ∀ k, F k → 6 ≤ k) : Env w' := h.same (fun k hk => m.block k (by have := h.pos; omega) fun hf => by have := hF k hf; omega) m.size
theorem below_grow (w : World) (k : Nat) (os : Array Obj) : RowKit.Below w.heap.size w (Sort.grow (w.drewN k) os) :=
  ⟨rfl, rfl, rfl, by simp [Sort.grow], fun i hi => by show (w.heap ++ os)[i]? = _; rw [Array.getElem?_append_left hi]⟩
theorem itoa_any (n : Int) (h0 : -9223372036854775808 ≤ n) (h1 : n ≤ 9223372036854775807) (w : World) (he : Env w) : Calls Tryz.prog 57 #[.int .i64 n] w fun e w' => e = .returned (.string ⟨(Lib.itoa n).toArray⟩) ∧ RowKit.Below w.heap.size w w' := by
  refine (Any.strconv_Itoa Tryz.itoaL n h0 h1 w he.pow).mono ?_
  rintro e w' ⟨rfl, k, os, rfl⟩
  exact ⟨rfl, below_grow w k os⟩
theorem trim_any (s p : ByteArray) (w : World) : Calls Tryz.prog 109 #[.string s, .string p] w fun e w' => e = .returned (.string ⟨(Lib.trimPrefix s.data.toList p.data.toList).toArray⟩) ∧ w' = w := Any.strings_TrimPrefix Tryz.trimL s p w
theorem bytesWorld_below (w : World) (t : TypeId) (s : ByteArray) : RowKit.Below w.heap.size w (Lib.bytesWorld w t s) := Lib.bytesWorld_below _ _ _
theorem atoi_some (s : ByteArray) (hs : s.size ≤ 18) (n : Int) (h : Lib.atoi s.data.toList = some n) (w : World) : Calls Tryz.prog 108 #[.string s] w fun e w' => e = .returned (.tuple #[.int .i64 n, .nilIface]) ∧ RowKit.Below w.heap.size w w' := by
  refine (Any.strconv_Atoi { Tryz.atoiL with } s n hs h w).mono ?_
  rintro e w' ⟨rfl, t, rfl⟩
  exact ⟨rfl, bytesWorld_below _ _ _⟩
theorem atoi_none (s : ByteArray) (hs : s.size ≤ 18) (h : Lib.atoi s.data.toList = none) (w : World) (he : Env w) : Calls Tryz.prog 108 #[.string s] w fun e w' => ∃ t N, e = .returned (.tuple #[.int .i64 0, .iface t (.pointer (some ⟨N, 0, none⟩))]) ∧ RowKit.Below w.heap.size w w' := by
  obtain ⟨ev, hv, hev⟩ := he.err
  refine (Any.strconv_Atoi_err Tryz.atoiL s hs h ev w hv hev).mono ?_
  rintro e w' ⟨N, rfl, _, _, hb⟩
  exact ⟨_, N, rfl, hb⟩
set_option maxRecDepth 20000 in
theorem name_any (n : Int) (h0 : -9223372036854775808 ≤ n) (h1 : n ≤ 9223372036854775807) (w : World) (he : Env w) : Calls Tryz.prog 21 #[.int .i64 n] w fun e w' => e = .returned (.string (nameB n)) ∧ RowKit.Below w.heap.size w w' := by
  have hI := itoa_any n h0 h1 w he
  by_cases ha : n < 1
  · rw [nameB_out (by omega)]
    clear hI
    go_enter Tryz.func21, Tryz.ntmps21
    go_wp2
    go_ret
    exact ⟨rfl, RowKit.Below.refl _ _⟩
  · by_cases hb : 999999999 < n
    · rw [nameB_out (by omega)]
      clear hI
      go_enter Tryz.func21, Tryz.ntmps21
      go_wp2
      go_ret
      exact ⟨rfl, RowKit.Below.refl _ _⟩
    · have ha' : ¬ n < 0 := by omega
      have hn : nameB n = ⟨(pre ++ Lib.itoa n).toArray⟩ := by unfold nameB; rw [if_pos (by omega)]
      rw [hn]
      obtain ⟨s, hs⟩ : ∃ s : ByteArray, (⟨(Lib.itoa n).toArray⟩ : ByteArray) = s := ⟨_, rfl⟩
      obtain ⟨r, hr⟩ : ∃ r : ByteArray, (⟨(pre ++ Lib.itoa n).toArray⟩ : ByteArray) = r := ⟨_, rfl⟩
      have hsz : s.size ≤ 21 := by
        rw [← hs]
        show (Lib.itoa n).toArray.size ≤ 21
        have : (Lib.itoa n) = Lib.decDigits n.toNat := by unfold Lib.itoa; rw [if_neg ha']
        rw [this]
        have := dec_len 9 n.toNat (by omega) (by omega)
        simp
        omega
      have hplus : ∀ W, (Op.stringOp .add ⟨#[108, 111, 103, 46]⟩ s).run Tryz.prog W = .ok (.string r) W := fun W => by
        rw [run_string_add W _ s (by decide) (by omega), ← hs, ← hr]
        congr 2
      rw [hs] at hI
      rw [hr]
      clear hs hr hn hsz
      go_enter Tryz.func21, Tryz.ntmps21
      go_wp2_with (go_at_call 57; refine hI.mono ?_; rintro e w1 ⟨rfl, b1⟩)
      go_ret
      exact ⟨rfl, b1⟩
set_option maxRecDepth 20000 in
theorem number_any (s : ByteArray) (hs : s.size ≤ 18) (w : World) (he : Env w) : Calls Tryz.prog 92 #[.string s] w fun e w' => e = .returned (.int .i64 (numB s)) ∧ RowKit.Below w.heap.size w w' := by
  have hT : Calls Tryz.prog 109 #[.string s, .string ⟨#[108, 111, 103, 46]⟩] w fun e w' => e = .returned (.string ⟨(Lib.trimPrefix s.data.toList pre).toArray⟩) ∧ w' = w := trim_any s ⟨#[108, 111, 103, 46]⟩ w
  have hts : (⟨(Lib.trimPrefix s.data.toList pre).toArray⟩ : ByteArray).size ≤ 18 := by
    show (Lib.trimPrefix s.data.toList pre).toArray.size ≤ 18
    have h1 : s.data.toList.length = s.size := by simp
    unfold Lib.trimPrefix
    split
    · simp; omega
    · simp; omega
  unfold numB
  have ht : (⟨(Lib.trimPrefix s.data.toList pre).toArray⟩ : ByteArray).data.toList = Lib.trimPrefix s.data.toList pre := by simp
  generalize (⟨(Lib.trimPrefix s.data.toList pre).toArray⟩ : ByteArray) = u at *
  cases hat : Lib.atoi (Lib.trimPrefix s.data.toList pre) with
  | none =>
    have hA := atoi_none u hts (by rw [ht]; exact hat) w he
    clear ht hat
    go_enter Tryz.func92, Tryz.ntmps92
    go_wp2_with (first
      | (go_at_call 109; refine hT.mono ?_; rintro e w ⟨rfl, rfl⟩)
      | (go_at_call 108; refine hA.mono ?_; rintro e w1 ⟨t, N, rfl, b1⟩))
    go_ret
    exact ⟨rfl, b1⟩
  | some n =>
    have hA := atoi_some u hts n (by rw [ht]; exact hat) w
    clear ht
    have hb : -1000000000000000000 < n ∧ n < 1000000000000000000 := by
      refine Lib.atoi_bound hat ?_
      have h1 : s.data.toList.length = s.size := by simp
      unfold Lib.trimPrefix
      split
      · simp; omega
      · omega
    have hN := fun V (h : Env V) => name_any n (by omega) (by omega) V h
    have HE : Hid (Env w) := he
    simp only
    clear hat
    by_cases e : nameB n = s
    · rw [if_pos e]
      rw [e] at hN
      go_enter Tryz.func92, Tryz.ntmps92
      go_wp2_with (first
        | (go_at_call 109; refine hT.mono ?_; rintro e w ⟨rfl, rfl⟩)
        | (go_at_call 108; refine hA.mono ?_; rintro e w1 ⟨rfl, b1⟩)
        | (go_at_call 21; refine (hN w1 (HE.out.below b1)).mono ?_; rintro e w2 ⟨rfl, b2⟩))
      go_ret
      exact ⟨rfl, b1.trans (b2.mono b1.size)⟩
    · rw [if_neg e]
      have hq : ((nameB n).toList == s.toList) = false := by
        rw [Bool.eq_false_iff]
        intro h
        have h := eq_of_beq h
        rw [ByteArray.toList_eq, ByteArray.toList_eq] at h
        exact e (ByteArray.ext (Array.toList_inj.1 h))
      generalize nameB n = nm at *
      go_enter Tryz.func92, Tryz.ntmps92
      go_wp2_with (first
        | (go_at_call 109; refine hT.mono ?_; rintro e w ⟨rfl, rfl⟩)
        | (go_at_call 108; refine hA.mono ?_; rintro e w1 ⟨rfl, b1⟩)
        | (go_at_call 21; refine (hN w1 (HE.out.below b1)).mono ?_; rintro e w2 ⟨rfl, b2⟩))
      go_ret
      exact ⟨rfl, b1.trans (b2.mono b1.size)⟩
end Go.Proofs.YtjgdmbfkondakaaGreatDoor

/-
  SLICES OF INTS OF THE CALL's OWN; slices.Sort and slices.DeleteFunc, by their contracts.
-/
namespace Go.Proofs.YtjgdmbfkondakaaGreatDoor
open Go.RowKit Go.Sort Go.Shelf

/-- The slice v is the call's own, from block number base on, and holds these numbers. -/
def RowI (w : World) (base : Nat) (v : Value) (l : List Int) : Prop :=
  (v = .slice none 0 0 ∧ l = []) ∨ ∃ g cap, v = .slice (some ⟨g, 0, none⟩) l.length cap ∧ base ≤ g ∧ g < w.heap.size ∧ l.length ≤ cap ∧ cap ≤ maxLen ∧ Go.Sort.Holds (Value.int .i64) w g 0 l.toArray
theorem rowI_of_own {w : World} {base : Nat} {v : Value} {l : List Int} (h : Own1 w base 3 v (icells l)) : RowI w base v l := by
  have h' := h
  rcases h.2 with ⟨rfl, hn⟩ | ⟨g, cap, cur, rfl, hb, hg, hnc, hcm, _, _⟩
  · exact .inl ⟨rfl, List.eq_nil_of_length_eq_zero (by simpa [icells] using hn)⟩
  · refine .inr ⟨g, cap, by rw [icells_length], hb, (Array.getElem?_eq_some_iff.1 hg).1, by simpa [icells] using hnc, hcm, fun j hj => ?_⟩
    have hj' : j < l.length := by simpa using hj
    refine ⟨?_, by simp [World.frozen?, hg]⟩
    have := World.ownsRow.cells h' (g := g) rfl j (.int .i64 l[j]) (by simp [icells, hj'])
    rw [Go.WideShapes.add_plain] at this
    rw [this, getElem!_pos l.toArray j hj]
    simp
theorem RowI.row {w : World} {base : Nat} {v : Value} {l : List Int} (h : RowI w base v l) : Row w v (icells l) := by
  rcases h with ⟨rfl, rfl⟩ | ⟨g, cap, rfl, _, _, h1, h2, h3⟩
  · exact .inl ⟨rfl, rfl⟩
  · refine .inr ⟨⟨g, 0, none⟩, cap, by rw [icells_length], by rw [icells_length]; exact h1, h2, fun j u hj => ?_⟩
    rw [Go.WideShapes.add_plain]
    simp only [icells, List.getElem?_map, Option.map_eq_some_iff] at hj
    obtain ⟨x, hx, rfl⟩ := hj
    have hj' : j < l.length := by
      rcases Nat.lt_or_ge j l.length with h | h
      · exact h
      · rw [List.getElem?_eq_none h] at hx; cases hx
    have := (h3 j (by simpa using hj')).1
    rw [this, getElem!_pos l.toArray j (by simpa using hj')]
    simp [List.getElem?_eq_getElem hj'] at hx
    simp [hx]
theorem RowI.below {w w' : World} {base B : Nat} {v : Value} {l : List Int} (h : RowI w base v l) (hb : RowKit.Below B w w') (hB : w.heap.size ≤ B) : RowI w' base v l := by
  rcases h with h | ⟨g, cap, hv, h1, h2, h3, h4, h5⟩
  · exact .inl h
  · refine .inr ⟨g, cap, hv, h1, Nat.lt_of_lt_of_le h2 hb.size, h3, h4, fun j hj => ?_⟩
    rw [hb.cell (p := ⟨g, 0 + j, none⟩) (Nat.lt_of_lt_of_le h2 hB), hb.frozen (p := ⟨g, 0 + j, none⟩) (Nat.lt_of_lt_of_le h2 hB)]
    exact h5 j hj
theorem RowI.mono {w : World} {base c : Nat} {v : Value} {l : List Int} (h : RowI w base v l) (hc : c ≤ base) : RowI w c v l := by
  rcases h with h | ⟨g, cap, hv, h1, rest⟩
  · exact .inl h
  · exact .inr ⟨g, cap, hv, Nat.le_trans hc h1, rest⟩
theorem RowI.slice {w : World} {base : Nat} {v : Value} {l : List Int} (h : RowI w base v l) : ∃ a cap, v = .slice a l.length cap := by
  rcases h with ⟨rfl, rfl⟩ | ⟨g, cap, rfl, _⟩
  · exact ⟨_, _, rfl⟩
  · exact ⟨_, _, rfl⟩
theorem RowI.short {w : World} {base : Nat} {v : Value} {l : List Int} (h : RowI w base v l) : l.length ≤ maxLen := by
  rcases h with ⟨rfl, rfl⟩ | ⟨g, cap, rfl, _, _, h1, h2, _⟩
  · exact Nat.zero_le _
  · omega

theorem below_putRow (w : World) (n g off B : Nat) (d : Array Int) (os : Array Obj) (hB : B ≤ g) (hs : B ≤ w.heap.size) : RowKit.Below B w (grow (putRow (Value.int .i64) (Sort.ahead w n) g off d) os) := by
  refine ⟨rfl, rfl, rfl, ?_, fun k hk => ?_⟩
  · show w.heap.size ≤ ((putRow (Value.int .i64) (Sort.ahead w n) g off d).heap ++ os).size
    rw [Array.size_append, size_putRow]; exact Nat.le_add_right _ _
  · rw [heap_grow_old _ _ (by rw [size_putRow]; show k < w.heap.size; omega)]
    simp only [putRow, mapBlock, Array.getElem?_modify]
    rw [if_neg (by omega)]
    rfl
theorem holds_grow {w : World} {g off : Nat} {d : Array Int} (os : Array Obj) (hg : g < w.heap.size) (h : Go.Sort.Holds (Value.int .i64) w g off d) : Go.Sort.Holds (Value.int .i64) (grow w os) g off d := fun j hj => by
  rw [cell?_grow _ _ _ hg, frozen?_grow _ _ _ hg]; exact h j hj

theorem sort_any (w : World) (base : Nat) (v : Value) (l : List Int) (hr : RowI w base v l) (hl : l.length ≤ 100000) (hbs : base ≤ w.heap.size) :
    Calls Tryz.prog 93 #[v] w fun e w' => e = .returned (.tuple #[]) ∧ RowI w' base v (l.mergeSort fun x y => decide (x ≤ y)) ∧ RowKit.Below base w w' := by
  rcases hr with ⟨rfl, rfl⟩ | ⟨g, cap, rfl, h1, h2, h3, h4, h5⟩
  · refine (AnyM.slices_Sort_int_none Tryz.sortI none 0 w).mono ?_
    rintro e w' ⟨rfl, rfl⟩
    exact ⟨rfl, .inl ⟨rfl, by simp⟩, RowKit.Below.refl _ _⟩
  · refine (AnyM.slices_Sort_int Tryz.sortI g 0 cap l w h5 h2 (by omega)).mono ?_
    rintro e w' ⟨rfl, n, os, rfl⟩
    refine ⟨rfl, .inr ⟨g, cap, by rw [List.length_mergeSort], h1, ?_, by rw [List.length_mergeSort]; exact h3, h4, ?_⟩, below_putRow _ _ _ _ _ _ _ h1 hbs⟩
    · show g < ((putRow (Value.int .i64) (Sort.ahead w n) g 0 _).heap ++ os).size
      rw [Array.size_append, size_putRow]; exact Nat.lt_of_lt_of_le h2 (Nat.le_add_right _ _)
    · exact holds_grow os (by rw [size_putRow]; exact h2) (holds_putRow _ _ _ _ l.toArray _ (holds_ahead _ w n g 0 _ h5) (by simp))

theorem load1 (o x : Int) (B : Nat) (W : World) (hc : W.cell? ⟨B, 0, none⟩ = some (.int .i64 o)) :
    FnGives Tryz.prog 71 #[.pointer (some ⟨B, 0, none⟩)] #[.int .i64 x] (.bool (decide (x < o))) W := by
  show Calls Tryz.prog 71 #[.int .i64 x, .pointer (some ⟨B, 0, none⟩)] W _
  go_enter Tryz.func71, Tryz.ntmps71
  go_wp2
  all_goals (go_ret; exact ⟨by simp_all, 0, rfl⟩)

set_option maxHeartbeats 1000000 in
theorem del_any (w : World) (base : Nat) (v : Value) (l : List Int) (o : Int) (B : Nat) (hr : RowI w base v l) (hbs : base ≤ w.heap.size) (hB : B < base) (hc : w.cell? ⟨B, 0, none⟩ = some (.int .i64 o)) :
    Calls Tryz.prog 70 #[v, .func (.func 71) #[] #[.pointer (some ⟨B, 0, none⟩)]] w fun e w' => ∃ v', e = .returned v' ∧ RowI w' base v' (l.filter fun x => !(decide (x < o))) ∧ RowKit.Below base w w' := by
  have hs := hr.short
  have eg : ∀ args w, (callFunc 71 args).run Tryz.prog w = .ok (.enter 71 args) w := enters_of Tryz.func71 (by kernel_rfl) rfl
  rcases hr with ⟨rfl, rfl⟩ | ⟨g, cap, rfl, h1, h2, h3, h4, h5⟩
  · have hI := AnyE.slices_IndexFunc_empty (P := Tryz.prog) { Tryz.delF with } none 0 (.func (.func 71) #[] #[.pointer (some ⟨B, 0, none⟩)]) w
    change Calls Tryz.prog 96 _ _ _ at hI
    go_enter Tryz.func70, Tryz.ntmps70
    go_wp2_with (go_at_call 96; refine hI.mono ?_; rintro e w' ⟨rfl, rfl⟩)
    go_ret
    exact ⟨_, rfl, .inl ⟨rfl, rfl⟩, RowKit.Below.refl _ _⟩
  · have hcon := AnyE.slices_DeleteFunc Tryz.delF (Value.int .i64) (fun _ => rfl) (fun x => decide (x < o)) 71 #[.pointer (some ⟨B, 0, none⟩)] eg 0 Tryz.zeroValue3 g 0 cap l.toArray w
      (fun W x hb => load1 o x B W ((hb.cell (p := ⟨B, 0, none⟩) (Nat.lt_of_lt_of_le hB hbs)).trans hc))
      (fun n os dk x _ => load1 o x B _ (by
        unfold sortWorld
        rw [cell?_grow _ _ _ (by show B < (putRow _ _ _ _ _).heap.size; rw [size_putRow]; exact Nat.lt_of_lt_of_le hB hbs), cell?_putRow_other _ _ g 0 _ _ (Or.inl (by show B ≠ g; omega))]
        exact hc)) h5 (by unfold maxLen at hs; simp; omega) (by simpa using h3)
    refine hcon.mono ?_
    rintro e w' ⟨rfl, q, rfl⟩
    refine ⟨_, rfl, .inr ⟨g, cap, rfl, h1, by rw [size_putRow]; exact h2, Nat.le_trans (List.length_filter_le _ _) h3, h4, ?_⟩, ?_⟩
    · have hh := holds_putRow (Value.int .i64) (Sort.ahead w q) g 0 l.toArray ((l.filter fun x => !(decide (x < o))) ++ List.replicate (l.toArray.size - (l.filter fun x => !(decide (x < o))).length) 0).toArray (holds_ahead _ w q g 0 _ h5) (by simp; have := List.length_filter_le (fun x => !(decide (x < o))) l; omega)
      intro j hj
      have hj' : j < (l.filter fun x => !(decide (x < o))).length := by simpa using hj
      have h := hh j (by rw [List.size_toArray, List.length_append]; omega)
      refine ⟨?_, h.2⟩
      rw [h.1, getElem!_pos _ j (by rw [List.size_toArray, List.length_append]; omega), getElem!_pos _ j (by simpa using hj)]
      simp [List.getElem_append_left hj']
    · have := below_putRow w q g 0 base ((l.filter fun x => !(decide (x < o))) ++ List.replicate (l.toArray.size - (l.filter fun x => !(decide (x < o))).length) 0).toArray #[] h1 hbs
      rwa [grow_empty] at this
end Go.Proofs.YtjgdmbfkondakaaGreatDoor

/-
  numbers, by its contract.
-/
namespace Go.Proofs.YtjgdmbfkondakaaGreatDoor
open Go.RowKit

theorem isI : Elem Tryz.prog 47 3 (.int .i64 0) 8 := by
  have hinfo : (Tryz.prog.info? 3).map (fun i => (i.zero, i.size, i.bytes)) = some (some (.int .i64 0), 1, 8) := by kernel_rfl
  obtain ⟨i0, hi, hz0, hz1, hz2⟩ := info_parts hinfo
  exact ⟨Tryz.underlying47, ⟨i0, hi, hz0, hz1, hz2⟩, rfl⟩
theorem rowI_one (w : World) (u : Value) (n : Nat) (hn : n = w.heap.size) : Row (w.alloc (.cells #[u] 3)) (.slice (some ⟨n, 0, none⟩) 1 1) [u] := by
  subst hn
  exact row_one w 3 u
/-- The numbers of all parts of a store, rising. -/
def numsL (l : List ByteArray) : List Int := (l.map numB).filter fun n => decide (0 < n)
def numsM (m : M) : List Int := (numsL m.names).mergeSort fun x y => decide (x ≤ y)
theorem numsL_snoc (l : List ByteArray) (k : Nat) (h : k < l.length) : numsL (l.take (k + 1)) = numsL (l.take k) ++ (if 0 < numB l[k] then [numB l[k]] else []) := by
  unfold numsL
  rw [List.take_succ_eq_append_getElem h, List.map_append, List.filter_append]
  congr 1
  by_cases e : 0 < numB l[k]
  · simp [e]
  · simp [e]
theorem numsL_len (l : List ByteArray) : (numsL l).length ≤ l.length := by
  unfold numsL
  exact Nat.le_trans (List.length_filter_le _ _) (by simp)

set_option maxRecDepth 20000 in
set_option maxHeartbeats 2000000 in
theorem numbers_any (p : Nat) (F : Nat → Prop) (m : M) (w : World) (h : St w p F m) (ok : m.Ok) (hc : m.count ≤ 100000) (he : Env w) (hn : ∀ n ∈ m.names, n.size ≤ 18) :
    Calls Tryz.prog 61 #[.pointer (some ⟨p, 0, none⟩)] w fun e w' => ∃ v, e = .returned v ∧ RowI w' w.heap.size v (numsM m) ∧ Below w.heap.size w w' := by
  have hN := names_any p F m w h ok (by omega)
  have hl : m.names.length ≤ 100000 := by
    have h1 := ok.ld
    unfold M.names
    split
    · simp
    · simp; omega
  unfold numsM
  generalize m.names = l at *
  have HN : Hid (∀ n ∈ l, n.size ≤ 18) := hn
  clear h ok hn
  go_enter Tryz.func61, Tryz.ntmps61
  go_wp2_with fail
  refine hN.mono ?_
  rintro e u ⟨v, rfl, rw0, b0⟩
  obtain ⟨na, nc, rfl, _⟩ := rw0.sliceStrs
  have HR : Hid (Row u (.slice na l.length nc) (scells l)) := rw0
  have HE : Hid (Env u) := he.below b0
  have HB0 : Hid (Below w.heap.size w u) := b0
  have l63 : l.length ≤ 9223372036854775807 := by omega
  clear hN rw0 b0 he
  go_wp2
  go_loopg [3, 10] l.length (fun g u3 u10 wr => ∃ (k : Nat), u10 = .int .i64 k ∧ k ≤ l.length ∧ g = l.length - k ∧ Hid (Own1 wr u.heap.size 3 u3 (icells (numsL (l.take k)))) ∧ Hid (Below u.heap.size u wr))
  case atStart => exact ⟨0, rfl, Nat.zero_le _, rfl, by rw [List.take_zero]; exact World.ownsRow_nil _ _ _ _, Below.refl _ _⟩
  case round =>
    obtain ⟨k, rfl, hk, rfl, HO, HB⟩ := hrel
    by_cases hlt : k < l.length
    · have hlt' : (k : Int) < (l.length : Int) := by omega
      obtain ⟨gb, goff, gcap, hgv, _, _, hgc⟩ := HR.out.atStrs (by omega)
      injection hgv with hgv1 _ hgv3
      subst hgv1 hgv3
      have n0 := cell_on HB.out (hgc k hlt)
      have hNum := number_any l[k] (HN.out _ (List.getElem_mem hlt)) wr (HE.out.below HB.out)
      have hsn := numsL_snoc l k hlt
      have hacc : (numsL (l.take k)).length ≤ 100000 := by have := numsL_len (l.take k); rw [List.length_take] at this; omega
      obtain ⟨s, hs⟩ : ∃ s, l[k] = s := ⟨_, rfl⟩
      rw [hs] at n0 hNum hsn
      clear hgc hs
      have HSN : Hid _ := hsn
      clear hsn
      obtain ⟨acc, hac⟩ : ∃ acc, numsL (l.take k) = acc := ⟨_, rfl⟩
      rw [hac] at HO HSN hacc
      clear hac
      generalize numB s = z at *
      by_cases hz : 0 < z
      · go_wp2_with fail
        refine hNum.mono ?_
        rintro e w1 ⟨rfl, b1⟩
        have HB1 : Hid (Below u.heap.size u w1) := keptW HB.out b1
        have HO1 : Hid (Own1 w1 u.heap.size 3 u3 (icells acc)) := Own1.kept HO.out b1 (Nat.le_refl _)
        have HS : Hid (u.heap.size ≤ w1.heap.size) := HB1.out.size
        clear hNum b1 HO HB n0
        obtain ⟨oa, oc, hov⟩ := (show ∃ a c, u3 = .slice a acc.length c by
          rcases HO1.out.2 with ⟨h, hn⟩ | ⟨g, cap, cur, h, _⟩
          · rw [h]; rw [icells_length] at hn; exact ⟨none, 0, by rw [hn]⟩
          · rw [h, icells_length]; exact ⟨_, _, rfl⟩)
        subst hov
        go_wp2_with (at_builtin; refine wpList_append_row rfl _ _ 47 3 (.int .i64 0) 8 isI rfl u.heap.size _ _ (icells acc) [.int .i64 z] rfl rfl (World.ownsRow.alloc HO1.out _) (rowI_one _ _ _ (by simp)) (by simp [Value.oneCell']) (by rw [icells_length]; simp; omega) (by rw [icells_length]; simp; omega) (by have := HS.out; simp; omega) ?_; intro v' w4 hown' hb4 hs4)
        go_roundg (l.length - (k + 1))
        case measure => omega
        case rel =>
          refine ⟨k + 1, by go_num, by omega, rfl, ?_, ?_⟩
          · rw [HSN.out, if_pos hz, icells_append]; exact hown'
          · exact (HB1.out.alloc HB1.out.size _).trans (hb4.mono (Nat.le_refl _))
      · go_wp2_with fail
        refine hNum.mono ?_
        rintro e w1 ⟨rfl, b1⟩
        go_wp2
        go_roundg (l.length - (k + 1))
        case measure => omega
        case rel =>
          refine ⟨k + 1, by go_num, by omega, rfl, ?_, keptW HB.out b1⟩
          rw [HSN.out, if_neg (by omega), List.append_nil]; exact Own1.kept HO.out b1 (Nat.le_refl _)
    · have e : k = l.length := by omega
      have hlt' : ¬ (k : Int) < (l.length : Int) := by omega
      have hrI := rowI_of_own HO.out
      rw [e, List.take_length] at hrI
      have hS := sort_any wr u.heap.size u3 (numsL l) hrI (by have := numsL_len l; omega) HB.out.size
      obtain ⟨oa, oc, hov⟩ := hrI.slice
      subst hov
      clear e hrI HO
      go_wp2_with (go_at_call 93; refine hS.mono ?_; rintro e w5 ⟨rfl, r5, b5⟩)
      go_ret
      exact ⟨_, rfl, r5.mono HB0.out.size, HB0.out.trans ((HB.out.trans b5).mono HB0.out.size)⟩
end Go.Proofs.YtjgdmbfkondakaaGreatDoor

/-
  steps, by its contract: closures done one behind the other.
-/
namespace Go.Proofs.YtjgdmbfkondakaaGreatDoor
open Go.RowKit

/-- A function's value: which, what is bound, what is caught. -/
structure Cl where
  f : Nat
  bd : Array Value
  caps : Array Value
def Cl.v (c : Cl) : Value := .func (.func c.f) c.bd c.caps
def clv (l : List Cl) : List Value := l.map Cl.v
theorem clv_at {w : World} {a : Option Addr} {n cap : Nat} {l : List Cl} (h : Row w (.slice a n cap) (clv l)) : n = l.length ∧ ∀ i (hi : i < l.length), ∃ b off, a = some ⟨b, off, none⟩ ∧ w.cell? ⟨b, off + i, none⟩ = some (.func (.func l[i].f) l[i].bd l[i].caps) := by
  have hl : (clv l).length = l.length := by simp [clv]
  have hn : n = l.length := by
    rcases h with ⟨hv, he⟩ | ⟨ad, c, hv, h1, h2, h3⟩
    · injection hv with e1 e2 e3
      rw [he] at hl
      rw [← hl]
      simpa using e2
    · injection hv with e1 e2 e3
      rw [e2, hl]
  refine ⟨hn, fun i hi => ?_⟩
  obtain ⟨b, off, cap', hv, h1, h2, h3⟩ := h.at (by rw [hl]; omega)
  injection hv with e1 e2 e3
  refine ⟨b, off, e1, ?_⟩
  rw [h3 i (by rw [hl]; exact hi)]
  simp [clv, Cl.v]
set_option maxRecDepth 20000 in
set_option maxHeartbeats 2000000 in
theorem steps_any (q : Nat) (v : Value) (fs : List Cl) (w : World) (I : Nat → World → Prop) (E : Int → World → Prop) (Q : Int → World → Prop) (hn : fs.length ≤ 1000)
    (ef : ∀ c ∈ fs, ∀ args w, (callFunc c.f args).run Tryz.prog w = .ok (.enter c.f args) w)
    (h0 : I 0 w) (hrow : ∀ k W, I k W → Row W v (clv fs))
    (hstep : ∀ k (hk : k < fs.length) W, I k W → Calls Tryz.prog fs[k].f (fs[k].bd ++ fs[k].caps) W fun e W' => ∃ r : Int, e = .returned (.int .i64 r) ∧ (r = 0 → I (k + 1) W') ∧ (r ≠ 0 → E r W'))
    (hend : ∀ W, I fs.length W → Q 0 W)
    (herr : ∀ r W, r ≠ 0 → E r W → ∃ d, W.cell? ⟨q, 5, none⟩ = some (.bool d) ∧ W.frozen? ⟨q, 5, none⟩ = false ∧ Q r (W.setCell ⟨q, 5, none⟩ (.bool (d || decide (r = 9))))) :
    Calls Tryz.prog 34 #[.pointer (some ⟨q, 0, none⟩), v] w fun e w' => ∃ r : Int, e = .returned (.int .i64 r) ∧ Q r w' := by
  obtain ⟨a, n, cap, rfl⟩ : ∃ a n cap, v = .slice a n cap := by
    rcases hrow 0 w h0 with ⟨rfl, _⟩ | ⟨_, _, rfl, _⟩
    · exact ⟨_, _, _, rfl⟩
    · exact ⟨_, _, _, rfl⟩
  obtain rfl : n = fs.length := (clv_at (hrow 0 w h0)).1
  have HAt : Hid (∀ k W, I k W → ∀ i (hi : i < fs.length), ∃ b off, a = some ⟨b, off, none⟩ ∧ W.cell? ⟨b, off + i, none⟩ = some (.func (.func fs[i].f) fs[i].bd fs[i].caps)) := fun k W h => (clv_at (hrow k W h)).2
  have HS : Hid (∀ k (hk : k < fs.length) W, I k W → Calls Tryz.prog fs[k].f (fs[k].bd ++ fs[k].caps) W fun e W' => ∃ r : Int, e = .returned (.int .i64 r) ∧ (r = 0 → I (k + 1) W') ∧ (r ≠ 0 → E r W')) := hstep
  have HEf : Hid (∀ c ∈ fs, ∀ args w, (callFunc c.f args).run Tryz.prog w = .ok (.enter c.f args) w) := ef
  have HEnd : Hid (∀ W, I fs.length W → Q 0 W) := hend
  have HErr : Hid (∀ r W, r ≠ 0 → E r W → ∃ d, W.cell? ⟨q, 5, none⟩ = some (.bool d) ∧ W.frozen? ⟨q, 5, none⟩ = false ∧ Q r (W.setCell ⟨q, 5, none⟩ (.bool (d || decide (r = 9))))) := herr
  have HI0 : Hid (I 0 w) := h0
  have n63 : fs.length ≤ 9223372036854775807 := by omega
  clear hrow hstep ef hend herr h0
  go_enter Tryz.func34, Tryz.ntmps34
  go_wp2
  go_loopg [10] fs.length (fun g u10 wr => ∃ k : Nat, u10 = .int .i64 k ∧ k ≤ fs.length ∧ g = fs.length - k ∧ Hid (I k wr))
  case atStart => exact ⟨0, rfl, Nat.zero_le _, rfl, HI0⟩
  case round =>
    obtain ⟨k, rfl, hk, rfl, HI⟩ := hrel
    clear HI0
    by_cases hlt : k < fs.length
    · have hlt' : (k : Int) < (fs.length : Int) := by omega
      obtain ⟨b, off, rfl, g0⟩ := HAt.out k wr HI.out k hlt
      have hC := HS.out k hlt wr HI.out
      have ec := HEf.out _ (List.getElem_mem hlt)
      obtain ⟨c, hc⟩ : ∃ c, fs[k] = c := ⟨_, rfl⟩
      rw [hc] at g0 hC ec
      obtain ⟨f, bd, caps⟩ := c
      simp only at g0 hC ec
      clear hc HI
      go_wp2_with fail
      go_at_fn f
      refine hC.mono ?_
      rintro e w1 ⟨r, rfl, h1, h2⟩
      clear hC g0 ec
      by_cases hr : r = 0
      · have HI1 : Hid (I (k + 1) w1) := h1 hr
        subst hr
        clear h1 h2
        go_wp2
        go_roundg (fs.length - (k + 1))
        case measure => omega
        case rel => exact ⟨k + 1, by go_num, by omega, rfl, HI1⟩
      · obtain ⟨d, c5, f5, hQ⟩ := HErr.out r w1 hr (h2 hr)
        have HQ : Hid _ := hQ
        have hne : (r != 0) = true := by simpa using hr
        clear h1 h2 hQ
        by_cases h9 : r = 9
        · subst h9
          clear hr hne
          cases d with
          | true =>
            go_wp2
            go_ret
            exact ⟨_, rfl, HQ.out⟩
          | false =>
            go_wp2
            go_ret
            exact ⟨_, rfl, HQ.out⟩
        · have h9' : (r == 9) = false := by simpa using h9
          have hd9 : decide (r = 9) = false := by simpa using h9
          cases d with
          | true =>
            go_wp2
            go_ret
            exact ⟨_, rfl, HQ.out⟩
          | false =>
            rw [hd9] at HQ
            go_wp2
            go_ret
            exact ⟨_, rfl, HQ.out⟩
    · have e : k = fs.length := by omega
      have hlt' : ¬ (k : Int) < (fs.length : Int) := by omega
      have HQ : Hid (Q 0 wr) := HEnd.out wr (e ▸ HI.out)
      clear e HI
      go_wp2
      go_ret
      exact ⟨_, rfl, HQ.out⟩
end Go.Proofs.YtjgdmbfkondakaaGreatDoor
