/-
  THE WALKS of package word and of the small functions of the document's answer.
-/
import Derived.Test.YtdbgojmjjkidbaaGreatDoorProg
import Derived.Test.YtdbgojmjjkidbaaGreatDoorJBytes
import Derived.Test.YtdbgojmjjkidbaaGreatDoorJRow
import Derived.Lib.LaidTab
import Derived.Deep.Light
import Derived.Outline
namespace Go.Proofs.YtdbgojmjjkidbaaGreatDoor
open Go.RowKit


/-- The table of widths lies in memory as the text lays it. -/
def Tab (w : World) : Prop := ∀ j u, [Value.int .i64 1, .int .i64 2, .int .i64 4, .int .i64 8][j]? = some u → w.cell? ⟨1, j, none⟩ = some u


theorem Tab.pos {w : World} (h : Tab w) : 1 < w.heap.size := by
  have := World.block_lt_of_cell? w _ (h 0 _ rfl)
  omega

theorem Tab.below {w w' : World} {B : Nat} (h : Tab w) (hb : Below B w w') (hB : 1 < B) : Tab w' := by
  intro j u hj
  rw [hb.cell (p := ⟨1, j, none⟩) hB]
  exact h j u hj


/-- A whole array read out of its variable, told by its cells. -/
theorem run_load_cells {P : Program} (w : World) (g : Nat) (ty : TypeId) (cs : List Value) (d : TypeDesc) (hc : ∀ j u, cs[j]? = some u → w.cell? ⟨g, j, none⟩ = some u)
    (hu : P.underlying ty = some d) (hd : (match d with | .struct _ | .array _ _ => true | _ => false) = true) (hi : (P.info? ty).map (·.size) = some cs.length) :
    (loadVar ty ⟨g, 0, none⟩).run P w = .ok (.agg cs.toArray) w := by
  have hl : (loadCells ⟨g, 0, none⟩ cs.length).run P w = .ok cs.toArray w :=
    run_loadCells_list (P := P) w ⟨g, 0, none⟩ cs (fun j v hv => by
      have hadd : (⟨g, 0, none⟩ : Addr).add j = ⟨g, j, none⟩ := by unfold Addr.add; split <;> simp_all
      rw [hadd]
      exact hc j v hv)
  cases hq : P.info? ty with
  | none => simp [hq] at hi
  | some i =>
    have hs : i.size = cs.length := by simpa [hq] using hi
    have hagg : (isAgg ty).run P w = .ok true w := by
      unfold isAgg
      rw [Sem.run_bind, run_underlying hu w]
      cases d <;> simp_all
    simp [loadVar, Sem.run_bind, hagg, sizeOf, typeInfo, hq, hs, hl]


theorem wpList_load_cells {P : Program} {ops : Array Oper} {rest : List Oper} {o : Oper} {a : Act} {w : World} {Q : Exit → Act → World → Prop} (hgd : o.guard = none) (ty : TypeId) (x : Operand) (ho : o.op = .load ty x)
    (g : Nat) (hx : a.eval x = .pointer (some ⟨g, 0, none⟩)) (cs : List Value) (d : TypeDesc) (hc : ∀ j u, cs[j]? = some u → w.cell? ⟨g, j, none⟩ = some u)
    (hu : P.underlying ty = some d) (hd : (match d with | .struct _ | .array _ _ => true | _ => false) = true) (hi : (P.info? ty).map (·.size) = some cs.length)
    (h : wpList P ops Q rest (a.put o.dst (.agg cs.toArray)) w) : wpList P ops Q (o :: rest) a w :=
  wpList_plain hgd fun _ hK => by
    unfold Oper.wp execOp
    simp only [ho, hx, Instr.loadAt, Instr.sureAddr, Sem.run_bind, Sem.run_pure, Result.andThen_ok, run_load_cells w g ty cs d hc hu hd hi]
    exact hK _ _ h




theorem wi8 (n : Int) : IntKind.i8.wrap n = (n + 128) % 256 - 128 := by
  simp only [IntKind.wrap, IntKind.bits, IntKind.signed, Bool.true_and, ge_iff_le, decide_eq_true_eq]
  simp
  split <;> omega

theorem wi16 (n : Int) : IntKind.i16.wrap n = (n + 32768) % 65536 - 32768 := by
  simp only [IntKind.wrap, IntKind.bits, IntKind.signed, Bool.true_and, ge_iff_le, decide_eq_true_eq]
  simp
  split <;> omega


def goodB (n : Int) : Bool := n == 1 || n == 2 || n == 4 || n == 8


/-- Good: the widths are 1, 2, 4 and 8. -/
theorem goodW_any (n : Int) (w : World) (ht : Tab w) :
    Calls Tryz.prog 81 #[.int .i64 n] w fun e w' => e = .returned (.bool (goodB n)) ∧ w' = w := by
  have i0 : ∀ w : World, (Instr.index 140 (.agg #[.int .i64 1, .int .i64 2, .int .i64 4, .int .i64 8]) (.int .i64 0)).run Tryz.prog w = .ok (.int .i64 1) w := fun _ => by kernel_rfl
  have i1 : ∀ w : World, (Instr.index 140 (.agg #[.int .i64 1, .int .i64 2, .int .i64 4, .int .i64 8]) (.int .i64 1)).run Tryz.prog w = .ok (.int .i64 2) w := fun _ => by kernel_rfl
  have i2 : ∀ w : World, (Instr.index 140 (.agg #[.int .i64 1, .int .i64 2, .int .i64 4, .int .i64 8]) (.int .i64 2)).run Tryz.prog w = .ok (.int .i64 4) w := fun _ => by kernel_rfl
  have i3 : ∀ w : World, (Instr.index 140 (.agg #[.int .i64 1, .int .i64 2, .int .i64 4, .int .i64 8]) (.int .i64 3)).run Tryz.prog w = .ok (.int .i64 8) w := fun _ => by kernel_rfl
  go_enter Tryz.func81, Tryz.ntmps81
  go_wp2_with (refine wpList_load_cells rfl 140 _ rfl 1 rfl _ _ ht Tryz.underlying140 rfl (by kernel_rfl) ?_)
  go_rounds 5
  all_goals go_ret
  all_goals refine ⟨ret_bool ?_, rfl⟩
  all_goals clear ht i0 i1 i2 i3
  all_goals go_light
  all_goals simp only [beq_iff_eq, beq_eq_false_iff_ne, ne_eq] at *
  all_goals simp only [goodB]
  all_goals (simp; omega)


theorem rgoodW_any (n : Int) (w : World) :
    Calls Tryz.prog 84 #[.int .i64 n] w fun e w' => e = .returned (.bool (goodB n)) ∧ w' = w := by
  go_enter Tryz.func84, Tryz.ntmps84
  go_wp2
  all_goals go_ret
  all_goals refine ⟨ret_bool ?_, rfl⟩
  all_goals first | (unfold goodB; simp; omega) | rfl


/-- The lowest bytes. -/
def cutI (v n : Int) : Int := if n = 1 then v % 256 else if n = 2 then v % 65536 else if n = 4 then v % 4294967296 else if n = 8 then v else 0

/-- They, with a sign. -/
def signedI (v n : Int) : Int := if n = 1 then (v + 128) % 256 - 128 else if n = 2 then (v + 32768) % 65536 - 32768 else if n = 4 then (v + 2147483648) % 4294967296 - 2147483648 else if n = 8 then (v + 9223372036854775808) % 18446744073709551616 - 9223372036854775808 else 0


theorem five (n : Int) : n = 1 ∨ n = 2 ∨ n = 4 ∨ n = 8 ∨ (¬ n = 1 ∧ ¬ n = 2 ∧ ¬ n = 4 ∧ ¬ n = 8) := by omega


def fitsB (n k : Int) : Bool := goodB k && (signedI (n % 18446744073709551616) k == n)


def farI (a b : Int) : Int := (b - a + 32768) % 65536 - 32768

def moveI (a n : Int) : Int := (a + n) % 65536

theorem far_wrap (a b : Int) : wrap64 (IntKind.i16.wrap (IntKind.u16.wrap (b - a))) = farI a b := by
  rw [wi16, IntKind.wrap_u16]; unfold wrap64 farI; omega

theorem move_wrap (a n : Int) : IntKind.u16.wrap (a + IntKind.u16.wrap n) = moveI a n := by
  rw [IntKind.wrap_u16, IntKind.wrap_u16]; unfold moveI; omega


def lessB (a b : Int) : Bool := decide (0 < farI a b)

end Go.Proofs.YtdbgojmjjkidbaaGreatDoor

/-
  THE WALK of Put: a number behind bytes.
-/
namespace Go.Proofs.YtdbgojmjjkidbaaGreatDoor
open Go.RowKit


theorem isU8W : U8 Tryz.prog 78 5 := by
  have hinfo : (Tryz.prog.info? 5).map (fun i => (i.zero, i.size, i.bytes)) = some (some (.int .u8 0), 1, 1) := by kernel_rfl
  obtain ⟨i0, hi, hz0, hz1, hz2⟩ := info_parts hinfo
  exact ⟨Tryz.underlying78, Tryz.underlying5, i0, hi, hz0, hz1, hz2⟩


/-- The n lowest bytes of v, the highest first. -/
def putL (n v : Nat) : List UInt8 := (List.range n).map fun i => UInt8.ofNat (v >>> (8 * (n - 1 - i)))

theorem putL_length (n v : Nat) : (putL n v).length = n := by simp [putL]

theorem putL_succ (n v k : Nat) (h : k < n) : (putL n v).take (k + 1) = (putL n v).take k ++ [UInt8.ofNat (v >>> (8 * (n - 1 - k)))] := by
  rw [List.take_succ_eq_append_getElem (by simpa [putL] using h)]
  simp [putL]


theorem shr_byte (v m : Nat) : UInt8.ofNat (((v : Int) / 2 ^ m % 256).toNat) = UInt8.ofNat (v >>> m) := by
  have : ((v : Int) / 2 ^ m % 256).toNat = v / 2 ^ m % 256 := by
    have h : ((v : Int) / 2 ^ m % 256) = ((v / 2 ^ m % 256 : Nat) : Int) := by
      rw [Int.natCast_emod, Int.natCast_ediv, Int.natCast_pow]; rfl
    rw [h, Int.toNat_natCast]
  rw [this, Nat.shiftRight_eq_div_pow]
  apply UInt8.toNat_inj.1
  rw [UInt8.toNat_ofNat', UInt8.toNat_ofNat']
  generalize v / 2 ^ m = q
  omega

theorem holds_byte (w : World) (e : TypeId) (v m : Nat) :
    Holds (w.alloc (.cells #[.int .u8 ((v : Int) / 2 ^ m % 256)] e)) (.slice (some ⟨w.heap.size, 0, none⟩) 1 1) [UInt8.ofNat (v >>> m)] := by
  rw [← shr_byte]
  exact holds_one w e _ (Int.emod_nonneg _ (by decide)) (Int.emod_lt_of_pos _ (by decide))


set_option maxHeartbeats 400000 in
theorem put_good (s : Value) (bs : List UInt8) (n v : Nat) (w : World) (ht : Tab w) (hs : Holds w s bs) (hl : bs.length ≤ 100000000) (hg : goodB n = true) (_hv : v < 18446744073709551616) :
    Calls Tryz.prog 60 #[s, .int .i64 n, .int .u64 v] w fun e w' => ∃ v', e = .returned v' ∧ Owns w' w.heap.size 5 v' (bs ++ putL n v) ∧ Below w.heap.size w w' := by
  have hn : n = 1 ∨ n = 2 ∨ n = 4 ∨ n = 8 := by unfold goodB at hg; simp at hg; omega
  have hn8 : n ≤ 8 := by omega
  obtain ⟨C, hmk, hC⟩ := run_make_bytes (P := Tryz.prog) w 78 5 isU8W (bs.length + n) (by omega)
  rw [show ((bs.length + n : Nat) : Int) = (bs.length : Int) + (n : Int) by omega] at hmk
  have hlen : ∃ a cap, s = .slice a bs.length cap := by
    rcases hs with ⟨rfl, rfl⟩ | ⟨a, cap, rfl, _⟩
    · exact ⟨_, _, rfl⟩
    · exact ⟨_, _, rfl⟩
  obtain ⟨a, cap, rfl⟩ := hlen
  clear hn
  go_enter Tryz.func60, Tryz.ntmps60
  go_wp2_with (first
    | (go_at_call 81; refine (goodW_any _ _ ht).mono ?_; rintro e w' ⟨rfl, rfl⟩)
    | (at_builtin; refine wpList_append_bytes rfl _ _ 78 5 isU8W rfl w'.heap.size _ _ [] bs rfl rfl (owns_made _ _ _ _ _ (Nat.le_refl _) (by unfold maxLen; omega) hC) (hs.below ((Below.refl _ _).alloc (Nat.le_refl _) _) (Nat.le_refl _)) (by simp; omega) (by simp) ?_; intro v1 w1 own1 bel1 sz1))
  go_loopw [7, 21] (fun o i wr => ∃ k : Nat, k ≤ n ∧ i = .int .i64 k ∧ Owns wr w'.heap.size 5 o (bs ++ (putL n v).take k) ∧ Below w'.heap.size w' wr ∧ w'.heap.size ≤ wr.heap.size) (fun _ i _ => n - (intOf i).toNat)
  case atStart => 
    refine ⟨0, Nat.zero_le _, rfl, by simpa using own1, ?_, sz1⟩
    exact ((Below.refl _ _).alloc (Nat.le_refl _) _).trans bel1
  case round =>
    obtain ⟨k, hk, rfl, own, bel, sz⟩ := hrel
    have hsucc : k < n → (putL n v).take (k + 1) = (putL n v).take k ++ [UInt8.ofNat (v >>> (8 * (n - 1 - k)))] := putL_succ n v k
    have hlen : (bs ++ (putL n v).take k).length ≤ 100000008 := by simp [putL_length]; omega
    have HS : Hid _ := hsucc
    clear hsucc
    by_cases hlt : k < n
    · go_wp2_with (at_builtin; refine wpList_append_bytes rfl _ _ 78 5 isU8W rfl w'.heap.size _ _ (bs ++ (putL n v).take k) [UInt8.ofNat (v >>> (8 * (n - 1 - k)))] rfl rfl (World.ownsRow.alloc own _) (holds_byte wr _ v _) (by simp only [List.length_singleton]; omega) (by simp; omega) ?_; intro v2 w2 own2 bel2 sz2)
      go_roundw
      case rel =>
        refine ⟨k + 1, by omega, by go_num, ?_, ?_, sz2⟩
        · rw [HS.out hlt, ← List.append_assoc]
          exact own2
        · exact (bel.alloc sz _).trans bel2
      case measure => simp [intOf]; omega
    · go_wp2
      obtain rfl : k = n := by omega
      go_ret
      refine ⟨_, rfl, ?_, bel⟩
      rw [List.take_of_length_le (by rw [putL_length]; omega)] at own
      exact own


theorem put_bad (s : Value) (bs : List UInt8) (n v : Int) (w : World) (ht : Tab w) (hs : Holds w s bs) (hl : bs.length ≤ 100000000) (hg : goodB n = false) :
    Calls Tryz.prog 60 #[s, .int .i64 n, .int .u64 v] w fun e w' => ∃ v', e = .returned v' ∧ Owns w' w.heap.size 5 v' bs ∧ Below w.heap.size w w' := by
  obtain ⟨C, hmk, hC⟩ := run_make_bytes (P := Tryz.prog) w 78 5 isU8W bs.length (by omega)
  have hlen : ∃ a cap, s = .slice a bs.length cap := by
    rcases hs with ⟨rfl, rfl⟩ | ⟨a, cap, rfl, _⟩
    · exact ⟨_, _, rfl⟩
    · exact ⟨_, _, rfl⟩
  obtain ⟨a, cap, rfl⟩ := hlen
  go_enter Tryz.func60, Tryz.ntmps60
  go_wp2_with (first
    | (go_at_call 81; refine (goodW_any _ _ ht).mono ?_; rintro e w' ⟨rfl, rfl⟩)
    | (at_builtin; refine wpList_append_bytes rfl _ _ 78 5 isU8W rfl w'.heap.size _ _ [] bs rfl rfl (owns_made _ _ _ _ _ (Nat.le_refl _) (by unfold maxLen; omega) hC) (hs.below ((Below.refl _ _).alloc (Nat.le_refl _) _) (Nat.le_refl _)) (by simp; omega) (by simp) ?_; intro v1 w1 own1 bel1 sz1))
  go_rounds 1
  go_ret
  exact ⟨_, rfl, by simpa using own1, ((Below.refl _ _).alloc (Nat.le_refl _) _).trans bel1⟩


/-- The bytes of a number of a width; none where it is no width. -/
def putI (n : Int) (v : Nat) : List UInt8 := if goodB n then putL n.toNat v else []


theorem put_any (s : Value) (bs : List UInt8) (n : Int) (v : Nat) (w : World) (ht : Tab w) (hs : Holds w s bs) (hl : bs.length ≤ 100000000) (hv : v < 18446744073709551616) :
    Calls Tryz.prog 60 #[s, .int .i64 n, .int .u64 v] w fun e w' => ∃ v', e = .returned v' ∧ Owns w' w.heap.size 5 v' (bs ++ putI n v) ∧ Below w.heap.size w w' := by
  unfold putI
  cases hg : goodB n with
  | false => simpa using put_bad s bs n v w ht hs hl hg
  | true =>
    have hn : n = 1 ∨ n = 2 ∨ n = 4 ∨ n = 8 := by unfold goodB at hg; simp at hg; omega
    obtain ⟨k, rfl⟩ : ∃ k : Nat, n = k := ⟨n.toNat, by omega⟩
    simpa using put_good s bs k v w ht hs hl hg hv


end Go.Proofs.YtdbgojmjjkidbaaGreatDoor

/-
  THE WALK of the document's Put.
-/
namespace Go.Proofs.YtdbgojmjjkidbaaGreatDoor
open Go.RowKit


set_option maxHeartbeats 400000 in
theorem rput_good (s : Value) (bs : List UInt8) (n v : Nat) (w : World) (hs : Holds w s bs) (hl : bs.length ≤ 100000000) (hg : goodB n = true) :
    Calls Tryz.prog 63 #[s, .int .i64 n, .int .u64 v] w fun e w' => ∃ v', e = .returned v' ∧ Owns w' w.heap.size 5 v' (bs ++ putL n v) ∧ Below w.heap.size w w' := by
  have hn : n = 1 ∨ n = 2 ∨ n = 4 ∨ n = 8 := by unfold goodB at hg; simp at hg; omega
  have hn1 : 1 ≤ n := by omega
  have hn8 : n ≤ 8 := by omega
  clear hn
  go_enter Tryz.func63, Tryz.ntmps63
  go_wp2_with (first
    | (go_at_call 84; refine (rgoodW_any _ _).mono ?_; rintro e w' ⟨rfl, rfl⟩)
    | (at_builtin; refine wpList_append_bytes rfl _ _ 78 5 isU8W rfl w.heap.size _ _ [] bs rfl rfl (owns_made _ _ _ #[] 0 (Nat.le_refl _) (by unfold maxLen; omega) rfl) (hs.below ((Below.refl _ _).alloc (Nat.le_refl _) _) (Nat.le_refl _)) (by simp; omega) (by simp) ?_; intro v1 w1 own1 bel1 sz1))
  go_loopw [7, 8] (fun o i wr => ∃ k : Nat, k ≤ n ∧ i = .int .i64 ((n : Int) - 1 - k) ∧ Owns wr w.heap.size 5 o (bs ++ (putL n v).take k) ∧ Below w.heap.size w wr ∧ w.heap.size ≤ wr.heap.size) (fun _ i _ => (intOf i + 1).toNat)
  case atStart =>
    refine ⟨0, Nat.zero_le _, by simp, by simpa using own1, ?_, sz1⟩
    exact ((Below.refl _ _).alloc (Nat.le_refl _) _).trans bel1
  case round =>
    obtain ⟨k, hk, rfl, own, bel, sz⟩ := hrel
    have HS : Hid (k < n → (putL n v).take (k + 1) = (putL n v).take k ++ [UInt8.ofNat (v >>> (8 * (n - 1 - k)))]) := putL_succ n v k
    have hlen : (bs ++ (putL n v).take k).length ≤ 100000008 := by simp [putL_length]; omega
    by_cases hlt : k < n
    · have hsh : ((8 * ((n : Int) - 1 - k)) % 18446744073709551616).toNat = 8 * (n - 1 - k) := by omega
      go_wp2_with (at_builtin; refine wpList_append_bytes rfl _ _ 78 5 isU8W rfl w.heap.size _ _ (bs ++ (putL n v).take k) [UInt8.ofNat (v >>> (8 * (n - 1 - k)))] rfl rfl (World.ownsRow.alloc own _) (holds_byte wr _ v _) (by simp only [List.length_singleton]; omega) (by simp; omega) ?_; intro v2 w2 own2 bel2 sz2)
      go_roundw
      case rel =>
        refine ⟨k + 1, by omega, by go_num, ?_, ?_, sz2⟩
        · rw [HS.out hlt, ← List.append_assoc]
          exact own2
        · exact (bel.alloc sz _).trans bel2
      case measure => simp [intOf]; omega
    · go_wp2
      obtain rfl : k = n := by omega
      go_ret
      refine ⟨_, rfl, ?_, bel⟩
      rw [List.take_of_length_le (by rw [putL_length]; omega)] at own
      exact own


theorem rput_bad (s : Value) (bs : List UInt8) (n v : Int) (w : World) (hs : Holds w s bs) (hl : bs.length ≤ 100000000) (hg : goodB n = false) :
    Calls Tryz.prog 63 #[s, .int .i64 n, .int .u64 v] w fun e w' => ∃ v', e = .returned v' ∧ Owns w' w.heap.size 5 v' bs ∧ Below w.heap.size w w' := by
  go_enter Tryz.func63, Tryz.ntmps63
  go_wp2_with (first
    | (go_at_call 84; refine (rgoodW_any _ _).mono ?_; rintro e w' ⟨rfl, rfl⟩)
    | (at_builtin; refine wpList_append_bytes rfl _ _ 78 5 isU8W rfl w.heap.size _ _ [] bs rfl rfl (owns_made _ _ _ #[] 0 (Nat.le_refl _) (by unfold maxLen; omega) rfl) (hs.below ((Below.refl _ _).alloc (Nat.le_refl _) _) (Nat.le_refl _)) (by simp; omega) (by simp) ?_; intro v1 w1 own1 bel1 sz1))
  go_ret
  exact ⟨_, rfl, by simpa using own1, ((Below.refl _ _).alloc (Nat.le_refl _) _).trans bel1⟩


theorem rput_any (s : Value) (bs : List UInt8) (n : Int) (v : Nat) (w : World) (hs : Holds w s bs) (hl : bs.length ≤ 100000000) :
    Calls Tryz.prog 63 #[s, .int .i64 n, .int .u64 v] w fun e w' => ∃ v', e = .returned v' ∧ Owns w' w.heap.size 5 v' (bs ++ putI n v) ∧ Below w.heap.size w w' := by
  unfold putI
  cases hg : goodB n with
  | false => simpa using rput_bad s bs n v w hs hl hg
  | true =>
    have hn : n = 1 ∨ n = 2 ∨ n = 4 ∨ n = 8 := by unfold goodB at hg; simp at hg; omega
    obtain ⟨k, rfl⟩ : ∃ k : Nat, n = k := ⟨n.toNat, by omega⟩
    simpa using rput_good s bs k v w hs hl hg

end Go.Proofs.YtdbgojmjjkidbaaGreatDoor

/-
  THE WALKS of Get and of the document's Get.
-/
namespace Go.Proofs.YtdbgojmjjkidbaaGreatDoor
open Go.RowKit


/-- The number that the bytes are, the highest first. -/
def getN (bs : List UInt8) : Nat := bs.foldl (fun a b => a * 256 + b.toNat) 0

theorem getN_snoc (bs : List UInt8) (b : UInt8) : getN (bs ++ [b]) = getN bs * 256 + b.toNat := by simp [getN]

theorem getN_take (bs : List UInt8) (k : Nat) (h : k < bs.length) : getN (bs.take (k + 1)) = getN (bs.take k) * 256 + bs[k].toNat := by
  rw [List.take_succ_eq_append_getElem h, getN_snoc]

theorem getN_lt (bs : List UInt8) : ∀ k : Nat, k ≤ bs.length → getN (bs.take k) < 256 ^ k
  | 0, _ => by simp [getN]
  | k + 1, h => by
    rw [getN_take bs k (by omega), Nat.pow_succ]
    have h1 := getN_lt bs k (by omega)
    have h2 := bs[k].toNat_lt
    omega

theorem getN_lt8 (bs : List UInt8) (k : Nat) (h : k ≤ bs.length) (h8 : k ≤ 7) : getN (bs.take k) < 72057594037927936 :=
  Nat.lt_of_lt_of_le (getN_lt bs k h) (Nat.pow_le_pow_right (by decide) h8)


theorem Holds.slice {w : World} {v : Value} {bs : List UInt8} (h : Holds w v bs) : ∃ a cap, v = .slice a bs.length cap := by
  rcases h with ⟨rfl, rfl⟩ | ⟨a, cap, rfl, _⟩
  · exact ⟨_, _, rfl⟩
  · exact ⟨_, _, rfl⟩

/-- Bytes that are there lie at plain addresses. -/
theorem Holds.at {w : World} {v : Value} {bs : List UInt8} (h : Holds w v bs) (hp : 0 < bs.length) :
    ∃ b off cap, v = .slice (some ⟨b, off, none⟩) bs.length cap ∧ bs.length ≤ cap ∧ cap ≤ maxLen ∧ ∀ j (hj : j < bs.length), w.cell? ⟨b, off + j, none⟩ = some (.int .u8 (bs[j].toNat : Int)) := by
  rcases h with ⟨rfl, rfl⟩ | ⟨a, cap, rfl, h1, h2, h3⟩
  · simp at hp
  · obtain ⟨b, off, spot⟩ := a
    have h0 := h3 0 (.int .u8 (bs[0].toNat : Int)) (by simp [bcells, hp])
    have hspot : spot = none := by simpa [Addr.add] using World.cell?_spot h0
    subst hspot
    refine ⟨b, off, cap, rfl, h1, h2, fun j hj => ?_⟩
    rw [← Go.WideShapes.add_plain]
    exact h3 j _ (by simp [bcells, hj])


theorem or_byte (a : Nat) (b : UInt8) (ha : a < 72057594037927936) : bits .or .u64 ((a : Int) * 256) (IntKind.u64.wrap (b.toNat : Int)) = ((a * 256 + b.toNat : Nat) : Int) := by
  have hb := b.toNat_lt
  have e1 : ((a : Int) * 256) = ((a * 256 : Nat) : Int) := by omega
  have e2 : IntKind.u64.wrap (b.toNat : Int) = (b.toNat : Int) := by rw [IntKind.wrap_u64]; omega
  rw [e1, e2, bits_or_u64_nat _ _ (by omega) (by omega)]
  have h := Nat.two_pow_add_eq_or_of_lt (i := 8) (b := b.toNat) (by omega) a
  rw [show a * 256 = 2 ^ 8 * a by omega, ← h]

theorem add_byte (a : Nat) (b : UInt8) (ha : a < 72057594037927936) : IntKind.u64.wrap ((a : Int) * 256 + IntKind.u64.wrap (b.toNat : Int)) = ((a * 256 + b.toNat : Nat) : Int) := by
  have hb := b.toNat_lt
  rw [IntKind.wrap_u64, IntKind.wrap_u64]; omega


set_option maxHeartbeats 400000 in
theorem get_good (s : Value) (bs : List UInt8) (n : Nat) (w : World) (ht : Tab w) (hs : Holds w s bs) (hg : goodB n = true) (hn : n ≤ bs.length) :
    Calls Tryz.prog 87 #[s, .int .i64 n] w fun e w' => e = .returned (.tuple #[.int .u64 (getN (bs.take n)), .bool true]) ∧ w' = w := by
  have hn' : n = 1 ∨ n = 2 ∨ n = 4 ∨ n = 8 := by unfold goodB at hg; simp at hg; omega
  have hn1 : 1 ≤ n := by omega
  have hn8 : n ≤ 8 := by omega
  clear hn'
  obtain ⟨b, off, cap, rfl, hc1, hc2, hcell⟩ := hs.at (by omega)
  unfold maxLen at hc2
  go_enter Tryz.func87, Tryz.ntmps87
  go_wp2_with (go_at_call 81; refine (goodW_any _ _ ht).mono ?_; rintro e w' ⟨rfl, rfl⟩)
  go_loop [6, 18] (fun x i => ∃ k : Nat, k ≤ n ∧ i = .int .i64 k ∧ x = .int .u64 (getN (bs.take k))) (fun _ i => n - (intOf i).toNat)
  case atStart => exact ⟨0, Nat.zero_le _, rfl, by simp [getN]⟩
  case round =>
    obtain ⟨k, hk, rfl, rfl⟩ := hrel
    by_cases hlt : k < n
    · have hb := getN_lt8 bs k (by omega) (by omega)
      have hc := hcell k (by omega)
      go_wp2
      refine ⟨⟨k + 1, by omega, by go_num, ?_⟩, by simp [intOf]; omega⟩
      rw [or_byte _ _ hb, ← getN_take]
    · go_wp2
      obtain rfl : k = n := by omega
      go_ret2
      exact ⟨rfl, rfl⟩


/-- Too few bytes, or no width. -/
def getB (bs : List UInt8) (n : Int) : Bool := goodB n && decide (n ≤ (bs.length : Int))

theorem get_bad (s : Value) (bs : List UInt8) (n : Int) (w : World) (ht : Tab w) (hs : Holds w s bs) (hg : getB bs n = false) :
    Calls Tryz.prog 87 #[s, .int .i64 n] w fun e w' => e = .returned (.tuple #[.int .u64 0, .bool false]) ∧ w' = w := by
  obtain ⟨a, cap, rfl⟩ := hs.slice
  clear hs
  cases hgd : goodB n
  · go_enter Tryz.func87, Tryz.ntmps87
    go_wp2_with (go_at_call 81; refine (goodW_any _ _ ht).mono ?_; rintro e w' ⟨rfl, rfl⟩)
    go_ret2
    exact ⟨rfl, rfl⟩
  · have hlt : (bs.length : Int) < n := by unfold getB at hg; rw [hgd] at hg; simp at hg; omega
    clear hg
    go_enter Tryz.func87, Tryz.ntmps87
    go_wp2_with (go_at_call 81; refine (goodW_any _ _ ht).mono ?_; rintro e w' ⟨rfl, rfl⟩)
    go_ret2
    exact ⟨rfl, rfl⟩


/-- What Get answers. -/
def getI (bs : List UInt8) (n : Int) : Nat := if getB bs n then getN (bs.take n.toNat) else 0

theorem get_any (s : Value) (bs : List UInt8) (n : Int) (w : World) (ht : Tab w) (hs : Holds w s bs) :
    Calls Tryz.prog 87 #[s, .int .i64 n] w fun e w' => e = .returned (.tuple #[.int .u64 (getI bs n), .bool (getB bs n)]) ∧ w' = w := by
  unfold getI
  cases hg : getB bs n with
  | false => simpa using get_bad s bs n w ht hs hg
  | true =>
    have hg2 : goodB n = true ∧ n ≤ (bs.length : Int) := by unfold getB at hg; simpa using hg
    have hn : n = 1 ∨ n = 2 ∨ n = 4 ∨ n = 8 := by have h := hg2.1; unfold goodB at h; simp at h; omega
    obtain ⟨k, rfl⟩ : ∃ k : Nat, n = k := ⟨n.toNat, by omega⟩
    simpa using get_good s bs k w ht hs hg2.1 (by omega)


set_option maxHeartbeats 400000 in
theorem rget_good (s : Value) (bs : List UInt8) (n : Nat) (w : World) (hs : Holds w s bs) (hg : goodB n = true) (hn : n ≤ bs.length) :
    Calls Tryz.prog 91 #[s, .int .i64 n] w fun e w' => e = .returned (.tuple #[.int .u64 (getN (bs.take n)), .bool true]) ∧ w' = w := by
  have hn' : n = 1 ∨ n = 2 ∨ n = 4 ∨ n = 8 := by unfold goodB at hg; simp at hg; omega
  have hn1 : 1 ≤ n := by omega
  have hn8 : n ≤ 8 := by omega
  clear hn'
  obtain ⟨b, off, cap, rfl, hc1, hc2, hcell⟩ := hs.at (by omega)
  unfold maxLen at hc2
  go_enter Tryz.func91, Tryz.ntmps91
  go_wp2_with (go_at_call 84; refine (rgoodW_any _ _).mono ?_; rintro e w' ⟨rfl, rfl⟩)
  go_loop [6, 7] (fun x i => ∃ k : Nat, k ≤ n ∧ i = .int .i64 k ∧ x = .int .u64 (getN (bs.take k))) (fun _ i => n - (intOf i).toNat)
  case atStart => exact ⟨0, Nat.zero_le _, rfl, by simp [getN]⟩
  case round =>
    obtain ⟨k, hk, rfl, rfl⟩ := hrel
    by_cases hlt : k < n
    · have hb := getN_lt8 bs k (by omega) (by omega)
      have hc := hcell k (by omega)
      go_wp2
      refine ⟨⟨k + 1, by omega, by go_num, ?_⟩, by simp [intOf]; omega⟩
      rw [add_byte _ _ hb, ← getN_take]
    · go_wp2
      obtain rfl : k = n := by omega
      go_ret2
      exact ⟨rfl, rfl⟩

theorem rget_bad (s : Value) (bs : List UInt8) (n : Int) (w : World) (hs : Holds w s bs) (hg : getB bs n = false) :
    Calls Tryz.prog 91 #[s, .int .i64 n] w fun e w' => e = .returned (.tuple #[.int .u64 0, .bool false]) ∧ w' = w := by
  obtain ⟨a, cap, rfl⟩ := hs.slice
  clear hs
  cases hgd : goodB n
  · go_enter Tryz.func91, Tryz.ntmps91
    go_wp2_with (go_at_call 84; refine (rgoodW_any _ _).mono ?_; rintro e w' ⟨rfl, rfl⟩)
    go_ret2
    exact ⟨rfl, rfl⟩
  · have hlt : (bs.length : Int) < n := by unfold getB at hg; rw [hgd] at hg; simp at hg; omega
    clear hg
    go_enter Tryz.func91, Tryz.ntmps91
    go_wp2_with (go_at_call 84; refine (rgoodW_any _ _).mono ?_; rintro e w' ⟨rfl, rfl⟩)
    go_ret2
    exact ⟨rfl, rfl⟩

theorem rget_any (s : Value) (bs : List UInt8) (n : Int) (w : World) (hs : Holds w s bs) :
    Calls Tryz.prog 91 #[s, .int .i64 n] w fun e w' => e = .returned (.tuple #[.int .u64 (getI bs n), .bool (getB bs n)]) ∧ w' = w := by
  unfold getI
  cases hg : getB bs n with
  | false => simpa using rget_bad s bs n w hs hg
  | true =>
    have hg2 : goodB n = true ∧ n ≤ (bs.length : Int) := by unfold getB at hg; simpa using hg
    have hn : n = 1 ∨ n = 2 ∨ n = 4 ∨ n = 8 := by have h := hg2.1; unfold goodB at h; simp at h; omega
    obtain ⟨k, rfl⟩ : ∃ k : Nat, n = k := ⟨n.toNat, by omega⟩
    simpa using rget_good s bs k w hs hg2.1 (by omega)

end Go.Proofs.YtdbgojmjjkidbaaGreatDoor
