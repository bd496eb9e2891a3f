/-
  only, by its contract.
-/
import Derived.Test.YteimdolckhpndaaDoorOnly
import Derived.Laws.CopyOwn
import Derived.Laws.Tables
import Derived.Laws.Rows
namespace Go.Proofs.YteimdolckhpndaaDoor
open Go.RowKit

theorem box_at {w : World} {b j : Nat} {L : List Value} {t : TypeId} {v : Value} (h : w.heap[b]? = some (.cells L.toArray t (0, 0))) (hj : L[j]? = some v) : w.cell? ⟨b, j, none⟩ = some v := by
  simp only [World.cell?]
  rw [h]
  simpa using hj
theorem box_free {w : World} {b : Nat} {L : List Value} {t : TypeId} (h : w.heap[b]? = some (.cells L.toArray t (0, 0))) (j : Nat) : w.frozen? ⟨b, j, none⟩ = false := by
  simp only [World.frozen?]
  rw [h]
  simp
theorem info17 : (Tryd.prog.info? 32).map (·.size) = some 17 := by kernel_rfl
theorem one17 (z : Ax) : (xcells z).toArray.all (·.oneCell') = true := by simp [xcells, Value.oneCell']
set_option maxRecDepth 20000 in
set_option maxHeartbeats 4000000 in
theorem only_any (a : Ax) (s : ByteArray) (w : World) (hasc : ∀ c ∈ txt s, c.toNat < 128) : Calls Tryd.prog 29 #[av a, .string s] w fun e w' => e = .returned (av (onlyL a (txt s))) ∧ Below w.heap.size w w' := by
  have HS : Hid _ := only_start a s w
  have HA : Hid (∀ c ∈ txt s, c.toNat < 128) := hasc
  clear hasc
  go_enter Tryd.func29, Tryd.ntmps29
  go_wp2
  go_loopg [7] s.size (fun g u7 wr => ∃ (pos : Nat) (z : Ax), pos ≤ s.size ∧ g = s.size - pos ∧ Hid (OnlyIn w wr a (xcells z) s pos ∧ z = ((txt s).take pos).foldl (onlyS a) (zA a.kind)))
  case atStart => exact ⟨0, zA a.kind, Nat.zero_le _, rfl, HS.out, rfl⟩
  case round =>
    obtain ⟨pos, z, hpos, rfl, HI⟩ := hrel
    clear HS
    by_cases hlt : pos < s.size
    · have hlt2 : pos < (txt s).length := by rw [txt_length]; exact hlt
      obtain ⟨c, hc⟩ : ∃ z, s[pos]'hlt = z := ⟨_, rfl⟩
      have hget : (txt s)[pos]'hlt2 = c := by rw [← hc]; exact Array.getElem_toList (xs := s.data) hlt
      have hc8 : (s[pos]'hlt).toNat < 128 := by rw [hc, ← hget]; exact HA.out _ (List.getElem_mem hlt2)
      have hnx := fun ty => Lib.run_next_ascii_at (P := Tryd.prog) wr (w.heap.size + 3) s pos ty HI.out.1.it hlt hc8
      obtain ⟨W1, hW1⟩ : ∃ z, wr.iterAt (w.heap.size + 3) s (pos + 1) = z := ⟨_, rfl⟩
      have H1 := HI.out.1.next
      rw [hW1] at H1 hnx
      rw [hc] at hnx
      have HZ : Hid (onlyS a z c = ((txt s).take (pos + 1)).foldl (onlyS a) (zA a.kind)) := by
        show onlyS a z c = _
        rw [List.take_succ_eq_append_getElem hlt2, List.foldl_append, hget, ← HI.out.2]
        rfl
      have x0 : W1.cell? ⟨w.heap.size, 0, none⟩ = some (.int .i64 a.kind) := box_at H1.x rfl
      have x1 : W1.cell? ⟨w.heap.size, 1, none⟩ = some (.string a.name) := box_at H1.x rfl
      have x2 : W1.cell? ⟨w.heap.size, 2, none⟩ = some (.int .i64 a.n) := box_at H1.x rfl
      have x3 : W1.cell? ⟨w.heap.size, 3, none⟩ = some (.int .u64 a.tag) := box_at H1.x rfl
      have x4 : W1.cell? ⟨w.heap.size, 4, none⟩ = some (.int .i64 a.to) := box_at H1.x rfl
      have x5 : W1.cell? ⟨w.heap.size, 5, none⟩ = some (.string a.xn) := box_at H1.x rfl
      have x6 : W1.cell? ⟨w.heap.size, 6, none⟩ = some (.int .i64 a.xk) := box_at H1.x rfl
      have x7 : W1.cell? ⟨w.heap.size, 7, none⟩ = some (.bool a.xf) := box_at H1.x rfl
      have x8 : W1.cell? ⟨w.heap.size, 8, none⟩ = some (.string a.be) := box_at H1.x rfl
      have x9 : W1.cell? ⟨w.heap.size, 9, none⟩ = some (.string a.bq) := box_at H1.x rfl
      have x10 : W1.cell? ⟨w.heap.size, 10, none⟩ = some (.string a.bp) := box_at H1.x rfl
      have x11 : W1.cell? ⟨w.heap.size, 11, none⟩ = some (.int .i64 a.m.origin) := box_at H1.x rfl
      have x12 : W1.cell? ⟨w.heap.size, 12, none⟩ = some (.int .u64 a.m.seq) := box_at H1.x rfl
      have x13 : W1.cell? ⟨w.heap.size, 13, none⟩ = some (.int .i64 a.m.hop) := box_at H1.x rfl
      have x14 : W1.cell? ⟨w.heap.size, 14, none⟩ = some (.string a.m.ex) := box_at H1.x rfl
      have x15 : W1.cell? ⟨w.heap.size, 15, none⟩ = some (.string a.m.key) := box_at H1.x rfl
      have x16 : W1.cell? ⟨w.heap.size, 16, none⟩ = some (.string a.m.body) := box_at H1.x rfl
      have d0 : W1.cell? ⟨w.heap.size + 2, 0, none⟩ = some (.int .i64 z.kind) := box_at H1.n rfl
      have d1 : W1.cell? ⟨w.heap.size + 2, 1, none⟩ = some (.string z.name) := box_at H1.n rfl
      have d2 : W1.cell? ⟨w.heap.size + 2, 2, none⟩ = some (.int .i64 z.n) := box_at H1.n rfl
      have d3 : W1.cell? ⟨w.heap.size + 2, 3, none⟩ = some (.int .u64 z.tag) := box_at H1.n rfl
      have d4 : W1.cell? ⟨w.heap.size + 2, 4, none⟩ = some (.int .i64 z.to) := box_at H1.n rfl
      have d5 : W1.cell? ⟨w.heap.size + 2, 5, none⟩ = some (.string z.xn) := box_at H1.n rfl
      have d6 : W1.cell? ⟨w.heap.size + 2, 6, none⟩ = some (.int .i64 z.xk) := box_at H1.n rfl
      have d7 : W1.cell? ⟨w.heap.size + 2, 7, none⟩ = some (.bool z.xf) := box_at H1.n rfl
      have d8 : W1.cell? ⟨w.heap.size + 2, 8, none⟩ = some (.string z.be) := box_at H1.n rfl
      have d9 : W1.cell? ⟨w.heap.size + 2, 9, none⟩ = some (.string z.bq) := box_at H1.n rfl
      have d10 : W1.cell? ⟨w.heap.size + 2, 10, none⟩ = some (.string z.bp) := box_at H1.n rfl
      have d11 : W1.cell? ⟨w.heap.size + 2, 11, none⟩ = some (.int .i64 z.m.origin) := box_at H1.n rfl
      have d12 : W1.cell? ⟨w.heap.size + 2, 12, none⟩ = some (.int .u64 z.m.seq) := box_at H1.n rfl
      have d13 : W1.cell? ⟨w.heap.size + 2, 13, none⟩ = some (.int .i64 z.m.hop) := box_at H1.n rfl
      have d14 : W1.cell? ⟨w.heap.size + 2, 14, none⟩ = some (.string z.m.ex) := box_at H1.n rfl
      have d15 : W1.cell? ⟨w.heap.size + 2, 15, none⟩ = some (.string z.m.key) := box_at H1.n rfl
      have d16 : W1.cell? ⟨w.heap.size + 2, 16, none⟩ = some (.string z.m.body) := box_at H1.n rfl
      have hfz := fun j => box_free H1.n j
      have HN : Hid (OnlyIn w W1 a (xcells z) s (pos + 1)) := H1
      clear H1 HI hW1 hc hget hc8 hlt2
      by_cases h110 : c = 110
      · subst h110
        go_wp2
        go_roundg (s.size - (pos + 1))
        case measure => omega
        case rel => exact ⟨pos + 1, onlyS a z 110, by omega, rfl, HN.out.set 1 _, HZ.out⟩
      by_cases h100 : c = 100
      · subst h100
        go_wp2
        go_roundg (s.size - (pos + 1))
        case measure => omega
        case rel => exact ⟨pos + 1, onlyS a z 100, by omega, rfl, HN.out.set 2 _, HZ.out⟩
      by_cases h99 : c = 99
      · subst h99
        go_wp2
        go_roundg (s.size - (pos + 1))
        case measure => omega
        case rel => exact ⟨pos + 1, onlyS a z 99, by omega, rfl, HN.out.set 2 _, HZ.out⟩
      by_cases h116 : c = 116
      · subst h116
        go_wp2
        go_roundg (s.size - (pos + 1))
        case measure => omega
        case rel => exact ⟨pos + 1, onlyS a z 116, by omega, rfl, HN.out.set 3 _, HZ.out⟩
      by_cases h115 : c = 115
      · subst h115
        go_wp2
        go_roundg (s.size - (pos + 1))
        case measure => omega
        case rel => exact ⟨pos + 1, onlyS a z 115, by omega, rfl, HN.out.set 4 _, HZ.out⟩
      by_cases h120 : c = 120
      · subst h120
        go_wp2
        go_roundg (s.size - (pos + 1))
        case measure => omega
        case rel => exact ⟨pos + 1, onlyS a z 120, by omega, rfl, ((HN.out.set 5 _).set 6 _).set 7 _, HZ.out⟩
      by_cases h98 : c = 98
      · subst h98
        go_wp2
        go_roundg (s.size - (pos + 1))
        case measure => omega
        case rel => exact ⟨pos + 1, onlyS a z 98, by omega, rfl, ((HN.out.set 8 _).set 9 _).set 10 _, HZ.out⟩
      by_cases h109 : c = 109
      · subst h109
        go_wp2
        go_roundg (s.size - (pos + 1))
        case measure => omega
        case rel => exact ⟨pos + 1, onlyS a z 109, by omega, rfl, (((((HN.out.set 11 _).set 12 _).set 13 _).set 14 _).set 15 _).set 16 _, HZ.out⟩
      have e110 : ((c.toNat : Int) == 110) = false := by rw [beq_eq_false_iff_ne]; intro h; exact h110 (UInt8.toNat_inj.1 (by show c.toNat = 110; omega))
      have e100 : ((c.toNat : Int) == 100) = false := by rw [beq_eq_false_iff_ne]; intro h; exact h100 (UInt8.toNat_inj.1 (by show c.toNat = 100; omega))
      have e99 : ((c.toNat : Int) == 99) = false := by rw [beq_eq_false_iff_ne]; intro h; exact h99 (UInt8.toNat_inj.1 (by show c.toNat = 99; omega))
      have e116 : ((c.toNat : Int) == 116) = false := by rw [beq_eq_false_iff_ne]; intro h; exact h116 (UInt8.toNat_inj.1 (by show c.toNat = 116; omega))
      have e115 : ((c.toNat : Int) == 115) = false := by rw [beq_eq_false_iff_ne]; intro h; exact h115 (UInt8.toNat_inj.1 (by show c.toNat = 115; omega))
      have e120 : ((c.toNat : Int) == 120) = false := by rw [beq_eq_false_iff_ne]; intro h; exact h120 (UInt8.toNat_inj.1 (by show c.toNat = 120; omega))
      have e98 : ((c.toNat : Int) == 98) = false := by rw [beq_eq_false_iff_ne]; intro h; exact h98 (UInt8.toNat_inj.1 (by show c.toNat = 98; omega))
      have e109 : ((c.toNat : Int) == 109) = false := by rw [beq_eq_false_iff_ne]; intro h; exact h109 (UInt8.toNat_inj.1 (by show c.toNat = 109; omega))
      have hz : onlyS a z c = z := by
        unfold onlyS
        rw [if_neg h110, if_neg (by simp [h100, h99]), if_neg h116, if_neg h115, if_neg h120, if_neg h98, if_neg h109]
      have HZ2 : Hid (z = ((txt s).take (pos + 1)).foldl (onlyS a) (zA a.kind)) := by have := HZ.out; rw [hz] at this; exact this
      clear hz
      go_wp2
      go_roundg (s.size - (pos + 1))
      case measure => omega
      case rel => exact ⟨pos + 1, z, by omega, rfl, HN.out, HZ2.out⟩
    · have hnx := fun ty => Lib.run_next_end_at (P := Tryd.prog) wr (w.heap.size + 3) s pos ty HI.out.1.it hlt
      have hze : z = onlyL a (txt s) := by
        have h1 := HI.out.2
        rw [List.take_of_length_le (by rw [txt_length]; omega)] at h1
        exact h1
      have HZ : Hid (z = onlyL a (txt s)) := hze
      have HN : Hid (OnlyIn w wr a (xcells z) s pos) := HI.out.1
      clear hze HI
      go_wp2_with (first | refine wpList_load_row rfl 32 _ rfl (w.heap.size + 2) rfl 32 (xcells z).toArray (0, 0) _ HN.out.n Tryd.underlying32 rfl info17 ?_ | refine wpList_store_row rfl 32 _ _ rfl (w.heap.size + 1) (xcells z).toArray rfl rfl 32 (xcells (zA 0)).toArray HN.out.r info17 rfl (one17 z) ?_)
      refine bodyPost_ret (results_cell_row rfl _ _ (w.heap.size + 1) 32 (xcells z).toArray (0, 0) _ rfl (setRow_heap _ _ _ _ _ _ HN.out.r) Tryd.underlying32 rfl info17) rfl ⟨?_, below_setRow HN.out.bel (by omega) _⟩
      rw [← HZ.out]
      rfl
end Go.Proofs.YteimdolckhpndaaDoor
