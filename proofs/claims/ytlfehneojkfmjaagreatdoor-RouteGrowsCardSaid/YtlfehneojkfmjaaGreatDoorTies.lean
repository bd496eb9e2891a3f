/-
  TIES in memory; light, by its contract.
-/
import Derived.Test.YtlfehneojkfmjaaGreatDoorRTable
namespace Go.Proofs.YtlfehneojkfmjaaGreatDoor
open Go.RowKit Go.Sort

/-- An exchange with a binding. -/
structure Ti where
  x : Ex
  b : Bd
def tcells (a : Ti) : List Value := [.string a.x.name, .int .i64 a.x.kind, .bool a.x.fed, .string a.b.ex, .string a.b.que, .string a.b.pat]
abbrev tiv (a : Ti) : Value := .agg #[.string a.x.name, .int .i64 a.x.kind, .bool a.x.fed, .string a.b.ex, .string a.b.que, .string a.b.pat]
instance : Enc tcells 6 := ⟨fun _ => rfl, fun m u hu => by simp [tcells] at hu; rcases hu with rfl | rfl | rfl | rfl | rfl | rfl <;> rfl, by decide⟩
/-- A tie's six cells lie there. -/
structure TiAt (w : World) (b off : Nat) (x : Ti) : Prop where
  c0 : w.cell? ⟨b, off, none⟩ = some (.string x.x.name)
  c1 : w.cell? ⟨b, off + 1, none⟩ = some (.int .i64 x.x.kind)
  c2 : w.cell? ⟨b, off + 2, none⟩ = some (.bool x.x.fed)
  c3 : w.cell? ⟨b, off + 3, none⟩ = some (.string x.b.ex)
  c4 : w.cell? ⟨b, off + 4, none⟩ = some (.string x.b.que)
  c5 : w.cell? ⟨b, off + 5, none⟩ = some (.string x.b.pat)
theorem TiAt.below {w w' : World} {B b off : Nat} {x : Ti} (h : TiAt w b off x) (hb : Below B w w') (hB : w.heap.size ≤ B) : TiAt w' b off x := by
  have hl' : b < B := Nat.lt_of_lt_of_le (World.block_lt_of_cell? _ _ h.c0) hB
  exact ⟨(hb.cell (p := ⟨b, off, none⟩) hl').trans h.c0, (hb.cell (p := ⟨b, off + 1, none⟩) hl').trans h.c1, (hb.cell (p := ⟨b, off + 2, none⟩) hl').trans h.c2, (hb.cell (p := ⟨b, off + 3, none⟩) hl').trans h.c3, (hb.cell (p := ⟨b, off + 4, none⟩) hl').trans h.c4, (hb.cell (p := ⟨b, off + 5, none⟩) hl').trans h.c5⟩
theorem RowOf.ties {w : World} {a : Option Addr} {n cap : Nat} {l : List Ti} (h : RowOf tcells w (.slice a n cap) l) : ∀ i (hi : i < l.length), ∃ b off, a = some ⟨b, off, none⟩ ∧ TiAt w b (off + i * 6) l[i] := fun i hi => by
  obtain ⟨b, off, cap', hv, _, _, hc⟩ := h.at (by omega)
  injection hv with hv1 _ _
  exact ⟨b, off, hv1, ⟨by simpa using row_cell hc i hi 0 (by decide) _ rfl, row_cell hc i hi 1 (by decide) _ rfl, row_cell hc i hi 2 (by decide) _ rfl, row_cell hc i hi 3 (by decide) _ rfl, row_cell hc i hi 4 (by decide) _ rfl, row_cell hc i hi 5 (by decide) _ rfl⟩⟩
/-- The texts are not longer than memory is. -/
def Ti.Fits (a : Ti) : Prop := a.x.name.size ≤ 140737488355328 ∧ a.b.ex.size ≤ 140737488355328 ∧ a.b.que.size ≤ 140737488355328 ∧ a.b.pat.size ≤ 140737488355328
theorem Ti.Fits.name {a : Ti} (h : a.Fits) : a.x.name.size ≤ maxLen := by have := h.1; unfold maxLen; omega
theorem Ti.Fits.fit {a : Ti} (h : a.Fits) : a.b.Fit := by obtain ⟨_, h1, h2, h3⟩ := h; unfold Bd.Fit maxLen; omega

/-- What a tie weighs. -/
def wtT (a : Ti) : Nat := 1 + (a.x.name.size + a.b.ex.size + a.b.que.size + a.b.pat.size) / 100
/-- Are they light? -/
def lightF : Nat → List Ti → Bool
  | _, [] => true
  | n, a :: r => if 100 < n + wtT a then false else lightF (n + wtT a) r
theorem lightF_len : ∀ {l : List Ti} {n : Nat}, n ≤ 100 → lightF n l = true → n + l.length ≤ 100
  | [], n, hn, _ => by simpa using hn
  | a :: r, n, hn, h => by
    unfold lightF at h
    split at h
    · cases h
    · rename_i hh
      have := lightF_len (l := r) (n := n + wtT a) (by omega) h
      have hw : 1 ≤ wtT a := by unfold wtT; omega
      rw [List.length_cons]
      omega

set_option maxRecDepth 20000 in
set_option maxHeartbeats 1000000 in
theorem light_fun (v : Value) (l : List Ti) (w : World) (hr : RowOf tcells w v l) (hf : ∀ a ∈ l, a.Fits) :
    Calls Tryz.prog 6 #[v] w fun e w' => e = .returned (.bool (lightF 0 l)) ∧ Below w.heap.size w w' := by
  obtain ⟨a, cap, rfl⟩ := hr.slice
  obtain ⟨_, hl⟩ := row_num hr
  have hA := hr.ties
  have l63 : l.length ≤ 9223372036854775807 := by unfold maxLen at hl; omega
  clear hr hl
  go_enter Tryz.func6, Tryz.ntmps6
  go_wp2
  go_loopw [3, 5, 8] (fun u3 u5 u8 wr => ∃ k n : Nat, u8 = .int .i64 k ∧ k ≤ l.length ∧ u3 = .int .i64 n ∧ n ≤ 100 ∧ lightF 0 l = lightF n (l.drop k) ∧ Below w.heap.size w wr) (fun u3 u5 u8 wr => l.length - (intOf u8).toNat)
  case atStart => exact ⟨0, 0, rfl, Nat.zero_le _, rfl, Nat.zero_le _, by rw [List.drop_zero], Below.refl _ _⟩
  case round =>
    obtain ⟨k, n, rfl, hk, rfl, hn, hlf, hb⟩ := hrel
    by_cases hlt2 : k < l.length
    · have hlt : (k : Int) < (l.length : Int) := by omega
      obtain ⟨b, off, rfl, hi⟩ := hA k hlt2
      obtain ⟨e0, e1, e2, e3, e4, e5⟩ := hi.below hb (Nat.le_refl _)
      have hfk := hf _ (List.getElem_mem hlt2)
      rw [List.drop_eq_getElem_cons hlt2, lightF] at hlf
      clear hA hi
      generalize l[k] = x at *
      have hwt : wtT x = 1 + (x.x.name.size + x.b.ex.size + x.b.que.size + x.b.pat.size) / 100 := rfl
      obtain ⟨s1, s2, s3, s4⟩ := hfk
      generalize hs : x.x.name.size = p1 at *
      generalize hs2 : x.b.ex.size = p2 at *
      generalize hs3 : x.b.que.size = p3 at *
      generalize hs4 : x.b.pat.size = p4 at *
      have w1 : IntKind.i64.wrap ((p1 : Int) + (p2 : Int)) = (p1 : Int) + (p2 : Int) := by rw [IntKind.wrap_i64]; omega
      have w2 : IntKind.i64.wrap ((p1 : Int) + (p2 : Int) + (p3 : Int)) = (p1 : Int) + (p2 : Int) + (p3 : Int) := by rw [IntKind.wrap_i64]; omega
      have w3 : IntKind.i64.wrap ((p1 : Int) + (p2 : Int) + (p3 : Int) + (p4 : Int)) = (p1 : Int) + (p2 : Int) + (p3 : Int) + (p4 : Int) := by rw [IntKind.wrap_i64]; omega
      have HLF : Hid _ := hlf
      have HWT : Hid _ := hwt
      clear hlf hwt
      go_wp2
      · rename_i hgt
        go_ret
        refine ⟨?_, hb.alloc hb.size _⟩
        rw [HLF.out, if_pos (by have := HWT.out; omega)]
        rfl
      · rename_i hle
        have hno : ¬ 100 < n + wtT x := by have := HWT.out; omega
        refine ⟨⟨k + 1, n + wtT x, by go_num, by omega, by congr 1; have := HWT.out; omega, by omega, by rw [HLF.out, if_neg hno], hb.alloc hb.size _⟩, by simp [intOf]; omega⟩
    · obtain rfl : k = l.length := by omega
      rw [List.drop_length] at hlf
      have HLF : Hid _ := hlf
      clear hlf hA
      go_wp2
      go_ret
      exact ⟨by rw [HLF.out]; rfl, hb⟩
theorem light_any (v : Value) (l : List Ti) (w : World) (hr : RowOf tcells w v l) (hf : ∀ a ∈ l, a.Fits) :
    Calls Tryz.prog 6 #[v] w fun e w' => ∃ r, e = .returned (.bool r) ∧ (r = true → l.length ≤ 100) ∧ Below w.heap.size w w' := by
  refine (light_fun v l w hr hf).mono ?_
  rintro e w' ⟨rfl, hb⟩
  exact ⟨_, rfl, fun h => by have := lightF_len (Nat.zero_le 100) h; omega, hb⟩
end Go.Proofs.YtlfehneojkfmjaaGreatDoor
