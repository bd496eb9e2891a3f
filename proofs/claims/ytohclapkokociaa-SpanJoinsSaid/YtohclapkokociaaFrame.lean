/-
  WHAT ALL ROWS OF THIS SEAT NEED: a slice of numbers, a slice of ranges that came in; how long each can be.
-/
import Derived.Test.YtohclapkokociaaRows
import Derived.Test.YtohclapkokociaaLawAdds
import Derived.WalkKit
import Derived.ProofKit
import Derived.OpenShut
import Derived.ChangeOld
import Derived.SizedLaws
import Derived.Deep.DeepHandedRow
import Derived.Deep.SlicePairs
import Derived.Lib.LaidTab
namespace Go.Proofs.Ytohclapkokociaa
open Go.ChangeShapes Go.WideShapes Go.ChangeAt Go.RowKit

theorem own : ownKnob Try.prog.godebug = none := by kernel_rfl
theorem laidOut : laidOutB Try.prog = true := by kernel_rfl
theorem bytesU64 : Try.prog.bytesOf 23 = 8 := by kernel_rfl

/-- A slice of numbers that came in. -/
theorem open_nums {H : Type} {enc : TypeId × Value → H} {W : World} {base : Nat} {v : Value} {d : DataW H} {p : List MemPlace} (hval : Value.okWide Try.prog W .any base 22 v)
    (h : DataW.Trod enc Try.prog W 0 (fun _ => true) true 22 v d p) (hw : ∀ n ∈ d.weights Try.prog 22, n ≤ reachBytes) : ∃ l, Nums W v l ∧ (∀ n ∈ l, n < 18446744073709551616) ∧ l.length ≤ 17592186043904 := by
  obtain ⟨a, len, cap, rfl⟩ := okWide_slice Try.underlying22 hval
  obtain ⟨fuel, hf⟩ := h
  rcases open_ints Try.underlying22 Try.underlying23 (by kernel_rfl) hf with ⟨hcs, _⟩ | ⟨x, l, c, zs, hcs, _, hl, hm, hz, hx, hcell, hwz⟩
  · simp [Value.cells] at hcs
    obtain ⟨rfl, rfl, rfl⟩ := hcs
    exact ⟨[], .inl ⟨rfl, rfl⟩, (fun n h => by cases h), by simp⟩
  · simp [Value.cells] at hcs
    obtain ⟨rfl, rfl, rfl⟩ := hcs
    have hzl : zs.length = cap := by simpa using hz
    have hdv : d = .slice (lits .u64 (zs.take len)) (lits .u64 (zs.drop len)) := congrArg Prod.fst hx
    have hlen : ((zs.take len).map Int.toNat).length = len := by simp; omega
    refine ⟨(zs.take len).map Int.toNat, .inr ⟨x, cap, by rw [hlen], by omega, hm, fun i hi => ?_⟩, fun n hn => ?_, ?_⟩
    · rw [hlen] at hi
      have hjz : i < zs.length := by omega
      have hb := bounds_u64 (hwz zs[i] (List.getElem_mem hjz))
      rw [hcell i hjz]
      simp [List.getD, hjz]
      omega
    · obtain ⟨z, hz1, rfl⟩ := List.mem_map.1 hn
      have hb := bounds_u64 (hwz z (List.mem_of_mem_take hz1))
      omega
    · have h1 := hw (((lits (H := H) .u64 (zs.take len)).length + (lits (H := H) .u64 (zs.drop len)).length) * Try.prog.bytesOf 23) (by
        rw [hdv]
        simp only [DataW.weights, Try.underlying22]
        exact List.mem_cons_self)
      rw [hlen]
      rw [bytesU64] at h1
      simp [lits, reachBytes] at h1
      omega
end Go.Proofs.Ytohclapkokociaa
