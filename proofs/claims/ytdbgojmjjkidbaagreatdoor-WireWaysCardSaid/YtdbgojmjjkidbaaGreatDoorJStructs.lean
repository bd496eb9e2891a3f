/-
  A SLICE OF STRUCTS THAT CAME IN, read element by element. Of no program but for its types.
-/
import Derived.Test.YtdbgojmjjkidbaaGreatDoorJGMap
import Derived.WalkKit
import Derived.ProofKit
import Derived.OpenShut
import Derived.ChangeOld
import Derived.SizedLaws
import Derived.DataReads
import Derived.DataElems
namespace Go.Proofs.YtdbgojmjjkidbaaGreatDoor.K
open Go.ChangeShapes Go.WideShapes Go.ChangeAt Go.RowKit

theorem weightsAll_mem {H : Type} {P : Program} {e : TypeId} : ∀ {ds : List (DataW H)} {d : DataW H}, d ∈ ds → ∀ n ∈ d.weights P e, n ∈ DataW.weightsAll P e ds
  | d0 :: ds, d, hd, n, hn => by
    simp only [DataW.weightsAll, List.mem_append]
    rcases List.mem_cons.1 hd with rfl | h
    · exact Or.inl hn
    · exact Or.inr (weightsAll_mem h n hn)

/-- The elements are what 'hel' reads them as. -/
theorem open_structs {α : Type} {enc : α → List Value} {K : Nat} [E : Enc enc K] {H : Type} {en : TypeId × Value → H} {P : Program} {W : World} {S e : TypeId} (hS : P.underlying S = some (.slice e)) (hK : P.cellsOf e = K) (Fit : α → Prop)
    (hel : ∀ n cs (x : DataW H × List MemPlace), DataW.trod en P W 0 (fun _ => true) true n e cs = some x → (∀ m ∈ x.1.weights P e, m ≤ reachBytes) → ∃ a : α, cs = enc a ∧ Fit a)
    {base : Nat} {v : Value} {d : DataW H} {p : List MemPlace} (hval : Value.okWide P W .any base S v)
    (h : DataW.Trod en P W 0 (fun _ => true) true S v d p) (hw : ∀ n ∈ d.weights P S, n ≤ reachBytes) : ∃ l, RowOf enc W v l ∧ ∀ a ∈ l, Fit a := by
  obtain ⟨a, len, cap, rfl⟩ := okWide_slice hS hval
  obtain ⟨fuel, hf⟩ := h
  rcases DataW.trod_slice hS hf with ⟨hcs, _⟩ | ⟨x, l, c, elems, rest, n, _, hcs, hd, _, hl, hm, hlen, hone, _, _⟩
  · simp [Value.cells] at hcs
    obtain ⟨rfl, rfl, rfl⟩ := hcs
    exact ⟨[], .inl ⟨rfl, rfl⟩, fun a h => by cases h⟩
  · simp [Value.cells] at hcs
    obtain ⟨rfl, rfl, rfl⟩ := hcs
    have hdv : d = .slice (elems.map (·.1)) (rest.map (·.1)) := congrArg Prod.fst hd
    have hin : ∀ m ∈ DataW.weightsAll P e (elems.map (·.1)), m ≤ reachBytes := fun m hm' => hw m (by
      rw [hdv]
      simp only [DataW.weights, hS]
      exact List.mem_cons_of_mem _ (List.mem_append_left _ hm'))
    have each : ∀ i : Fin len, ∃ b : α, (∀ j, j < K → W.cell? (x.add (i.1 * K + j)) = (enc b)[j]?) ∧ Fit b := fun i => by
      have h1 := hone i.1 i.2
      have hi' : i.1 < elems.length := by omega
      rw [hK, List.getElem?_eq_getElem hi'] at h1
      cases hc : W.cells? 0 (x.add (i.1 * K)) K with
      | none => rw [hc] at h1; cases h1
      | some cs =>
        rw [hc] at h1
        have h2 : DataW.trod en P W 0 (fun _ => true) true n e cs = some elems[i.1] := h1
        obtain ⟨b, rfl, hb⟩ := hel _ _ _ h2 (fun m hm' => hin m (weightsAll_mem (List.mem_map.2 ⟨elems[i.1], List.getElem_mem hi', rfl⟩) m hm'))
        refine ⟨b, fun j hj => ?_, hb⟩
        rw [← Addr.add_add]
        exact (World.cells?_some hc).2.2 j hj
    obtain ⟨f, hff⟩ := Classical.axiomOfChoice each
    have hlf : (List.ofFn f).length = len := by simp
    refine ⟨List.ofFn f, .inr ⟨x, cap, by rw [hlf], by rw [hlf]; omega, hm, fun j u hj => ?_⟩, fun b hb => ?_⟩
    · have hjl : j < (List.ofFn f).length * K := by rw [← cellsOf_length (enc := enc)]; exact (List.getElem?_eq_some_iff.1 hj).1
      have hp := E.pos
      have h1 : j / K < (List.ofFn f).length := Nat.div_lt_of_lt_mul (by rw [Nat.mul_comm]; exact hjl)
      have h2 : j % K < K := Nat.mod_lt _ hp
      have h3 : j / K * K + j % K = j := by rw [Nat.mul_comm]; exact Nat.div_add_mod j K
      have hg := cellsOf_get (enc := enc) (List.ofFn f) (j / K) (j % K) h1 h2
      rw [h3, hj] at hg
      rw [hlf] at h1
      have := (hff ⟨j / K, h1⟩).1 (j % K) h2
      simp only at this
      rw [h3] at this
      rw [this, hg]
      simp
    · obtain ⟨i, rfl⟩ := List.mem_ofFn.1 hb
      exact (hff i).2
end Go.Proofs.YtdbgojmjjkidbaaGreatDoor.K
