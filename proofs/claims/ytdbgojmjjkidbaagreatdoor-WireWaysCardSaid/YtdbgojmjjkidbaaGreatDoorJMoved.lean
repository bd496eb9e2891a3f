/-
  WHAT HAS CHANGED where a thing of one's own was changed. Of no program.
-/
import Derived.Test.YtdbgojmjjkidbaaGreatDoorJBytes
import Derived.Deep.QuietTactic
namespace Go.Proofs.YtdbgojmjjkidbaaGreatDoor
open Go.RowKit

/-- Of what was there nothing but the blocks F has changed; F' are of them, or new. -/
structure Moved (w w' : World) (F F' : Nat → Prop) : Prop where
  os : w'.os = w.os
  tape : w'.tape = w.tape
  output : w'.output = w.output
  size : w.heap.size ≤ w'.heap.size
  block : ∀ k, k < w.heap.size → ¬ F k → w'.heap[k]? = w.heap[k]?
  sub : ∀ k, F' k → F k ∨ w.heap.size ≤ k
theorem Moved.refl (w : World) (F : Nat → Prop) : Moved w w F F := ⟨rfl, rfl, rfl, Nat.le_refl _, fun _ _ _ => rfl, fun _ h => .inl h⟩
theorem Moved.trans {a b c : World} {F G H : Nat → Prop} (h : Moved a b F G) (k : Moved b c G H) : Moved a c F H := by
  refine ⟨k.os.trans h.os, k.tape.trans h.tape, k.output.trans h.output, Nat.le_trans h.size k.size, fun i hi hn => ?_, fun i hi => ?_⟩
  · have h1 : ¬ G i := fun hg => (h.sub i hg).elim hn (by omega)
    exact (k.block i (Nat.lt_of_lt_of_le hi h.size) h1).trans (h.block i hi hn)
  · rcases k.sub i hi with hg | hg
    · exact h.sub i hg
    · exact .inr (Nat.le_trans h.size hg)
theorem Moved.of_below {w w' : World} {F : Nat → Prop} (h : Below w.heap.size w w') : Moved w w' F F := ⟨h.os, h.tape, h.output, h.size, fun k hk _ => h.block k hk, fun _ h => .inl h⟩
theorem Moved.weak {w w' : World} {F F' G : Nat → Prop} (h : Moved w w' F F') (hs : ∀ k, F k → G k) : Moved w w' G F' :=
  ⟨h.os, h.tape, h.output, h.size, fun k hk hn => h.block k hk (fun hf => hn (hs k hf)), fun k hk => (h.sub k hk).imp (hs k) id⟩
/-- What lies below base stays, where all that changes lies from base on. -/
theorem Moved.below {w0 w w' : World} {F F' : Nat → Prop} {base : Nat} (h : Moved w w' F F') (hF : ∀ k, F k → base ≤ k) (h0 : Below base w0 w) (hb : base ≤ w.heap.size) : Below base w0 w' :=
  h0.trans ⟨h.os, h.tape, h.output, h.size, fun k hk => h.block k (by omega) (fun hf => by have := hF k hf; omega)⟩
theorem Moved.from {w w' : World} {F F' : Nat → Prop} {base : Nat} (h : Moved w w' F F') (hF : ∀ k, F k → base ≤ k) (hb : base ≤ w.heap.size) : ∀ k, F' k → base ≤ k := fun k hk => (h.sub k hk).elim (hF k) (fun h => by omega)
theorem Moved.apart {w w' : World} {F F' G : Nat → Prop} (h : Moved w w' F F') (hG : ∀ k, G k → k < w.heap.size) (ha : ∀ k, F k → ¬ G k) : ∀ k, F' k → ¬ G k := fun k hk hg => (h.sub k hk).elim (fun hf => ha k hf hg) (fun h => by have := hG k hg; omega)

end Go.Proofs.YtdbgojmjjkidbaaGreatDoor
