import Derived.RowKit
namespace Go.Proofs.YtnhnpnafchkhiaaGreatDoor
theorem yyA {α : Type} (l : List α) (i : Nat) (a : α) : l.toArray.setIfInBounds i a = (l.set i a).toArray := List.setIfInBounds_toArray ..
theorem yyB {α : Type} {x a : α} {l : List α} : (x :: l).set 0 a = a :: l := rfl
theorem yyC {α : Type} {x a : α} {l : List α} {n : Nat} : (x :: l).set (n + 1) a = x :: l.set n a := rfl
theorem yyD {α : Type} {a : Array α} {i : Nat} {b : α} (h : a[i]? = some b) : ∃ h : i < a.size,a[i] = b := Array.getElem?_eq_some_iff.1 h
theorem yyE {α : Type} {a : α} {l : List α} : (a :: l)[0]? = some a := rfl
theorem yyF {α : Type} {a : α} {l : List α} {i : Nat} : (a :: l)[i + 1]? = l[i]? := rfl
theorem yyG {α : Type} {l : List α} {i : Nat} : l.toArray[i]? = l[i]? := List.getElem?_toArray
theorem yyH (n : Nat) : n ≤ n := Nat.le_refl n
end Go.Proofs.YtnhnpnafchkhiaaGreatDoor
