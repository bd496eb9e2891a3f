import Derived.Test.YtnhnpnafchkhiaaGreatDoorQwA
import Derived.Test.YtnhnpnafchkhiaaGreatDoorQw0
import Derived.Sort.Grow
import Derived.Shelf.SlSortCmp.QuietGrown
import Derived.BigQuiet
namespace Go.Proofs.YtnhnpnafchkhiaaGreatDoor.K
end Go.Proofs.YtnhnpnafchkhiaaGreatDoor.K
namespace Go.Proofs.YtnhnpnafchkhiaaGreatDoor.O
open Go.Proofs.YtnhnpnafchkhiaaGreatDoor.K
def sites (S : Int) : List Int := (List.range S.toNat).map fun i : Nat => (i : Int) + 1
theorem mem_sites {S n : Int} : n ∈ sites S ↔ 1 <= n /\ n <= S := by
 simp only [sites,List.mem_map,List.mem_range]
 constructor
 ·rintro ⟨i,hi,rfl⟩; omega
 ·rintro ⟨h1,h2⟩; exact ⟨(n - 1).toNat,by omega,by omega⟩
theorem sites_lt (S : Int) : (sites S).Pairwise (· < ·) := by
 unfold sites
 rw [List.pairwise_map]
 exact List.Pairwise.imp (fun h => by omega) List.pairwise_lt_range
theorem nodup_of_lt {l : List Int} (h : l.Pairwise (· < ·)) : l.Nodup := h.imp fun h => by omega
def EdgeOk (S : Int) (e : Int × Int) : Prop := (1 <= e.1 /\ e.1 <= S) /\ (1 <= e.2 /\ e.2 <= S) /\ e.1 ≠ e.2
instance (S : Int) (e : Int × Int) : Decidable (EdgeOk S e) := by unfold EdgeOk; infer_instance
def GoodT (S : Int) (E : List (Int × Int)) (H : Int) : Prop := (1 <= S /\ S <= 8 /\ 0 <= H /\ H <= 8) /\ (∀ e ∈ E,EdgeOk S e) /\ E.Nodup
instance (S : Int) (E : List (Int × Int)) (H : Int) : Decidable (GoodT S E H) := by unfold GoodT; infer_instance
def goodB (S : Int) (E : List (Int × Int)) (H : Int) : Bool := decide (GoodT S E H)
theorem goodB_true {S : Int} {E : List (Int × Int)} {H : Int} (h : GoodT S E H) : goodB S E H = true := decide_eq_true h
theorem goodB_false {S : Int} {E : List (Int × Int)} {H : Int} (h : ¬ GoodT S E H) : goodB S E H = false := decide_eq_false h
theorem nodup_le {α : Type} [DecidableEq α] : ∀ {l m : List α},l.Nodup -> (∀ x ∈ l,x ∈ m) -> l.length <= m.length
 |[],_,_,_ => Nat.zero_le _
 |x :: l,m,hn,hs => by
  obtain ⟨hx,hl⟩ := List.nodup_cons.1 hn
  have hm : x ∈ m := hs x (by simp)
  have := nodup_le (l := l) (m := m.erase x) hl fun y hy => by
   refine (List.mem_erase_of_ne ?_).2 (hs y (by simp [hy]))
   rintro rfl; exact hx hy
  rw [List.length_erase_of_mem hm] at this
  have := List.length_pos_of_mem hm
  simp only [List.length_cons]; omega
theorem GoodT.few {S : Int} {E : List (Int × Int)} {H : Int} (h : GoodT S E H) : E.length <= 64 := by
 have hm : ∀ e ∈ E,e ∈ (sites 8).flatMap fun a => (sites 8).map fun b => (a,b) := by
  rintro ⟨a,b⟩ he
  have hok := h.2.1 _ he
  have := h.1
  simp only [EdgeOk] at hok
  simp only [List.mem_flatMap,List.mem_map,mem_sites]
  exact ⟨a,by omega,b,by omega,rfl⟩
 exact Nat.le_trans (nodup_le h.2.2 hm) (by decide)
def R (E : List (Int × Int)) (a : Int) : Nat -> Int -> Bool
 |0,x => x == a
 |n + 1,x => R E a n x || E.any fun e => R E a n e.1 && e.2 == x
theorem R_succ {E : List (Int × Int)} {a : Int} {n : Nat} {x : Int} : R E a (n + 1) x = true ↔ R E a n x = true \/ ∃ e ∈ E,R E a n e.1 = true /\ e.2 = x := by
 simp only [R,Bool.or_eq_true,List.any_eq_true,Bool.and_eq_true,beq_iff_eq]
theorem R_mono {E : List (Int × Int)} {a x : Int} {n m : Nat} (h : n <= m) (hr : R E a n x = true) : R E a m x = true := by
  induction m with
  | zero => obtain rfl : n = 0 := by omega
            exact hr
  | succ m ih =>
    by_cases hn : n = m + 1
    · subst hn; exact hr
    · exact R_succ.2 (.inl (ih (by omega)))
theorem R_site {S : Int} {E : List (Int × Int)} {a : Int} (hE : ∀ e ∈ E,EdgeOk S e) (ha : 1 <= a /\ a <= S) : ∀ (n : Nat) (x : Int),R E a n x = true -> 1 <= x /\ x <= S
 |0,x,h => by simp only [R,beq_iff_eq] at h; subst h; exact ha
 |n + 1,x,h => by
  rcases R_succ.1 h with h | ⟨e,he,_,rfl⟩
  ·exact R_site hE ha n x h
  ·exact (hE e he).2.1
theorem R_stay {E : List (Int × Int)} {a : Int} {n : Nat} (h : ∀ x,R E a (n + 1) x = true -> R E a n x = true) : ∀ k x,R E a (n + k) x = true -> R E a n x = true
 |0,_,hx => hx
 |k + 1,x,hx => by
  rcases R_succ.1 (show R E a (n + k + 1) x = true from hx) with h' | ⟨e,he,h1,rfl⟩
  ·exact R_stay h k x h'
  ·exact h _ (R_succ.2 (.inr ⟨e,he,R_stay h k _ h1,rfl⟩))
theorem countP_lt {p q : Int -> Bool} : ∀ {l : List Int} {x : Int},(∀ y,p y = true -> q y = true) -> x ∈ l -> q x = true -> p x = false -> l.countP p < l.countP q
 |y :: l,x,hpq,hx,hq,hp => by
  rw [List.countP_cons,List.countP_cons]
  have hle : l.countP p <= l.countP q := List.countP_mono_left fun z _ => hpq z
  rcases List.mem_cons.1 hx with rfl | hx
  ·rw [hq,hp]; simp; omega
  ·have := countP_lt hpq hx hq hp
   have : (if p y = true then 1 else 0) <= (if q y = true then 1 else 0) := by
    by_cases h : p y = true
    ·rw [if_pos h,if_pos (hpq y h)]; exact yyH _
    ·rw [if_neg h]; exact Nat.zero_le _
   omega
theorem R_all {S : Int} {E : List (Int × Int)} {a : Int} (hE : ∀ e ∈ E,EdgeOk S e) (ha : 1 <= a /\ a <= S) (n : Nat) (x : Int) (h : R E a n x = true) : R E a (S.toNat - 1) x = true := by
 by_cases hst : ∃ k,k < S.toNat /\ ∀ x,R E a (k + 1) x = true -> R E a k x = true
 ·obtain ⟨k,hk,hs⟩ := hst
  have : R E a k x = true := R_stay hs n x (R_mono (by omega) h)
  exact R_mono (by omega) this
 ·exfalso
  have hgrow : ∀ k,k <= S.toNat -> k + 1 <= (sites S).countP (R E a k) := by
   intro k
   induction k with
   |zero =>
    intro _
    exact List.countP_pos_iff.2 ⟨a,mem_sites.2 ha,by simp [R]⟩
   |succ k ih =>
    intro hk
    have h1 := ih (by omega)
    obtain ⟨x,hx1,hx2⟩ : ∃ x,R E a (k + 1) x = true /\ R E a k x = false := by
     apply Classical.byContradiction
     intro hn
     apply hst
     refine ⟨k,by omega,fun x hx => ?_⟩
     cases hr : R E a k x
     ·exact absurd ⟨x,hx,hr⟩ hn
     ·rfl
    have := countP_lt (p := R E a k) (q := R E a (k + 1)) (l := sites S) (fun y hy => R_mono (by omega) hy) (mem_sites.2 (R_site hE ha _ _ hx1)) hx1 hx2
    omega
  have h1 := hgrow S.toNat (yyH _)
  have h2 : (sites S).countP (R E a S.toNat) <= (sites S).length := List.countP_le_length
  simp [sites] at h1 h2
  omega
def first (p : Nat -> Bool) : Nat -> Nat -> Int
 |_,0 => -1
 |n,k + 1 => if p n then (n : Int) else first p (n + 1) k
theorem first_none {p : Nat -> Bool} : ∀ {n k : Nat},(∀ m,n <= m -> m < n + k -> p m = false) -> first p n k = -1
 |_,0,_ => rfl
 |n,k + 1,h => by
  rw [first,if_neg (by rw [h n (yyH _) (by omega)]; simp)]
  exact first_none fun m h1 h2 => h m (by omega) (by omega)
theorem first_some {p : Nat -> Bool} : ∀ {n k m : Nat},n <= m -> m < n + k -> p m = true -> (∀ j,n <= j -> j < m -> p j = false) -> first p n k = m
 |n,0,m,h1,h2,_,_ => by omega
 |n,k + 1,m,h1,h2,hp,ha => by
  rw [first]
  by_cases hn : n = m
  ·subst hn; rw [if_pos hp]
  ·rw [if_neg (by rw [ha n (yyH _) (by omega)]; simp)]
   exact first_some (by omega) (by omega) hp fun j h1 h2 => ha j (by omega) h2
theorem first_cases (p : Nat -> Bool) (k : Nat) : (first p 0 k = -1 /\ ∀ m,m < k -> p m = false) \/ ∃ m,m < k /\ first p 0 k = (m : Int) /\ p m = true /\ ∀ j,j < m -> p j = false := by
 by_cases h : ∃ m,m < k /\ p m = true
 ·right
  have key : ∀ m,m < k -> p m = true -> ∃ m,m < k /\ p m = true /\ ∀ j,j < m -> p j = false := by
   intro m
   induction m using Nat.strongRecOn with
   |ind m ih =>
    intro hm hp
    by_cases h' : ∃ j,j < m /\ p j = true
    ·obtain ⟨j,hj,hpj⟩ := h'; exact ih j hj (by omega) hpj
    ·refine ⟨m,hm,hp,fun j hj => ?_⟩
     cases hpj : p j
     ·rfl
     ·exact absurd ⟨j,hj,hpj⟩ h'
  obtain ⟨m,hm,hp⟩ := h
  obtain ⟨m,hm,hp,ha⟩ := key m hm hp
  exact ⟨m,hm,first_some (Nat.zero_le _) (by omega) hp fun j _ hj => ha j hj,hp,ha⟩
 ·left
  have : ∀ m,m < k -> p m = false := fun m hm => by
   cases hp : p m
   ·rfl
   ·exact absurd ⟨m,hm,hp⟩ h
  exact ⟨first_none fun m _ hm => this m (by omega),this⟩
def upto (E : List (Int × Int)) (a : Int) (L : Nat) (x : Int) : Int := first (fun n => R E a n x) 0 (L + 1)
def far (E : List (Int × Int)) (a x : Int) : Int := upto E a 8 x
theorem upto_cases (E : List (Int × Int)) (a : Int) (L : Nat) (x : Int) : (upto E a L x = -1 /\ ∀ m,m <= L -> R E a m x = false) \/ ∃ m,m <= L /\ upto E a L x = (m : Int) /\ R E a m x = true /\ ∀ j,j < m -> R E a j x = false := by
 rcases first_cases (fun n => R E a n x) (L + 1) with ⟨h1,h2⟩ | ⟨m,hm,h⟩
 ·exact .inl ⟨h1,fun m hm => h2 m (by omega)⟩
 ·exact .inr ⟨m,by omega,h⟩
theorem upto_range (E : List (Int × Int)) (a : Int) (L : Nat) (x : Int) : -1 <= upto E a L x /\ upto E a L x <= L := by
 rcases upto_cases E a L x with ⟨h,_⟩ | ⟨m,hm,h,_⟩ <;> omega
theorem upto_le {E : List (Int × Int)} {a x : Int} {L n : Nat} (hn : n <= L) : R E a n x = true ↔ 0 <= upto E a L x /\ upto E a L x <= n := by
 rcases upto_cases E a L x with ⟨h,ha⟩ | ⟨m,hm,h,hr,ha⟩
 ·rw [h,ha n hn]; simp
 ·rw [h]
  constructor
  ·intro hrn
   refine ⟨by omega,?_⟩
   by_cases hlt : n < m
   ·rw [ha n hlt] at hrn; exact absurd hrn (by simp)
   ·omega
  ·rintro ⟨_,h2⟩; exact R_mono (by omega) hr
theorem upto_eq {E : List (Int × Int)} {a x : Int} {L : Nat} {d : Int} (hd : -1 <= d) (hdL : d <= L) (h : ∀ n,n <= L -> (R E a n x = true ↔ 0 <= d /\ d <= n)) : upto E a L x = d := by
 have hr := upto_range E a L x
 by_cases hd0 : 0 <= d
 ·have h1 := (h d.toNat (by omega)).2 (by omega)
  have h2 := (upto_le (L := L) (by omega)).1 h1
  have h3 := (upto_le (L := L) (E := E) (a := a) (x := x) (n := (upto E a L x).toNat) (by omega)).2 (by omega)
  have h4 := (h _ (by omega)).1 h3
  omega
 ·by_cases hu : 0 <= upto E a L x
  ·have h3 := (upto_le (L := L) (E := E) (a := a) (x := x) (n := (upto E a L x).toNat) (by omega)).2 (by omega)
   have h4 := (h _ (by omega)).1 h3
   omega
  ·omega
theorem upto_same {E : List (Int × Int)} {a x : Int} {L M : Nat} (h : ∀ n,R E a n x = true -> R E a L x = true) (h' : ∀ n,R E a n x = true -> R E a M x = true) : upto E a L x = upto E a M x := by
 have hr := upto_range E a M x
 by_cases hm : 0 <= upto E a M x
 ·have h3 := (upto_le (L := M) (E := E) (a := a) (x := x) (n := (upto E a M x).toNat) (by omega)).2 (by omega)
  have hL := h _ h3
  have hl := (upto_le (L := L) (E := E) (a := a) (x := x) (n := L) (by omega)).1 hL
  have hl2 := (upto_le (L := L) (E := E) (a := a) (x := x) (n := (upto E a L x).toNat) (by omega)).2 (by omega)
  by_cases hlt : upto E a L x < upto E a M x
  ·have := (upto_le (L := M) (E := E) (a := a) (x := x) (n := (upto E a L x).toNat) (by omega)).1 hl2; omega
  ·by_cases hgt : upto E a M x < upto E a L x
   ·have := (upto_le (L := L) (E := E) (a := a) (x := x) (n := (upto E a M x).toNat) (by omega)).1 h3; omega
   ·omega
 ·have hl := upto_range E a L x
  by_cases hu : 0 <= upto E a L x
  ·have h3 := (upto_le (L := L) (E := E) (a := a) (x := x) (n := (upto E a L x).toNat) (by omega)).2 (by omega)
   have h4 := (upto_le (L := M) (E := E) (a := a) (x := x) (n := M) (by omega)).1 (h' _ h3)
   omega
  ·omega
theorem far_range (E : List (Int × Int)) (a x : Int) : -1 <= far E a x /\ far E a x <= 8 := upto_range E a 8 x
def mid (E : List (Int × Int)) (a : Int) (L k : Nat) (x : Int) : Int :=
 if 0 <= upto E a L x then upto E a L x else if ((E.take k).any fun e => R E a L e.1 && e.2 == x) then (L : Int) + 1 else -1
theorem mid_start (E : List (Int × Int)) (a : Int) (L : Nat) (x : Int) : mid E a L 0 x = upto E a L x := by
 have := upto_range E a L x
 unfold mid
 by_cases h : 0 <= upto E a L x
 ·rw [if_pos h]
 ·rw [if_neg h]; simp; omega
theorem take_any {E : List (Int × Int)} {k : Nat} (hk : k < E.length) (p : Int × Int -> Bool) : (E.take (k + 1)).any p = ((E.take k).any p || p E[k]) := by
 rw [List.take_succ_eq_append_getElem hk,List.any_append]; simp
theorem mid_hit {E : List (Int × Int)} {a : Int} {L k : Nat} (hk : k < E.length) (h1 : mid E a L k E[k].1 = L) (h2 : mid E a L k E[k].2 = -1) (x : Int) : mid E a L (k + 1) x = if x = E[k].2 then (L : Int) + 1 else mid E a L k x := by
 have hr : R E a L E[k].1 = true := by
  unfold mid at h1
  split at h1
  ·rename_i h0; exact (upto_le (yyH _)).2 ⟨h0,by omega⟩
  ·split at h1 <;> omega
 by_cases hx : x = E[k].2
 ·subst hx
  rw [if_pos rfl]
  unfold mid at h2 ⊢
  split at h2
  ·omega
  ·rename_i h0
   rw [if_neg h0,take_any hk,hr]; simp
 ·rw [if_neg hx]
  unfold mid
  rw [take_any hk]
  have : (E[k].2 == x) = false := by simpa using fun h => hx h.symm
  rw [this,Bool.and_false,Bool.or_false]
theorem mid_miss {E : List (Int × Int)} {a : Int} {L k : Nat} (hk : k < E.length) (h : ¬ (mid E a L k E[k].1 = L /\ mid E a L k E[k].2 = -1)) (x : Int) : mid E a L (k + 1) x = mid E a L k x := by
 by_cases h0 : 0 <= upto E a L x
 ·unfold mid; rw [if_pos h0,if_pos h0]
 ·have hx0 := upto_range E a L x
  by_cases hx : E[k].2 = x
  ·by_cases hr : R E a L E[k].1 = true
   ·have hu := (upto_le (L := L) (yyH _)).1 hr
    have h1 : upto E a L E[k].1 = L := by
     apply Classical.byContradiction
     intro hne
     have hm := (upto_le (L := L) (E := E) (a := a) (x := E[k].1) (n := (upto E a L E[k].1).toNat) (by omega)).2 (by omega)
     have hm2 : R E a ((upto E a L E[k].1).toNat + 1) x = true := R_succ.2 (.inr ⟨E[k],List.getElem_mem hk,hm,hx⟩)
     have := (upto_le (L := L) (by omega)).1 hm2
     omega
    have hm1 : mid E a L k E[k].1 = L := by unfold mid; rw [if_pos (by omega),h1]
    have hm2 : mid E a L k E[k].2 ≠ -1 := fun h' => h ⟨hm1,h'⟩
    rw [hx] at hm2
    unfold mid at hm2 ⊢
    rw [if_neg h0] at hm2 ⊢
    rw [if_neg h0]
    split at hm2
    ·rename_i ha
     rw [take_any hk,ha]; simp
    ·exact absurd rfl hm2
   ·unfold mid
    rw [take_any hk]
    have : R E a L E[k].1 = false := by simpa using hr
    rw [this,Bool.false_and,Bool.or_false]
  ·unfold mid
   rw [take_any hk]
   have : (E[k].2 == x) = false := by simpa using hx
   rw [this,Bool.and_false,Bool.or_false]
theorem mid_end (E : List (Int × Int)) (a : Int) (L : Nat) (x : Int) : mid E a L E.length x = upto E a (L + 1) x := by
 have hr := upto_range E a L x
 symm
 unfold mid
 rw [List.take_length]
 by_cases h0 : 0 <= upto E a L x
 ·rw [if_pos h0]
  refine upto_eq (by omega) (by omega) fun n hn => ?_
  by_cases hn' : n <= L
  ·exact upto_le hn'
  ·obtain rfl : n = L + 1 := by omega
   refine ⟨fun _ => ⟨h0,by omega⟩,fun _ => R_mono (by omega) ((upto_le (L := L) (yyH _)).2 ⟨h0,hr.2⟩)⟩
 ·rw [if_neg h0]
  have hno : ∀ n,n <= L -> R E a n x = false := fun n hn => by
   cases hR : R E a n x
   ·rfl
   ·exact absurd ((upto_le hn).1 hR).1 h0
  by_cases ha : (E.any fun e => R E a L e.1 && e.2 == x) = true
  ·rw [if_pos ha]
   refine upto_eq (by omega) (by omega) fun n hn => ?_
   by_cases hn' : n <= L
   ·simp [hno n hn']; omega
   ·obtain rfl : n = L + 1 := by omega
    refine ⟨fun _ => by omega,fun _ => ?_⟩
    rw [R,ha]; simp
  ·rw [if_neg ha]
   refine upto_eq (by omega) (by omega) fun n hn => ?_
   by_cases hn' : n <= L
   ·simp [hno n hn']
   ·obtain rfl : n = L + 1 := by omega
    rw [R,hno L (yyH _)]
    simp only [Bool.not_eq_true] at ha
    rw [ha]; simp
theorem level_lt {S : Int} {E : List (Int × Int)} {a : Int} (hE : ∀ e ∈ E,EdgeOk S e) (ha : 1 <= a /\ a <= S) {L : Nat} {x : Int} (h : upto E a (L + 1) x = (L : Int) + 1) : (L : Int) + 1 < S := by
 have h1 := (upto_le (L := L + 1) (E := E) (a := a) (x := x) (yyH _)).2 (by omega)
 have h2 := R_all hE ha _ _ h1
 apply Classical.byContradiction
 intro hn
 have h3 : R E a L x = true := R_mono (by omega) h2
 have := (upto_le (L := L + 1) (by omega)).1 h3
 omega
theorem level_last {S : Int} {E : List (Int × Int)} {a : Int} (hS : S <= 8) (hE : ∀ e ∈ E,EdgeOk S e) (ha : 1 <= a /\ a <= S) {L : Nat} (h : ∀ x,1 <= x -> x <= 8 -> upto E a (L + 1) x ≠ (L : Int) + 1) (x : Int) : upto E a (L + 1) x = far E a x := by
 have hst : ∀ x,R E a (L + 1) x = true -> R E a L x = true := fun x hx => by
  have hs := R_site hE ha _ _ hx
  have h1 := (upto_le (L := L + 1) (yyH _)).1 hx
  exact (upto_le (L := L + 1) (by omega)).2 ⟨h1.1,by have := h x hs.1 (by omega); omega⟩
 exact upto_same (fun n hn => R_mono (by omega) (R_stay hst n x (R_mono (by omega) hn))) (fun n hn => R_mono (by omega) (R_all hE ha n x hn))
def farT (S : Int) (E : List (Int × Int)) (H : Int) (a x : Int) : Int := if GoodT S E H /\ (1 <= a /\ a <= S) /\ (1 <= x /\ x <= S) then far E a x else -1
theorem farT_range (S : Int) (E : List (Int × Int)) (H : Int) (a x : Int) : -1 <= farT S E H a x /\ farT S E H a x <= 8 := by
 unfold farT; have := far_range E a x; split <;> omega
def nextL (S : Int) (E : List (Int × Int)) (a : Int) : List Int := (sites S).filter fun n => E.contains (a,n)
def nextT (S : Int) (E : List (Int × Int)) (H : Int) (a : Int) : List Int := if GoodT S E H then nextL S E a else []
theorem mem_nextL {S : Int} {E : List (Int × Int)} (hE : ∀ e ∈ E,EdgeOk S e) {a n : Int} : n ∈ nextL S E a ↔ (a,n) ∈ E := by
 simp only [nextL,List.mem_filter,mem_sites,List.contains_eq_mem,decide_eq_true_eq]
 exact ⟨fun h => h.2,fun h => ⟨(hE _ h).2.1,h⟩⟩
theorem nextL_lt (S : Int) (E : List (Int × Int)) (a : Int) : (nextL S E a).Pairwise (· < ·) := (sites_lt S).filter _
theorem next_perm {S : Int} {E : List (Int × Int)} {H : Int} (h : GoodT S E H) (a : Int) : ((E.filter fun e => e.1 == a).map (·.2)).Perm (nextL S E a) := by
 refine (List.perm_ext_iff_of_nodup ?_ (nodup_of_lt (nextL_lt S E a))).2 fun n => ?_
 ·rw [List.Nodup,List.pairwise_map]
  refine List.Pairwise.imp_of_mem ?_ (h.2.2.filter fun e => e.1 == a)
  rintro ⟨x1,x2⟩ ⟨y1,y2⟩ hx hy hne hxy
  simp at hx hy hxy
  exact hne (by rw [hx.2,hy.2,hxy])
 ·rw [mem_nextL h.2.1]
  simp
theorem sorted_unique {l m : List Int} (hp : l.Perm m) (hl : l.Pairwise (· <= ·)) (hm : m.Pairwise (· <= ·)) : l = m :=
 List.Perm.eq_of_pairwise (fun _ _ _ _ h1 h2 => Int.le_antisymm h1 h2) hl hm hp
def withinT (S : Int) (E : List (Int × Int)) (H : Int) (a : Int) : List Int := (sites S).filter fun n => decide (0 <= farT S E H a n /\ farT S E H a n <= H)
def onwardT (S : Int) (E : List (Int × Int)) (H : Int) (a x : Int) : List Int := if 0 <= farT S E H a x /\ farT S E H a x < H then (nextT S E H x).filter fun n => !(n == a) else []
def mostOf (S : Int) (E : List (Int × Int)) (H : Int) (m : Int) (a : Int) : List Int -> Int := List.foldl (fun m b => max m (farT S E H a b)) m
def roundsT (S : Int) (E : List (Int × Int)) (H : Int) : Int := if GoodT S E H then (sites S).foldl (fun m a => mostOf S E H m a (withinT S E H a)) 0 else 0
open Go.RowKit Go.Sort
theorem below_grown_r (B : Nat) (w : World) (q : Nat) (os : Array Obj) (hB : B <= w.heap.size) : Below B w (grow (w.drewN q) os) :=
 ⟨rfl,rfl,rfl,by first | (simp [grow]; done) | (simp [grow]; omega),fun i hi => by
  show ((w.drewN q).heap ++ os)[i]? = _
  rw [Array.getElem?_append_left (by show i < w.heap.size; omega)]
  rfl⟩
def Grew (w w' : World) : Prop := ∃ q os,w' = grow (w.drewN q) os
theorem Grew.refl (w : World) : Grew w w := ⟨0,#[],by rw [grow_empty]; rfl⟩
theorem Grew.trans {a b c : World} (h : Grew a b) (k : Grew b c) : Grew a c := by
 obtain ⟨q,os,rfl⟩ := h
 obtain ⟨q',os',rfl⟩ := k
 refine ⟨q + q',os ++ os',?_⟩
 show grow (grow ((a.drewN q).drewN q') os) os' = _
 rw [grow_grow,World.drewN_drewN]
theorem Grew.alloc (w : World) (o : Obj) : Grew w (w.alloc o) := ⟨0,#[o],alloc_eq_grow w o⟩
theorem Grew.drewN (w : World) (q : Nat) : Grew w (w.drewN q) := ⟨q,#[],by rw [grow_empty]⟩
theorem Grew.below {w w' : World} {B : Nat} (h : Grew w w') (hB : B <= w.heap.size) : Below B w w' := by
 obtain ⟨q,os,rfl⟩ := h
 exact below_grown_r B w q os hB
def Arr (w : World) (b : Nat) (t : TypeId) (n : Nat) (f : Nat -> Value) : Prop := w.heap[b]? = some (.cells ((List.range n).map f).toArray t (0,0))
theorem Arr.cell {w : World} {b : Nat} {t : TypeId} {n : Nat} {f : Nat -> Value} (h : Arr w b t n f) {i : Nat} (hi : i < n) : w.cell? ⟨b,i,none⟩ = some (f i) := by
 rw [cell_of_row w b i _ t (0,0) h]
 simp [hi]
theorem Arr.free {w : World} {b : Nat} {t : TypeId} {n : Nat} {f : Nat -> Value} (h : Arr w b t n f) (i : Nat) : w.frozen? ⟨b,i,none⟩ = false := by
 have : w.heap[b]? = some (.cells ((List.range n).map f).toArray t (0,0)) := h
 simp [World.frozen?,this]
theorem Arr.set {w : World} {b : Nat} {t : TypeId} {n : Nat} {f : Nat -> Value} (h : Arr w b t n f) (k : Nat) (v : Value) : Arr (w.setCell ⟨b,k,none⟩ v) b t n (fun i => if i = k then v else f i) := by
 have h1 := heap_setCell_same w b k _ t v h
 unfold Arr
 rw [h1]
 congr 2
 apply Array.ext'
 apply List.ext_getElem?
 intro i
 simp only [Array.toList_setIfInBounds,List.getElem?_set,List.getElem?_map,List.length_map,List.length_range]
 by_cases hi : k = i
 ·subst hi
  by_cases hn : k < n
  ·simp [hn]
  ·simp [hn]
 ·rw [if_neg hi]
  by_cases hn : i < n
  ·simp only [List.getElem?_range hn,Option.map_some]
   rw [if_neg (fun h : i = k => hi h.symm)]
  ·simp [hn]
theorem Arr.same {w w' : World} {b : Nat} {t : TypeId} {n : Nat} {f : Nat -> Value} (h : Arr w b t n f) (hs : w'.heap[b]? = w.heap[b]?) : Arr w' b t n f := by unfold Arr; rw [hs]; exact h
theorem Arr.lt {w : World} {b : Nat} {t : TypeId} {n : Nat} {f : Nat -> Value} (h : Arr w b t n f) : b < w.heap.size := by
 rcases Nat.lt_or_ge b w.heap.size with hb | hb
 ·exact hb
 ·have : w.heap[b]? = none := by simpa using hb
  rw [Arr,this] at h; cases h
theorem Arr.below {w w' : World} {b B : Nat} {t : TypeId} {n : Nat} {f : Nat -> Value} (h : Arr w b t n f) (hb : Below B w w') (hB : b < B) : Arr w' b t n f := h.same (hb.block b hB)
theorem Arr.congr {w : World} {b : Nat} {t : TypeId} {n : Nat} {f g : Nat -> Value} (h : Arr w b t n f) (hg : ∀ i,i < n -> g i = f i) : Arr w b t n g := by
 unfold Arr
 rw [show (List.range n).map g = (List.range n).map f from List.map_congr_left fun i hi => hg i (by simpa using hi)]
 exact h
end Go.Proofs.YtnhnpnafchkhiaaGreatDoor.O
