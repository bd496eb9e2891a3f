/-
  Good's closure, that takes a letter's part out of what is left, and Good, by their contracts.
-/
import Derived.Test.YtdbgojmjjkidbaaGreatDoorJRows19
import Derived.Test.YtdbgojmjjkidbaaGreatDoorJMem13
namespace Go.Proofs.YtdbgojmjjkidbaaGreatDoor
open Go.RowKit


/-- May that which a letter stands for be so? -/
def fitP (p : Pk) (c : UInt8) : Bool := if c = 101 then decide (1 ≤ p.ep) else if c = 109 then goodM p.m else true

/-- What is left without it. -/
def wipeP (z : Pk) (c : UInt8) : Pk := if c = 101 ∨ c = 97 then { z with ep := 0 } else if c = 110 then { z with num := 0 } else if c = 107 then { z with mask := 0 } else if c = 109 then { z with m := zM } else z

def leftP (p : Pk) : Pk := { p with kind := 0, fr := 0, dest := 0 }

def nilP : Pk := ⟨0, 0, 0, 0, 0, 0, zM⟩

theorem kindB_eq (p : Pk) : kindB p = (isK p.kind && ((txt (letP p.kind)).all (fitP p) && decide ((txt (letP p.kind)).foldl wipeP (leftP p) = nilP))) := by
  unfold kindB isK inB letP
  by_cases h1 : p.kind = 1
  · rw [if_pos h1, if_pos h1, h1]
    have : (txt ⟨#[101]⟩) = [101] := rfl
    rw [this]
    simp only [List.all_cons, List.all_nil, List.foldl_cons, List.foldl_nil, fitP, wipeP, leftP, nilP]
    simp
  rw [if_neg h1, if_neg h1]
  by_cases h2 : p.kind = 2
  · rw [if_pos h2, if_pos h2, h2]
    have : (txt ⟨#[97]⟩) = [97] := rfl
    rw [this]
    simp only [List.all_cons, List.all_nil, List.foldl_cons, List.foldl_nil, fitP, wipeP, leftP, nilP]
    simp
  rw [if_neg h2, if_neg h2]
  by_cases h3 : p.kind = 3
  · rw [if_pos h3, if_pos h3, h3]
    have : (txt ⟨#[101, 110, 109]⟩) = [101, 110, 109] := rfl
    rw [this]
    simp only [List.all_cons, List.all_nil, List.foldl_cons, List.foldl_nil, fitP, wipeP, leftP, nilP]
    simp
    cases decide (1 ≤ p.ep) <;> simp
  rw [if_neg h3, if_neg h3]
  by_cases h4 : p.kind = 4
  · rw [if_pos h4, if_pos h4, h4]
    have : (txt ⟨#[101, 110, 107]⟩) = [101, 110, 107] := rfl
    rw [this]
    simp only [List.all_cons, List.all_nil, List.foldl_cons, List.foldl_nil, fitP, wipeP, leftP, nilP]
    simp
  rw [if_neg h4, if_neg h4]
  have : (decide (1 ≤ p.kind) && decide (p.kind ≤ 4)) = false := by
    rw [Bool.and_eq_false_iff, decide_eq_false_iff_not, decide_eq_false_iff_not]
    omega
  rw [this, Bool.false_and]

theorem letP_mem {k : Int} : ∀ c ∈ txt (letP k), c = 101 ∨ c = 97 ∨ c = 110 ∨ c = 107 ∨ c = 109 := by
  unfold letP
  split
  · decide
  split
  · decide
  split
  · decide
  split
  · decide
  · intro c hc; cases hc

/-- The cells of a packet in a box. -/
theorem cells12 {w : World} {g : Nat} {t : TypeId} {p : Pk} (h : w.heap[g]? = some (.cells (pcells p).toArray t (0, 0))) : w.cell? ⟨g, 0, none⟩ = some (.int .i64 p.kind) ∧ w.cell? ⟨g, 1, none⟩ = some (.int .i64 p.fr) ∧ w.cell? ⟨g, 2, none⟩ = some (.int .i64 p.dest) ∧ w.cell? ⟨g, 3, none⟩ = some (.int .u64 p.ep) ∧ w.cell? ⟨g, 4, none⟩ = some (.int .u16 p.num) ∧ w.cell? ⟨g, 5, none⟩ = some (.int .u64 p.mask) ∧ w.cell? ⟨g, 6, none⟩ = some (.int .i64 p.m.origin) ∧ w.cell? ⟨g, 7, none⟩ = some (.int .u64 p.m.seq) ∧ w.cell? ⟨g, 8, none⟩ = some (.int .i64 p.m.hop) ∧ w.cell? ⟨g, 9, none⟩ = some (.string p.m.ex) ∧ w.cell? ⟨g, 10, none⟩ = some (.string p.m.key) ∧ w.cell? ⟨g, 11, none⟩ = some (.string p.m.body) :=
  ⟨box_at h rfl, box_at h rfl, box_at h rfl, box_at h rfl, box_at h rfl, box_at h rfl, box_at h rfl, box_at h rfl, box_at h rfl, box_at h rfl, box_at h rfl, box_at h rfl⟩

set_option maxRecDepth 20000 in
set_option maxHeartbeats 4000000 in
theorem takeP_any (p z : Pk) (c : UInt8) (hc : c = 101 ∨ c = 97 ∨ c = 110 ∨ c = 107 ∨ c = 109) (q b : Nat) (W : World) (hq : W.heap[q]? = some (.cells (pcells z).toArray 35 (0, 0))) (hb : W.heap[b]? = some (.cells (pcells p).toArray 35 (0, 0))) (hne : b ≠ q) (hp : p.m.Fits) :
    Calls Tryz.prog 58 #[.int .i32 (c.toNat : Int), .pointer (some ⟨q, 0, none⟩), .pointer (some ⟨b, 0, none⟩)] W fun e W' => e = .returned (.bool (fitP p c)) ∧ W'.heap[q]? = some (.cells (pcells (wipeP z c)).toArray 35 (0, 0)) ∧ Bar q W W' := by
  have f := fun j => box_free hq j
  obtain ⟨z0, z1, z2, z3, z4, z5, z6, z7, z8, z9, z10, z11⟩ := cells12 hq
  obtain ⟨y0, y1, y2, y3, y4, y5, y6, y7, y8, y9, y10, y11⟩ := cells12 hb
  have HQ : Hid (W.heap[q]? = some (.cells (pcells z).toArray 35 (0, 0)) ∧ W.heap[b]? = some (.cells (pcells p).toArray 35 (0, 0)) ∧ p.m.Fits) := ⟨hq, hb, hp⟩
  have hne2 : ¬ q = b := fun e => hne e.symm
  clear hq hb hp
  rcases hc with rfl | rfl | rfl | rfl | rfl
  · rw [show ((((101 : UInt8)).toNat : Nat) : Int) = 101 from rfl]
    cases h : decide (1 ≤ p.ep)
    · go_enter Tryz.func58, Tryz.ntmps58
      go_wp2
      go_ret
      exact ⟨by unfold fitP; rw [if_pos rfl, h]; rfl, set_list HQ.out.1 _, Bar.set _ _ _ _⟩
    · go_enter Tryz.func58, Tryz.ntmps58
      go_wp2
      go_ret
      exact ⟨by unfold fitP; rw [if_pos rfl, h]; rfl, set_list HQ.out.1 _, Bar.set _ _ _ _⟩
  · rw [show ((((97 : UInt8)).toNat : Nat) : Int) = 97 from rfl]
    cases h : decide (1 ≤ p.ep)
    · go_enter Tryz.func58, Tryz.ntmps58
      go_wp2
      go_ret
      exact ⟨rfl, set_list HQ.out.1 _, Bar.set _ _ _ _⟩
    · go_enter Tryz.func58, Tryz.ntmps58
      go_wp2
      go_ret
      exact ⟨rfl, set_list HQ.out.1 _, Bar.set _ _ _ _⟩
  · rw [show ((((110 : UInt8)).toNat : Nat) : Int) = 110 from rfl]
    go_enter Tryz.func58, Tryz.ntmps58
    go_wp2
    go_ret
    exact ⟨rfl, set_list HQ.out.1 _, Bar.set _ _ _ _⟩
  · rw [show ((((107 : UInt8)).toNat : Nat) : Int) = 107 from rfl]
    go_enter Tryz.func58, Tryz.ntmps58
    go_wp2
    go_ret
    exact ⟨rfl, set_list HQ.out.1 _, Bar.set _ _ _ _⟩
  · rw [show ((((109 : UInt8)).toNat : Nat) : Int) = 109 from rfl]
    obtain ⟨V, hV⟩ : ∃ V, (((((W.setCell ⟨q, 6, none⟩ (.int .i64 0)).setCell ⟨q, 7, none⟩ (.int .u64 0)).setCell ⟨q, 8, none⟩ (.int .i64 0)).setCell ⟨q, 9, none⟩ (.string ⟨#[]⟩)).setCell ⟨q, 10, none⟩ (.string ⟨#[]⟩)).setCell ⟨q, 11, none⟩ (.string ⟨#[]⟩) = V := ⟨_, rfl⟩
    have bV : Bar q W V := by rw [← hV]; exact (((((Bar.set q W 6 _).trans (Bar.set q _ 7 _)).trans (Bar.set q _ 8 _)).trans (Bar.set q _ 9 _)).trans (Bar.set q _ 10 _)).trans (Bar.set q _ 11 _)
    have hqV : V.heap[q]? = some (.cells (pcells (wipeP z 109)).toArray 35 (0, 0)) := by rw [← hV]; exact set_list (set_list (set_list (set_list (set_list (set_list HQ.out.1 _) _) _) _) _) _
    have hbV := (bV.block b (Array.getElem?_eq_some_iff.1 HQ.out.2.1).1 hne).trans HQ.out.2.1
    have HV : Hid (Bar q W V ∧ V.heap[q]? = some (.cells (pcells (wipeP z 109)).toArray 35 (0, 0))) := ⟨bV, hqV⟩
    obtain ⟨y0, y1, y2, y3, y4, y5, y6, y7, y8, y9, y10, y11⟩ := cells12 hbV
    have hG := goodM_any p.m V HQ.out.2.2
    clear bV hqV hbV
    go_enter Tryz.func58, Tryz.ntmps58
    go_wp2_with fail
    try rw [hV]
    refine hG.mono ?_
    rintro e U ⟨rfl, bU⟩
    go_wp2
    go_ret
    exact ⟨rfl, (bU.block q (Array.getElem?_eq_some_iff.1 HV.out.2).1).trans HV.out.2, HV.out.1.trans (Bar.of bU)⟩

end Go.Proofs.YtdbgojmjjkidbaaGreatDoor
