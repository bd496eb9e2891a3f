/-
  A FILE's BYTES in memory: a slice that begins its block, with room behind it or not; append, and what it leaves of another slice over the same block.
-/
import Derived.Test.YtjgdmbfkondakaaGreatDoorJBytes
import Derived.Test.YtjgdmbfkondakaaGreatDoorJOrds
import Derived.ArgAppend
import Derived.Maps.AppendAt
import Derived.KernelRfl
namespace Go.Proofs.YtjgdmbfkondakaaGreatDoor
open Go.RowKit

theorem isU8 : U8 Tryz.prog 31 5 := by
  have hinfo : (Tryz.prog.info? 5).map (fun i => (i.zero, i.size, i.bytes)) = some (some (.int .u8 0), 1, 1) := by kernel_rfl
  obtain ⟨i0, hi, hz0, hz1, hz2⟩ := info_parts hinfo
  exact ⟨Tryz.underlying31, Tryz.underlying5, ⟨i0, hi, hz0, hz1, hz2⟩⟩

/-- The slice v holds these bytes, from its block's beginning. -/
def Buf (w : World) (v : Value) (l : List UInt8) : Prop :=
  (v = .slice none 0 0 ∧ l = []) ∨
  ∃ g cap cur, v = .slice (some ⟨g, 0, none⟩) l.length cap ∧ w.heap[g]? = some (.cells cur 5 (0, 0)) ∧ l.length ≤ cap ∧ cap ≤ maxLen ∧ cap ≤ cur.size ∧ cur.toList.take l.length = bcells l
/-- Its room. -/
def capOf : Value → Nat
  | .slice _ _ c => c
  | _ => 0
theorem buf_nil (w : World) : Buf w (.slice none 0 0) [] := .inl ⟨rfl, rfl⟩
theorem Buf.slice {w : World} {v : Value} {l : List UInt8} (h : Buf w v l) : ∃ a cap, v = .slice a l.length cap := by
  rcases h with ⟨rfl, rfl⟩ | ⟨g, cap, cur, rfl, _⟩
  · exact ⟨_, _, rfl⟩
  · exact ⟨_, _, rfl⟩
theorem Buf.blk {w : World} {v : Value} {l : List UInt8} (h : Buf w v l) {g : Nat} (hg : v.ownBlock = some g) : ∃ cur, w.heap[g]? = some (.cells cur 5 (0, 0)) := by
  rcases h with ⟨rfl, _⟩ | ⟨g', cap, cur, rfl, hb, _⟩
  · simp [Value.ownBlock] at hg
  · simp only [Value.ownBlock, Option.some.injEq] at hg
    subst hg
    exact ⟨_, hb⟩
theorem Buf.lt {w : World} {v : Value} {l : List UInt8} (h : Buf w v l) {g : Nat} (hg : v.ownBlock = some g) : g < w.heap.size := by
  obtain ⟨cur, hc⟩ := h.blk hg
  exact (Array.getElem?_eq_some_iff.1 hc).1
theorem Buf.same {w w' : World} {v : Value} {l : List UInt8} (h : Buf w v l) (hs : ∀ g, v.ownBlock = some g → w'.heap[g]? = w.heap[g]?) : Buf w' v l := by
  rcases h with h | ⟨g, cap, cur, rfl, hb, rest⟩
  · exact .inl h
  · exact .inr ⟨g, cap, cur, rfl, by rw [hs g rfl]; exact hb, rest⟩
theorem bcells_get {l : List UInt8} {j : Nat} (h : j < l.length) : (bcells l)[j]? = some (.int .u8 ((l[j]).toNat : Int)) := by simp [bcells, h]
theorem Buf.holds {w : World} {v : Value} {l : List UInt8} (h : Buf w v l) : Holds w v l := by
  rcases h with h | ⟨g, cap, cur, rfl, hb, h1, h2, h3, h4⟩
  · exact .inl h
  · refine .inr ⟨⟨g, 0, none⟩, cap, rfl, h1, h2, fun j u hj => ?_⟩
    rw [Addr.add_lit, Nat.zero_add]
    have hlt : j < l.length := by
      have := (List.getElem?_eq_some_iff.1 hj).1
      rwa [bcells_length] at this
    rw [← h4, List.getElem?_take, if_pos hlt] at hj
    simp only [World.cell?, hb]
    simpa using hj
/-- The first few. -/
theorem Buf.take {w : World} {a : Option Addr} {n c : Nat} {l : List UInt8} (h : Buf w (.slice a n c) l) {k : Nat} (hk : k ≤ l.length) : Buf w (.slice a k c) (l.take k) := by
  rcases h with ⟨hv, rfl⟩ | ⟨g, cap, cur, hv, hb, h1, h2, h3, h4⟩
  · injection hv with e1 e2 e3
    subst e1 e2 e3
    have : k = 0 := by simpa using hk
    subst this
    exact .inl ⟨rfl, rfl⟩
  · injection hv with e1 e2 e3
    subst e1 e2 e3
    have hl : (l.take k).length = k := by rw [List.length_take]; omega
    refine .inr ⟨g, c, cur, by rw [hl], hb, by rw [hl]; omega, h2, h3, ?_⟩
    rw [hl, show k = min k l.length by omega, ← List.take_take, h4]
    simp [bcells]
/-- .. and no room behind them. -/
theorem Buf.take3 {w : World} {a : Option Addr} {n c : Nat} {l : List UInt8} (h : Buf w (.slice a n c) l) {k : Nat} (hk : k ≤ l.length) : Buf w (.slice a k k) (l.take k) := by
  rcases h with ⟨hv, rfl⟩ | ⟨g, cap, cur, hv, hb, h1, h2, h3, h4⟩
  · injection hv with e1 e2 e3
    subst e1 e2 e3
    have : k = 0 := by simpa using hk
    subst this
    exact .inl ⟨rfl, rfl⟩
  · injection hv with e1 e2 e3
    subst e1 e2 e3
    have hl : (l.take k).length = k := by rw [List.length_take]; omega
    refine .inr ⟨g, k, cur, by rw [hl], hb, by rw [hl]; exact Nat.le_refl _, by omega, by omega, ?_⟩
    rw [hl, show k = min k l.length by omega, ← List.take_take, h4]
    simp [bcells]
/-- Two slices over one block: what is written behind the one is not seen in the other. -/
def Sh (vb vs : Value) (lb ls : List UInt8) : Prop := ∀ g, vb.ownBlock = some g → vs.ownBlock = some g → ls.length ≤ lb.length ∨ capOf vb = lb.length

/-- 'append(v, src...)'. -/
theorem run_append_buf {w : World} (ty : TypeId) {v src : Value} {xs ys : List UInt8} (hb : Buf w v xs) (hy : Holds w src ys) (hlen : xs.length + ys.length ≤ 140737488355328) :
    ∃ v' w', (Builtin.append_ #[31, 31] ty #[v, src]).run Tryz.prog w = .ok v' w' ∧ Buf w' v' (xs ++ ys) ∧ w.grownBy w' v.ownBlock ∧ (v'.ownBlock = v.ownBlock ∨ ∃ g, v'.ownBlock = some g ∧ w.heap.size ≤ g) ∧
      (∀ vs ls, Buf w vs ls → Sh v vs xs ls → Buf w' vs ls ∧ Sh v' vs (xs ++ ys) ls) := by
  obtain ⟨i, hi, hz, hsz, hby⟩ := isU8.info
  have other : ∀ (w' : World) (v' : Value), v'.ownBlock = some w.heap.size → w.grownBy w' none → ∀ vs ls, Buf w vs ls → Buf w' vs ls ∧ Sh v' vs (xs ++ ys) ls := fun w' v' hv hg vs ls hs => by
    refine ⟨hs.same fun g hgg => hg.block g (hs.lt hgg) (by simp), fun g h1 h2 => ?_⟩
    rw [hv] at h1
    injection h1 with h1
    have := hs.lt h2
    omega
  have ofNone : ∀ {w' : World} {o : Option Nat}, w.grownBy w' none → w.grownBy w' o := fun h => ⟨h.os, h.tape, h.output, h.size, fun k hk _ => h.block k hk (by simp)⟩
  have still : w.grownBy w v.ownBlock := ⟨rfl, rfl, rfl, Nat.le_refl _, fun _ _ _ => rfl⟩
  rcases hb with ⟨rfl, rfl⟩ | ⟨g, cap, cur, rfl, hg, h1, h2, h3, h4⟩
  · have own : w.ownsRow w.heap.size 5 1 (.slice none 0 0) 0 [] := World.ownsRow_nil _ _ _ _
    rcases hy with ⟨rfl, rfl⟩ | ⟨ad, c, rfl, k1, k2, k3⟩
    · exact ⟨.slice none 0 0, w, run_append_owned_none (P := Tryz.prog) (w := w) w.heap.size 31 ty 5 i 1 isU8.ht hi (.slice none 0 0) 0 [] own, buf_nil _, still, .inl rfl, fun vs ls hs _ => ⟨hs, fun g hg => by simp [Value.ownBlock] at hg⟩⟩
    · obtain ⟨v', w', hr, ho', hgr, _, hloc⟩ := run_append_own_at (P := Tryz.prog) w w.heap.size 31 ty 5 i (.int .u8 0) 1 1 isU8.ht hi hz hsz hby rfl (by decide) (.slice none 0 0) 0 [] own ad ys.length c (bcells ys) (by simp [bcells]) k3 (bcells_one ys) (by unfold maxLen; simp at hlen; omega) (by simp at hlen; omega) (Nat.le_refl _)
      have hgn : w.grownBy w' none := hgr
      simp only [List.nil_append, Nat.zero_add] at ho' ⊢
      rcases ho'.2 with ⟨rfl, h0⟩ | ⟨g', cap', cur', rfl, hbg, hgg, q1, q2, q3, q4⟩
      · have : ys = [] := List.eq_nil_of_length_eq_zero h0
        subst this
        refine ⟨_, w', hr, buf_nil _, hgr, .inl rfl, fun vs ls hs _ => ⟨hs.same fun g hgg => hgn.block g (hs.lt hgg) (by simp), fun g hg => by simp [Value.ownBlock] at hg⟩⟩
      · have hv' : (Value.slice (some ⟨g', 0, none⟩) ys.length cap').ownBlock = some w.heap.size := by
          rcases hloc with h | h
          · simp [Value.ownBlock] at h
          · exact h
        refine ⟨_, w', hr, .inr ⟨g', cap', cur', rfl, hgg, q1, q2, by omega, by simpa using q4⟩, hgr, .inr ⟨_, hv', Nat.le_refl _⟩, fun vs ls hs _ => ?_⟩
        have := other w' _ hv' hgn vs ls hs
        simpa using this
  · have hcells : ∀ j u, (bcells xs)[j]? = some u → w.cell? ((⟨g, 0, none⟩ : Addr).add j) = some u := by
      have hh : Holds w (.slice (some ⟨g, 0, none⟩) xs.length cap) xs := Buf.holds (.inr ⟨g, cap, cur, rfl, hg, h1, h2, h3, h4⟩)
      rcases hh with ⟨hv, _⟩ | ⟨a, c, hv, _, _, hc⟩
      · cases hv
      · injection hv with e1 e2 e3
        injection e1 with e1
        subst e1
        exact hc
    rcases hy with ⟨rfl, rfl⟩ | ⟨ad, c, rfl, k1, k2, k3⟩
    · refine ⟨.slice (some ⟨g, 0, none⟩) xs.length cap, w, ?_, .inr ⟨g, cap, cur, by simp, hg, by simpa using h1, h2, h3, by simpa using h4⟩, still, .inl rfl, fun vs ls hs hsh => ⟨hs, by simpa using hsh⟩⟩
      simp [Builtin.append_, run_underlying isU8.ht, sizeOf, typeInfo, hi, Builtin.lenOf, Builtin.firstCells, h1, storeCells]
    · by_cases hroom : xs.length + ys.length ≤ cap
      · have hr := run_append_room (P := Tryz.prog) w 31 ty 5 i isU8.ht hi g xs.length cap cur hg ad ys.length c (bcells ys) (by simp [bcells, hsz]) k3 (bcells_one ys) hroom (by simp [bcells_length, hsz]; omega)
        simp only [hsz, Nat.mul_one] at hr
        have hnew := setRow_heap w g cur (cur.toList.take xs.length ++ bcells ys ++ cur.toList.drop (xs.length + (bcells ys).length)).toArray 5 (0, 0) hg
        refine ⟨_, _, hr, .inr ⟨g, cap, _, by simp, hnew, by simpa using hroom, h2, ?_, ?_⟩, ⟨rfl, rfl, rfl, by simp, fun k _ hk => setRow_other w g k _ (fun e => hk (by simp [Value.ownBlock, e]))⟩, .inl rfl, fun vs ls hs hsh => ⟨?_, fun g' e1 e2 => ?_⟩⟩
        · simp [bcells_length]; omega
        · rw [h4, bcells_append]
          exact List.take_left' (by simp [bcells_length])
        · rcases hs with hs | ⟨g2, cap2, cur2, rfl, hg2, s1, s2, s3, s4⟩
          · exact .inl hs
          · by_cases e : g2 = g
            · subst e
              rw [hg] at hg2
              simp only [Option.some.injEq, Obj.cells.injEq, and_true] at hg2
              subst hg2
              have hsz2 : cur.toList.length = cur.size := Array.length_toList
              refine .inr ⟨g2, cap2, _, rfl, hnew, s1, s2, ?_, ?_⟩
              · simp [bcells_length]; omega
              · rcases hsh g2 rfl rfl with hle | hc
                · rw [← s4, List.append_assoc]
                  show List.take ls.length (List.take xs.length cur.toList ++ _) = _
                  rw [List.take_append_of_le_length (by simp; omega), List.take_take, Nat.min_eq_left hle]
                · have hc' : cap = xs.length := hc
                  have : ys = [] := List.eq_nil_of_length_eq_zero (by omega)
                  subst this
                  rw [← s4]
                  simp [bcells]
            · exact .inr ⟨g2, cap2, cur2, rfl, (setRow_other w g g2 _ e).trans hg2, s1, s2, s3, s4⟩
        · rcases hsh g' e1 e2 with hle | hc
          · exact .inl (by simp; omega)
          · have hc' : cap = xs.length := hc
            have : ys.length = 0 := by omega
            exact .inr (by show cap = _; simp; omega)
      · obtain ⟨v', w', hr, ho', hgr⟩ := run_append_arg_grows (P := Tryz.prog) w 31 ty 5 i (.int .u8 0) 1 1 isU8.ht hi hz hsz hby rfl (by decide) ⟨g, 0, none⟩ xs.length cap (bcells xs) (by simp [bcells]) hcells ad ys.length c (bcells ys) (by simp [bcells]) k3 (by omega) (by unfold maxLen; omega) (by omega)
        rcases ho'.2 with ⟨rfl, h0⟩ | ⟨g', cap', cur', rfl, hbg, hgg, q1, q2, q3, q4⟩
        · omega
        · have hnew : g' < w'.heap.size := (Array.getElem?_eq_some_iff.1 hgg).1
          refine ⟨_, w', hr, .inr ⟨g', cap', cur', by simp, hgg, by simpa using q1, q2, by omega, by rw [bcells_append]; simpa using q4⟩, ofNone hgr, ?_, fun vs ls hs _ => ⟨hs.same fun k hk => hgr.block k (hs.lt hk) (by simp), fun k e1 e2 => ?_⟩⟩
          · exact .inr ⟨g', rfl, hbg⟩
          · simp only [Value.ownBlock, Option.some.injEq] at e1
            have := hs.lt e2
            omega
end Go.Proofs.YtjgdmbfkondakaaGreatDoor
