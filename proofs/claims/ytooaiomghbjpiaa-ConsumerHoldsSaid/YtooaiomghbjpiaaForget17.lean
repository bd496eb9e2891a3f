/-
  Forget, by its contract.
-/
import Derived.Test.YtooaiomghbjpiaaFold17
namespace Go.Proofs.Ytooaiomghbjpiaa
open Go.RowKit Go.Maps Go.Sort Go.Shelf
set_option maxRecDepth 20000

theorem intInfo : ∃ i, Try.prog.info? 3 = some i ∧ i.zero = some (.int .i64 0) ∧ i.size = 1 ∧ i.bytes = 8 := by
  have h : (Try.prog.info? 3).map (fun i => (i.zero, i.size, i.bytes)) = some (some (.int .i64 0), 1, 8) := by kernel_rfl
  cases hi : Try.prog.info? 3 with
  | none => rw [hi] at h; cases h
  | some i => rw [hi] at h; injection h with h; injection h with h1 h2; injection h2 with h2 h3; exact ⟨i, rfl, h1, h2, h3⟩
/-- A desk, a row of clients, and a row of those that have gone, apart. -/
def Fg (w W : World) (p : Nat) (F0 : Nat → Prop) (u vc : Value) (cl : List Int) (L : List Se) (g : List Int) : Prop := ∃ F, Dk W p F L ∧ Moved w W F0 F ∧ Own1 W w.heap.size 3 u (icells g) ∧ Own1 W w.heap.size 3 vc (icells cl) ∧ (∀ k, u.ownBlock = some k → ¬ F k ∧ vc.ownBlock ≠ some k) ∧ ∀ k, vc.ownBlock = some k → ¬ F k
section
variable {w W : World} {p : Nat} {F0 : Nat → Prop} {u vc : Value} {cl g : List Int} {L : List Se}
theorem own_lt {base : Nat} {e : TypeId} {v : Value} {cs : List Value} (h : Own1 W base e v cs) {k : Nat} (hk : v.ownBlock = some k) : k < W.heap.size := by
  obtain ⟨_, cur, hc⟩ := own1_blk h hk
  exact (Array.getElem?_eq_some_iff.1 hc).1
theorem Fg.drop (h : Fg w W p F0 u vc cl L g) (ok : LOk L) {c : Int} (hc : I64 c) : Calls Try.prog 21 #[.pointer (some ⟨p, 0, none⟩), .int .i64 c] W fun e w' => ∃ z, e = .returned (.tuple #[z, .int .i64 (dropE L c)]) ∧ Fg w w' p F0 u vc cl (cutC L c) g := by
  obtain ⟨F, h1, h2, h3, h4, h5, h6⟩ := h
  refine (drop_any p F L c W h1 ok hc ok.sorts).mono fun _ w' ⟨z, e, _, F', hd, mv⟩ => ⟨z, e, F', hd, h2.trans mv, own1_same h3 fun k hk => mv.block k (own_lt h3 hk) (h5 k hk).1, own1_same h4 fun k hk => mv.block k (own_lt h4 hk) (h6 k hk), fun k hk => ⟨fun hf => (mv.sub k hf).elim (h5 k hk).1 (fun e => by have := own_lt h3 hk; omega), (h5 k hk).2⟩, fun k hk hf => (mv.sub k hf).elim (h6 k hk) (fun e => by have := own_lt h4 hk; omega)⟩
theorem Fg.drewN (h : Fg w W p F0 u vc cl L g) (q : Nat) : Fg w (W.drewN q) p F0 u vc cl L g := by
  obtain ⟨F, h1, h2, h3, h4, h5, h6⟩ := h
  exact ⟨F, h1.same fun _ _ => rfl, ⟨h2.os, h2.tape, h2.output, h2.size, h2.block, h2.sub⟩, own1_same h3 fun _ _ => rfl, own1_same h4 fun _ _ => rfl, h5, h6⟩
theorem Fg.push (h : Fg w W p F0 u vc cl L g) {c : Int} {v' : Value} {w2 : World} (own : w2.ownsRow w.heap.size 3 1 v' (g.length + 1) (icells g ++ [.int .i64 c])) (gr : (W.alloc (.cells #[.int .i64 c] 3)).grownBy w2 u.ownBlock) (hat : v'.ownBlock = u.ownBlock ∨ v'.ownBlock = some (W.alloc (.cells #[.int .i64 c] 3)).heap.size) : Fg w w2 p F0 v' vc cl L (g ++ [c]) := by
  obtain ⟨F, h1, h2, h3, h4, h5, h6⟩ := h
  have hk : ∀ k, k < W.heap.size → u.ownBlock ≠ some k → w2.heap[k]? = W.heap[k]? := fun k hk hn => (gr.block k (by simp; omega) (fun e => hn e.symm)).trans (Below.heap_alloc _ _ k hk)
  have hs : W.heap.size ≤ w2.heap.size := by have := gr.size; simp at this; omega
  refine ⟨F, h1.same fun k hf => hk k (h1.lts k hf) (fun e => (h5 k e).1 hf), ⟨gr.os.trans h2.os, gr.tape.trans h2.tape, gr.output.trans h2.output, Nat.le_trans h2.size hs, fun k hw hn => ?_, h2.sub⟩, ?_, own1_same h4 fun k hv => hk k (own_lt h4 hv) (fun e => (h5 k e).2 hv), fun k hv => ?_, h6⟩
  · exact (hk k (Nat.lt_of_lt_of_le hw h2.size) (fun e => by have := (own1_blk h3 e).1; omega)).trans (h2.block k hw hn)
  · unfold Own1
    rw [icells_append, List.length_append, icells_length]
    exact own
  · rcases hat with h | h
    · exact h5 k (by rw [← h]; exact hv)
    · rw [h] at hv
      simp at hv
      refine ⟨fun hf => by have := h1.lts k hf; omega, fun e => by have := own_lt h4 e; omega⟩
/-- A client's seat, by the map. -/
theorem Fg.seat (h : Fg w W p F0 u vc cl L g) (ok : LOk L) {c : Int} (hc : I64 c) {s : Se} (hs : findC L c = some s) : ∃ mb q, W.cell? ⟨p, 0, none⟩ = some (.map (some mb)) ∧ (Instr.lookup 57 (.map (some mb)) (.int .i64 c) false).run Try.prog W = .ok (.pointer (some ⟨q, 0, none⟩)) W ∧ W.cell? ⟨q, 1, none⟩ = some (.string s.q) := by
  obtain ⟨F, ⟨mb, v, X, hd, rfl, _⟩, _⟩ := h
  have hL := hd.mp.look (ccs_cl ok) hc
  rw [findX_p] at hL
  have hf := findX_s X c
  rw [hs] at hf
  cases hx : findX X c with
  | none => rw [hx] at hf; cases hf
  | some x =>
    rw [hx] at hf hL
    simp at hf
    exact ⟨mb, x.p, hd.cells.1, hL, by rw [← hf]; exact (hd.seats x (findX_some hx).1).cells.2.1⟩
end
set_option maxHeartbeats 2000000 in
theorem forget_any (p : Nat) (F : Nat → Prop) (L : List Se) (q : ByteArray) (w : World) (h : Dk w p F L) (ok : LOk L) :
    Calls Try.prog 23 #[.pointer (some ⟨p, 0, none⟩), .string q] w fun e w' => ∃ v, e = .returned v ∧ Own1 w' w.heap.size 3 v (icells (goneL L q)) ∧ ∃ F', Dk w' p F' (forgetL L q) ∧ Moved w w' F F' ∧ ∀ k, v.ownBlock = some k → ¬ F' k := by
  have hC := clients_any p F L w h ok
  have hfold := fold_all q ok
  obtain ⟨cl, hcl⟩ : ∃ z, clientsL L = z := ⟨_, rfl⟩
  have hm1 : ∀ c ∈ cl, ∃ s, findC L c = some s := fun c hc => clients_find (by rw [hcl]; exact hc)
  have hm2 : ∀ c ∈ cl, 1 ≤ c ∧ c ≤ 1000 := fun c hc => clients_i64 ok (by rw [hcl]; exact hc)
  have hnd : cl.Nodup := by rw [← hcl]; exact clientsL_nodup ok
  have hlen : cl.length ≤ 32 := by rw [← hcl, clientsL_len]; exact ok.few
  rw [hcl] at hC hfold
  have H0 : Hid (Dk w p F L ∧ LOk L ∧ foldF q cl (L, []) = (forgetL L q, goneL L q) ∧ (∀ c ∈ cl, ∃ s, findC L c = some s) ∧ (∀ c ∈ cl, 1 ≤ c ∧ c ≤ 1000) ∧ cl.Nodup ∧ cl.length ≤ 32) := ⟨h, ok, hfold, hm1, hm2, hnd, hlen⟩
  obtain ⟨i0, hi0, hz0, hz1, hz2⟩ := intInfo
  clear h ok hfold hm1 hm2 hnd hcl
  go_enter Try.func23, Try.ntmps23
  go_wp2_with fail
  refine hC.mono ?_
  rintro e w1 ⟨vc, rfl, own, b1⟩
  obtain ⟨va, cap, hv⟩ := own.row.sliceInts
  have H1 : Hid (Fg w w1 p F (.slice none 0 0) vc cl L []) := ⟨F, H0.out.1.kept b1, Moved.of_below b1, own1_nil _ _ _, own, fun k hk => (by simp [Value.ownBlock] at hk), fun k hk hf => by have := H0.out.1.lts k hf; have := (own1_blk own hk).1; omega⟩
  subst hv
  obtain ⟨n, hn⟩ : ∃ z, cl.length = z := ⟨_, rfl⟩
  rw [hn] at H1 hlen ⊢
  clear hC own b1
  go_wp2
  go_loopw [5, 7, 11] (fun u5 _ u11 wr => ∃ (k : Nat) (Lk : List Se) (g : List Int), u11 = .int .i64 (k : Int) ∧ k ≤ n ∧ Hid (Fg w wr p F u5 (.slice va n cap) cl Lk g ∧ LOk Lk ∧ foldF q (cl.drop k) (Lk, g) = foldF q cl (L, []) ∧ (∀ c ∈ cl.drop k, ∃ s, findC Lk c = some s) ∧ g.length ≤ k)) (fun _ _ u11 _ => n - (intOf u11).toNat)
  case atStart => exact ⟨0, L, [], rfl, Nat.zero_le _, H1.out, H0.out.2.1, rfl, H0.out.2.2.2.1, Nat.le_refl _⟩
  case round =>
    obtain ⟨k, Lk, g, rfl, hk, HI⟩ := hrel
    clear H1
    obtain ⟨ua, uc, hu⟩ : ∃ a c, u5 = .slice a g.length c := by
      obtain ⟨_, _, _, h, _⟩ := HI.out.1
      exact h.row.sliceInts
    obtain ⟨ng, hng⟩ : ∃ z, g.length = z := ⟨_, rfl⟩
    rw [hng] at hu
    subst hu
    by_cases hlt : k < n
    · have hlt' : (k : Int) < (n : Int) := by omega
      have hkl : k < cl.length := by omega
      obtain ⟨c, hc⟩ : ∃ c, cl[k] = c := ⟨_, rfl⟩
      have hcm : c ∈ cl := by rw [← hc]; exact List.getElem_mem hkl
      have hdr : cl.drop k = c :: cl.drop (k + 1) := by rw [List.drop_eq_getElem_cons hkl, hc]
      obtain ⟨s, hs⟩ := HI.out.2.2.2.1 c (by rw [hdr]; exact List.mem_cons_self)
      have hcb := H0.out.2.2.2.2.1 c hcm
      have hci : I64 c := ⟨by omega, by omega⟩
      obtain ⟨mb, sq, s0, s1, s2⟩ := HI.out.1.seat HI.out.2.1 hci hs
      obtain ⟨b, off, cap', hv, hc1, hc2, hcs⟩ := (show Row wr (.slice va n cap) (icells cl) from by obtain ⟨_, _, _, _, h, _⟩ := HI.out.1; exact h.row).atInts (by omega)
      have hcc : wr.cell? ⟨b, off + k, none⟩ = some (.int .i64 c) := by rw [hcs k hkl, hc]
      rw [hn] at hv hc1
      injection hv with hv1 _ hv2
      subst hv1 hv2
      have hne : ∀ x ∈ cl.drop (k + 1), x ≠ c := fun x hx e => by
        have h9 : (cl.drop k).Nodup := H0.out.2.2.2.2.2.1.sublist (List.drop_sublist k cl)
        rw [hdr] at h9
        exact (List.nodup_cons.1 h9).1 (e ▸ hx)
      have hst : foldF q (cl.drop (k + 1)) (stepF q (Lk, g) c) = foldF q cl (L, []) := by rw [← HI.out.2.2.1, hdr]; rfl
      have hany : (findC Lk c).any (wantB q) = wantB q s := by rw [hs]; rfl
      have hW : (s.q.toList == q.toList) = wantB q s := txt_dec _ _
      have HD := HI.out.1.drop HI.out.2.1 hci
      have HS : Hid (∀ x ∈ cl.drop (k + 1), ∃ s, findC (stepF q (Lk, g) c).1 x = some s) := fun x hx => by rw [stepF_find (hne x hx)]; exact HI.out.2.2.2.1 x (by rw [hdr]; exact List.mem_cons_of_mem _ hx)
      have HT : Hid (foldF q (cl.drop (k + 1)) (stepF q (Lk, g) c) = foldF q cl (L, []) ∧ LOk (stepF q (Lk, g) c).1 ∧ stepF q (Lk, g) c = if wantB q s then (cutC Lk c, g ++ [c]) else (Lk, g)) := ⟨hst, HI.out.2.1.step q c, by unfold stepF; rw [hany]⟩
      have HG : Hid (g.length = ng ∧ g.length ≤ k) := ⟨hng, HI.out.2.2.2.2⟩
      clear hcm hdr hs hcb hst hany hne hc hcs hng
      generalize wantB q s = B at *
      cases B with
      | false =>
        go_wp2
        go_roundw
        case rel =>
          have e := HT.out.2.2
          rw [if_neg (by simp)] at e
          rw [e] at HT HS
          exact ⟨k + 1, Lk, g, by go_num, by omega, HI.out.1, HI.out.2.1, HT.out.1, HS.out, by have := HG.out.2; omega⟩
        case measure => simp [intOf]; omega
      | true =>
        go_wp2_with fail
        refine HD.mono ?_
        rintro e w2 ⟨z, rfl, hf⟩
        have HF : Hid (Fg w w2 p F (.slice ua ng uc) (.slice (some ⟨b, off, none⟩) n cap) cl (cutC Lk c) g) := hf
        have hal : w2.ownsRow w.heap.size 3 1 (.slice ua ng uc) ng (icells g) := by
          obtain ⟨_, _, _, h3, _⟩ := hf
          have := h3
          unfold Own1 at this
          rw [icells_length, HG.out.1] at this
          exact this
        have hbw : w.heap.size ≤ w2.heap.size := by obtain ⟨_, _, h, _⟩ := hf; exact h.size
        have hal2 := hal.alloc (.cells #[.int .i64 c] 3)
        clear HD hf hal
        go_wp2_with (at_builtin; refine wpList_append_own_at _ rfl _ _ 36 rfl w.heap.size 3 i0 (.int .i64 0) 1 8 Try.underlying36 hi0 hz0 hz1 hz2 rfl (by decide) _ _ (icells g) rfl hal2 ⟨w2.heap.size, 0, none⟩ 1 1 [.int .i64 c] rfl rfl (cell_one_new _ _ _) (by simp [Value.oneCell']) (by have := HG.out; unfold maxLen; omega) (by have := HG.out; omega) (by simp; omega) ?_; intro v5 w6 own6 gr6 _ at6)
        go_roundw
        case rel =>
          have e := HT.out.2.2
          rw [if_pos trivial] at e
          rw [e] at HT HS
          exact ⟨k + 1, cutC Lk c, g ++ [c], by go_num, by omega, HF.out.push (by rw [HG.out.1]; exact own6) gr6 at6, HT.out.2.1, HT.out.1, HS.out, by have := HG.out.2; simp; omega⟩
        case measure => simp [intOf]; omega
    · have hlt' : ¬ (k : Int) < (n : Int) := by omega
      have HE : Hid (Lk = forgetL L q ∧ g = goneL L q) := by
        have h9 := HI.out.2.2.1
        rw [List.drop_eq_nil_of_le (by omega), H0.out.2.2.1] at h9
        injection h9 with h1 h2
        exact ⟨h1, h2⟩
      go_wp2
      go_ret
      obtain ⟨e1, e2⟩ := HE.out
      obtain ⟨F', h1, h2, h3, h4, h5, h6⟩ := HI.out.1
      rw [e1] at h1
      rw [e2] at h3
      exact ⟨_, rfl, h3, F', h1, h2, fun k hk => (h5 k hk).1⟩
theorem Lv.forget {w0 W : World} {p : Nat} {L : List Se} (h : Lv w0 W p L) (q : ByteArray) : Calls Try.prog 23 #[.pointer (some ⟨p, 0, none⟩), .string q] W fun e w' => ∃ v, e = .returned v ∧ Own1 w' W.heap.size 3 v (icells (goneL L q)) ∧ Lv w0 w' p (forgetL L q) := by
  obtain ⟨F, h1, h2, h3, h4⟩ := h
  exact (forget_any p F L q W h1 h2).mono fun _ _ ⟨v, e, o, F', hd, mv, _⟩ => ⟨v, e, o, Lv.to h4 h3 hd mv (h2.forget q)⟩
end Go.Proofs.Ytooaiomghbjpiaa
