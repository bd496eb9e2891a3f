/-
  THE DOCUMENT's Read, by its contract.
-/
import Derived.Test.YtndinjekocgjhaaRFile
namespace Go.Proofs.Ytndinjekocgjhaa
open Go.RowKit

/-- 'append', by its run. -/
theorem wpList_append_run {w : World} {ops : Array Oper} {rest : List Oper} {o : Oper} {a : Act} {Q : Exit → Act → World → Prop} (hgd : o.guard = none) (s x : Operand) (ts : Array TypeId)
    (ho : o.op = .call { callee := .builtin .append, args := #[s, x], argTypes := ts }) (v src : Value) (hs : a.eval s = v) (hx : a.eval x = src) (v' : Value) (w' : World) (hr : (Builtin.append_ ts o.type #[v, src]).run Try.prog w = .ok v' w') (h : wpList Try.prog ops Q rest (a.put o.dst v') w') : wpList Try.prog ops Q (o :: rest) a w := by
  refine wpList_plain hgd fun _ hK => ?_
  unfold Oper.wp execOp
  simp only [ho, resolve, invoke, builtin, Sem.run_bind, Sem.run_pure, Result.andThen_ok, List.map_toArray, List.map_cons, List.map_nil, hs, hx, hr]
  exact hK _ _ h
section
variable {w : World} {p : Nat} {A D S : Value} {L : List Rf} {kp : Int} {m : M}
set_option maxRecDepth 20000 in
set_option maxHeartbeats 2000000 in
theorem rread_at (h : RAt w p A D S L kp m) (ok : m.Ok) (n : ByteArray) (hs : n.size ≤ maxLen) :
    Calls Try.prog 37 #[.pointer (some ⟨p, 0, none⟩), .string n] w fun e w' => ∃ v, e = .returned (.tuple #[v, .int .i64 (m.read n).2]) ∧ Holds w' v (m.read n).1 ∧ Below w.heap.size w w' := by
  have hF := rfirst_at h n true hs
  by_cases hf : m.first n true = 0
  · have hR : m.read n = ((m.fl (m.place n)).now, 0) := by unfold M.read; rw [if_neg (by simp [hf])]
    rw [hR]
    rw [hf] at hF
    have H : Hid (RAt w p A D S L kp m) := h
    have HFile : Hid (∀ V, Below w.heap.size w V → Calls Try.prog 63 #[.pointer (some ⟨p, 0, none⟩), .string n] V fun e w' => ∃ g na nc, e = .returned (.pointer (some ⟨g, m.place n * 2, none⟩)) ∧ Below V.heap.size V w' ∧ w'.cell? ⟨g, m.place n * 2, none⟩ = some (.slice na (m.fl (m.place n)).now.length nc) ∧ Holds w' (.slice na (m.fl (m.place n)).now.length nc) (m.fl (m.place n)).now) := fun V bV => by
      refine (rfile_at (h.kept bV) ok n hf).mono ?_
      rintro e w' ⟨g, hg, hlt, rfl, b⟩
      have h' := (h.kept bV).kept b
      have hb := h'.now _ hlt
      have hr := h'.all.rng
      obtain ⟨aa, ac, hv⟩ := hr.slice
      subst hv
      obtain ⟨_, _, hat⟩ := rfs_at hr
      obtain ⟨b2, off, rfl, g0, _⟩ := hat _ hlt
      have e1 : b2 = g := by simpa [Value.ownBlock] using hg
      have e2 : off = 0 := by
        rcases h'.all.2 with ⟨hv, _⟩ | ⟨g', cap, cur, hv, _⟩
        · cases hv
        · injection hv with hv _ _
          injection hv with hv
          injection hv with _ hv _
      subst e1 e2
      have e3 := buf_len hb
      rw [Nat.zero_add, e3] at g0
      have hh := hb.holds
      unfold Rf.now at hh
      rw [e3] at hh
      exact ⟨_, _, _, rfl, b, g0, hh⟩
    have hfl := (ok.fl (m.place n)).1
    generalize (m.fl (m.place n)).now = bs at *
    generalize m.place n = q at *
    clear h hf hR
    go_enter Try.func37, Try.ntmps37
    go_wp2_with fail
    refine hF.mono ?_
    rintro e w1 ⟨rfl, b1⟩
    clear hF
    go_wp2_with fail
    refine (HFile.out _ (b1.alloc b1.size _)).mono ?_
    rintro e w2 ⟨g, na, nc, rfl, b2, g0, hh⟩
    have e0 : Buf w2 (.slice (some ⟨w1.heap.size, 0, none⟩) 0 0) [] := by
      refine .inr ⟨w1.heap.size, 0, #[], rfl, ?_, Nat.le_refl _, Nat.zero_le _, Nat.le_refl _, rfl⟩
      rw [b2.block w1.heap.size (by simp)]
      exact heap_alloc_new w1 _
    obtain ⟨x1, u1, hap1, bf1, gr1, lc1, _⟩ := run_append_buf 29 e0 hh (by simp; omega)
    have bA : Below w.heap.size w w2 := keptW (b1.alloc b1.size _) b2
    have HB : Hid (Below w.heap.size w u1) := bA.grown gr1 bA.size (fun k hk => by have := b1.size; simp [Value.ownBlock] at hk; omega)
    obtain ⟨xa, xc, hxv⟩ := bf1.slice
    have HH : Hid (Holds u1 x1 bs) := bf1.holds
    rw [hxv] at hap1 HH
    clear hh e0 bf1 gr1 lc1 b1 b2 bA hxv
    go_wp2_with (at_builtin; refine wpList_append_run rfl (.tmp 13) (.tmp 19) #[29, 29] rfl (.slice (some ⟨w1.heap.size, 0, none⟩) 0 0) (.slice na bs.length nc) rfl rfl (.slice xa ([] ++ bs).length xc) u1 hap1 ?_)
    go_ret2
    exact ⟨_, rfl, HH.out, HB.out⟩
  · have hR : m.read n = ([], m.first n true) := by unfold M.read; rw [if_pos hf]
    rw [hR]
    clear h
    generalize m.first n true = z at *
    go_enter Try.func37, Try.ntmps37
    go_wp2_with (go_at_call 59; refine hF.mono ?_; rintro e w1 ⟨rfl, b1⟩)
    go_ret2
    exact ⟨_, rfl, .inl ⟨rfl, rfl⟩, b1⟩
end
end Go.Proofs.Ytndinjekocgjhaa
