import Derived.Test.YtjagaankkcbjmaaGreatDoorQrA
import Derived.Test.YtjagaankkcbjmaaGreatDoorQr28
import Derived.Test.YtjagaankkcbjmaaGreatDoorQr30
set_option maxHeartbeats 2000000
set_option maxRecDepth 20000
namespace Go.Proofs.YtjagaankkcbjmaaGreatDoor
open Go.RowKit
theorem zero6 : ∀ k : Nat,(((mv zM).cells)[k % ((mv zM).cells).size]!).oneCell' = true := by
 intro k
 have hk : k % 6 < 6 := Nat.mod_lt _ (by decide)
 show (#[Value.int .i64 0,.int .u64 0,.int .i64 0,.string ⟨#[]⟩,.string ⟨#[]⟩,.string ⟨#[]⟩][k % 6]!).oneCell' = true
 generalize k % 6 = j at hk
 have : j = 0 \/ j = 1 \/ j = 2 \/ j = 3 \/ j = 4 \/ j = 5 := by omega
 rcases this with rfl | rfl | rfl | rfl | rfl | rfl <;> rfl
theorem deleteM_row (g c nx nt N : Nat) (x t : List Ms) (T : List Value) (w : World) (hnx : x.length = nx) (hnt : t.length = nt) (hN : nx + nt = N) (hx1 : 1 <= nx) (hg : w.heap[g]? = some (.cells (K.cellsOf mcells (x ++ t) ++ T).toArray 40 (0,0))) (hc : N <= c) (hcm : c <= maxLen) (hT : T.length = c * 6 - N * 6) :
  Calls Tryz.prog 189 #[.slice (some ⟨g,0,none⟩) N c,.int .i64 0,.int .i64 (nx : Int)] w fun e w' =>
   e = .returned (.slice (some ⟨g,0,none⟩) nt c) /\ K.Only g w w' /\ ∃ T',w'.heap[g]? = some (.cells (K.cellsOf mcells t ++ T').toArray 40 (0,0)) /\ T'.length = c * 6 - nt * 6 := by
 obtain ⟨i0,hi0,hz0,hzs,hzb⟩ := msgInfo
 have hc63 : c <= 9223372036854775807 := by unfold maxLen at hcm; omega
 have hlt : (K.cellsOf mcells t).length = nt * 6 := by rw [K.cellsOf_length (enc := mcells) (K := 6) t,hnt]
 have hlx : (K.cellsOf mcells x).length = nx * 6 := by rw [K.cellsOf_length (enc := mcells) (K := 6) x,hnx]
 have hap : K.cellsOf mcells (x ++ t) = K.cellsOf mcells x ++ K.cellsOf mcells t := K.cellsOf_append _ _
 have S1 : Hid (∀ j v,(K.cellsOf mcells t)[j]? = some v -> w.cell? ((⟨g,nx * 6,none⟩ : Addr).add j) = some v) := fun j v hj => by
  rw [Addr.add_lit,K.cell_of_list hg,hap,List.append_assoc,List.getElem?_append_right (by omega),hlx,Nat.add_sub_cancel_left,List.getElem?_append_left (List.getElem?_eq_some_iff.1 hj).1]
  exact hj
 obtain ⟨cur,hcur⟩ : ∃ z,K.cellsOf mcells (x ++ t) ++ T = z := ⟨_,rfl⟩
 rw [hcur] at hg
 have hlen : cur.length = c * 6 := by rw [<- hcur,hap,List.length_append,List.length_append,hlx,hlt,hT]; omega
 have HG : Hid (w.heap[g]? = some (.cells cur.toArray 40 (0,0)) /\ cur.length = c * 6 /\ (K.cellsOf mcells t).length = nt * 6) := ⟨hg,hlen,hlt⟩
 have HS : Hid (splice cur (0 * 6) (K.cellsOf mcells t) = K.cellsOf mcells t ++ cur.drop (nt * 6)) := by
  show splice _ _ _ = _
  unfold splice
  rw [Nat.zero_mul,List.take_zero,hlt]; simp
 have HL : Hid (nx + nt = N /\ 1 <= nx /\ N <= c /\ c <= 9223372036854775807 /\ (t.length = nt) /\ (∀ z,t.length = 0 -> K.cellsOf mcells t ++ z = z)) := ⟨hN,hx1,hc,hc63,hnt,fun z h => by rw [List.eq_nil_of_length_eq_zero h]; rfl⟩
 have a1 : (nx : Int) <= (N : Int) := by omega
 have a2 : (N : Int) <= (c : Int) := by omega
 have a3 : ((0 : Int) == (nx : Int)) = false := by rw [beq_eq_false_iff_ne]; omega
 have a4 : ¬ ((0 : Int) = (nx : Int)) := by omega
 have a5 : nx <= N := by omega
 have a6 : nx <= c := by omega
 have a7 : N - nx = nt := by omega
 have a8 : nt <= N := by omega
 have a9 : (nt : Int) <= (N : Int) := by omega
 have a10 : ¬ (c = nt) := by omega
 have a11 : (nx : Int) <= (c : Int) := by omega
 have a12 : N <= c := hc
 clear hg hT hlx hlt hap hcur hlen hnx
 go_enter Tryz.func189,Tryz.ntmps189
 by_cases h1 : c = nx
 ·obtain rfl : nt = 0 := by omega
  obtain rfl : N = nx := by omega
  subst h1
  go_wp2
  go_region_law (refine K.step_appendK_room rfl (.tmp 22) (.tmp 25) 67 rfl 40 i0 Tryz.underlying67 hi0 hzs g 0 c (by simp [Act.eval,Act.put]) cur HG.out.1 ⟨g,0,none⟩ 0 0 (by simp [Act.eval,Act.put]) [] rfl (fun j v hj => by simp at hj) (by simp) (by omega) (by rw [HG.out.2.1]; simp) ?_; intro w1 HG1 only1)
  go_wp2_with (refine K.wpList_clearK (K := 6) rfl (.tmp 31) 67 rfl 40 Tryz.underlying67 _ Tryz.zeroValue40 rfl zero6 (some ⟨g,0,none⟩) c c rfl g 0 _ 40 HG1.out (fun _ => rfl) (by rw [length_splice _ _ _ (by rw [HG.out.2.1]; simp),HG.out.2.1]; omega) ?_; intro w2 zs hzs2 HG2 only2)
  go_ret
  refine ⟨rfl,(show K.Only g w w1 from ⟨only1.os,only1.tape,only1.output,only1.size,only1.block⟩).trans only2,_,by rw [HL.out.2.2.2.2.2 _ HL.out.2.2.2.2.1]; exact HG2.out,?_⟩
  rw [length_splice _ _ _ (by rw [length_splice _ _ _ (by rw [HG.out.2.1]; simp),HG.out.2.1,hzs2]; omega),length_splice _ _ _ (by rw [HG.out.2.1]; simp),HG.out.2.1]
  omega
 ·have h2 : ¬ (c - nx = 0) := by omega
  go_wp2
  go_region_law (refine K.step_appendK_room rfl (.tmp 22) (.tmp 25) 67 rfl 40 i0 Tryz.underlying67 hi0 hzs g 0 c (by simp [Act.eval,Act.put]) cur HG.out.1 ⟨g,nx * 6,none⟩ nt (c - nx) (by simp [Act.eval,Act.put]) (K.cellsOf mcells t) HG.out.2.2 S1.out (K.cellsOf_one _) (by omega) (by rw [HG.out.2.1,HG.out.2.2]; omega) ?_; intro w1 HG1 only1)
  rw [HS.out] at HG1
  go_wp2_with (refine K.wpList_clearK (K := 6) rfl (.tmp 31) 67 rfl 40 Tryz.underlying67 _ Tryz.zeroValue40 rfl zero6 (some ⟨g,nt * 6,none⟩) (N - nt) (c - nt) (by simp [Act.eval]) g (nt * 6) _ 40 HG1.out (fun _ => rfl) (by rw [List.length_append,List.length_drop,HG.out.2.1,HG.out.2.2]; omega) ?_; intro w2 zs hzs2 HG2 only2)
  go_ret
  refine ⟨rfl,(show K.Only g w w1 from ⟨only1.os,only1.tape,only1.output,only1.size,only1.block⟩).trans only2,zs ++ (cur.drop (nt * 6)).drop zs.length,?_,?_⟩
  ·rw [HG2.out,K.splice_in _ (K.cellsOf mcells t) _ zs 0 (nt * 6) rfl (by rw [HG.out.2.2]; omega)]
   simp
  ·rw [List.length_append,List.length_drop,List.length_drop,hzs2,HG.out.2.1]; omega
theorem deleteM_any (base : Nat) (v : Value) (x t : List Ms) (w : World) (hown : OwnM w base v (x ++ t)) (hx : 1 <= x.length) :
  Calls Tryz.prog 189 #[v,.int .i64 0,.int .i64 (x.length : Int)] w fun e w' =>
   ∃ v',e = .returned v' /\ OwnM w' base v' t /\ w.grownBy w' v.ownBlock /\ v'.ownBlock = v.ownBlock := by
 rcases K.OwnOf.split hown with ⟨_,h⟩ | ⟨g,c,T,rfl,hbg,hg,h1,h2,hT⟩
 ·have := congrArg List.length h
  rw [List.length_append,List.length_nil] at this
  omega
 ·rw [List.length_append] at h1 hT ⊢
  refine (deleteM_row g c x.length t.length (x.length + t.length) x t T w rfl rfl rfl hx hg h1 h2 hT).mono ?_
  rintro e w' ⟨rfl,only,T',hg',hT'⟩
  exact ⟨_,rfl,K.ownOf_mk hbg hg' rfl (by omega) h2 hT',only.grown,rfl⟩
end Go.Proofs.YtjagaankkcbjmaaGreatDoor
namespace Go.Proofs.YtjagaankkcbjmaaGreatDoor
open Go.RowKit Go.Sort
theorem ixI_any (v : Value) (l : List Int) (t : Int) (w : World) (hr : Row w v (icells l)) :
  Calls Tryz.prog 273 #[v,.int .i64 t] w fun e w' => ∃ z : Int,e = .returned (.int .i64 z) /\ (0 <= z ↔ l.any (fun x => decide (t = x)) = true) /\ ∃ k,w' = w.drewN k := by
 obtain ⟨a,cap,hv⟩ := hr.slice
 rw [icells_length] at hv
 subst hv
 obtain ⟨n,hn⟩ : ∃ z,l.length = z := ⟨_,rfl⟩
 rw [hn] at hr ⊢
 have H0 : Hid (Row w (.slice a n cap) (icells l) /\ l.length = n) := ⟨hr,hn⟩
 obtain ⟨r,hR⟩ : ∃ r,l.any (fun x => decide (t = x)) = r := ⟨_,rfl⟩
 rw [hR]
 have HR : Hid (l.any (fun x => decide (t = x)) = r) := hR
 clear hr hn hR
 go_enter Tryz.func273,Tryz.ntmps273
 go_wp2
 go_loopg [5,8] n (fun g u5 u8 wr => ∃ i : Nat,u8 = .int .i64 (i : Int) /\ i <= n /\ g = n - i /\ Hid ((l.take i).any (fun x => decide (t = x)) = false) /\ ∃ k,wr = w.drewN k)
 case atStart => exact ⟨0,rfl,Nat.zero_le _,rfl,rfl,0,rfl⟩
 case round =>
  obtain ⟨i,rfl,hi,rfl,HI,k,rfl⟩ := hrel
  by_cases hlt : i < n
  ·have hlt' : (i : Int) < (n : Int) := by omega
   have hil : i < l.length := by rw [H0.out.2]; exact hlt
   obtain ⟨x,hx⟩ : ∃ x,l[i] = x := ⟨_,rfl⟩
   obtain ⟨b,off,cap',hv,hc1,hc2,hcs⟩ := H0.out.1.at (by rw [icells_length]; omega)
   have hc : w.cell? ⟨b,off + i,none⟩ = some (.int .i64 x) := by
    rw [hcs i (by rw [icells_length]; exact hil),<- hx]
    simp [icells]
   rw [icells_length,H0.out.2] at hv hc1
   injection hv with hv1 _ hv2
   subst hv1 hv2
   have hi7 : i < 9223372036854775807 := by unfold maxLen at hc2; omega
   have HX : Hid ((l.take (i + 1)).any (fun x => decide (t = x)) = decide (t = x) /\ i < 9223372036854775807) := ⟨by rw [List.take_succ_eq_append_getElem hil,List.any_append,HI.out,hx]; simp,hi7⟩
   clear hx hcs hc1 hc2 hi7
   by_cases he : t = x
   ·rw [decide_eq_true he] at HX
    go_wp2
    go_ret
    obtain rfl : true = r := (any_take HX.out.1).symm.trans HR.out
    exact ⟨_,rfl,⟨fun _ => rfl,fun _ => by omega⟩,_,rfl⟩
   ·rw [decide_eq_false he] at HX
    go_wp2
    go_roundg (n - (i + 1))
    case measure => omega
    case rel => exact ⟨i + 1,congrArg (Value.int IntKind.i64) (by have := HX.out; unfold wrap64; omega),by omega,rfl,HX.out.1,_,rfl⟩
  ·have hlt' : ¬ (i : Int) < (n : Int) := by omega
   obtain rfl : i = n := by omega
   have HF : Hid (l.any (fun x => decide (t = x)) = false) := by
    have := HI.out
    rw [List.take_of_length_le (by rw [H0.out.2]; exact yyH _)] at this
    exact this
   obtain rfl : false = r := HF.out.symm.trans HR.out
   go_wp2
   go_ret
   exact ⟨_,rfl,by simp,_,rfl⟩
theorem coI_any (v : Value) (l : List Int) (t : Int) (w : World) (hr : Row w v (icells l)) :
  Calls Tryz.prog 228 #[v,.int .i64 t] w fun e w' => e = .returned (.bool (l.any (fun x => decide (t = x)))) /\ ∃ k,w' = w.drewN k := by
 have hI := ixI_any v l t w hr
 obtain ⟨a,cap,hv⟩ := hr.slice
 rw [icells_length] at hv
 subst hv
 generalize l.any (fun x => decide (t = x)) = r at hI ⊢
 generalize l.length = n at hI ⊢
 clear hr
 go_enter Tryz.func228,Tryz.ntmps228
 go_wp2_with fail
 refine hI.mono ?_
 rintro e w2 ⟨z,rfl,hz,k,rfl⟩
 clear hI
 cases r
 ·have hz' : ¬ 0 <= z := fun h => absurd (hz.1 h) (by decide)
  clear hz
  go_wp2
  go_ret
  exact ⟨by simp [hz'],k,rfl⟩
 ·have hz' : 0 <= z := hz.2 rfl
  clear hz
  go_wp2
  go_ret
  exact ⟨by simp,k,rfl⟩
def leadsM (s : Sm) (t : Int) : Bool := (O.nextT s.S s.E s.H s.site).any (fun x => decide (t = x))
theorem leads14_any (p : Nat) (G : Nat -> Prop) (s : Sm) (t : Int) (w : World) (h : SS w p G s) :
  Calls Tryz.prog 150 #[.pointer (some ⟨p,0,none⟩),.int .i64 t] w fun e w' => e = .returned (.bool (leadsM s t)) /\ Below w.heap.size w w' := by
 have hW := h.kept (drew_below w)
 obtain ⟨ft,d,hs',hF⟩ := hW
 have hD := O.next_any s.S s.H s.site d.ev s.E w.drew hs'.edges.rng
 obtain ⟨c0,c1,c2,c3,c4,c5,c6,c7,c8,c9⟩ := cells10 hs'.blk
 obtain ⟨ea,ec,hev⟩ := hs'.edges.rng.slice
 obtain ⟨n,hn⟩ : ∃ z,s.E.length = z := ⟨_,rfl⟩
 rw [hn] at hev
 rw [hev] at hD c2
 have k0 : w.cell? ⟨p,0,none⟩ = some (.int .i64 s.site) := c0
 have k1 : w.cell? ⟨p,1,none⟩ = some (.int .i64 s.S) := c1
 have k2 : w.cell? ⟨p,2,none⟩ = some (.slice ea n ec) := c2
 have k3 : w.cell? ⟨p,3,none⟩ = some (.int .i64 s.H) := c3
 have HK : Hid (∀ V,Below w.drew.heap.size w.drew V -> V.cell? ⟨p,0,none⟩ = some (.int .i64 s.site) /\ V.cell? ⟨p,1,none⟩ = some (.int .i64 s.S) /\ V.cell? ⟨p,2,none⟩ = some (.slice ea n ec) /\ V.cell? ⟨p,3,none⟩ = some (.int .i64 s.H)) := fun V b => ⟨cell_on b k0,cell_on b k1,cell_on b k2,cell_on b k3⟩
 unfold leadsM
 obtain ⟨L,hL⟩ : ∃ z,O.nextT s.S s.E s.H s.site = z := ⟨_,rfl⟩
 rw [hL] at hD ⊢
 obtain ⟨R,hR⟩ : ∃ z,L.any (fun x => decide (t = x)) = z := ⟨_,rfl⟩
 have HC : Hid (∀ V v,Row V v (icells L) -> Calls Tryz.prog 228 #[v,.int .i64 t] V fun e w' => e = .returned (.bool R) /\ ∃ k,w' = V.drewN k) := fun V v hr => by have := coI_any v L t V hr; rw [hR] at this; exact this
 rw [hR]
 clear hs' hF c0 c1 c2 c3 c4 c5 c6 c7 c8 c9 h hev hn hL hR
 go_enter Tryz.func150,Tryz.ntmps150
 go_wp2
 (go_region_held3 (fun w' => w'.cell? ⟨p,0,none⟩ = some (.int .i64 s.site) /\ w'.cell? ⟨p,1,none⟩ = some (.int .i64 s.S) /\ w'.cell? ⟨p,2,none⟩ = some (.slice ea n ec) /\ w'.cell? ⟨p,3,none⟩ = some (.int .i64 s.H)) (first | exact ⟨k0,k1,k2,k3⟩ | go_keep) (first
  |(go_at_call 78; refine hD.mono ?_; rintro e w2 ⟨v2,rfl,r2,b2⟩; have H2 : Hid (O.RowI w2 w.drew.heap.size v2 L /\ Below w.drew.heap.size w.drew w2) := ⟨r2,b2⟩; obtain ⟨f0,f1,f2,f3⟩ := HK.out w2 b2; clear r2 b2 hD)
  |(go_at_call 228; refine (HC.out _ _ H2.out.1.row).mono ?_; rintro e w3 ⟨rfl,k,rfl⟩)))
 all_goals go_wp2
 all_goals go_ret
 all_goals exact ⟨rfl,keptW (keptW (drew_below w) H2.out.2) (drewN_below _ _)⟩
end Go.Proofs.YtjagaankkcbjmaaGreatDoor
