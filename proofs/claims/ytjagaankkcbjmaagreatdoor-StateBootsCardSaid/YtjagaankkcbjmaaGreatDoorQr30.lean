import Derived.Shelf.SlicesE.DeleteFunc
import Derived.Test.YtjagaankkcbjmaaGreatDoorProg
import Derived.Test.YtjagaankkcbjmaaGreatDoorQr29
import Derived.Test.YtjagaankkcbjmaaGreatDoorQr20
import Derived.Test.YtjagaankkcbjmaaGreatDoorQr23
import Derived.Test.YtjagaankkcbjmaaGreatDoorQr28
set_option maxHeartbeats 1000000
set_option maxRecDepth 20000
namespace Go.Proofs
open Go.Shelf
def Tryz.delS_ren : Go.Shelf.Ren := ⟨fun | 10 => 106 | 6 => 191 | n => n,fun | 22 => 43 | 23 => 9 | 25 => 161 | 3 => 3 | 4 => 4 | 0 => 0 | n => n,fun | n => n⟩
theorem Tryz.delS : Go.Proofs.SlLaysH.n10 Tryz.prog Tryz.delS_ren := {
 mixed := by kernel_rfl
 f6 := ⟨Tryz.f191.name,by decide,Tryz.func191.trans (congrArg some (by kernel_rfl))⟩
 f10 := ⟨Tryz.f106.name,by decide,Tryz.func106.trans (congrArg some (by kernel_rfl))⟩
 t0 := Tryz.underlying0
 a0 := Tryz.isAgg0
 z0 := Tryz.sizeOf0
 v0 := Tryz.zeroValue0
 t3 := Tryz.underlying3
 a3 := Tryz.isAgg3
 z3 := Tryz.sizeOf3
 v3 := Tryz.zeroValue3
 t4 := Tryz.underlying4
 a4 := Tryz.isAgg4
 z4 := Tryz.sizeOf4
 v4 := Tryz.zeroValue4
 t22 := Tryz.underlying43
 a22 := Tryz.isAgg43
 z22 := Tryz.sizeOf43
 v22 := Tryz.zeroValue43
 a23 := Tryz.isAgg9
 z23 := Tryz.sizeOf9
 t25 := Tryz.underlying161
 a25 := Tryz.isAgg161
 z25 := Tryz.sizeOf161
 v25 := Tryz.zeroValue161 }
end Go.Proofs
namespace Go.Proofs.YtjagaankkcbjmaaGreatDoor
open Go.RowKit Go.Sort Go.Shelf
def goneQ (s : Sm) (n : ByteArray) : Bool := (findQ s.qs n).isNone
def intoM (s : Sm) (m : Ms) : List ByteArray := (B.queuesT s.tb m.ex m.key).filter fun n => !goneQ s n
theorem into1_any (g p : Nat) (G : Nat -> Prop) (s : Sm) (n : ByteArray) (W : World) (h : SS W p G s) (fit : s.Fit) (hn : n.size <= maxLen) (hc : W.cell? ⟨g,0,none⟩ = some (.pointer (some ⟨p,0,none⟩))) :
  FnGives Tryz.prog 108 #[.pointer (some ⟨g,0,none⟩)] #[.string n] (.bool (goneQ s n)) W := by
 obtain ⟨ft,d,hs,_⟩ := h
 have c7 := (cells10 hs.blk).2.2.2.2.2.2.2.1
 have hl := hs.qmap.look (hs.dl fit) hn
 rcases hs.queueAt fit n with ⟨q1,q2⟩ | ⟨q',b,q1,q2,q3,q4⟩
 ·rw [q2] at hl
  replace hl : (Instr.lookup 92 (.map (some d.qm)) (.string n) false).run Tryz.prog W = .ok (.pointer none) W := hl
  rw [show goneQ s n = true by unfold goneQ; rw [q1]; rfl]
  clear hs q1 q2
  show Calls Tryz.prog 108 #[.string n,.pointer (some ⟨g,0,none⟩)] W _
  go_enter Tryz.func108,Tryz.ntmps108
  go_wp2
  all_goals (go_ret; exact ⟨rfl,0,rfl⟩)
 ·rw [q2] at hl
  replace hl : (Instr.lookup 92 (.map (some d.qm)) (.string n) false).run Tryz.prog W = .ok (.pointer (some ⟨b,0,none⟩)) W := hl
  rw [show goneQ s n = false by unfold goneQ; rw [q1]; rfl]
  clear hs q1 q2 q3 q4
  show Calls Tryz.prog 108 #[.string n,.pointer (some ⟨g,0,none⟩)] W _
  go_enter Tryz.func108,Tryz.ntmps108
  go_wp2
  all_goals (go_ret; exact ⟨rfl,0,rfl⟩)
abbrev Sn := { n : ByteArray // n.size <= maxLen }
instance : Inhabited Sn := ⟨⟨⟨#[]⟩,Nat.zero_le _⟩⟩
def encN (x : Sn) : Value := .string x.1
def Newer (base : Nat) (v : Value) (n : Nat) : Prop := n = 0 \/ ∃ g cap,v = .slice (some ⟨g,0,none⟩) n cap /\ base <= g
theorem Newer.mono {b c n : Nat} {v : Value} (h : Newer b v n) (hc : c <= b) : Newer c v n := h.imp id fun ⟨g,cap,h1,h2⟩ => ⟨g,cap,h1,Nat.le_trans hc h2⟩
theorem below_putRowG {α : Type} [Inhabited α] (enc : α -> Value) (w : World) (n g off B : Nat) (d : Array α) (os : Array Obj) (hB : B <= g) (hs : B <= w.heap.size) : Below B w (grow (putRow enc (Sort.ahead w n) g off d) os) := by
 refine ⟨rfl,rfl,rfl,?_,fun k hk => ?_⟩
 ·show w.heap.size <= ((putRow enc (Sort.ahead w n) g off d).heap ++ os).size
  rw [Array.size_append,size_putRow]; exact Nat.le_add_right _ _
 ·rw [heap_grow_old _ _ (by rw [size_putRow]; show k < w.heap.size; omega)]
  simp only [putRow,mapBlock,Array.getElem?_modify]
  rw [if_neg (by omega)]
  rfl
theorem lift_list {l : List ByteArray} (h : ∀ n ∈ l,n.size <= maxLen) : ∃ k : List Sn,k.map Subtype.val = l := by
 induction l with
 |nil => exact ⟨[],rfl⟩
 |cons a t ih =>
  obtain ⟨k,hk⟩ := ih fun n hn => h n (List.mem_cons_of_mem _ hn)
  exact ⟨⟨a,h a List.mem_cons_self⟩ :: k,by simp [hk]⟩
theorem filter_lift {k : List Sn} (p : ByteArray -> Bool) : (k.filter fun x => p x.1).map Subtype.val = (k.map Subtype.val).filter p := by
 rw [List.filter_map]
 rfl
theorem delS_any (w : World) (base : Nat) (v : Value) (l : List ByteArray) (g p : Nat) (G : Nat -> Prop) (s : Sm) (hr : B.NewS w base v l) (hbs : base <= w.heap.size) (hS : SS w p G s) (fit : s.Fit) (hg : g < base) (hG : ∀ k,G k -> k < base) (hc : w.cell? ⟨g,0,none⟩ = some (.pointer (some ⟨p,0,none⟩))) (hsz : ∀ n ∈ l,n.size <= maxLen) :
  Calls Tryz.prog 106 #[v,.func (.func 108) #[] #[.pointer (some ⟨g,0,none⟩)]] w fun e w' => ∃ v',e = .returned v' /\ (Row w' v' (scells (l.filter fun n => !goneQ s n)) /\ Newer base v' (l.filter fun n => !goneQ s n).length) /\ Below base w w' := by
 have eg : ∀ args w,(callFunc 108 args).run Tryz.prog w = .ok (.enter 108 args) w := enters_of Tryz.func108 (by kernel_rfl) rfl
 obtain ⟨hrow,h2⟩ := hr
 by_cases h0 : l = []
 ·subst h0
  obtain ⟨a,cap,rfl⟩ := hrow.sliceStrs
  have hI := AnyE.slices_IndexFunc_empty (P := Tryz.prog) { Tryz.delS with } a cap (.func (.func 108) #[] #[.pointer (some ⟨g,0,none⟩)]) w
  change Calls Tryz.prog 191 _ _ _ at hI
  have HR : Hid (Row w (.slice a 0 cap) (scells [])) := hrow
  clear hrow h2
  show Calls _ _ #[.slice a 0 cap,_] _ _
  go_enter Tryz.func106,Tryz.ntmps106
  go_wp2_with (go_at_call 191; refine hI.mono ?_; rintro e w' ⟨rfl,rfl⟩)
  go_ret
  exact ⟨_,rfl,⟨HR.out,.inl rfl⟩,Below.refl _ _⟩
 ·rcases h2 with h2 | ⟨b,cap,rfl,h3,h4,h5,h6,h7⟩
  ·exact absurd h2 h0
  obtain ⟨k,hk⟩ := lift_list hsz
  have hkl : k.length = l.length := by rw [<- hk,List.length_map]
  have hH : Go.Sort.Holds encN w b 0 k.toArray := fun j hj => by
   have hj' : j < k.length := by simpa using hj
   have hjl : j < l.length := by omega
   refine ⟨?_,by rw [Nat.zero_add]; exact h7 j hjl⟩
   have hcell : w.cell? ((⟨b,0,none⟩ : Addr).add j) = some (.string l[j]) := by
    rcases hrow with ⟨e,_⟩ | ⟨ad,cap',e,_,_,hcs⟩
    ·cases e
    ·simp only [Value.slice.injEq,Option.some.injEq] at e
     obtain ⟨rfl,_⟩ := e
     exact hcs j _ (by simp [scells,hjl])
   rw [getElem!_pos k.toArray j hj]
   have hval : (k.toArray[j]'hj).1 = l[j] := by
    have h8 := congrArg (fun z => z[j]?) hk
    simp [hj',hjl] at h8
    simpa using h8
   unfold encN
   rw [hval]
   rw [Go.WideShapes.add_plain] at hcell
   exact hcell
  have hcon := AnyE.slices_DeleteFunc Tryz.delS encN (fun _ => rfl) (fun x => goneQ s x.1) 108 #[.pointer (some ⟨g,0,none⟩)] eg ⟨⟨#[]⟩,Nat.zero_le _⟩ Tryz.zeroValue9 b 0 cap k.toArray w
   (fun W x hb => into1_any g p G s x.1 W (hS.kept hb) fit x.2 ((hb.cell (p := ⟨g,0,none⟩) (Nat.lt_of_lt_of_le hg hbs)).trans hc))
   (fun n os dk x _ => into1_any g p G s x.1 _ (hS.same fun j hj => (below_putRowG encN w n b 0 base dk os h3 hbs).block j (hG j hj)) fit x.2 (((below_putRowG encN w n b 0 base dk os h3 hbs).cell (p := ⟨g,0,none⟩) hg).trans hc)) hH (by unfold maxLen at h6; simp; omega) (by simp; omega)
  have hlen : k.toArray.size = l.length := by simpa using hkl
  rw [hlen] at hcon
  refine hcon.mono ?_
  rintro e w' ⟨rfl,q,rfl⟩
  have hfl : ((k.toArray.toList.filter fun x : Sn => !goneQ s x.1).map Subtype.val) = l.filter fun n => !goneQ s n := by
   rw [<- hk,<- filter_lift]
  have hfn : (k.toArray.toList.filter fun x : Sn => !goneQ s x.1).length = (l.filter fun n => !goneQ s n).length := by rw [<- hfl,List.length_map]
  have hle := List.length_filter_le (fun n => !goneQ s n) l
  refine ⟨_,rfl,⟨.inr ⟨⟨b,0,none⟩,cap,by rw [hfn,scells_length],by rw [scells_length]; omega,h6,fun j u hj => ?_⟩,.inr ⟨b,cap,by rw [hfn],h3⟩⟩,?_⟩
  ·have hj' : j < (l.filter fun n => !goneQ s n).length := by
    have := (List.getElem?_eq_some_iff.1 hj).1
    rwa [scells_length] at this
   have hh := holds_putRow encN (Sort.ahead w q) b 0 k.toArray ((k.toArray.toList.filter fun x : Sn => !goneQ s x.1) ++ List.replicate (l.length - (k.toArray.toList.filter fun x : Sn => !goneQ s x.1).length) (⟨⟨#[]⟩,Nat.zero_le _⟩ : Sn)).toArray (holds_ahead _ w q b 0 _ hH) (by simp; have := hfn; simp at this; omega)
   have h := hh j (by rw [List.size_toArray,List.length_append]; omega)
   rw [Go.WideShapes.add_plain,h.1,getElem!_pos _ j (by rw [List.size_toArray,List.length_append]; omega)]
   have hu : u = .string (l.filter fun n => !goneQ s n)[j] := by
    simp only [scells,List.getElem?_map,List.getElem?_eq_getElem hj',Option.map_some,Option.some.injEq] at hj
    exact hj.symm
   rw [hu]
   unfold encN
   congr 2
   rw [List.getElem_toArray,List.getElem_append_left (by omega)]
   have h8 := congrArg (fun z => z[j]?) hfl
   simp only [List.getElem?_map,List.getElem?_eq_getElem hj',List.getElem?_eq_getElem (show j < (k.toArray.toList.filter fun x : Sn => !goneQ s x.1).length by omega),Option.map_some,Option.some.injEq] at h8
   exact h8
  ·have := below_putRowG encN w q b 0 base ((k.toArray.toList.filter fun x : Sn => !goneQ s x.1) ++ List.replicate (l.length - (k.toArray.toList.filter fun x : Sn => !goneQ s x.1).length) (⟨⟨#[]⟩,Nat.zero_le _⟩ : Sn)).toArray #[] h3 hbs
   rwa [grow_empty] at this
theorem queuesT_fit {s : B.Tb} (ok : s.Ok) (e key : ByteArray) : ∀ n ∈ B.queuesT s e key,n.size <= maxLen := by
 intro n hn
 unfold B.queuesT at hn
 cases hf : B.findX s.xs e with
 |none => rw [hf] at hn; cases hn
 |some x =>
  rw [hf] at hn
  obtain ⟨b,hb,rfl⟩ := List.mem_map.1 ((B.mem_mkS _ _).1 hn)
  exact (ok.fit b (List.mem_filter.1 hb).1).2.1
theorem into_any (p : Nat) (G : Nat -> Prop) (s : Sm) (m : Ms) (w : World) (h : SS w p G s) (fit : s.Fit) (ok : s.tb.Ok) (hx : m.ex.size <= maxLen) (hk : m.key.size <= maxLen) :
  Calls Tryz.prog 39 #[.pointer (some ⟨p,0,none⟩),mv m] w fun e w' => ∃ v',e = .returned v' /\ (Row w' v' (scells (intoM s m)) /\ Newer w.heap.size v' (intoM s m).length) /\ Below w.heap.size w w' := by
 obtain ⟨W0,fold0⟩ : ∃ W,w.alloc (.cells #[.pointer (some ⟨p,0,none⟩)] 28) = W := ⟨_,rfl⟩
 have b0 : Below w.heap.size w W0 := by rw [<- fold0]; exact box_below w _
 have k0 : W0.heap[w.heap.size]? = some (.cells #[.pointer (some ⟨p,0,none⟩)] 28 (0,0)) := by rw [<- fold0]; exact heap_alloc_new w _
 obtain ⟨W,fold⟩ : ∃ W,W0.alloc (.cells #[.int .i64 m.origin,.int .u64 m.seq,.int .i64 m.hop,.string m.ex,.string m.key,.string m.body] 40) = W := ⟨_,rfl⟩
 have hB : BoxM W0 W m := by rw [<- fold]; exact boxM_new W0 m
 have b1 := keptW b0 hB.bel
 have k1 : W.heap[w.heap.size]? = some (.cells #[.pointer (some ⟨p,0,none⟩)] 28 (0,0)) := (hB.bel.block _ (Array.getElem?_eq_some_iff.1 k0).1).trans k0
 have y0 : W.cell? ⟨w.heap.size,0,none⟩ = some (.pointer (some ⟨p,0,none⟩)) := by simp only [World.cell?]; rw [k1]; rfl
 have hW := (h.kept b1).kept (drew_below W)
 have hlt := h.lts
 have HS : Hid (SS W.drew p G s /\ Below w.heap.size w W /\ (∀ k,G k -> k < w.heap.size) /\ w.heap.size < W.heap.size /\ s.Fit /\ s.tb.Ok) := ⟨hW,b1,hlt,(Array.getElem?_eq_some_iff.1 k1).1,fit,ok⟩
 obtain ⟨ft,d,hs',hF⟩ := hW
 have hQ := B.queuesO_any d.tp (ft .table) s.tb m.ex m.key W.drew hs'.table ok hx hk
 obtain ⟨c0,c1,c2,c3,c4,c5,c6,c7,c8,c9⟩ := cells10 hs'.blk
 obtain ⟨x0,x1,x2,x3,x4,x5⟩ := cellsM hB.box
 have c6' : W.cell? ⟨p,6,none⟩ = some (.pointer (some ⟨d.tp,0,none⟩)) := c6
 have HK : Hid (∀ V,Below W.drew.heap.size W.drew V -> V.cell? ⟨w.heap.size,0,none⟩ = some (.pointer (some ⟨p,0,none⟩)) /\ V.cell? ⟨p,6,none⟩ = some (.pointer (some ⟨d.tp,0,none⟩)) /\ V.cell? ⟨W0.heap.size,3,none⟩ = some (.string m.ex) /\ V.cell? ⟨W0.heap.size,4,none⟩ = some (.string m.key)) := fun V b => ⟨cell_on b y0,cell_on b c6',cell_on b x3,cell_on b x4⟩
 clear hs' hF hB c0 c1 c2 c3 c4 c5 c6 c7 c8 c9 x0 x1 x2 x5 h k0 k1 b0 b1 fit ok hx hk hlt
 go_enter Tryz.func39,Tryz.ntmps39
 go_wp2
 try rw [fold0]
 try rw [fold]
 (go_region_held3 (fun w' => w'.cell? ⟨w.heap.size,0,none⟩ = some (.pointer (some ⟨p,0,none⟩)) /\ w'.cell? ⟨p,6,none⟩ = some (.pointer (some ⟨d.tp,0,none⟩)) /\ w'.cell? ⟨W0.heap.size,3,none⟩ = some (.string m.ex) /\ w'.cell? ⟨W0.heap.size,4,none⟩ = some (.string m.key)) (first | exact ⟨y0,c6',x3,x4⟩ | go_keep) (first
  |(go_at_call 107; refine hQ.mono ?_; rintro e w2 ⟨v2,rfl,r2,b2⟩; have H2 : Hid (B.NewS w2 W.drew.heap.size v2 (B.queuesT s.tb m.ex m.key) /\ Below W.drew.heap.size W.drew w2) := ⟨r2,b2⟩; obtain ⟨f0,f1,f2,f3⟩ := HK.out w2 b2; clear r2 b2 hQ)
  |(go_at_call 106; refine (delS_any w2 W.drew.heap.size v2 (B.queuesT s.tb m.ex m.key) w.heap.size p G s H2.out.1 H2.out.2.size (HS.out.1.kept H2.out.2) HS.out.2.2.2.2.1 HS.out.2.2.2.1 (fun k hk => Nat.lt_of_lt_of_le (HS.out.2.2.1 k hk) HS.out.2.1.size) f0 (queuesT_fit HS.out.2.2.2.2.2 m.ex m.key)).mono ?_; rintro e w3 ⟨v3,rfl,r3,b3⟩; have B3 : Hid (Below W.drew.heap.size W.drew w3) := H2.out.2.trans b3; have R3 : Hid (Row w3 v3 (scells (intoM s m)) /\ Newer w.heap.size v3 (intoM s m).length) := ⟨r3.1,r3.2.mono HS.out.2.1.size⟩; obtain ⟨g0,g1,g2,g3⟩ := HK.out w3 B3.out; clear r3 b3)))
 all_goals go_wp2
 all_goals go_ret
 all_goals exact ⟨_,rfl,R3.out,keptW (keptW HS.out.2.1 (drew_below W)) B3.out⟩
end Go.Proofs.YtjagaankkcbjmaaGreatDoor
namespace Go.Proofs.YtjagaankkcbjmaaGreatDoor
open Go.RowKit Go.Sort
def fullN (s : Sm) (n : ByteArray) : Bool := match findQ s.qs n with
 |some q => fullQ q
 |none => false
theorem fullN_some {s : Sm} {n : ByteArray} {q : F.St} (h : findQ s.qs n = some q) : fullN s n = fullQ q := by unfold fullN; rw [h]
theorem any_take {α : Type} {p : α -> Bool} {l : List α} {n : Nat} (h : (l.take n).any p = true) : l.any p = true := by
 obtain ⟨x,hx,hp⟩ := List.any_eq_true.1 h
 exact List.any_eq_true.2 ⟨x,List.mem_of_mem_take hx,hp⟩
theorem idxS_any (p : Nat) (G : Nat -> Prop) (s : Sm) (v : Value) (l : List ByteArray) (w : World) (h : SS w p G s) (fit : s.Fit) (hr : Row w v (scells l)) (hq : ∀ n ∈ l,n.size <= maxLen /\ ∃ q,findQ s.qs n = some q /\ q.Ok) :
  Calls Tryz.prog 191 #[v,.func (.func 181) #[.pointer (some ⟨p,0,none⟩)] #[]] w fun e w' => ∃ z : Int,e = .returned (.int .i64 z) /\ (0 <= z ↔ l.any (fullN s) = true) /\ ∃ k,w' = w.drewN k := by
 obtain ⟨a,cap,rfl⟩ := hr.sliceStrs
 obtain ⟨n,hn⟩ : ∃ z,l.length = z := ⟨_,rfl⟩
 rw [hn] at hr ⊢
 have H0 : Hid (SS w p G s /\ s.Fit /\ Row w (.slice a n cap) (scells l) /\ (∀ n ∈ l,n.size <= maxLen /\ ∃ q,findQ s.qs n = some q /\ q.Ok) /\ l.length = n) := ⟨h,fit,hr,hq,hn⟩
 obtain ⟨r,hR⟩ : ∃ r,l.any (fullN s) = r := ⟨_,rfl⟩
 rw [hR]
 have HR : Hid (l.any (fullN s) = r) := hR
 clear h fit hr hq hn hR
 go_enter Tryz.func191,Tryz.ntmps191
 go_wp2
 go_loopg [5,8] n (fun g u5 u8 wr => ∃ i : Nat,u8 = .int .i64 (i : Int) /\ i <= n /\ g = n - i /\ Hid ((l.take i).any (fullN s) = false) /\ ∃ k,wr = w.drewN k)
 case atStart => exact ⟨0,rfl,Nat.zero_le _,rfl,rfl,0,rfl⟩
 case round =>
  obtain ⟨i,rfl,hi,rfl,HI,k,rfl⟩ := hrel
  by_cases hlt : i < n
  ·have hlt' : (i : Int) < (n : Int) := by omega
   have hil : i < l.length := by rw [H0.out.2.2.2.2]; exact hlt
   obtain ⟨x,hx⟩ : ∃ x,l[i] = x := ⟨_,rfl⟩
   obtain ⟨b,off,cap',hv,hc1,hc2,hcs⟩ := H0.out.2.2.1.atStrs (by omega)
   have hc := hcs i hil
   rw [hx] at hc
   rw [H0.out.2.2.2.2] at hv hc1
   injection hv with hv1 _ hv2
   subst hv1 hv2
   have hi7 : i < 9223372036854775807 := by unfold maxLen at hc2; omega
   obtain ⟨hxs,q,hq,qok⟩ := H0.out.2.2.2.1 x (by rw [<- hx]; exact List.getElem_mem hil)
   have hC := queueFull_any p G s x q (w.drewN k) (H0.out.1.kept (drewN_below w k)) H0.out.2.1 hxs hq qok
   have HX : Hid (fullN s x = fullQ q /\ (l.take (i + 1)).any (fullN s) = fullQ q /\ i < 9223372036854775807) := ⟨fullN_some hq,by rw [List.take_succ_eq_append_getElem hil,List.any_append,HI.out,hx]; simp [fullN_some hq],hi7⟩
   generalize fullQ q = fq at hC HX
   clear hxs hq qok hx hcs hc1 hc2 hi7
   go_wp2_with fail
   refine hC.mono ?_
   rintro e w2 ⟨rfl,k2,rfl⟩
   clear hC
   cases fq
   ·go_wp2
    go_roundg (n - (i + 1))
    case measure => omega
    case rel => exact ⟨i + 1,congrArg (Value.int IntKind.i64) (by have := HX.out; unfold wrap64; omega),by omega,rfl,HX.out.2.1,_,rfl⟩
   ·go_wp2
    go_ret
    obtain rfl : true = r := (any_take HX.out.2.1).symm.trans HR.out
    exact ⟨_,rfl,⟨fun _ => rfl,fun _ => by omega⟩,_,rfl⟩
  ·have hlt' : ¬ (i : Int) < (n : Int) := by omega
   obtain rfl : i = n := by omega
   have HF : Hid (l.any (fullN s) = false) := by
    have := HI.out
    rw [List.take_of_length_le (by rw [H0.out.2.2.2.2]; exact Nat.le_refl _)] at this
    exact this
   obtain rfl : false = r := HF.out.symm.trans HR.out
   go_wp2
   go_ret
   exact ⟨_,rfl,by simp,_,rfl⟩
theorem conS_any (p : Nat) (G : Nat -> Prop) (s : Sm) (v : Value) (l : List ByteArray) (w : World) (h : SS w p G s) (fit : s.Fit) (hr : Row w v (scells l)) (hq : ∀ n ∈ l,n.size <= maxLen /\ ∃ q,findQ s.qs n = some q /\ q.Ok) :
  Calls Tryz.prog 180 #[v,.func (.func 181) #[.pointer (some ⟨p,0,none⟩)] #[]] w fun e w' => e = .returned (.bool (l.any (fullN s))) /\ ∃ k,w' = w.drewN k := by
 have hI := idxS_any p G s v l w h fit hr hq
 obtain ⟨a,cap,rfl⟩ := hr.sliceStrs
 generalize l.any (fullN s) = r at hI ⊢
 generalize l.length = n at hI ⊢
 clear h fit hr hq
 go_enter Tryz.func180,Tryz.ntmps180
 go_wp2_with fail
 refine hI.mono ?_
 rintro e w2 ⟨z,rfl,hz,k,rfl⟩
 clear hI
 cases r
 ·have hz' : ¬ 0 <= z := fun h => absurd (hz.1 h) (by decide)
  clear hz
  go_wp2
  go_ret
  exact ⟨by simp [hz'],k,rfl⟩
 ·have hz' : 0 <= z := hz.2 rfl
  clear hz
  go_wp2
  go_ret
  exact ⟨by simp,k,rfl⟩
def fullT (s : Sm) (t : Int) : Bool := decide (200 <= (linkOf s.lk t).length)
theorem idxI_any (p : Nat) (G : Nat -> Prop) (s : Sm) (v : Value) (l : List Int) (w : World) (h : SS w p G s) (fit : s.Fit) (hr : Row w v (icells l)) (hq : ∀ t ∈ l,I64 t) :
  Calls Tryz.prog 162 #[v,.func (.func 183) #[.pointer (some ⟨p,0,none⟩)] #[]] w fun e w' => ∃ z : Int,e = .returned (.int .i64 z) /\ (0 <= z ↔ l.any (fullT s) = true) /\ ∃ k,w' = w.drewN k := by
 obtain ⟨a,cap,hv⟩ := hr.slice
 rw [icells_length] at hv
 subst hv
 obtain ⟨n,hn⟩ : ∃ z,l.length = z := ⟨_,rfl⟩
 rw [hn] at hr ⊢
 have H0 : Hid (SS w p G s /\ s.Fit /\ Row w (.slice a n cap) (icells l) /\ (∀ t ∈ l,I64 t) /\ l.length = n) := ⟨h,fit,hr,hq,hn⟩
 obtain ⟨r,hR⟩ : ∃ r,l.any (fullT s) = r := ⟨_,rfl⟩
 rw [hR]
 have HR : Hid (l.any (fullT s) = r) := hR
 clear h fit hr hq hn hR
 go_enter Tryz.func162,Tryz.ntmps162
 go_wp2
 go_loopg [5,8] n (fun g u5 u8 wr => ∃ i : Nat,u8 = .int .i64 (i : Int) /\ i <= n /\ g = n - i /\ Hid ((l.take i).any (fullT s) = false) /\ ∃ k,wr = w.drewN k)
 case atStart => exact ⟨0,rfl,Nat.zero_le _,rfl,rfl,0,rfl⟩
 case round =>
  obtain ⟨i,rfl,hi,rfl,HI,k,rfl⟩ := hrel
  by_cases hlt : i < n
  ·have hlt' : (i : Int) < (n : Int) := by omega
   have hil : i < l.length := by rw [H0.out.2.2.2.2]; exact hlt
   obtain ⟨x,hx⟩ : ∃ x,l[i] = x := ⟨_,rfl⟩
   obtain ⟨b,off,cap',hv,hc1,hc2,hcs⟩ := H0.out.2.2.1.at (by rw [icells_length]; omega)
   have hc : w.cell? ⟨b,off + i,none⟩ = some (.int .i64 x) := by
    rw [hcs i (by rw [icells_length]; exact hil),<- hx]
    simp [icells]
   rw [icells_length,H0.out.2.2.2.2] at hv hc1
   injection hv with hv1 _ hv2
   subst hv1 hv2
   have hi7 : i < 9223372036854775807 := by unfold maxLen at hc2; omega
   have hxs := H0.out.2.2.2.1 x (by rw [<- hx]; exact List.getElem_mem hil)
   have hC : Calls Tryz.prog 183 #[.pointer (some ⟨p,0,none⟩),.int .i64 x] (w.drewN k) fun e w' => e = .returned (.bool (fullT s x)) /\ w' = w.drewN k := linkFull_any p G s x (w.drewN k) (H0.out.1.kept (drewN_below w k)) H0.out.2.1 hxs
   have HX : Hid (fullT s x = fullT s x /\ (l.take (i + 1)).any (fullT s) = fullT s x /\ i < 9223372036854775807) := ⟨rfl,by rw [List.take_succ_eq_append_getElem hil,List.any_append,HI.out,hx]; simp,hi7⟩
   generalize fullT s x = fq at hC HX
   clear hxs hx hcs hc1 hc2 hi7
   go_wp2_with fail
   refine hC.mono ?_
   rintro e w2 ⟨rfl,rfl⟩
   clear hC
   cases fq
   ·go_wp2
    go_roundg (n - (i + 1))
    case measure => omega
    case rel => exact ⟨i + 1,congrArg (Value.int IntKind.i64) (by have := HX.out; unfold wrap64; omega),by omega,rfl,HX.out.2.1,_,rfl⟩
   ·go_wp2
    go_ret
    obtain rfl : true = r := (any_take HX.out.2.1).symm.trans HR.out
    exact ⟨_,rfl,⟨fun _ => rfl,fun _ => by omega⟩,_,rfl⟩
  ·have hlt' : ¬ (i : Int) < (n : Int) := by omega
   obtain rfl : i = n := by omega
   have HF : Hid (l.any (fullT s) = false) := by
    have := HI.out
    rw [List.take_of_length_le (by rw [H0.out.2.2.2.2]; exact Nat.le_refl _)] at this
    exact this
   obtain rfl : false = r := HF.out.symm.trans HR.out
   go_wp2
   go_ret
   exact ⟨_,rfl,by simp,_,rfl⟩
theorem conI_any (p : Nat) (G : Nat -> Prop) (s : Sm) (v : Value) (l : List Int) (w : World) (h : SS w p G s) (fit : s.Fit) (hr : Row w v (icells l)) (hq : ∀ t ∈ l,I64 t) :
  Calls Tryz.prog 182 #[v,.func (.func 183) #[.pointer (some ⟨p,0,none⟩)] #[]] w fun e w' => e = .returned (.bool (l.any (fullT s))) /\ ∃ k,w' = w.drewN k := by
 have hI := idxI_any p G s v l w h fit hr hq
 obtain ⟨a,cap,hv⟩ := hr.slice
 rw [icells_length] at hv
 subst hv
 generalize l.any (fullT s) = r at hI ⊢
 generalize l.length = n at hI ⊢
 clear h fit hr hq
 go_enter Tryz.func182,Tryz.ntmps182
 go_wp2_with fail
 refine hI.mono ?_
 rintro e w2 ⟨z,rfl,hz,k,rfl⟩
 clear hI
 cases r
 ·have hz' : ¬ 0 <= z := fun h => absurd (hz.1 h) (by decide)
  clear hz
  go_wp2
  go_ret
  exact ⟨by simp [hz'],k,rfl⟩
 ·have hz' : 0 <= z := hz.2 rfl
  clear hz
  go_wp2
  go_ret
  exact ⟨by simp,k,rfl⟩
end Go.Proofs.YtjagaankkcbjmaaGreatDoor
namespace Go.Proofs.YtjagaankkcbjmaaGreatDoor
open Go.RowKit
def insL {α : Type} (t : Int) (x : α) : List (Int × α) -> List (Int × α)
 |[] => [(t,x)]
 |y :: r => if t < y.1 then (t,x) :: y :: r else if y.1 = t then (t,x) :: r else y :: insL t x r
def Up {α : Type} (l : List (Int × α)) : Prop := (l.map Prod.fst).Pairwise (· < ·)
theorem Up.tail {α : Type} {y : Int × α} {r : List (Int × α)} (h : Up (y :: r)) : Up r := (List.pairwise_cons.1 h).2
theorem Up.head {α : Type} {y : Int × α} {r : List (Int × α)} (h : Up (y :: r)) : ∀ x ∈ r,y.1 < x.1 := fun x hx => (List.pairwise_cons.1 h).1 x.1 (List.mem_map.2 ⟨x,hx,rfl⟩)
theorem insL_perm {α : Type} (t : Int) (x : α) : ∀ l : List (Int × α),Up l -> (insL t x l).Perm ((t,x) :: l.filter fun y => !decide (y.1 = t))
 |[],_ => List.Perm.refl _
 |y :: r,h => by
  have keep : ∀ q : List (Int × α),(∀ z ∈ q,t < z.1) -> (q.filter fun z => !decide (z.1 = t)) = q := fun q hq => by
   rw [List.filter_eq_self]
   intro z hz
   have := hq z hz
   have : ¬ z.1 = t := by omega
   simp [this]
  unfold insL
  split
  ·rename_i hlt
   rw [keep (y :: r) (fun z hz => by
    rcases List.mem_cons.1 hz with rfl | hz
    ·exact hlt
    ·have := h.head z hz; omega)]
  ·split
   ·rename_i he
    have h2 : ((y :: r).filter fun z => !decide (z.1 = t)) = r := by
     rw [List.filter_cons_of_neg (by simp [he]),keep r (fun z hz => by have := h.head z hz; omega)]
    rw [h2]
   ·rename_i he
    rw [List.filter_cons_of_pos (by simp [he])]
    exact ((insL_perm t x r h.tail).cons y).trans (List.Perm.swap _ _ _)
theorem insL_keys {α β : Type} (t : Int) (x : α) (y : β) : ∀ (l : List (Int × α)) (k : List (Int × β)),l.map Prod.fst = k.map Prod.fst -> (insL t x l).map Prod.fst = (insL t y k).map Prod.fst
 |[],[],_ => rfl
 |[],_ :: _,h => by simp at h
 |_ :: _,[],h => by simp at h
 |a :: l,b :: k,h => by
  simp only [List.map_cons,List.cons.injEq] at h
  unfold insL
  rw [h.1]
  split
  ·simp [h.1,h.2]
  ·split
   ·simp [h.2]
   ·simp [h.1,insL_keys t x y l k h.2]
theorem insL_up {α : Type} (t : Int) (x : α) : ∀ l : List (Int × α),Up l -> Up (insL t x l)
 |[],_ => List.pairwise_cons.2 ⟨by simp,List.Pairwise.nil⟩
 |y :: r,h => by
  have hm := (insL_perm t x r h.tail)
  unfold insL
  split
  ·rename_i hlt
   refine List.pairwise_cons.2 ⟨fun z hz => ?_,h⟩
   obtain ⟨q,hq,rfl⟩ := List.mem_map.1 hz
   rcases List.mem_cons.1 hq with rfl | hq
   ·exact hlt
   ·have := h.head q hq; omega
  ·split
   ·rename_i he
    refine List.pairwise_cons.2 ⟨fun z hz => ?_,h.tail⟩
    obtain ⟨q,hq,rfl⟩ := List.mem_map.1 hz
    have := h.head q hq; omega
   ·rename_i h1 h2
    refine List.pairwise_cons.2 ⟨fun z hz => ?_,insL_up t x r h.tail⟩
    obtain ⟨q,hq,rfl⟩ := List.mem_map.1 hz
    rcases List.mem_cons.1 (hm.mem_iff.1 hq) with rfl | hq
    ·show y.1 < t; omega
    ·exact h.head q (List.mem_filter.1 hq).1
theorem ll_put {l : List Le} (h : LL l) {t : Int} (ht : I64 t) (v : Value) : LL ((t,v) :: l.filter fun y => !decide (y.1 = t)) := by
 refine ⟨List.pairwise_cons.2 ⟨fun y hy e => ?_,h.diff.filter _⟩,fun x hx => ?_⟩
 ·have h1 : ¬ y.1 = t := by simpa using (List.mem_filter.1 hy).2
  exact h1 (int_inj e).symm
 ·rcases List.mem_cons.1 hx with rfl | hx
  ·exact ht
  ·exact h.fit x (List.mem_filter.1 hx).1
section
variable {w w2 w3 : World} {p : Nat} {ft : Ix -> Nat -> Prop} {d : Ad} {s : Sm}
abbrev linkV (d : Ad) (t : Int) : Value := ((findL d.es t).map Prod.snd).getD (.slice none 0 0)
theorem SAt.linkFoot (h : SAt w p ft d s) (fit : s.Fit) (t : Int) : ∀ k,ft (.link t) k ↔ (linkV d t).ownBlock = some k := by
 intro k
 by_cases hn : t ∈ s.lk.map Prod.fst
 ·obtain ⟨⟨t',l⟩,hm,rfl⟩ := List.mem_map.1 hn
  obtain ⟨v,h1,h2,h3⟩ := h.link t' l hm
  have hf : findL d.es t' = some (t',v) := by
   cases hg : findL d.es t' with
   |none => exact absurd rfl (findL_none hg (t',v) h1)
   |some z =>
    obtain ⟨hz,e⟩ := findL_some hg
    obtain ⟨t'',v'⟩ := z
    obtain rfl : t'' = t' := e
    obtain rfl := nodup_pair (by rw [h.tos]; exact fit.tos) h1 hz
    rfl
  show ft (.link t') k ↔ _
  unfold linkV
  rw [hf]
  exact h3 k
 ·have hf : findL d.es t = none := by
   unfold findL
   rw [List.find?_eq_none]
   intro x hx he
   refine hn ?_
   rw [<- h.tos]
   exact List.mem_map.2 ⟨x,hx,by simpa using he⟩
  unfold linkV
  rw [hf]
  exact ⟨fun hk => absurd hk (h.nol t hn k),fun hk => by simp [Value.ownBlock] at hk⟩
theorem SAt.putLink (h : SAt w p ft d s) (fit : s.Fit) (up : Up s.lk) {t : Int} (ht : I64 t) {v' : Value} {l' : List Ms} (g2 : w.grownBy w2 (linkV d t).ownBlock) (o2 : OwnM w2 0 v' l') (hnew : K.NewOr w (linkV d t) v') (hd : LAt w3 d.lm ((t,v') :: d.es.filter fun y => !decide (y.1 = t))) (g3 : w2.grownBy w3 (some d.lm)) :
  SAt w3 p (upd ft (.link t) fun k => v'.ownBlock = some k) { d with es := insL t v' d.es } { s with lk := insL t l' s.lk } /\ Moved w w3 (fun k => ∃ a,ft a k) (fun k => ∃ a,upd ft (.link t) (fun k => v'.ownBlock = some k) a k) := by
 have hfoot := h.linkFoot fit t
 have m2 : Moved w w2 (ft (.link t)) (fun k => v'.ownBlock = some k) := by
  refine ⟨g2.os,g2.tape,g2.output,g2.size,fun k hk hn => g2.block k hk fun e => hn ((hfoot k).2 e.symm),fun k hk => ?_⟩
  rcases hnew with e | ⟨g,e,hg⟩
  ·exact .inl ((hfoot k).2 (e ▸ hk))
  ·rw [e] at hk
   injection hk with hk
   exact .inr (by omega)
 have hlm : d.lm < w.heap.size := h.lmap.lt
 have upe : Up d.es := by unfold Up; rw [h.tos]; exact up
 have pe := insL_perm t v' d.es upe
 have pl := insL_perm t l' s.lk up
 have nlm : ∀ a k,a ≠ .lmap -> ft a k -> k ≠ d.lm := fun a k ha hk e => ha (h.one a .lmap k hk ((h.fl k).2 e))
 have ho : ∀ a,a ≠ .link t -> a ≠ .lmap -> ∀ k,ft a k -> w3.heap[k]? = w.heap[k]? := fun a h1 h2 k hk =>
  (g3.block k (Nat.lt_of_lt_of_le (h.lts a k hk) g2.size) (by simpa using nlm a k h2 hk)).trans (h.others m2 a h1 k hk)
 refine ⟨⟨?_,?_,?_,?_,?_,?_,?_,?_,?_,?_,h.names,?_,?_,?_,?_,?_,h.oneUpd m2⟩,?_⟩
 ·rw [ho .main (by simp) (by simp) p ((h.fm p).2 rfl)]; exact h.blk
 ·rw [upd_other ft _ (by simp)]; exact h.fm
 ·exact h.edges.same fun g hg => ho .edges (by simp) (by simp) g ((h.fe g).2 hg)
 ·rw [upd_other ft _ (by simp)]; exact h.fe
 ·rw [upd_other ft _ (by simp)]; exact h.table.same fun k hk => ho .table (by simp) (by simp) k hk
 ·exact h.qmap.same (ho .qmap (by simp) (by simp) _ ((h.fq _).2 rfl))
 ·rw [upd_other ft _ (by simp)]; exact h.fq
 ·rw [upd_other ft _ (by simp)]; exact h.book.same fun k hk => ho .book (by simp) (by simp) k hk
 ·exact hd.permTo ((ll_put (h.ll fit) ht v').perm pe) pe.symm
 ·rw [upd_other ft _ (by simp)]; exact h.fl
 ·intro n q hq
  rw [upd_other ft _ (by simp)]
  obtain ⟨b,h1,h2⟩ := h.queue n q hq
  exact ⟨b,h1,h2.same fun k hk => ho _ (by simp) (by simp) k hk⟩
 ·intro n hn
  rw [upd_other ft _ (by simp)]
  exact h.noq n hn
 ·exact insL_keys t v' l' d.es s.lk h.tos
 ·intro t' l'' hl
  rcases List.mem_cons.1 (pl.mem_iff.1 hl) with e | hm
  ·injection e with e1 e2
   subst e1 e2
   rw [upd_same]
   refine ⟨v',pe.mem_iff.2 List.mem_cons_self,o2.same fun g hg => g3.block g (o2.lt hg).2 ?_,fun k => Iff.rfl⟩
   simp only [ne_eq,Option.some.injEq]
   intro e
   rcases m2.sub g hg with hk | hk
   ·exact nlm _ g (by simp) hk e
   ·omega
  ·obtain ⟨hm,hne⟩ := List.mem_filter.1 hm
   have hne : t' ≠ t := by simpa using hne
   rw [upd_other ft _ (by simpa using hne)]
   obtain ⟨v,h1,h2,h3⟩ := h.link t' l'' hm
   exact ⟨v,pe.mem_iff.2 (List.mem_cons_of_mem _ (List.mem_filter.2 ⟨h1,by simpa using hne⟩)),h2.same fun g hg => ho (.link t') (by simpa using hne) (by simp) g ((h3 g).2 hg),h3⟩
 ·intro t' ht'
  have ht2 : t' ∉ (insL t l' s.lk).map Prod.fst := ht'
  have hp := pl.map Prod.fst
  have hne : t' ≠ t := fun e => ht2 (hp.mem_iff.2 (by rw [e]; exact List.mem_cons_self))
  rw [upd_other ft _ (by simpa using hne)]
  refine h.nol t' fun hm => ht2 (hp.mem_iff.2 (List.mem_cons_of_mem _ ?_))
  obtain ⟨x,hx,e⟩ := List.mem_map.1 hm
  exact List.mem_map.2 ⟨x,List.mem_filter.2 ⟨hx,by rw [e]; simpa using hne⟩,e⟩
 ·have mu := moved_upd m2
  refine ⟨g3.os.trans mu.os,g3.tape.trans mu.tape,g3.output.trans mu.output,Nat.le_trans mu.size g3.size,fun k hk hn => ?_,mu.sub⟩
  exact (g3.block k (Nat.lt_of_lt_of_le hk mu.size) (by simpa using fun e => hn ⟨.lmap,(h.fl k).2 e⟩)).trans (mu.block k hk hn)
end
def insK {α : Type} (n : ByteArray) (x : α) : List (ByteArray × α) -> List (ByteArray × α)
 |[] => [(n,x)]
 |y :: t => if B.cmpS n y.1 < 0 then (n,x) :: y :: t else y :: insK n x t
theorem insK_perm {α : Type} (n : ByteArray) (x : α) : ∀ l : List (ByteArray × α),(insK n x l).Perm ((n,x) :: l)
 |[] => List.Perm.refl _
 |y :: t => by
  unfold insK
  split
  ·exact List.Perm.refl _
  ·exact ((insK_perm n x t).cons y).trans (List.Perm.swap _ _ _)
theorem insK_names {α β : Type} (n : ByteArray) (x : α) (y : β) : ∀ (l : List (ByteArray × α)) (k : List (ByteArray × β)),l.map Prod.fst = k.map Prod.fst -> (insK n x l).map Prod.fst = (insK n y k).map Prod.fst
 |[],[],_ => rfl
 |[],_ :: _,h => by simp at h
 |_ :: _,[],h => by simp at h
 |a :: l,b :: k,h => by
  simp only [List.map_cons,List.cons.injEq] at h
  unfold insK
  rw [h.1]
  split
  ·simp [h.1,h.2]
  ·simp [h.1,insK_names n x y l k h.2]
theorem filter_names {α β : Type} (n : ByteArray) : ∀ (l : List (ByteArray × α)) (k : List (ByteArray × β)),l.map Prod.fst = k.map Prod.fst -> (l.filter fun y => !decide (y.1 = n)).map Prod.fst = (k.filter fun y => !decide (y.1 = n)).map Prod.fst
 |[],[],_ => rfl
 |[],_ :: _,h => by simp at h
 |_ :: _,[],h => by simp at h
 |a :: l,b :: k,h => by
  simp only [List.map_cons,List.cons.injEq] at h
  have ih := filter_names n l k h.2
  by_cases hn : b.1 = n
  ·simp [h.1,hn] at ih ⊢
   exact ih
  ·simp [h.1,hn] at ih ⊢
   exact ih
section
variable {w w2 w3 : World} {p : Nat} {ft : Ix -> Nat -> Prop} {d : Ad} {s : Sm} {Fq : Nat -> Prop}
theorem old_same {b : Nat} (b2 : Below w.heap.size w w2) (g : w2.grownBy w3 (some b)) {k : Nat} (hk : k < w.heap.size) (hne : k ≠ b) : w3.heap[k]? = w.heap[k]? :=
 (g.block k (Nat.lt_of_lt_of_le hk b2.size) (by simpa using hne)).trans (b2.block k hk)
theorem SAt.addQueue (h : SAt w p ft d s) {n : ByteArray} {b : Nat} {q : F.St} (hn : n ∉ s.qs.map Prod.fst) (b2 : Below w.heap.size w w2) (hq : F.Q w2 b Fq q) (hnew : ∀ k,Fq k -> w.heap.size <= k) (hd : DAt w3 d.qm ((n,b) :: d.ps)) (dl : DL ((n,b) :: d.ps)) (g : w2.grownBy w3 (some d.qm)) :
  SAt w3 p (upd ft (.queue n) Fq) { d with ps := insK n b d.ps } { s with qs := insK n q s.qs } /\ Moved w w3 (fun k => ∃ a,ft a k) (fun k => ∃ a,upd ft (.queue n) Fq a k) := by
 have hqm : d.qm < w.heap.size := h.qmap.lt
 have ho : ∀ a,a ≠ .qmap -> ∀ k,ft a k -> w3.heap[k]? = w.heap[k]? := fun a ha k hk => old_same b2 g (h.lts a k hk) fun e => ha (h.one a .qmap k hk ((h.fq k).2 e))
 refine ⟨⟨?_,?_,?_,?_,?_,?_,?_,?_,?_,?_,?_,?_,?_,h.tos,?_,?_,?_⟩,?_⟩
 ·rw [ho .main (by simp) p ((h.fm p).2 rfl)]; exact h.blk
 ·rw [upd_other ft Fq (by simp)]; exact h.fm
 ·exact h.edges.same fun g hg => ho .edges (by simp) g ((h.fe g).2 hg)
 ·rw [upd_other ft Fq (by simp)]; exact h.fe
 ·rw [upd_other ft Fq (by simp)]; exact h.table.same fun k hk => ho .table (by simp) k hk
 ·exact hd.permTo (dl.perm (insK_perm n b d.ps)) (insK_perm n b d.ps).symm
 ·rw [upd_other ft Fq (by simp)]; exact h.fq
 ·rw [upd_other ft Fq (by simp)]; exact h.book.same fun k hk => ho .book (by simp) k hk
 ·exact h.lmap.same (ho .lmap (by simp) _ ((h.fl _).2 rfl))
 ·rw [upd_other ft Fq (by simp)]; exact h.fl
 ·exact insK_names n b q d.ps s.qs h.names
 ·intro n' q' hq'
  rcases List.mem_cons.1 ((insK_perm n q s.qs).mem_iff.1 hq') with e | hm
  ·injection e with e1 e2
   subst e1 e2
   rw [upd_same]
   exact ⟨b,(insK_perm n' b d.ps).mem_iff.2 List.mem_cons_self,hq.same fun k hk => g.block k (hq.lts k hk) (by have := hnew k hk; simp; omega)⟩
  ·have hne : n' ≠ n := fun e => hn (by rw [<- e]; exact List.mem_map.2 ⟨_,hm,rfl⟩)
   rw [upd_other ft Fq (by simpa using hne)]
   obtain ⟨b',h1,h2⟩ := h.queue n' q' hm
   exact ⟨b',(insK_perm n b d.ps).mem_iff.2 (List.mem_cons_of_mem _ h1),h2.same fun k hk => ho _ (by simp) k hk⟩
 ·intro n' hn'
  have hn2 : n' ∉ (insK n q s.qs).map Prod.fst := hn'
  have hp := (insK_perm n q s.qs).map Prod.fst
  have hne : n' ≠ n := fun e => hn2 (hp.mem_iff.2 (by rw [e]; exact List.mem_cons_self))
  rw [upd_other ft Fq (by simpa using hne)]
  exact h.noq n' fun hm => hn2 (hp.mem_iff.2 (List.mem_cons_of_mem _ hm))
 ·intro t l hl
  rw [upd_other ft Fq (by simp)]
  obtain ⟨v,h1,h2,h3⟩ := h.link t l hl
  exact ⟨v,h1,h2.same fun g hg => ho (.link t) (by simp) g ((h3 g).2 hg),h3⟩
 ·intro t ht
  rw [upd_other ft Fq (by simp)]
  exact h.nol t ht
 ·intro a c k ha hc
  by_cases ea : a = .queue n
  ·by_cases ec : c = .queue n
   ·rw [ea,ec]
   ·rw [ea,upd_same] at ha
    rw [upd_other ft Fq ec] at hc
    have := hnew k ha
    have := h.lts c k hc
    omega
  ·rw [upd_other ft Fq ea] at ha
   by_cases ec : c = .queue n
   ·rw [ec,upd_same] at hc
    have := hnew k hc
    have := h.lts a k ha
    omega
   ·rw [upd_other ft Fq ec] at hc
    exact h.one a c k ha hc
 ·refine ⟨g.os.trans b2.os,g.tape.trans b2.tape,g.output.trans b2.output,Nat.le_trans b2.size g.size,fun k hk hn => old_same b2 g hk fun e => hn ⟨.qmap,(h.fq k).2 e⟩,fun k ⟨a,ha⟩ => ?_⟩
  by_cases ea : a = .queue n
  ·rw [ea,upd_same] at ha
   exact .inr (hnew k ha)
  ·rw [upd_other ft Fq ea] at ha
   exact .inl ⟨a,ha⟩
theorem SAt.cutQueue (h : SAt w p ft d s) {n : ByteArray} (hd : DAt w2 d.qm (d.ps.filter fun y => !decide (y.1 = n))) (g : w.grownBy w2 (some d.qm)) :
  SAt w2 p (upd ft (.queue n) fun _ => False) { d with ps := d.ps.filter fun y => !decide (y.1 = n) } { s with qs := s.qs.filter fun y => !decide (y.1 = n) } /\ Moved w w2 (fun k => ∃ a,ft a k) (fun k => ∃ a,upd ft (.queue n) (fun _ => False) a k) := by
 have ho : ∀ a,a ≠ .qmap -> ∀ k,ft a k -> w2.heap[k]? = w.heap[k]? := fun a ha k hk => g.block k (h.lts a k hk) (by simpa using fun e => ha (h.one a .qmap k hk ((h.fq k).2 e)))
 refine ⟨⟨?_,?_,?_,?_,?_,hd,?_,?_,?_,?_,?_,?_,?_,h.tos,?_,?_,?_⟩,?_⟩
 ·rw [ho .main (by simp) p ((h.fm p).2 rfl)]; exact h.blk
 ·rw [upd_other ft _ (by simp)]; exact h.fm
 ·exact h.edges.same fun g hg => ho .edges (by simp) g ((h.fe g).2 hg)
 ·rw [upd_other ft _ (by simp)]; exact h.fe
 ·rw [upd_other ft _ (by simp)]; exact h.table.same fun k hk => ho .table (by simp) k hk
 ·rw [upd_other ft _ (by simp)]; exact h.fq
 ·rw [upd_other ft _ (by simp)]; exact h.book.same fun k hk => ho .book (by simp) k hk
 ·exact h.lmap.same (ho .lmap (by simp) _ ((h.fl _).2 rfl))
 ·rw [upd_other ft _ (by simp)]; exact h.fl
 ·exact filter_names n d.ps s.qs h.names
 ·intro n' q' hq'
  obtain ⟨hm,hne⟩ := List.mem_filter.1 hq'
  have hne : n' ≠ n := by simpa using hne
  rw [upd_other ft _ (by simpa using hne)]
  obtain ⟨b',h1,h2⟩ := h.queue n' q' hm
  exact ⟨b',List.mem_filter.2 ⟨h1,by simpa using hne⟩,h2.same fun k hk => ho _ (by simp) k hk⟩
 ·intro n' hn' k
  by_cases e : n' = n
  ·rw [e,upd_same]; exact id
  ·rw [upd_other ft _ (by simpa using e)]
   refine h.noq n' (fun hm => hn' ?_) k
   obtain ⟨x,hx,e2⟩ := List.mem_map.1 hm
   exact List.mem_map.2 ⟨x,List.mem_filter.2 ⟨hx,by rw [e2]; simpa using e⟩,e2⟩
 ·intro t l hl
  rw [upd_other ft _ (by simp)]
  obtain ⟨v,h1,h2,h3⟩ := h.link t l hl
  exact ⟨v,h1,h2.same fun g hg => ho (.link t) (by simp) g ((h3 g).2 hg),h3⟩
 ·intro t ht
  rw [upd_other ft _ (by simp)]
  exact h.nol t ht
 ·intro a c k ha hc
  by_cases ea : a = .queue n
  ·rw [ea,upd_same] at ha; exact ha.elim
  ·by_cases ec : c = .queue n
   ·rw [ec,upd_same] at hc; exact hc.elim
   ·rw [upd_other ft _ ea] at ha
    rw [upd_other ft _ ec] at hc
    exact h.one a c k ha hc
 ·refine ⟨g.os,g.tape,g.output,g.size,fun k hk hn => g.block k hk (by simpa using fun e => hn ⟨.qmap,(h.fq k).2 e⟩),fun k ⟨a,ha⟩ => ?_⟩
  by_cases ea : a = .queue n
  ·rw [ea,upd_same] at ha; exact ha.elim
  ·rw [upd_other ft _ ea] at ha
   exact .inl ⟨a,ha⟩
end
def queueM (s : Sm) (n : ByteArray) (k : Int) : Int × Sm := match findQ s.qs n with
 |some q => (if (q.most : Int) = k then 0 else 12,s)
 |none => if 16 <= s.qs.length then (5,s) else (0,{ s with qs := insK n (F.newS k.toNat) s.qs })
theorem queueM_some {s : Sm} {n : ByteArray} {k : Int} {q : F.St} (h : findQ s.qs n = some q) : queueM s n k = (if (q.most : Int) = k then 0 else 12,s) := by unfold queueM; rw [h]
theorem queueM_none {s : Sm} {n : ByteArray} {k : Int} (h : findQ s.qs n = none) : queueM s n k = if 16 <= s.qs.length then (5,s) else (0,{ s with qs := insK n (F.newS k.toNat) s.qs }) := by unfold queueM; rw [h]
theorem dl_cons {l : List Pe} (h : DL l) {n : ByteArray} (hs : n.size <= maxLen) (hn : findP l n = none) (b : Nat) : DL ((n,b) :: l) := by
 refine ⟨List.pairwise_cons.2 ⟨fun y hy e => findP_none hn y hy (str_inj e).symm,h.diff⟩,fun x hx => ?_⟩
 rcases List.mem_cons.1 hx with rfl | hx
 ·exact hs
 ·exact h.fit x hx
theorem SAt.len_ps {w : World} {p : Nat} {ft : Ix -> Nat -> Prop} {d : Ad} {s : Sm} (h : SAt w p ft d s) : d.ps.length = s.qs.length := by
 have := congrArg List.length h.names
 simpa using this
theorem makeQ_any (p : Nat) (G : Nat -> Prop) (s : Sm) (a : Ax) (w : World) (h : SS w p G s) (fit : s.Fit) (hs : a.name.size <= maxLen) (hn : 1 <= a.n /\ a.n <= 1000) :
  Calls Tryz.prog 94 #[.pointer (some ⟨p,0,none⟩),av a] w (DeedPost p G w (queueM s a.name a.n).1 (queueM s a.name a.n).2) := by
 obtain ⟨W,fold⟩ : ∃ W,w.alloc (.cells #[.int .i64 a.kind,.string a.name,.int .i64 a.n,.int .u64 a.tag,.int .i64 a.to,.string a.xn,.int .i64 a.xk,.bool a.xf,.string a.be,.string a.bq,.string a.bp,.int .i64 a.m.origin,.int .u64 a.m.seq,.int .i64 a.m.hop,.string a.m.ex,.string a.m.key,.string a.m.body] 42) = W := ⟨_,rfl⟩
 have hB : Boxd w W a := by rw [<- fold]; exact boxd_new w a
 have hlt := h.lts
 have hW := (h.kept hB.bel).kept (drew_below W)
 have H0 : Hid (SS w p G s /\ Below w.heap.size w W) := ⟨h,hB.bel⟩
 obtain ⟨ft,d,hs',hF⟩ := hW
 have HS : Hid (SAt W.drew p ft d s /\ (∀ k,G k ↔ ∃ a,ft a k) /\ Boxd w W a) := ⟨hs',hF,hB⟩
 have hl : (Instr.lookup 92 (.map (some d.qm)) (.string a.name) true).run Tryz.prog W.drew = .ok (.tuple #[ptrO ((findP d.ps a.name).map Prod.snd),.bool (findP d.ps a.name).isSome]) W.drew := DAt.look2 (w := W.drew) (hs'.qmap) (hs'.dl fit) hs
 obtain ⟨c0,c1,c2,c3,c4,c5,c6,c7,c8,c9⟩ := cells10 hs'.blk
 obtain ⟨x0,x1,x2,x3,x4,x5,x6,x7,x8,x9,x10,x11,x12,x13,x14,x15,x16⟩ := cells17 hB.box
 have c7' : W.cell? ⟨p,7,none⟩ = some (.map (some d.qm)) := c7
 have hq := hs'.queueAt fit a.name
 have hpl := hs'.len_ps
 have hlen : ∀ ty q,(Builtin.len_ #[92] ty #[.map (some d.qm)]).run Tryz.prog (W.drewN q) = .ok (.int .i64 (s.qs.length : Nat)) (W.drewN q) := fun ty q => by have := DAt.len (w := W.drewN q) hs'.qmap ty; rw [hpl] at this; exact this
 have hdl := hs'.dl fit
 clear hs' hF hB c0 c1 c2 c3 c4 c5 c6 c7 c8 c9 x0 x3 x4 x5 x6 x7 x8 x9 x10 x11 x12 x13 x14 x15 x16 h
 rcases hq with ⟨q1,q2⟩ | ⟨q,b,q1,q2,q3,q4⟩
 ·have hl2 := hl
  rw [q2] at hl2
  clear hl
  replace hl2 : (Instr.lookup 92 (.map (some d.qm)) (.string a.name) true).run Tryz.prog W.drew = .ok (.tuple #[.pointer none,.bool false]) W.drew := hl2
  rw [queueM_none q1]
  by_cases h16 : 16 <= s.qs.length
  ·rw [if_pos h16]
   have h16' : (16 : Int) <= (s.qs.length : Int) := by omega
   generalize s.qs.length = L at hlen h16'
   clear q1 q2 hdl hpl h16 hlt
   go_enter Tryz.func94,Tryz.ntmps94
   go_wp2
   try rw [fold]
   (go_region_held3 (fun w' => w'.cell? ⟨p,7,none⟩ = some (.map (some d.qm)) /\ w'.cell? ⟨w.heap.size,1,none⟩ = some (.string a.name) /\ w'.cell? ⟨w.heap.size,2,none⟩ = some (.int .i64 a.n) /\ (Instr.lookup 92 (.map (some d.qm)) (.string a.name) true).run Tryz.prog w' = .ok (.tuple #[.pointer none,.bool false]) w') (first | exact ⟨c7',x1,x2,hl2⟩ | go_keep) (first | fail))
   all_goals go_wp2
   go_quiet (fail)
   all_goals go_wp2
   all_goals go_ret
   all_goals exact deed_none H0.out.1 (keptW H0.out.2 (drewN_below W _)) 5
  ·rw [if_neg h16]
   have h16' : ¬ (16 : Int) <= (s.qs.length : Int) := by omega
   have hN : Hid (∀ V,Calls Tryz.prog 175 #[.int .i64 a.n] V fun e w' => ∃ p,e = .returned (.pointer (some ⟨p,0,none⟩)) /\ ∃ Fq,F.Q w' p Fq (F.newS a.n.toNat) /\ (∀ k,Fq k -> V.heap.size <= k) /\ Below V.heap.size V w') := fun V => by
    have hN := F.new_any a.n.toNat V (by omega) (by omega)
    rw [show ((a.n.toNat : Nat) : Int) = a.n by omega] at hN
    exact hN
   have HN : Hid (∀ N w2 b Fq,Below (W.drewN N).heap.size (W.drewN N) w2 -> F.Q w2 b Fq (F.newS a.n.toNat) -> (∀ k,Fq k -> (W.drewN N).heap.size <= k) -> ∃ w3,(Instr.mapUpdate 92 (.map (some d.qm)) (.string a.name) (.pointer (some ⟨b,0,none⟩))).run Tryz.prog w2 = .ok () w3 /\ Hid (DeedPost p G w 0 { s with qs := insK a.name (F.newS a.n.toNat) s.qs } (.returned (.int .i64 0)) w3) /\ w3.cell? ⟨p,7,none⟩ = some (.map (some d.qm)) /\ w3.cell? ⟨w.heap.size,1,none⟩ = some (.string a.name) /\ w3.cell? ⟨w.heap.size,2,none⟩ = some (.int .i64 a.n) /\ w2.cell? ⟨p,7,none⟩ = some (.map (some d.qm)) /\ w2.cell? ⟨w.heap.size,1,none⟩ = some (.string a.name) /\ w2.cell? ⟨w.heap.size,2,none⟩ = some (.int .i64 a.n)) := by
    intro N w2 b Fq b2 hq hnew
    obtain ⟨V,eV⟩ : ∃ V,W.drewN N = V := ⟨_,rfl⟩
    have hV : V.heap = W.heap := by rw [<- eV]; rfl
    have bV : Below W.heap.size W V := by rw [<- eV]; exact drewN_below W N
    rw [eV] at b2 hnew
    have hsv : SAt V p ft d s := HS.out.1.same fun _ _ _ => by rw [hV]; rfl
    have hsz : V.heap.size = W.heap.size := by rw [hV]
    have b2' : ∀ k,k < W.heap.size -> w2.heap[k]? = W.heap[k]? := fun k hk => (b2.block k (by omega)).trans (by rw [hV])
    have hqm : d.qm < W.heap.size := HS.out.1.qmap.lt
    have hd2 : DAt w2 d.qm d.ps := hsv.qmap.same (b2.block _ (by omega))
    obtain ⟨w3,r3,d3,g3⟩ := hd2.put hdl hs b (findP_none q2) (by rw [hpl]; omega)
    obtain ⟨s3,m3⟩ := hsv.addQueue (findQ_none q1) b2 hq hnew d3 (dl_cons hdl hs q2 b) g3
    have hpw : p < W.heap.size := (Array.getElem?_eq_some_iff.1 HS.out.1.blk).1
    have hbw : w.heap.size < W.heap.size := (Array.getElem?_eq_some_iff.1 HS.out.2.2.box).1
    have hpq : p ≠ d.qm := fun e => by have := HS.out.1.one .main .qmap p ((HS.out.1.fm p).2 rfl) ((HS.out.1.fq p).2 e); cases this
    have hbq : w.heap.size ≠ d.qm := fun e => by have := hlt _ ((HS.out.2.1 d.qm).2 ⟨.qmap,(HS.out.1.fq _).2 rfl⟩); omega
    have k2 : ∀ g j u,g < W.heap.size -> W.cell? ⟨g,j,none⟩ = some u -> w2.cell? ⟨g,j,none⟩ = some u := fun g j u hg hu => (World.cell?_of_block (w := W) (a := ⟨g,j,none⟩) (b2' g hg)).trans hu
    have k3 : ∀ g j u,g < W.heap.size -> g ≠ d.qm -> W.cell? ⟨g,j,none⟩ = some u -> w3.cell? ⟨g,j,none⟩ = some u := fun g j u hg hne hu => (World.cell?_of_block (w := W) (a := ⟨g,j,none⟩) ((g3.block g (by have := b2.size; omega) (by simpa using hne)).trans (b2' g hg))).trans hu
    have e : G = fun k => ∃ a,ft a k := funext fun k => propext (HS.out.2.1 k)
    refine ⟨w3,r3,⟨rfl,_,⟨_,_,s3,fun k => Iff.rfl⟩,by rw [e]; exact Moved.from_below (keptW HS.out.2.2.bel bV) m3⟩,k3 _ _ _ hpw hpq c7',k3 _ _ _ hbw hbq x1,k3 _ _ _ hbw hbq x2,k2 _ _ _ hpw c7',k2 _ _ _ hbw x1,k2 _ _ _ hbw x2⟩
   generalize s.qs.length = L at hlen h16'
   clear q1 q2 hdl hpl h16 hlt
   go_enter Tryz.func94,Tryz.ntmps94
   go_wp2
   try rw [fold]
   (go_region_held3 (fun w' => w'.cell? ⟨p,7,none⟩ = some (.map (some d.qm)) /\ w'.cell? ⟨w.heap.size,1,none⟩ = some (.string a.name) /\ w'.cell? ⟨w.heap.size,2,none⟩ = some (.int .i64 a.n) /\ (Instr.lookup 92 (.map (some d.qm)) (.string a.name) true).run Tryz.prog w' = .ok (.tuple #[.pointer none,.bool false]) w') (first | exact ⟨c7',x1,x2,hl2⟩ | go_keep) (first | fail))
   all_goals go_wp2
   go_quiet (fail)
   all_goals go_wp2
   (go_region_held3 (fun w' => w'.cell? ⟨p,7,none⟩ = some (.map (some d.qm)) /\ w'.cell? ⟨w.heap.size,1,none⟩ = some (.string a.name) /\ w'.cell? ⟨w.heap.size,2,none⟩ = some (.int .i64 a.n)) (first | exact ⟨c7',x1,x2⟩ | go_keep) (first
    |(go_at_call 175; refine (hN.out _).mono ?_; rintro e w2 ⟨b,rfl,Fq,q2,n2,b2⟩; obtain ⟨w3,r3,p3,f1,f2,f3,f4,f5,f6⟩ := HN.out _ w2 b Fq b2 q2 n2; clear q2 n2 b2 hN HN)))
   all_goals go_wp2
   all_goals go_ret
   all_goals exact p3.out
 ·have hl2 := hl
  rw [q2] at hl2
  clear hl
  replace hl2 : (Instr.lookup 92 (.map (some d.qm)) (.string a.name) true).run Tryz.prog W.drew = .ok (.tuple #[.pointer (some ⟨b,0,none⟩),.bool true]) W.drew := hl2
  rw [queueM_some q1]
  have hM := F.most_any b (ft (.queue a.name)) q W.drew.drew (q4.same fun _ _ => rfl)
  obtain ⟨k,hk⟩ : ∃ k : Int,(q.most : Int) = k := ⟨_,rfl⟩
  rw [hk] at hM ⊢
  clear hk q1 q2 q3 q4 hdl hpl hlen hlt
  by_cases he : k = a.n
  ·rw [if_pos he]
   subst he
   go_enter Tryz.func94,Tryz.ntmps94
   go_wp2
   try rw [fold]
   (go_region_held3 (fun w' => w'.cell? ⟨p,7,none⟩ = some (.map (some d.qm)) /\ w'.cell? ⟨w.heap.size,1,none⟩ = some (.string a.name) /\ w'.cell? ⟨w.heap.size,2,none⟩ = some (.int .i64 a.n) /\ (Instr.lookup 92 (.map (some d.qm)) (.string a.name) true).run Tryz.prog w' = .ok (.tuple #[.pointer (some ⟨b,0,none⟩),.bool true]) w') (first | exact ⟨c7',x1,x2,hl2⟩ | go_keep) (first | fail))
   all_goals go_wp2
   (go_region_held3 (fun w' => w'.cell? ⟨w.heap.size,2,none⟩ = some (.int .i64 a.n)) (first | exact x2 | go_keep) (first
    |(go_at_call 80; refine hM.mono ?_; rintro e w2 ⟨rfl,rfl⟩; clear hM)))
   all_goals go_wp2
   all_goals go_ret
   all_goals exact deed_none H0.out.1 (keptW (keptW H0.out.2 (drew_below W)) (drew_below W.drew)) 0
  ·rw [if_neg he]
   go_enter Tryz.func94,Tryz.ntmps94
   go_wp2
   try rw [fold]
   (go_region_held3 (fun w' => w'.cell? ⟨p,7,none⟩ = some (.map (some d.qm)) /\ w'.cell? ⟨w.heap.size,1,none⟩ = some (.string a.name) /\ w'.cell? ⟨w.heap.size,2,none⟩ = some (.int .i64 a.n) /\ (Instr.lookup 92 (.map (some d.qm)) (.string a.name) true).run Tryz.prog w' = .ok (.tuple #[.pointer (some ⟨b,0,none⟩),.bool true]) w') (first | exact ⟨c7',x1,x2,hl2⟩ | go_keep) (first | fail))
   all_goals go_wp2
   (go_region_held3 (fun w' => w'.cell? ⟨w.heap.size,2,none⟩ = some (.int .i64 a.n)) (first | exact x2 | go_keep) (first
    |(go_at_call 80; refine hM.mono ?_; rintro e w2 ⟨rfl,rfl⟩; clear hM)))
   all_goals go_wp2
   all_goals go_ret
   all_goals exact deed_none H0.out.1 (keptW (keptW H0.out.2 (drew_below W)) (drew_below W.drew)) 12
end Go.Proofs.YtjagaankkcbjmaaGreatDoor
