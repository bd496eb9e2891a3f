import Derived.Test.YtjagaankkcbjmaaGreatDoorQrA
import Derived.Test.YtjagaankkcbjmaaGreatDoorQr21
import Derived.Test.YtjagaankkcbjmaaGreatDoorQr3
import Derived.Test.YtjagaankkcbjmaaGreatDoorQr12
import Derived.Test.YtjagaankkcbjmaaGreatDoorQr17
import Derived.Test.YtjagaankkcbjmaaGreatDoorQr9
import Derived.Test.YtjagaankkcbjmaaGreatDoorQr22
import Derived.Test.YtjagaankkcbjmaaGreatDoorQr25
import Derived.Test.YtjagaankkcbjmaaGreatDoorQr26
import Derived.Test.YtjagaankkcbjmaaGreatDoorQr19
import Derived.Deep.RegionHeld3
import Derived.Test.YtjagaankkcbjmaaGreatDoorQr18
import Derived.Test.YtjagaankkcbjmaaGreatDoorQr14
import Derived.Test.YtjagaankkcbjmaaGreatDoorQr13
set_option maxHeartbeats 1000000
set_option maxRecDepth 20000
namespace Go.Proofs.YtjagaankkcbjmaaGreatDoor
open Go.RowKit
structure Sm where
 site : Int
 S : Int
 E : List (Int × Int)
 H : Int
 seq : Nat
 boots : Nat
 tb : B.Tb
 qs : List (ByteArray × F.St)
 bk : Nat -> List (Nat × Nat)
 lk : List (Int × List Ms)
instance encM14 : K.Enc mcells 6 := ⟨fun _ => rfl,fun m u hu => by simp [mcells] at hu; rcases hu with rfl | rfl | rfl | rfl | rfl | rfl <;> rfl,by decide⟩
abbrev OwnM (w : World) (base : Nat) (v : Value) (l : List Ms) : Prop := K.OwnOf mcells 6 40 w base v l
abbrev OwnE (w : World) (base : Nat) (v : Value) (l : List (Int × Int)) : Prop := K.OwnOf O.ecells 2 110 w base v l
inductive Ix where
 |main | edges | table | qmap | book | lmap
 |queue (n : ByteArray)
 |link (t : Int)
 deriving DecidableEq
structure Ad where
 ev : Value
 tp : Nat
 qm : Nat
 bp : Nat
 lm : Nat
 ps : List Pe
 es : List Le
abbrev scells14 (d : Ad) (s : Sm) : Array Value := #[.int .i64 s.site,.int .i64 s.S,d.ev,.int .i64 s.H,.int .u64 (s.seq : Int),.int .u64 (s.boots : Int),.pointer (some ⟨d.tp,0,none⟩),.map (some d.qm),.pointer (some ⟨d.bp,0,none⟩),.map (some d.lm)]
structure SAt (w : World) (p : Nat) (ft : Ix -> Nat -> Prop) (d : Ad) (s : Sm) : Prop where
 blk : w.heap[p]? = some (.cells (scells14 d s) 96 (0,0))
 fm : ∀ k,ft .main k ↔ k = p
 edges : OwnE w 0 d.ev s.E
 fe : ∀ k,ft .edges k ↔ d.ev.ownBlock = some k
 table : B.T w d.tp (ft .table) s.tb
 qmap : DAt w d.qm d.ps
 fq : ∀ k,ft .qmap k ↔ k = d.qm
 book : S.Bk w d.bp (ft .book) s.bk
 lmap : LAt w d.lm d.es
 fl : ∀ k,ft .lmap k ↔ k = d.lm
 names : d.ps.map Prod.fst = s.qs.map Prod.fst
 queue : ∀ n q,(n,q) ∈ s.qs -> ∃ b,(n,b) ∈ d.ps /\ F.Q w b (ft (.queue n)) q
 noq : ∀ n,n ∉ s.qs.map Prod.fst -> ∀ k,¬ ft (.queue n) k
 tos : d.es.map Prod.fst = s.lk.map Prod.fst
 link : ∀ t l,(t,l) ∈ s.lk -> ∃ v,(t,v) ∈ d.es /\ OwnM w 0 v l /\ ∀ k,ft (.link t) k ↔ v.ownBlock = some k
 nol : ∀ t,t ∉ s.lk.map Prod.fst -> ∀ k,¬ ft (.link t) k
 one : ∀ a b k,ft a k -> ft b k -> a = b
theorem SAt.lts {w : World} {p : Nat} {ft : Ix -> Nat -> Prop} {d : Ad} {s : Sm} (h : SAt w p ft d s) : ∀ a k,ft a k -> k < w.heap.size := by
 intro a k hk
 cases a with
 |main => rw [(h.fm k).1 hk]; exact (yyD h.blk).1
 |edges => exact (h.edges.lt ((h.fe k).1 hk)).2
 |table => exact h.table.lts k hk
 |qmap => rw [(h.fq k).1 hk]; exact h.qmap.lt
 |book => exact h.book.lts k hk
 |lmap => rw [(h.fl k).1 hk]; exact h.lmap.lt
 |queue n =>
  by_cases hn : n ∈ s.qs.map Prod.fst
  ·obtain ⟨⟨n',q⟩,hm,rfl⟩ := List.mem_map.1 hn
   obtain ⟨b,_,hq⟩ := h.queue n' q hm
   exact hq.lts k hk
  ·exact absurd hk (h.noq n hn k)
 |link t =>
  by_cases hn : t ∈ s.lk.map Prod.fst
  ·obtain ⟨⟨t',l⟩,hm,rfl⟩ := List.mem_map.1 hn
   obtain ⟨v,_,ho,hf⟩ := h.link t' l hm
   exact (ho.lt ((hf k).1 hk)).2
  ·exact absurd hk (h.nol t hn k)
theorem SAt.same {w w' : World} {p : Nat} {ft : Ix -> Nat -> Prop} {d : Ad} {s : Sm} (h : SAt w p ft d s) (hs : ∀ a k,ft a k -> w'.heap[k]? = w.heap[k]?) : SAt w' p ft d s where
 blk := by rw [hs .main p ((h.fm p).2 rfl)]; exact h.blk
 fm := h.fm
 edges := h.edges.same fun g hg => hs .edges g ((h.fe g).2 hg)
 fe := h.fe
 table := h.table.same fun k hk => hs .table k hk
 qmap := h.qmap.same (hs .qmap _ ((h.fq _).2 rfl))
 fq := h.fq
 book := h.book.same fun k hk => hs .book k hk
 lmap := h.lmap.same (hs .lmap _ ((h.fl _).2 rfl))
 fl := h.fl
 names := h.names
 queue := fun n q hq => by
  obtain ⟨b,h1,h2⟩ := h.queue n q hq
  exact ⟨b,h1,h2.same fun k hk => hs _ k hk⟩
 noq := h.noq
 tos := h.tos
 link := fun t l hl => by
  obtain ⟨v,h1,h2,h3⟩ := h.link t l hl
  exact ⟨v,h1,h2.same fun g hg => hs (.link t) g ((h3 g).2 hg),h3⟩
 nol := h.nol
 one := h.one
def SS (w : World) (p : Nat) (F : Nat -> Prop) (s : Sm) : Prop := ∃ ft d,SAt w p ft d s /\ ∀ k,F k ↔ ∃ a,ft a k
theorem SS.lts {w : World} {p : Nat} {F : Nat -> Prop} {s : Sm} (h : SS w p F s) : ∀ k,F k -> k < w.heap.size := by
 obtain ⟨ft,d,hs,hF⟩ := h
 intro k hk
 obtain ⟨a,ha⟩ := (hF k).1 hk
 exact hs.lts a k ha
theorem SS.same {w w' : World} {p : Nat} {F : Nat -> Prop} {s : Sm} (h : SS w p F s) (hs : ∀ k,F k -> w'.heap[k]? = w.heap[k]?) : SS w' p F s := by
 obtain ⟨ft,d,h1,hF⟩ := h
 exact ⟨ft,d,h1.same fun a k hk => hs k ((hF k).2 ⟨a,hk⟩),hF⟩
theorem SS.kept {w w' : World} {p : Nat} {F : Nat -> Prop} {s : Sm} (h : SS w p F s) (hb : Below w.heap.size w w') : SS w' p F s := h.same fun k hk => hb.block k (h.lts k hk)
def upd (ft : Ix -> Nat -> Prop) (c : Ix) (F : Nat -> Prop) : Ix -> Nat -> Prop := fun a => if a = c then F else ft a
theorem upd_same (ft : Ix -> Nat -> Prop) (c : Ix) (F : Nat -> Prop) : upd ft c F c = F := if_pos rfl
theorem upd_other (ft : Ix -> Nat -> Prop) {a c : Ix} (F : Nat -> Prop) (h : a ≠ c) : upd ft c F a = ft a := if_neg h
theorem SAt.others {w w' : World} {p : Nat} {ft : Ix -> Nat -> Prop} {d : Ad} {s : Sm} {c : Ix} {F' : Nat -> Prop} (h : SAt w p ft d s) (m : Moved w w' (ft c) F') : ∀ a,a ≠ c -> ∀ k,ft a k -> w'.heap[k]? = w.heap[k]? :=
 fun a ha k hk => m.block k (h.lts a k hk) fun hc => ha (h.one a c k hk hc)
theorem SAt.oneUpd {w w' : World} {p : Nat} {ft : Ix -> Nat -> Prop} {d : Ad} {s : Sm} {c : Ix} {F' : Nat -> Prop} (h : SAt w p ft d s) (m : Moved w w' (ft c) F') : ∀ a b k,upd ft c F' a k -> upd ft c F' b k -> a = b := by
 intro a b k ha hb
 have key : ∀ e,e ≠ c -> ft e k -> F' k -> False := fun e he h1 h2 => (m.sub k h2).elim (fun h3 => he (h.one e c k h1 h3)) (fun h3 => by have := h.lts e k h1; omega)
 by_cases ea : a = c
 ·by_cases eb : b = c
  ·rw [ea,eb]
  ·rw [ea,upd_same] at ha
   rw [upd_other ft F' eb] at hb
   exact (key b eb hb ha).elim
 ·rw [upd_other ft F' ea] at ha
  by_cases eb : b = c
  ·rw [eb,upd_same] at hb
   exact (key a ea ha hb).elim
  ·rw [upd_other ft F' eb] at hb
   exact h.one a b k ha hb
theorem moved_upd {w w' : World} {ft : Ix -> Nat -> Prop} {c : Ix} {F' : Nat -> Prop} (m : Moved w w' (ft c) F') : Moved w w' (fun k => ∃ a,ft a k) (fun k => ∃ a,upd ft c F' a k) :=
 ⟨m.os,m.tape,m.output,m.size,fun k hk hn => m.block k hk (fun hc => hn ⟨c,hc⟩),fun k ⟨a,ha⟩ => by
  by_cases e : a = c
  ·rw [e,upd_same] at ha
   exact (m.sub k ha).imp (fun h => ⟨c,h⟩) id
  ·rw [upd_other ft F' e] at ha
   exact .inl ⟨a,ha⟩⟩
theorem cells10 {w : World} {g : Nat} {a b c d e f x y z u : Value} {t : TypeId} {fz : Nat × Nat} (h : w.heap[g]? = some (.cells #[a,b,c,d,e,f,x,y,z,u] t fz)) :
  w.cell? ⟨g,0,none⟩ = some a /\ w.cell? ⟨g,1,none⟩ = some b /\ w.cell? ⟨g,2,none⟩ = some c /\ w.cell? ⟨g,3,none⟩ = some d /\ w.cell? ⟨g,4,none⟩ = some e /\ w.cell? ⟨g,5,none⟩ = some f /\ w.cell? ⟨g,6,none⟩ = some x /\ w.cell? ⟨g,7,none⟩ = some y /\ w.cell? ⟨g,8,none⟩ = some z /\ w.cell? ⟨g,9,none⟩ = some u := by
 refine ⟨?_,?_,?_,?_,?_,?_,?_,?_,?_,?_⟩ <;> (simp only [World.cell?]; rw [h]; rfl)
theorem made14_any (p : Nat) (F : Nat -> Prop) (s : Sm) (w : World) (h : SS w p F s) : Calls Tryz.prog 36 #[.pointer (some ⟨p,0,none⟩)] w fun e w' => e = .returned (.bool true) /\ w' = w := by
 obtain ⟨ft,d,hs,_⟩ := h
 obtain ⟨c0,c1,c2,c3,c4,c5,c6,c7,c8,c9⟩ := cells10 hs.blk
 clear hs
 go_enter Tryz.func36,Tryz.ntmps36
 go_wp2
 go_ret
 exact ⟨rfl,rfl⟩
def Un14 (w : World) (q : Value) : Prop := q = .pointer none \/ ∃ p,q = .pointer (some ⟨p,0,none⟩) /\ w.heap[p]? = some (.cells #[.int .i64 0,.int .i64 0,.slice none 0 0,.int .i64 0,.int .u64 0,.int .u64 0,.pointer none,.map none,.pointer none,.map none] 96 (0,0))
theorem msgInfo : ∃ i,Tryz.prog.info? 40 = some i /\ i.zero = some (mv zM) /\ i.size = 6 /\ i.bytes = 72 := by
 have hinfo : (Tryz.prog.info? 40).map (fun i => (i.zero,i.size,i.bytes)) = some (some (mv zM),6,72) := by kernel_rfl
 cases h : Tryz.prog.info? 40 with
 |none => rw [h] at hinfo; simp at hinfo
 |some i =>
  rw [h] at hinfo
  simp only [Option.map_some,Option.some.injEq,Prod.mk.injEq] at hinfo
  exact ⟨i,rfl,hinfo.1,hinfo.2.1,hinfo.2.2⟩
theorem edgeInfo : ∃ i,Tryz.prog.info? 110 = some i /\ i.zero = some (.agg #[.int .i64 0,.int .i64 0]) /\ i.size = 2 /\ i.bytes = 16 := by
 have hinfo : (Tryz.prog.info? 110).map (fun i => (i.zero,i.size,i.bytes)) = some (some (.agg #[.int .i64 0,.int .i64 0]),2,16) := by kernel_rfl
 cases h : Tryz.prog.info? 110 with
 |none => rw [h] at hinfo; simp at hinfo
 |some i =>
  rw [h] at hinfo
  simp only [Option.map_some,Option.some.injEq,Prod.mk.injEq] at hinfo
  exact ⟨i,rfl,hinfo.1,hinfo.2.1,hinfo.2.2⟩
theorem anotherM_any (v : Value) (l : List Ms) (w : World) (hr : K.RowOf mcells w v l) (hlen : l.length <= 1000000) :
  Calls Tryz.prog 75 #[v] w fun e w' => ∃ v',e = .returned v' /\ OwnM w' w.heap.size v' l /\ Below w.heap.size w w' := by
 obtain ⟨a,cap,rfl⟩ := hr.slice
 obtain ⟨i,hi,hz,hsz,hby⟩ := msgInfo
 go_enter Tryz.func75,Tryz.ntmps75
 go_wp2_with (at_builtin; refine K.wpList_append_rows (enc := mcells) rfl (.const (.slice none 0 0)) (.tmp 3) 67 rfl Tryz.underlying67 i _ 72 hi hz hsz hby rfl w.heap.size (.slice none 0 0) _ [] l rfl rfl (K.ownOf_nil _ _) hr (by unfold maxLen; simp; omega) (by simp; omega) (yyH _) ?_; intro v' w' own' grown' _; obtain ⟨va,vc,hva⟩ := own'.rng.slice; subst hva)
 all_goals go_ret
 all_goals exact ⟨_,rfl,own',⟨grown'.os,grown'.tape,grown'.output,grown'.size,fun k hk => grown'.block k hk (by simp [Value.ownBlock])⟩⟩
theorem anotherE_any (v : Value) (l : List (Int × Int)) (w : World) (hr : K.RowOf O.ecells w v l) (hlen : l.length <= 1000000) :
  Calls Tryz.prog 33 #[v] w fun e w' => ∃ v',e = .returned v' /\ OwnE w' w.heap.size v' l /\ Below w.heap.size w w' := by
 obtain ⟨a,cap,rfl⟩ := hr.slice
 obtain ⟨i,hi,hz,hsz,hby⟩ := edgeInfo
 go_enter Tryz.func33,Tryz.ntmps33
 go_wp2_with (at_builtin; refine K.wpList_append_rows (enc := O.ecells) rfl (.const (.slice none 0 0)) (.tmp 3) 22 rfl Tryz.underlying22 i _ 16 hi hz hsz hby rfl w.heap.size (.slice none 0 0) _ [] l rfl rfl (K.ownOf_nil _ _) hr (by unfold maxLen; simp; omega) (by simp; omega) (yyH _) ?_; intro v' w' own' grown' _; obtain ⟨va,vc,hva⟩ := own'.rng.slice; subst hva)
 all_goals go_ret
 all_goals exact ⟨_,rfl,own',⟨grown'.os,grown'.tape,grown'.output,grown'.size,fun k hk => grown'.block k hk (by simp [Value.ownBlock])⟩⟩
def linkOf (lk : List (Int × List Ms)) (t : Int) : List Ms := ((lk.find? fun x => decide (x.1 = t)).map Prod.snd).getD []
structure Sm.Fit (s : Sm) : Prop where
 names : (s.qs.map Prod.fst).Nodup
 short : ∀ x ∈ s.qs,x.1.size <= 20
 tos : (s.lk.map Prod.fst).Nodup
 small : ∀ x ∈ s.lk,I64 x.1
 few : ∀ x ∈ s.lk,x.2.length <= 1000
theorem SAt.ll {w : World} {p : Nat} {ft : Ix -> Nat -> Prop} {d : Ad} {s : Sm} (h : SAt w p ft d s) (ok : s.Fit) : LL d.es := by
 have hn : (d.es.map Prod.fst).Nodup := by rw [h.tos]; exact ok.tos
 refine ⟨?_,fun x hx => ?_⟩
 ·have := List.pairwise_map.1 hn
  exact this.imp fun hne e => hne (int_inj e)
 ·have : x.1 ∈ s.lk.map Prod.fst := by rw [<- h.tos]; exact List.mem_map.2 ⟨x,hx,rfl⟩
  obtain ⟨y,hy,e⟩ := List.mem_map.1 this
  rw [<- e]
  exact ok.small y hy
theorem SAt.dl {w : World} {p : Nat} {ft : Ix -> Nat -> Prop} {d : Ad} {s : Sm} (h : SAt w p ft d s) (ok : s.Fit) : DL d.ps := by
 have hn : (d.ps.map Prod.fst).Nodup := by rw [h.names]; exact ok.names
 refine ⟨?_,fun x hx => ?_⟩
 ·have := List.pairwise_map.1 hn
  exact this.imp fun hne e => hne (str_inj e)
 ·have : x.1 ∈ s.qs.map Prod.fst := by rw [<- h.names]; exact List.mem_map.2 ⟨x,hx,rfl⟩
  obtain ⟨y,hy,e⟩ := List.mem_map.1 this
  rw [<- e]
  have := ok.short y hy
  unfold maxLen
  omega
theorem nodup_pair {α β : Type} {l : List (α × β)} (h : (l.map Prod.fst).Nodup) {a : α} {x y : β} (hx : (a,x) ∈ l) (hy : (a,y) ∈ l) : x = y := by
 induction l with
 |nil => cases hx
 |cons z r ih =>
  rw [List.map_cons,List.nodup_cons] at h
  rcases List.mem_cons.1 hx with e1 | m1
  ·rcases List.mem_cons.1 hy with e2 | m2
   ·rw [<- e1] at e2; injection e2 with _ e2; exact e2.symm
   ·exact absurd (List.mem_map.2 ⟨_,m2,rfl⟩) (by rw [<- e1] at h; exact h.1)
  ·rcases List.mem_cons.1 hy with e2 | m2
   ·exact absurd (List.mem_map.2 ⟨_,m1,rfl⟩) (by rw [<- e2] at h; exact h.1)
   ·exact ih h.2 m1 m2
theorem SAt.linkAt {w : World} {p : Nat} {ft : Ix -> Nat -> Prop} {d : Ad} {s : Sm} (h : SAt w p ft d s) (ok : s.Fit) (t : Int) : OwnM w 0 (((findL d.es t).map Prod.snd).getD (.slice none 0 0)) (linkOf s.lk t) := by
 unfold linkOf
 cases hf : s.lk.find? fun x => decide (x.1 = t) with
 |none =>
  have hn : findL d.es t = none := by
   unfold findL
   rw [List.find?_eq_none]
   intro x hx he
   have : x.1 ∈ s.lk.map Prod.fst := by rw [<- h.tos]; exact List.mem_map.2 ⟨x,hx,rfl⟩
   obtain ⟨y,hy,e⟩ := List.mem_map.1 this
   have := List.find?_eq_none.1 hf y hy
   rw [e] at this
   exact this he
  rw [hn]
  exact K.ownOf_nil _ _
 |some y =>
  obtain ⟨t',l⟩ := y
  have hm := List.mem_of_find?_eq_some hf
  obtain rfl : t' = t := by simpa using List.find?_some hf
  obtain ⟨v,h1,h2,_⟩ := h.link t' l hm
  cases hg : findL d.es t' with
  |none => exact absurd rfl (findL_none hg (t',v) h1)
  |some z =>
   obtain ⟨hz,e⟩ := findL_some hg
   obtain ⟨t'',v'⟩ := z
   obtain rfl : t'' = t' := e
   obtain rfl := nodup_pair (by rw [h.tos]; exact ok.tos) h1 hz
   exact h2
theorem linkOf_few {s : Sm} (ok : s.Fit) (t : Int) : (linkOf s.lk t).length <= 1000 := by
 unfold linkOf
 cases hf : s.lk.find? fun x => decide (x.1 = t) with
 |none => exact Nat.zero_le _
 |some y => exact ok.few y (List.mem_of_find?_eq_some hf)
theorem link_any (p : Nat) (F : Nat -> Prop) (s : Sm) (t : Int) (w : World) (h : SS w p F s) (ok : s.Fit) (ht : I64 t) :
  Calls Tryz.prog 27 #[.pointer (some ⟨p,0,none⟩),.int .i64 t] w fun e w' => ∃ v',e = .returned v' /\ OwnM w' w.heap.size v' (linkOf s.lk t) /\ Below w.heap.size w w' := by
 have hM := made14_any p F s w h
 obtain ⟨ft,d,hs,_⟩ := h
 obtain ⟨c0,c1,c2,c3,c4,c5,c6,c7,c8,c9⟩ := cells10 hs.blk
 have hl := hs.lmap.look (hs.ll ok) ht
 have ho := hs.linkAt ok t
 generalize (((findL d.es t).map Prod.snd).getD (.slice none 0 0)) = v at hl ho
 have hA := anotherM_any v _ w ho.rng (Nat.le_trans (linkOf_few ok t) (by decide))
 obtain ⟨va,vc,rfl⟩ := ho.rng.slice
 clear ho hs
 generalize linkOf s.lk t = l at hl hA ⊢
 go_enter Tryz.func27,Tryz.ntmps27
 go_wp2_with fail
 refine hM.mono ?_
 rintro e w ⟨rfl,rfl⟩
 clear hM
 go_wp2_with fail
 refine hA.mono ?_
 rintro e w' ⟨v',rfl,ho,hb⟩
 obtain ⟨va',vc',rfl⟩ := ho.rng.slice
 have HE : Hid (OwnM w' w.heap.size (.slice va' l.length vc') l /\ Below w.heap.size w w') := ⟨ho,hb⟩
 clear hA ho hb
 go_wp2
 go_ret
 exact ⟨_,rfl,HE.out⟩
section
variable {w w' : World} {p : Nat} {ft : Ix -> Nat -> Prop} {d : Ad} {s : Sm} {F' : Nat -> Prop}
theorem SAt.turnTable (h : SAt w p ft d s) (m : Moved w w' (ft .table) F') {tb' : B.Tb} (ht : B.T w' d.tp F' tb') : SAt w' p (upd ft .table F') d { s with tb := tb' } := by
 have ho := h.others m
 refine ⟨?_,?_,?_,?_,?_,?_,?_,?_,?_,?_,h.names,?_,?_,h.tos,?_,?_,h.oneUpd m⟩
 ·rw [ho .main (by simp) p ((h.fm p).2 rfl)]; exact h.blk
 ·rw [upd_other ft F' (by simp)]; exact h.fm
 ·exact h.edges.same fun g hg => ho .edges (by simp) g ((h.fe g).2 hg)
 ·rw [upd_other ft F' (by simp)]; exact h.fe
 ·rw [upd_same]; exact ht
 ·exact h.qmap.same (ho .qmap (by simp) _ ((h.fq _).2 rfl))
 ·rw [upd_other ft F' (by simp)]; exact h.fq
 ·rw [upd_other ft F' (by simp)]; exact h.book.same fun k hk => ho .book (by simp) k hk
 ·exact h.lmap.same (ho .lmap (by simp) _ ((h.fl _).2 rfl))
 ·rw [upd_other ft F' (by simp)]; exact h.fl
 ·intro n q hq
  rw [upd_other ft F' (by simp)]
  obtain ⟨b,h1,h2⟩ := h.queue n q hq
  exact ⟨b,h1,h2.same fun k hk => ho _ (by simp) k hk⟩
 ·intro n hn
  rw [upd_other ft F' (by simp)]
  exact h.noq n hn
 ·intro t l hl
  rw [upd_other ft F' (by simp)]
  obtain ⟨v,h1,h2,h3⟩ := h.link t l hl
  exact ⟨v,h1,h2.same fun g hg => ho (.link t) (by simp) g ((h3 g).2 hg),h3⟩
 ·intro t ht
  rw [upd_other ft F' (by simp)]
  exact h.nol t ht
theorem SAt.turnBook (h : SAt w p ft d s) (m : Moved w w' (ft .book) F') {bk' : Nat -> List (Nat × Nat)} (ht : S.Bk w' d.bp F' bk') : SAt w' p (upd ft .book F') d { s with bk := bk' } := by
 have ho := h.others m
 refine ⟨?_,?_,?_,?_,?_,?_,?_,?_,?_,?_,h.names,?_,?_,h.tos,?_,?_,h.oneUpd m⟩
 ·rw [ho .main (by simp) p ((h.fm p).2 rfl)]; exact h.blk
 ·rw [upd_other ft F' (by simp)]; exact h.fm
 ·exact h.edges.same fun g hg => ho .edges (by simp) g ((h.fe g).2 hg)
 ·rw [upd_other ft F' (by simp)]; exact h.fe
 ·rw [upd_other ft F' (by simp)]; exact h.table.same fun k hk => ho .table (by simp) k hk
 ·exact h.qmap.same (ho .qmap (by simp) _ ((h.fq _).2 rfl))
 ·rw [upd_other ft F' (by simp)]; exact h.fq
 ·rw [upd_same]; exact ht
 ·exact h.lmap.same (ho .lmap (by simp) _ ((h.fl _).2 rfl))
 ·rw [upd_other ft F' (by simp)]; exact h.fl
 ·intro n q hq
  rw [upd_other ft F' (by simp)]
  obtain ⟨b,h1,h2⟩ := h.queue n q hq
  exact ⟨b,h1,h2.same fun k hk => ho _ (by simp) k hk⟩
 ·intro n hn
  rw [upd_other ft F' (by simp)]
  exact h.noq n hn
 ·intro t l hl
  rw [upd_other ft F' (by simp)]
  obtain ⟨v,h1,h2,h3⟩ := h.link t l hl
  exact ⟨v,h1,h2.same fun g hg => ho (.link t) (by simp) g ((h3 g).2 hg),h3⟩
 ·intro t ht
  rw [upd_other ft F' (by simp)]
  exact h.nol t ht
theorem SAt.turnMain (h : SAt w p ft d s) (hw : ∀ k,k ≠ p -> w'.heap[k]? = w.heap[k]?) {seq boots : Nat} (hb : w'.heap[p]? = some (.cells (scells14 d { s with seq := seq,boots := boots }) 96 (0,0))) : SAt w' p ft d { s with seq := seq,boots := boots } := by
 have ho : ∀ a,a ≠ .main -> ∀ k,ft a k -> w'.heap[k]? = w.heap[k]? := fun a ha k hk => hw k fun e => ha (h.one a .main k hk ((h.fm k).2 e))
 refine ⟨hb,h.fm,?_,h.fe,?_,?_,h.fq,?_,?_,h.fl,h.names,?_,h.noq,h.tos,?_,h.nol,h.one⟩
 ·exact h.edges.same fun g hg => ho .edges (by simp) g ((h.fe g).2 hg)
 ·exact h.table.same fun k hk => ho .table (by simp) k hk
 ·exact h.qmap.same (ho .qmap (by simp) _ ((h.fq _).2 rfl))
 ·exact h.book.same fun k hk => ho .book (by simp) k hk
 ·exact h.lmap.same (ho .lmap (by simp) _ ((h.fl _).2 rfl))
 ·intro n q hq
  obtain ⟨b,h1,h2⟩ := h.queue n q hq
  exact ⟨b,h1,h2.same fun k hk => ho _ (by simp) k hk⟩
 ·intro t l hl
  obtain ⟨v,h1,h2,h3⟩ := h.link t l hl
  exact ⟨v,h1,h2.same fun g hg => ho (.link t) (by simp) g ((h3 g).2 hg),h3⟩
end
def setQ (l : List (ByteArray × F.St)) (n : ByteArray) (q : F.St) : List (ByteArray × F.St) := l.map fun x => if x.1 = n then (x.1,q) else x
theorem setQ_names (l : List (ByteArray × F.St)) (n : ByteArray) (q : F.St) : (setQ l n q).map Prod.fst = l.map Prod.fst := by
 unfold setQ
 rw [List.map_map]
 refine List.map_congr_left fun x _ => ?_
 show (if x.1 = n then (x.1,q) else x).1 = x.1
 split <;> rfl
theorem mem_setQ {l : List (ByteArray × F.St)} {n m : ByteArray} {q r : F.St} (h : (m,r) ∈ setQ l n q) : (m = n /\ r = q) \/ (m ≠ n /\ (m,r) ∈ l) := by
 unfold setQ at h
 obtain ⟨x,hx,e⟩ := List.mem_map.1 h
 by_cases hn : x.1 = n
 ·rw [if_pos hn] at e
  injection e with e1 e2
  exact .inl ⟨by rw [<- e1]; exact hn,e2.symm⟩
 ·rw [if_neg hn] at e
  subst e
  exact .inr ⟨hn,hx⟩
section
variable {w w' : World} {p : Nat} {ft : Ix -> Nat -> Prop} {d : Ad} {s : Sm} {F' : Nat -> Prop}
theorem SAt.turnQueue (h : SAt w p ft d s) {n : ByteArray} {b : Nat} {q' : F.St} (hb : (n,b) ∈ d.ps) (m : Moved w w' (ft (.queue n)) F') (ht : F.Q w' b F' q') : SAt w' p (upd ft (.queue n) F') d { s with qs := setQ s.qs n q' } := by
 have ho := h.others m
 refine ⟨?_,?_,?_,?_,?_,?_,?_,?_,?_,?_,?_,?_,?_,h.tos,?_,?_,h.oneUpd m⟩
 ·rw [ho .main (by simp) p ((h.fm p).2 rfl)]; exact h.blk
 ·rw [upd_other ft F' (by simp)]; exact h.fm
 ·exact h.edges.same fun g hg => ho .edges (by simp) g ((h.fe g).2 hg)
 ·rw [upd_other ft F' (by simp)]; exact h.fe
 ·rw [upd_other ft F' (by simp)]; exact h.table.same fun k hk => ho .table (by simp) k hk
 ·exact h.qmap.same (ho .qmap (by simp) _ ((h.fq _).2 rfl))
 ·rw [upd_other ft F' (by simp)]; exact h.fq
 ·rw [upd_other ft F' (by simp)]; exact h.book.same fun k hk => ho .book (by simp) k hk
 ·exact h.lmap.same (ho .lmap (by simp) _ ((h.fl _).2 rfl))
 ·rw [upd_other ft F' (by simp)]; exact h.fl
 ·show d.ps.map Prod.fst = (setQ s.qs n q').map Prod.fst
  rw [setQ_names]
  exact h.names
 ·intro n' q hq
  rcases mem_setQ hq with ⟨rfl,rfl⟩ | ⟨hne,hm⟩
  ·rw [upd_same]
   exact ⟨b,hb,ht⟩
  ·rw [upd_other ft F' (by simpa using hne)]
   obtain ⟨b',h1,h2⟩ := h.queue n' q hm
   exact ⟨b',h1,h2.same fun k hk => ho _ (by simpa using hne) k hk⟩
 ·intro n' hn
  have hn' : n' ∉ s.qs.map Prod.fst := by
   have : n' ∉ (setQ s.qs n q').map Prod.fst := hn
   rwa [setQ_names] at this
  have hne : n' ≠ n := fun e => hn' (by rw [e,<- h.names]; exact List.mem_map.2 ⟨(n,b),hb,rfl⟩)
  rw [upd_other ft F' (by simpa using hne)]
  exact h.noq n' hn'
 ·intro t l hl
  rw [upd_other ft F' (by simp)]
  obtain ⟨v,h1,h2,h3⟩ := h.link t l hl
  exact ⟨v,h1,h2.same fun g hg => ho (.link t) (by simp) g ((h3 g).2 hg),h3⟩
 ·intro t ht
  rw [upd_other ft F' (by simp)]
  exact h.nol t ht
end
def DeedPost (p : Nat) (F : Nat -> Prop) (w : World) (er : Int) (s' : Sm) (e : Ending) (w' : World) : Prop := e = .returned (.int .i64 er) /\ ∃ F',SS w' p F' s' /\ Moved w w' F F'
structure Boxd (w W : World) (a : Ax) : Prop where
 bel : Below w.heap.size w W
 box : W.heap[w.heap.size]? = some (.cells (xcells a).toArray 42 (0,0))
theorem boxd_new (w : World) (a : Ax) : Boxd w (w.alloc (.cells (xcells a).toArray 42)) a := ⟨box_below w _,heap_alloc_new w _⟩
theorem Moved.from_below {w W w' : World} {F F' : Nat -> Prop} (b : Below w.heap.size w W) (m : Moved W w' F F') : Moved w w' F F' :=
 ⟨m.os.trans b.os,m.tape.trans b.tape,m.output.trans b.output,Nat.le_trans b.size m.size,fun k hk hn => (m.block k (Nat.lt_of_lt_of_le hk b.size) hn).trans (b.block k hk),fun k hk => (m.sub k hk).imp id fun h => Nat.le_trans b.size h⟩
theorem keepP {w V w2 : World} {p : Nat} {ft : Ix -> Nat -> Prop} {d : Ad} {s : Sm} {F : Nat -> Prop} {c : Ix} (hs : SAt V p ft d s) (hF : ∀ k,F k ↔ ∃ a,ft a k) (hlt : ∀ k,F k -> k < w.heap.size) (hg : w.heap.size < V.heap.size) (hc : Ix.main ≠ c) {F2 : Nat -> Prop} (m : Moved V w2 (ft c) F2) :
  (∀ j u,V.cell? ⟨p,j,none⟩ = some u -> w2.cell? ⟨p,j,none⟩ = some u) /\ (∀ j u,V.cell? ⟨w.heap.size,j,none⟩ = some u -> w2.cell? ⟨w.heap.size,j,none⟩ = some u) := by
 have h1 : w2.heap[p]? = V.heap[p]? := hs.others m .main hc p ((hs.fm p).2 rfl)
 have h2 : w2.heap[w.heap.size]? = V.heap[w.heap.size]? := m.block _ hg fun hk => by have := hlt _ ((hF _).2 ⟨c,hk⟩); omega
 exact ⟨fun j u hu => (World.cell?_of_block (w := V) (a := ⟨p,j,none⟩) h1).trans hu,fun j u hu => (World.cell?_of_block (w := V) (a := ⟨w.heap.size,j,none⟩) h2).trans hu⟩
theorem deed_table {w W w2 : World} {p : Nat} {ft : Ix -> Nat -> Prop} {d : Ad} {s : Sm} {F : Nat -> Prop} (hs : SAt W.drew p ft d s) (hF : ∀ k,F k ↔ ∃ a,ft a k) (hb : Below w.heap.size w W) {er : Int} {tb' : B.Tb} {F2 : Nat -> Prop} (t2 : B.T w2 d.tp F2 tb') (m2 : Moved W.drew w2 (ft .table) F2) : DeedPost p F w er { s with tb := tb' } (.returned (.int .i64 er)) w2 := by
 have e : F = fun k => ∃ a,ft a k := funext fun k => propext (hF k)
 subst e
 exact ⟨rfl,_,⟨_,d,hs.turnTable m2 t2,fun k => Iff.rfl⟩,Moved.from_below (keptW hb (drew_below W)) (moved_upd m2)⟩
theorem makeEx_any (p : Nat) (F : Nat -> Prop) (s : Sm) (a : Ax) (w : World) (h : SS w p F s) (ok : s.tb.Ok) (hs : a.xn.size <= maxLen) :
  Calls Tryz.prog 96 #[.pointer (some ⟨p,0,none⟩),av a] w (DeedPost p F w (s.tb.declare ⟨a.xn,a.xk,a.xf⟩).1 { s with tb := (s.tb.declare ⟨a.xn,a.xk,a.xf⟩).2 }) := by
 obtain ⟨W,fold⟩ : ∃ W,w.alloc (.cells #[.int .i64 a.kind,.string a.name,.int .i64 a.n,.int .u64 a.tag,.int .i64 a.to,.string a.xn,.int .i64 a.xk,.bool a.xf,.string a.be,.string a.bq,.string a.bp,.int .i64 a.m.origin,.int .u64 a.m.seq,.int .i64 a.m.hop,.string a.m.ex,.string a.m.key,.string a.m.body] 42) = W := ⟨_,rfl⟩
 have hB : Boxd w W a := by rw [<- fold]; exact boxd_new w a
 have hW := (h.kept hB.bel).kept (drew_below W)
 have hlt := h.lts
 obtain ⟨ft,d,hs',hF⟩ := hW
 have hD := B.declare_any d.tp (ft .table) s.tb ⟨a.xn,a.xk,a.xf⟩ W.drew hs'.table ok hs
 have HS : Hid (SAt W.drew p ft d s /\ (∀ k,F k ↔ ∃ a,ft a k) /\ Boxd w W a /\ ∀ k,F k -> k < w.heap.size) := ⟨hs',hF,hB,hlt⟩
 have HK : Hid (∀ w2 F2,Moved W.drew w2 (ft .table) F2 -> (∀ j u,W.drew.cell? ⟨p,j,none⟩ = some u -> w2.cell? ⟨p,j,none⟩ = some u) /\ (∀ j u,W.drew.cell? ⟨w.heap.size,j,none⟩ = some u -> w2.cell? ⟨w.heap.size,j,none⟩ = some u)) := fun w2 F2 m => keepP hs' hF hlt (yyD hB.box).1 (by simp) m
 obtain ⟨c0,c1,c2,c3,c4,c5,c6,c7,c8,c9⟩ := cells10 hs'.blk
 obtain ⟨x0,x1,x2,x3,x4,x5,x6,x7,x8,x9,x10,x11,x12,x13,x14,x15,x16⟩ := cells17 hB.box
 obtain ⟨dd,hdd⟩ : ∃ z,s.tb.declare ⟨a.xn,a.xk,a.xf⟩ = z := ⟨_,rfl⟩
 rw [hdd] at hD ⊢
 have c6' : W.cell? ⟨p,6,none⟩ = some (.pointer (some ⟨d.tp,0,none⟩)) := c6
 clear hs' hF hB hlt c0 c1 c2 c3 c4 c5 c6 c7 c8 c9 x0 x1 x2 x3 x4 x8 x9 x10 x11 x12 x13 x14 x15 x16 h hdd
 go_enter Tryz.func96,Tryz.ntmps96
 go_wp2
 try rw [fold]
 (go_region_held3 (fun w' => w'.cell? ⟨p,6,none⟩ = some (.pointer (some ⟨d.tp,0,none⟩)) /\ w'.cell? ⟨w.heap.size,5,none⟩ = some (.string a.xn) /\ w'.cell? ⟨w.heap.size,6,none⟩ = some (.int .i64 a.xk) /\ w'.cell? ⟨w.heap.size,7,none⟩ = some (.bool a.xf)) (go_keep) (first
  |(go_at_call 139; refine hD.mono ?_; rintro e w2 ⟨rfl,F2,t2,m2⟩; have H2 : Hid _ := And.intro t2 m2; have f := (HK.out w2 F2 m2).1 6 _ c6'; have f5 := (HK.out w2 F2 m2).2 5 _ x5; have f6 := (HK.out w2 F2 m2).2 6 _ x6; have f7 := (HK.out w2 F2 m2).2 7 _ x7; clear t2 m2 hD)))
 all_goals go_wp2
 all_goals go_ret
 all_goals exact deed_table HS.out.1 HS.out.2.1 HS.out.2.2.1.bel H2.out.1 H2.out.2
theorem dropEx_any (p : Nat) (F : Nat -> Prop) (s : Sm) (a : Ax) (w : World) (h : SS w p F s) (ok : s.tb.Ok) (hs : a.name.size <= maxLen) :
  Calls Tryz.prog 97 #[.pointer (some ⟨p,0,none⟩),av a] w (DeedPost p F w (s.tb.drop a.name).1 { s with tb := (s.tb.drop a.name).2 }) := by
 obtain ⟨W,fold⟩ : ∃ W,w.alloc (.cells #[.int .i64 a.kind,.string a.name,.int .i64 a.n,.int .u64 a.tag,.int .i64 a.to,.string a.xn,.int .i64 a.xk,.bool a.xf,.string a.be,.string a.bq,.string a.bp,.int .i64 a.m.origin,.int .u64 a.m.seq,.int .i64 a.m.hop,.string a.m.ex,.string a.m.key,.string a.m.body] 42) = W := ⟨_,rfl⟩
 have hB : Boxd w W a := by rw [<- fold]; exact boxd_new w a
 have hW := (h.kept hB.bel).kept (drew_below W)
 have hlt := h.lts
 obtain ⟨ft,d,hs',hF⟩ := hW
 have hD := B.drop_any d.tp (ft .table) s.tb a.name W.drew hs'.table ok hs
 have HS : Hid (SAt W.drew p ft d s /\ (∀ k,F k ↔ ∃ a,ft a k) /\ Boxd w W a /\ ∀ k,F k -> k < w.heap.size) := ⟨hs',hF,hB,hlt⟩
 have HK : Hid (∀ w2 F2,Moved W.drew w2 (ft .table) F2 -> (∀ j u,W.drew.cell? ⟨p,j,none⟩ = some u -> w2.cell? ⟨p,j,none⟩ = some u) /\ (∀ j u,W.drew.cell? ⟨w.heap.size,j,none⟩ = some u -> w2.cell? ⟨w.heap.size,j,none⟩ = some u)) := fun w2 F2 m => keepP hs' hF hlt (yyD hB.box).1 (by simp) m
 obtain ⟨c0,c1,c2,c3,c4,c5,c6,c7,c8,c9⟩ := cells10 hs'.blk
 obtain ⟨x0,x1,x2,x3,x4,x5,x6,x7,x8,x9,x10,x11,x12,x13,x14,x15,x16⟩ := cells17 hB.box
 obtain ⟨dd,hdd⟩ : ∃ z,s.tb.drop a.name = z := ⟨_,rfl⟩
 rw [hdd] at hD ⊢
 have c6' : W.cell? ⟨p,6,none⟩ = some (.pointer (some ⟨d.tp,0,none⟩)) := c6
 clear hs' hF hB hlt c0 c1 c2 c3 c4 c5 c6 c7 c8 c9 x0 x2 x3 x4 x5 x6 x7 x8 x9 x10 x11 x12 x13 x14 x15 x16 h hdd
 go_enter Tryz.func97,Tryz.ntmps97
 go_wp2
 try rw [fold]
 (go_region_held3 (fun w' => w'.cell? ⟨p,6,none⟩ = some (.pointer (some ⟨d.tp,0,none⟩)) /\ w'.cell? ⟨w.heap.size,1,none⟩ = some (.string a.name)) (go_keep) (first
  |(go_at_call 177; refine hD.mono ?_; rintro e w2 ⟨rfl,F2,t2,m2⟩; have H2 : Hid _ := And.intro t2 m2; have f := (HK.out w2 F2 m2).1 6 _ c6'; have f1 := (HK.out w2 F2 m2).2 1 _ x1; clear t2 m2 hD)))
 all_goals go_wp2
 all_goals go_ret
 all_goals exact deed_table HS.out.1 HS.out.2.1 HS.out.2.2.1.bel H2.out.1 H2.out.2
theorem dropBd_any (p : Nat) (F : Nat -> Prop) (s : Sm) (a : Ax) (w : World) (h : SS w p F s) (ok : s.tb.Ok) (hs : B.Bd.Fit ⟨a.be,a.bq,a.bp⟩) :
  Calls Tryz.prog 99 #[.pointer (some ⟨p,0,none⟩),av a] w (DeedPost p F w (s.tb.unbind ⟨a.be,a.bq,a.bp⟩).1 { s with tb := (s.tb.unbind ⟨a.be,a.bq,a.bp⟩).2 }) := by
 obtain ⟨W,fold⟩ : ∃ W,w.alloc (.cells #[.int .i64 a.kind,.string a.name,.int .i64 a.n,.int .u64 a.tag,.int .i64 a.to,.string a.xn,.int .i64 a.xk,.bool a.xf,.string a.be,.string a.bq,.string a.bp,.int .i64 a.m.origin,.int .u64 a.m.seq,.int .i64 a.m.hop,.string a.m.ex,.string a.m.key,.string a.m.body] 42) = W := ⟨_,rfl⟩
 have hB : Boxd w W a := by rw [<- fold]; exact boxd_new w a
 have hW := (h.kept hB.bel).kept (drew_below W)
 have hlt := h.lts
 obtain ⟨ft,d,hs',hF⟩ := hW
 have hD := B.unbind_any d.tp (ft .table) s.tb ⟨a.be,a.bq,a.bp⟩ W.drew hs'.table ok hs
 have HS : Hid (SAt W.drew p ft d s /\ (∀ k,F k ↔ ∃ a,ft a k) /\ Boxd w W a /\ ∀ k,F k -> k < w.heap.size) := ⟨hs',hF,hB,hlt⟩
 have HK : Hid (∀ w2 F2,Moved W.drew w2 (ft .table) F2 -> (∀ j u,W.drew.cell? ⟨p,j,none⟩ = some u -> w2.cell? ⟨p,j,none⟩ = some u) /\ (∀ j u,W.drew.cell? ⟨w.heap.size,j,none⟩ = some u -> w2.cell? ⟨w.heap.size,j,none⟩ = some u)) := fun w2 F2 m => keepP hs' hF hlt (yyD hB.box).1 (by simp) m
 obtain ⟨c0,c1,c2,c3,c4,c5,c6,c7,c8,c9⟩ := cells10 hs'.blk
 obtain ⟨x0,x1,x2,x3,x4,x5,x6,x7,x8,x9,x10,x11,x12,x13,x14,x15,x16⟩ := cells17 hB.box
 obtain ⟨dd,hdd⟩ : ∃ z,s.tb.unbind ⟨a.be,a.bq,a.bp⟩ = z := ⟨_,rfl⟩
 rw [hdd] at hD ⊢
 have c6' : W.cell? ⟨p,6,none⟩ = some (.pointer (some ⟨d.tp,0,none⟩)) := c6
 clear hs' hF hB hlt c0 c1 c2 c3 c4 c5 c6 c7 c8 c9 x0 x1 x2 x3 x4 x5 x6 x7 x11 x12 x13 x14 x15 x16 h hdd
 go_enter Tryz.func99,Tryz.ntmps99
 go_wp2
 try rw [fold]
 (go_region_held3 (fun w' => w'.cell? ⟨p,6,none⟩ = some (.pointer (some ⟨d.tp,0,none⟩)) /\ w'.cell? ⟨w.heap.size,8,none⟩ = some (.string a.be) /\ w'.cell? ⟨w.heap.size,9,none⟩ = some (.string a.bq) /\ w'.cell? ⟨w.heap.size,10,none⟩ = some (.string a.bp)) (go_keep) (first
  |(go_at_call 178; refine hD.mono ?_; rintro e w2 ⟨rfl,F2,t2,m2⟩; have H2 : Hid _ := And.intro t2 m2; have f := (HK.out w2 F2 m2).1 6 _ c6'; have f8 := (HK.out w2 F2 m2).2 8 _ x8; have f9 := (HK.out w2 F2 m2).2 9 _ x9; have f10 := (HK.out w2 F2 m2).2 10 _ x10; clear t2 m2 hD)))
 all_goals go_wp2
 all_goals go_ret
 all_goals exact deed_table HS.out.1 HS.out.2.1 HS.out.2.2.1.bel H2.out.1 H2.out.2
def findQ (l : List (ByteArray × F.St)) (n : ByteArray) : Option F.St := (l.find? fun x => decide (x.1 = n)).map Prod.snd
theorem findQ_some {l : List (ByteArray × F.St)} {n : ByteArray} {q : F.St} (h : findQ l n = some q) : (n,q) ∈ l := by
 unfold findQ at h
 cases hf : l.find? fun x => decide (x.1 = n) with
 |none => rw [hf] at h; cases h
 |some x =>
  rw [hf] at h
  have h1 := List.mem_of_find?_eq_some hf
  have h2 : x.1 = n := by simpa using List.find?_some hf
  injection h with h
  rw [<- h2,<- h]
  exact h1
theorem findQ_none {l : List (ByteArray × F.St)} {n : ByteArray} (h : findQ l n = none) : n ∉ l.map Prod.fst := by
 unfold findQ at h
 intro hn
 obtain ⟨x,hx,e⟩ := List.mem_map.1 hn
 cases hf : l.find? fun x => decide (x.1 = n) with
 |none => exact absurd e (by simpa using List.find?_eq_none.1 hf x hx)
 |some y => rw [hf] at h; cases h
theorem SAt.queueAt {w : World} {p : Nat} {ft : Ix -> Nat -> Prop} {d : Ad} {s : Sm} (h : SAt w p ft d s) (ok : s.Fit) (n : ByteArray) :
  (findQ s.qs n = none /\ findP d.ps n = none) \/ ∃ q b,findQ s.qs n = some q /\ findP d.ps n = some (n,b) /\ (n,b) ∈ d.ps /\ F.Q w b (ft (.queue n)) q := by
 cases hq : findQ s.qs n with
 |none =>
  refine .inl ⟨rfl,?_⟩
  unfold findP
  rw [List.find?_eq_none]
  intro x hx he
  refine findQ_none hq ?_
  rw [<- h.names]
  exact List.mem_map.2 ⟨x,hx,by simpa using he⟩
 |some q =>
  obtain ⟨b,h1,h2⟩ := h.queue n q (findQ_some hq)
  refine .inr ⟨q,b,rfl,?_,h1,h2⟩
  cases hf : findP d.ps n with
  |none => exact absurd rfl (findP_none hf (n,b) h1)
  |some z =>
   obtain ⟨hz,e⟩ := findP_some hf
   obtain ⟨n',b'⟩ := z
   obtain rfl : n' = n := e
   obtain rfl := nodup_pair (by rw [h.names]; exact ok.names) h1 hz
   rfl
theorem deed_none {w W : World} {p : Nat} {s : Sm} {F : Nat -> Prop} (h : SS w p F s) (hb : Below w.heap.size w W) (er : Int) : DeedPost p F w er s (.returned (.int .i64 er)) W :=
 ⟨rfl,F,h.kept hb,.of_below hb⟩
def bindM (s : Sm) (x : B.Bd) : Int × B.Tb := if (findQ s.qs x.que).isSome then s.tb.bind x else (3,s.tb)
theorem makeBd_any (p : Nat) (F : Nat -> Prop) (s : Sm) (a : Ax) (w : World) (h : SS w p F s) (fit : s.Fit) (ok : s.tb.Ok) (hs : B.Bd.Fit ⟨a.be,a.bq,a.bp⟩) :
  Calls Tryz.prog 98 #[.pointer (some ⟨p,0,none⟩),av a] w (DeedPost p F w (bindM s ⟨a.be,a.bq,a.bp⟩).1 { s with tb := (bindM s ⟨a.be,a.bq,a.bp⟩).2 }) := by
 obtain ⟨W,fold⟩ : ∃ W,w.alloc (.cells #[.int .i64 a.kind,.string a.name,.int .i64 a.n,.int .u64 a.tag,.int .i64 a.to,.string a.xn,.int .i64 a.xk,.bool a.xf,.string a.be,.string a.bq,.string a.bp,.int .i64 a.m.origin,.int .u64 a.m.seq,.int .i64 a.m.hop,.string a.m.ex,.string a.m.key,.string a.m.body] 42) = W := ⟨_,rfl⟩
 have hB : Boxd w W a := by rw [<- fold]; exact boxd_new w a
 have hW := ((h.kept hB.bel).kept (drew_below W)).kept (drew_below W.drew)
 have hlt := h.lts
 have H0 : Hid (SS w p F s /\ Below w.heap.size w W) := ⟨h,hB.bel⟩
 obtain ⟨ft,d,hs',hF⟩ := hW
 have hD := B.bind_any d.tp (ft .table) s.tb ⟨a.be,a.bq,a.bp⟩ W.drew.drew hs'.table ok hs
 have HS : Hid (SAt W.drew.drew p ft d s /\ (∀ k,F k ↔ ∃ a,ft a k) /\ Boxd w W a /\ ∀ k,F k -> k < w.heap.size) := ⟨hs',hF,hB,hlt⟩
 have HK : Hid (∀ w2 F2,Moved W.drew.drew w2 (ft .table) F2 -> (∀ j u,W.drew.drew.cell? ⟨p,j,none⟩ = some u -> w2.cell? ⟨p,j,none⟩ = some u) /\ (∀ j u,W.drew.drew.cell? ⟨w.heap.size,j,none⟩ = some u -> w2.cell? ⟨w.heap.size,j,none⟩ = some u)) := fun w2 F2 m => keepP hs' hF hlt (yyD hB.box).1 (by simp) m
 have hl : (Instr.lookup 92 (.map (some d.qm)) (.string a.bq) false).run Tryz.prog W.drew = .ok (ptrO ((findP d.ps a.bq).map Prod.snd)) W.drew := DAt.look (w := W.drew) (hs'.qmap) (hs'.dl fit) hs.2.1
 obtain ⟨c0,c1,c2,c3,c4,c5,c6,c7,c8,c9⟩ := cells10 hs'.blk
 obtain ⟨x0,x1,x2,x3,x4,x5,x6,x7,x8,x9,x10,x11,x12,x13,x14,x15,x16⟩ := cells17 hB.box
 have c6' : W.cell? ⟨p,6,none⟩ = some (.pointer (some ⟨d.tp,0,none⟩)) := c6
 have c7' : W.cell? ⟨p,7,none⟩ = some (.map (some d.qm)) := c7
 have hq := hs'.queueAt fit a.bq
 clear hs' hF hB hlt c0 c1 c2 c3 c4 c5 c6 c7 c8 c9 x0 x1 x2 x3 x4 x5 x6 x7 x11 x12 x13 x14 x15 x16 h
 rcases hq with ⟨q1,q2⟩ | ⟨q,b,q1,q2,q3,q4⟩
 ·rw [q2] at hl
  replace hl : (Instr.lookup 92 (.map (some d.qm)) (.string a.bq) false).run Tryz.prog W.drew = .ok (.pointer none) W.drew := hl
  have HM : Hid (bindM s ⟨a.be,a.bq,a.bp⟩ = (3,s.tb)) := by show bindM s _ = _; unfold bindM; rw [q1]; rfl
  rw [HM.out]
  clear q1 q2 hD
  go_enter Tryz.func98,Tryz.ntmps98
  go_wp2
  try rw [fold]
  (go_region_held3 (fun w' => w'.cell? ⟨p,7,none⟩ = some (.map (some d.qm)) /\ w'.cell? ⟨w.heap.size,9,none⟩ = some (.string a.bq) /\ (Instr.lookup 92 (.map (some d.qm)) (.string a.bq) false).run Tryz.prog w' = .ok (.pointer none) w') (first | exact ⟨c7',x9,hl⟩ | go_keep) (first | fail))
  all_goals go_wp2
  all_goals go_ret
  all_goals exact deed_none H0.out.1 (keptW H0.out.2 (drew_below W)) 3
 ·rw [q2] at hl
  replace hl : (Instr.lookup 92 (.map (some d.qm)) (.string a.bq) false).run Tryz.prog W.drew = .ok (.pointer (some ⟨b,0,none⟩)) W.drew := hl
  have HM : Hid (bindM s ⟨a.be,a.bq,a.bp⟩ = s.tb.bind ⟨a.be,a.bq,a.bp⟩) := by show bindM s _ = _; unfold bindM; rw [q1]; rfl
  rw [HM.out]
  obtain ⟨dd,hdd⟩ : ∃ z,s.tb.bind ⟨a.be,a.bq,a.bp⟩ = z := ⟨_,rfl⟩
  rw [hdd] at hD ⊢
  clear q1 q2 q3 q4 hdd HM
  go_enter Tryz.func98,Tryz.ntmps98
  go_wp2
  try rw [fold]
  (go_region_held3 (fun w' => w'.cell? ⟨p,7,none⟩ = some (.map (some d.qm)) /\ w'.cell? ⟨w.heap.size,9,none⟩ = some (.string a.bq) /\ (Instr.lookup 92 (.map (some d.qm)) (.string a.bq) false).run Tryz.prog w' = .ok (.pointer (some ⟨b,0,none⟩)) w') (first | exact ⟨c7',x9,hl⟩ | go_keep) (first | fail))
  all_goals go_wp2
  (go_region_held3 (fun w' => w'.cell? ⟨p,6,none⟩ = some (.pointer (some ⟨d.tp,0,none⟩)) /\ w'.cell? ⟨w.heap.size,8,none⟩ = some (.string a.be) /\ w'.cell? ⟨w.heap.size,9,none⟩ = some (.string a.bq) /\ w'.cell? ⟨w.heap.size,10,none⟩ = some (.string a.bp)) (go_keep) (first
   |(go_at_call 140; refine hD.mono ?_; rintro e w2 ⟨rfl,F2,t2,m2⟩; have H2 : Hid _ := And.intro t2 m2; have f := (HK.out w2 F2 m2).1 6 _ c6'; have f8 := (HK.out w2 F2 m2).2 8 _ x8; have f9 := (HK.out w2 F2 m2).2 9 _ x9; have f10 := (HK.out w2 F2 m2).2 10 _ x10; clear t2 m2 hD)))
  all_goals go_wp2
  all_goals go_ret
  all_goals exact deed_table (W := W.drew) HS.out.1 HS.out.2.1 (keptW H0.out.2 (drew_below W)) H2.out.1 H2.out.2
def onQ (s : Sm) (n : ByteArray) (f : F.St -> Int × F.St) : Int × Sm := match findQ s.qs n with
 |none => (3,s)
 |some q => ((f q).1,{ s with qs := setQ s.qs n (f q).2 })
theorem onQ_none {s : Sm} {n : ByteArray} {f : F.St -> Int × F.St} (h : findQ s.qs n = none) : onQ s n f = (3,s) := by unfold onQ; rw [h]
theorem onQ_some {s : Sm} {n : ByteArray} {f : F.St -> Int × F.St} {q : F.St} (h : findQ s.qs n = some q) : onQ s n f = ((f q).1,{ s with qs := setQ s.qs n (f q).2 }) := by unfold onQ; rw [h]
theorem info8 : (Tryz.prog.info? 102).map (·.size) = some 8 := by kernel_rfl
theorem one8 (x : F.It) : (F.icells x).toArray.all (·.oneCell') = true := by simp [F.icells,Value.oneCell']
def giveM (q : F.St) : Int × F.St := (if q.give.2.1 then 0 else 10,q.give.2.2)
theorem deed_queue {w V w2 : World} {p : Nat} {ft : Ix -> Nat -> Prop} {d : Ad} {s : Sm} {G : Nat -> Prop} (hs : SAt V p ft d s) (hF : ∀ k,G k ↔ ∃ a,ft a k) (hb : Below w.heap.size w V) {er : Int} {n : ByteArray} {b : Nat} {q' : F.St} {F2 : Nat -> Prop} (hn : (n,b) ∈ d.ps) (t2 : F.Q w2 b F2 q') (m2 : Moved V w2 (ft (.queue n)) F2) : DeedPost p G w er { s with qs := setQ s.qs n q' } (.returned (.int .i64 er)) w2 := by
 have e : G = fun k => ∃ a,ft a k := funext fun k => propext (hF k)
 subst e
 exact ⟨rfl,_,⟨_,d,hs.turnQueue hn m2 t2,fun k => Iff.rfl⟩,Moved.from_below hb (moved_upd m2)⟩
theorem DeedPost.more {p : Nat} {G : Nat -> Prop} {w : World} {er : Int} {s' : Sm} {e : Ending} {w' w'' : World} (h : DeedPost p G w er s' e w') (b : Below w'.heap.size w' w'') : DeedPost p G w er s' e w'' := by
 obtain ⟨h1,F',h2,h3⟩ := h
 exact ⟨h1,F',h2.kept b,h3.trans (.of_below b)⟩
theorem ack14_any (p : Nat) (G : Nat -> Prop) (s : Sm) (a : Ax) (w : World) (h : SS w p G s) (fit : s.Fit) (ok : ∀ x ∈ s.qs,x.2.Ok) (hs : a.name.size <= maxLen) (ht : 0 <= a.tag /\ a.tag < 18446744073709551616) :
  Calls Tryz.prog 102 #[.pointer (some ⟨p,0,none⟩),av a] w (DeedPost p G w (onQ s a.name (fun q => q.done a.tag.toNat)).1 (onQ s a.name (fun q => q.done a.tag.toNat)).2) := by
 obtain ⟨W,fold⟩ : ∃ W,w.alloc (.cells #[.int .i64 a.kind,.string a.name,.int .i64 a.n,.int .u64 a.tag,.int .i64 a.to,.string a.xn,.int .i64 a.xk,.bool a.xf,.string a.be,.string a.bq,.string a.bp,.int .i64 a.m.origin,.int .u64 a.m.seq,.int .i64 a.m.hop,.string a.m.ex,.string a.m.key,.string a.m.body] 42) = W := ⟨_,rfl⟩
 have hB : Boxd w W a := by rw [<- fold]; exact boxd_new w a
 have hW := (h.kept hB.bel).kept (drew_below W)
 have H0 : Hid (SS w p G s /\ Below w.heap.size w W) := ⟨h,hB.bel⟩
 obtain ⟨ft,d,hs',hF⟩ := hW
 have HS : Hid (SAt W.drew p ft d s /\ (∀ k,G k ↔ ∃ a,ft a k)) := ⟨hs',hF⟩
 have hl : (Instr.lookup 92 (.map (some d.qm)) (.string a.name) true).run Tryz.prog W.drew = .ok (.tuple #[ptrO ((findP d.ps a.name).map Prod.snd),.bool (findP d.ps a.name).isSome]) W.drew := DAt.look2 (w := W.drew) (hs'.qmap) (hs'.dl fit) hs
 obtain ⟨c0,c1,c2,c3,c4,c5,c6,c7,c8,c9⟩ := cells10 hs'.blk
 obtain ⟨x0,x1,x2,x3,x4,x5,x6,x7,x8,x9,x10,x11,x12,x13,x14,x15,x16⟩ := cells17 hB.box
 have c7' : W.cell? ⟨p,7,none⟩ = some (.map (some d.qm)) := c7
 have hq := hs'.queueAt fit a.name
 clear hs' hF hB c0 c1 c2 c3 c4 c5 c6 c7 c8 c9 x0 x2 x4 x5 x6 x7 x8 x9 x10 x11 x12 x13 x14 x15 x16 h
 rcases hq with ⟨q1,q2⟩ | ⟨q,b,q1,q2,q3,q4⟩
 ·rw [q2] at hl
  replace hl : (Instr.lookup 92 (.map (some d.qm)) (.string a.name) true).run Tryz.prog W.drew = .ok (.tuple #[.pointer none,.bool false]) W.drew := hl
  rw [onQ_none q1]
  clear q1 q2
  go_enter Tryz.func102,Tryz.ntmps102
  go_wp2
  try rw [fold]
  (go_region_held3 (fun w' => w'.cell? ⟨p,7,none⟩ = some (.map (some d.qm)) /\ w'.cell? ⟨w.heap.size,1,none⟩ = some (.string a.name) /\ (Instr.lookup 92 (.map (some d.qm)) (.string a.name) true).run Tryz.prog w' = .ok (.tuple #[.pointer none,.bool false]) w') (first | exact ⟨c7',x1,hl⟩ | go_keep) (first | fail))
  all_goals go_wp2
  all_goals go_ret
  all_goals exact deed_none H0.out.1 (keptW H0.out.2 (drew_below W)) 3
 ·rw [q2] at hl
  replace hl : (Instr.lookup 92 (.map (some d.qm)) (.string a.name) true).run Tryz.prog W.drew = .ok (.tuple #[.pointer (some ⟨b,0,none⟩),.bool true]) W.drew := hl
  have hok : q.Ok := ok _ (findQ_some q1)
  rw [onQ_some q1]
  have H3 : Hid ((a.name,b) ∈ d.ps) := q3
  have hD := F.done_any b (ft (.queue a.name)) q a.tag.toNat W.drew q4 hok (by omega)
  rw [show ((a.tag.toNat : Nat) : Int) = a.tag by omega] at hD
  obtain ⟨dd,hdd⟩ : ∃ z,q.done a.tag.toNat = z := ⟨_,rfl⟩
  show Calls _ _ _ _ (DeedPost p G w (q.done a.tag.toNat).1 { s with qs := setQ s.qs a.name (q.done a.tag.toNat).2 })
  rw [hdd] at hD ⊢
  clear q1 q2 q3 q4 hdd hok
  go_enter Tryz.func102,Tryz.ntmps102
  go_wp2
  try rw [fold]
  (go_region_held3 (fun w' => w'.cell? ⟨p,7,none⟩ = some (.map (some d.qm)) /\ w'.cell? ⟨w.heap.size,1,none⟩ = some (.string a.name) /\ w'.cell? ⟨w.heap.size,3,none⟩ = some (.int .u64 a.tag) /\ (Instr.lookup 92 (.map (some d.qm)) (.string a.name) true).run Tryz.prog w' = .ok (.tuple #[.pointer (some ⟨b,0,none⟩),.bool true]) w') (first | exact ⟨c7',x1,x3,hl⟩ | go_keep) (first | fail))
  all_goals go_wp2_with fail
  refine hD.mono ?_
  rintro e w2 ⟨rfl,F2,t2,m2⟩
  have H2 : Hid (F.Q w2 b F2 dd.2 /\ Moved W.drew w2 (ft (.queue a.name)) F2) := ⟨t2,m2⟩
  clear t2 m2 hD
  go_wp2
  go_ret
  exact deed_queue HS.out.1 HS.out.2 (keptW H0.out.2 (drew_below W)) H3.out H2.out.1 H2.out.2
theorem back14_any (p : Nat) (G : Nat -> Prop) (s : Sm) (a : Ax) (w : World) (h : SS w p G s) (fit : s.Fit) (ok : ∀ x ∈ s.qs,x.2.Ok) (hs : a.name.size <= maxLen) (ht : 0 <= a.tag /\ a.tag < 18446744073709551616) :
  Calls Tryz.prog 103 #[.pointer (some ⟨p,0,none⟩),av a] w (DeedPost p G w (onQ s a.name (fun q => q.back a.tag.toNat)).1 (onQ s a.name (fun q => q.back a.tag.toNat)).2) := by
 obtain ⟨W,fold⟩ : ∃ W,w.alloc (.cells #[.int .i64 a.kind,.string a.name,.int .i64 a.n,.int .u64 a.tag,.int .i64 a.to,.string a.xn,.int .i64 a.xk,.bool a.xf,.string a.be,.string a.bq,.string a.bp,.int .i64 a.m.origin,.int .u64 a.m.seq,.int .i64 a.m.hop,.string a.m.ex,.string a.m.key,.string a.m.body] 42) = W := ⟨_,rfl⟩
 have hB : Boxd w W a := by rw [<- fold]; exact boxd_new w a
 have hW := (h.kept hB.bel).kept (drew_below W)
 have H0 : Hid (SS w p G s /\ Below w.heap.size w W) := ⟨h,hB.bel⟩
 obtain ⟨ft,d,hs',hF⟩ := hW
 have HS : Hid (SAt W.drew p ft d s /\ (∀ k,G k ↔ ∃ a,ft a k)) := ⟨hs',hF⟩
 have hl : (Instr.lookup 92 (.map (some d.qm)) (.string a.name) true).run Tryz.prog W.drew = .ok (.tuple #[ptrO ((findP d.ps a.name).map Prod.snd),.bool (findP d.ps a.name).isSome]) W.drew := DAt.look2 (w := W.drew) (hs'.qmap) (hs'.dl fit) hs
 obtain ⟨c0,c1,c2,c3,c4,c5,c6,c7,c8,c9⟩ := cells10 hs'.blk
 obtain ⟨x0,x1,x2,x3,x4,x5,x6,x7,x8,x9,x10,x11,x12,x13,x14,x15,x16⟩ := cells17 hB.box
 have c7' : W.cell? ⟨p,7,none⟩ = some (.map (some d.qm)) := c7
 have hq := hs'.queueAt fit a.name
 clear hs' hF hB c0 c1 c2 c3 c4 c5 c6 c7 c8 c9 x0 x2 x4 x5 x6 x7 x8 x9 x10 x11 x12 x13 x14 x15 x16 h
 rcases hq with ⟨q1,q2⟩ | ⟨q,b,q1,q2,q3,q4⟩
 ·rw [q2] at hl
  replace hl : (Instr.lookup 92 (.map (some d.qm)) (.string a.name) true).run Tryz.prog W.drew = .ok (.tuple #[.pointer none,.bool false]) W.drew := hl
  rw [onQ_none q1]
  clear q1 q2
  go_enter Tryz.func103,Tryz.ntmps103
  go_wp2
  try rw [fold]
  (go_region_held3 (fun w' => w'.cell? ⟨p,7,none⟩ = some (.map (some d.qm)) /\ w'.cell? ⟨w.heap.size,1,none⟩ = some (.string a.name) /\ (Instr.lookup 92 (.map (some d.qm)) (.string a.name) true).run Tryz.prog w' = .ok (.tuple #[.pointer none,.bool false]) w') (first | exact ⟨c7',x1,hl⟩ | go_keep) (first | fail))
  all_goals go_wp2
  all_goals go_ret
  all_goals exact deed_none H0.out.1 (keptW H0.out.2 (drew_below W)) 3
 ·rw [q2] at hl
  replace hl : (Instr.lookup 92 (.map (some d.qm)) (.string a.name) true).run Tryz.prog W.drew = .ok (.tuple #[.pointer (some ⟨b,0,none⟩),.bool true]) W.drew := hl
  have hok : q.Ok := ok _ (findQ_some q1)
  rw [onQ_some q1]
  have H3 : Hid ((a.name,b) ∈ d.ps) := q3
  have hD := F.back_any b (ft (.queue a.name)) q a.tag.toNat W.drew q4 hok (by omega)
  rw [show ((a.tag.toNat : Nat) : Int) = a.tag by omega] at hD
  obtain ⟨dd,hdd⟩ : ∃ z,q.back a.tag.toNat = z := ⟨_,rfl⟩
  show Calls _ _ _ _ (DeedPost p G w (q.back a.tag.toNat).1 { s with qs := setQ s.qs a.name (q.back a.tag.toNat).2 })
  rw [hdd] at hD ⊢
  clear q1 q2 q3 q4 hdd hok
  go_enter Tryz.func103,Tryz.ntmps103
  go_wp2
  try rw [fold]
  (go_region_held3 (fun w' => w'.cell? ⟨p,7,none⟩ = some (.map (some d.qm)) /\ w'.cell? ⟨w.heap.size,1,none⟩ = some (.string a.name) /\ w'.cell? ⟨w.heap.size,3,none⟩ = some (.int .u64 a.tag) /\ (Instr.lookup 92 (.map (some d.qm)) (.string a.name) true).run Tryz.prog w' = .ok (.tuple #[.pointer (some ⟨b,0,none⟩),.bool true]) w') (first | exact ⟨c7',x1,x3,hl⟩ | go_keep) (first | fail))
  all_goals go_wp2_with fail
  refine hD.mono ?_
  rintro e w2 ⟨rfl,F2,t2,m2⟩
  have H2 : Hid (F.Q w2 b F2 dd.2 /\ Moved W.drew w2 (ft (.queue a.name)) F2) := ⟨t2,m2⟩
  clear t2 m2 hD
  go_wp2
  go_ret
  exact deed_queue HS.out.1 HS.out.2 (keptW H0.out.2 (drew_below W)) H3.out H2.out.1 H2.out.2
theorem give14_any (p : Nat) (G : Nat -> Prop) (s : Sm) (a : Ax) (w : World) (h : SS w p G s) (fit : s.Fit) (ok : ∀ x ∈ s.qs,x.2.Ok) (hs : a.name.size <= maxLen) :
  Calls Tryz.prog 101 #[.pointer (some ⟨p,0,none⟩),av a] w (DeedPost p G w (onQ s a.name giveM).1 (onQ s a.name giveM).2) := by
 obtain ⟨W,fold⟩ : ∃ W,w.alloc (.cells #[.int .i64 a.kind,.string a.name,.int .i64 a.n,.int .u64 a.tag,.int .i64 a.to,.string a.xn,.int .i64 a.xk,.bool a.xf,.string a.be,.string a.bq,.string a.bp,.int .i64 a.m.origin,.int .u64 a.m.seq,.int .i64 a.m.hop,.string a.m.ex,.string a.m.key,.string a.m.body] 42) = W := ⟨_,rfl⟩
 have hB : Boxd w W a := by rw [<- fold]; exact boxd_new w a
 have hW := (h.kept hB.bel).kept (drew_below W)
 have H0 : Hid (SS w p G s /\ Below w.heap.size w W) := ⟨h,hB.bel⟩
 obtain ⟨ft,d,hs',hF⟩ := hW
 have HS : Hid (SAt W.drew p ft d s /\ (∀ k,G k ↔ ∃ a,ft a k)) := ⟨hs',hF⟩
 have hl : (Instr.lookup 92 (.map (some d.qm)) (.string a.name) true).run Tryz.prog W.drew = .ok (.tuple #[ptrO ((findP d.ps a.name).map Prod.snd),.bool (findP d.ps a.name).isSome]) W.drew := DAt.look2 (w := W.drew) (hs'.qmap) (hs'.dl fit) hs
 obtain ⟨c0,c1,c2,c3,c4,c5,c6,c7,c8,c9⟩ := cells10 hs'.blk
 obtain ⟨x0,x1,x2,x3,x4,x5,x6,x7,x8,x9,x10,x11,x12,x13,x14,x15,x16⟩ := cells17 hB.box
 have c7' : W.cell? ⟨p,7,none⟩ = some (.map (some d.qm)) := c7
 have hq := hs'.queueAt fit a.name
 clear hs' hF hB c0 c1 c2 c3 c4 c5 c6 c7 c8 c9 x0 x2 x4 x5 x6 x7 x8 x9 x10 x11 x12 x13 x14 x15 x16 h
 rcases hq with ⟨q1,q2⟩ | ⟨q,b,q1,q2,q3,q4⟩
 ·rw [q2] at hl
  replace hl : (Instr.lookup 92 (.map (some d.qm)) (.string a.name) true).run Tryz.prog W.drew = .ok (.tuple #[.pointer none,.bool false]) W.drew := hl
  rw [onQ_none q1]
  clear q1 q2
  go_enter Tryz.func101,Tryz.ntmps101
  go_wp2
  try rw [fold]
  (go_region_held3 (fun w' => w'.cell? ⟨p,7,none⟩ = some (.map (some d.qm)) /\ w'.cell? ⟨w.heap.size,1,none⟩ = some (.string a.name) /\ (Instr.lookup 92 (.map (some d.qm)) (.string a.name) true).run Tryz.prog w' = .ok (.tuple #[.pointer none,.bool false]) w') (first | exact ⟨c7',x1,hl⟩ | go_keep) (first | fail))
  all_goals go_wp2
  all_goals go_ret
  all_goals exact deed_none H0.out.1 (keptW H0.out.2 (drew_below W)) 3
 ·rw [q2] at hl
  replace hl : (Instr.lookup 92 (.map (some d.qm)) (.string a.name) true).run Tryz.prog W.drew = .ok (.tuple #[.pointer (some ⟨b,0,none⟩),.bool true]) W.drew := hl
  have hok : q.Ok := ok _ (findQ_some q1)
  rw [onQ_some q1]
  have H3 : Hid ((a.name,b) ∈ d.ps) := q3
  have hD := F.give_any b (ft (.queue a.name)) q W.drew q4 hok
  obtain ⟨dd,hdd⟩ : ∃ z,q.give = z := ⟨_,rfl⟩
  show Calls _ _ _ _ (DeedPost p G w (if q.give.2.1 then 0 else 10) { s with qs := setQ s.qs a.name q.give.2.2 })
  rw [hdd] at hD ⊢
  obtain ⟨it0,gv,q'⟩ := dd
  obtain ⟨er,her⟩ : ∃ er : Int,(if gv then 0 else 10) = er := ⟨_,rfl⟩
  show Calls _ _ _ _ (DeedPost p G w (if gv then 0 else 10) { s with qs := setQ s.qs a.name q' })
  rw [her]
  have HE : Hid ((if gv then 0 else 10) = er) := her
  clear her
  clear q1 q2 q3 q4 hdd hok x3
  go_enter Tryz.func101,Tryz.ntmps101
  go_wp2
  try rw [fold]
  (go_region_held3 (fun w' => w'.cell? ⟨p,7,none⟩ = some (.map (some d.qm)) /\ w'.cell? ⟨w.heap.size,1,none⟩ = some (.string a.name) /\ (Instr.lookup 92 (.map (some d.qm)) (.string a.name) true).run Tryz.prog w' = .ok (.tuple #[.pointer (some ⟨b,0,none⟩),.bool true]) w') (first | exact ⟨c7',x1,hl⟩ | go_keep) (first | fail))
  all_goals go_wp2_with fail
  refine hD.mono ?_
  rintro e w2 ⟨rfl,F2,t2,m2⟩
  have H2 : Hid (∀ er,DeedPost p G w er { s with qs := setQ s.qs a.name q' } (.returned (.int .i64 er)) w2) := fun er => deed_queue HS.out.1 HS.out.2 (keptW H0.out.2 (drew_below W)) H3.out t2 m2
  clear t2 m2 hD
  obtain ⟨X0,foldX⟩ : ∃ X,w2.alloc (.cells #[.int .u64 0,.int .i64 0,.int .u64 0,.int .i64 0,.string ⟨#[]⟩,.string ⟨#[]⟩,.string ⟨#[]⟩,.bool false] 102) = X := ⟨_,rfl⟩
  have zX : X0.heap[w2.heap.size]? = some (.cells (F.icells F.zeroIt).toArray 102 (0,0)) := by rw [<- foldX]; exact heap_alloc_new w2 _
  have bX : Below w2.heap.size w2 (X0.setRow w2.heap.size (F.icells it0).toArray) := below_setRow (by rw [<- foldX]; exact box_below w2 _) (yyH _) _
  have HX : Hid (X0.heap[w2.heap.size]? = some (.cells (F.icells F.zeroIt).toArray 102 (0,0)) /\ Below w2.heap.size w2 (X0.setRow w2.heap.size (F.icells it0).toArray)) := ⟨zX,bX⟩
  clear zX bX
  cases gv
  all_goals go_wp2_with (refine wpList_store_row rfl 102 _ _ rfl w2.heap.size (F.icells it0).toArray rfl rfl 102 (F.icells F.zeroIt).toArray HX.out.1 info8 rfl (one8 _) ?_)
  ·obtain rfl : (10 : Int) = er := HE.out
   go_ret
   exact (H2.out _).more HX.out.2
  ·obtain rfl : (0 : Int) = er := HE.out
   go_ret
   exact (H2.out _).more HX.out.2
end Go.Proofs.YtjagaankkcbjmaaGreatDoor
