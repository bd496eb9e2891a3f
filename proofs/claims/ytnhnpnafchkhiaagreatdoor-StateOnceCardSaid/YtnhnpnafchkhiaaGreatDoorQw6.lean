import Derived.Test.YtnhnpnafchkhiaaGreatDoorQw5
import Derived.Shelf.Slices.CompactS
import Derived.Test.YtnhnpnafchkhiaaGreatDoorProg
import Derived.Shelf.SlIter.Nil
import Derived.Shelf.SlIterI.Nil
import Derived.Shelf.SortM.Plain
import Derived.Shelf.SortM.SortNone
import Derived.Shelf.SlMaps.Clone
namespace Go.Proofs.YtnhnpnafchkhiaaGreatDoor
open Go.RowKit Go.Shelf
theorem strs_txt (l:List Txt):(strs l).map txt=l:=by
 unfold strs
 rw [List.map_map]
 exact (List.map_congr_left (fun x _=>txt_str x)).trans (List.map_id l)
theorem ofB_size {may:Txt->Bool} {s:ByteArray} (h:ofB may (txt s)=true):s.size<=60:=by
 unfold ofB at h
 simp only [Bool.and_eq_true,decide_eq_true_eq] at h
 rw [txt_length] at h
 exact h.1.1
theorem ofB_words {may:Txt->Bool} {s:Txt} (h:ofB may s=true):(wordsL s).length<=12:=by
 unfold ofB at h
 simp only [Bool.and_eq_true,decide_eq_true_eq] at h
 exact h.2
set_option maxRecDepth 20000 in
set_option maxHeartbeats 1000000 in
theorem match_any (p k:ByteArray) (w:World) (hp:p.size<=maxLen) (hk:k.size<=maxLen) :
  Calls Tryz.prog 196 #[.string p,.string k] w fun e w'=>e=.returned (.bool (matchB (txt p) (txt k)))/\Below w.heap.size w w':=by
 cases hP:patB (txt p)
 ·have hm:matchB (txt p) (txt k)=false:=by unfold matchB; rw [hP]; rfl
  rw [hm]
  go_enter Tryz.func196,Tryz.ntmps196
  go_wp2_with fail
  refine (pattern_any p _ hp).mono ?_
  rintro e w1 ⟨rfl,hb1⟩
  go_wp2
  go_ret
  exact ⟨rfl,hb1⟩
 ·cases hK:keyB (txt k)
  ·have hm:matchB (txt p) (txt k)=false:=by unfold matchB; rw [hP,hK]; rfl
   rw [hm]
   go_enter Tryz.func196,Tryz.ntmps196
   go_wp2_with fail
   refine (pattern_any p _ hp).mono ?_
   rintro e w1 ⟨rfl,hb1⟩
   go_wp2_with fail
   refine (key_any k _ hk).mono ?_
   rintro e w2 ⟨rfl,hb2⟩
   go_wp2
   go_ret
   exact ⟨rfl,hb1.trans (hb2.mono hb1.size)⟩
  ·have hm:matchB (txt p) (txt k)=fitsL (wordsL (txt p)) (wordsL (txt k)):=by unfold matchB; rw [hP,hK]; rfl
   rw [hm]
   have s1:=ofB_size hP
   have s2:=ofB_size hK
   have l1:=ofB_words hP
   have l2:=ofB_words hK
   go_enter Tryz.func196,Tryz.ntmps196
   go_wp2_with fail
   refine (pattern_any p _ hp).mono ?_
   rintro e w1 ⟨rfl,hb1⟩
   go_wp2_with fail
   refine (key_any k _ hk).mono ?_
   rintro e w2 ⟨rfl,hb2⟩
   go_wp2_with fail
   refine (words_any k _ (by omega)).mono ?_
   rintro e w3 ⟨v3,rfl,ho3,hb3⟩
   go_wp2_with fail
   refine (words_any p _ (by omega)).mono ?_
   rintro e w4 ⟨v4,rfl,ho4,hb4⟩
   have hst:=stand_any w4 v3 v4 _ _ (ho3.row.below hb4 (Nat.le_refl _)) ho4.row (by rw [strs_length]; omega) (by rw [strs_length]; omega)
   rw [strs_txt,strs_txt] at hst
   go_wp2_with fail
   refine hst.mono ?_
   rintro e w5 ⟨rfl,hb5⟩
   go_wp2
   go_ret
   have z1:=hb1.size; have z2:=hb2.size; have z3:=hb3.size; have z4:=hb4.size
   exact ⟨rfl,(((hb1.trans (hb2.mono z1)).trans (hb3.mono (by omega))).trans (hb4.mono (by omega))).trans (hb5.mono (by omega))⟩
end Go.Proofs.YtnhnpnafchkhiaaGreatDoor
namespace Go.Proofs
open Go.Shelf
def Tryz.lays194_ren:Go.Shelf.Ren:=⟨fun | 194=>197 | n=>n,fun | 31=>52 | 9=>9 | 3=>3 | 4=>4 | 0=>0 | n=>n,fun | n=>n⟩
theorem Tryz.lays194:Go.Proofs.Lays.n194 Tryz.prog Tryz.lays194_ren:={
 mixed:=by kernel_rfl
 f194:=Tryz.func197.trans (congrArg some (by kernel_rfl))
 t0:=Tryz.underlying0
 a0:=Tryz.isAgg0
 z0:=Tryz.sizeOf0
 v0:=Tryz.zeroValue0
 t3:=Tryz.underlying3
 a3:=Tryz.isAgg3
 z3:=Tryz.sizeOf3
 v3:=Tryz.zeroValue3
 t4:=Tryz.underlying4
 a4:=Tryz.isAgg4
 z4:=Tryz.sizeOf4
 v4:=Tryz.zeroValue4
 t9:=Tryz.underlying9
 a9:=Tryz.isAgg9
 z9:=Tryz.sizeOf9
 v9:=Tryz.zeroValue9
 t31:=Tryz.underlying52
 a31:=Tryz.isAgg52
 z31:=Tryz.sizeOf52
 v31:=Tryz.zeroValue52 }
def Tryz.keysQ_ren:Go.Shelf.Ren:=⟨fun | 7=>65 | 10=>117 | n=>n,fun | 23=>83 | 26=>9 | 3=>102 | 28=>147 | 0=>0 | 27=>146 | 33=>172 | 4=>4 | n=>n,fun | n=>n⟩
theorem Tryz.keysQ:Go.Proofs.SlLaysZ.n7 Tryz.prog Tryz.keysQ_ren:={
 mixed:=by kernel_rfl
 f7:=⟨Tryz.f65.name,by decide,Tryz.func65.trans (congrArg some (by kernel_rfl))⟩
 f10:=⟨Tryz.f117.name,by decide,Tryz.func117.trans (congrArg some (by kernel_rfl))⟩
 t0:=Tryz.underlying0
 a0:=Tryz.isAgg0
 z0:=Tryz.sizeOf0
 v0:=Tryz.zeroValue0
 t4:=Tryz.underlying4
 a4:=Tryz.isAgg4
 z4:=Tryz.sizeOf4
 v4:=Tryz.zeroValue4
 t23:=Tryz.underlying83
 a23:=Tryz.isAgg83
 z23:=Tryz.sizeOf83
 v23:=Tryz.zeroValue83
 t26:=Tryz.underlying9
 a26:=Tryz.isAgg9
 z26:=Tryz.sizeOf9
 v26:=Tryz.zeroValue9
 t27:=Tryz.underlying146
 a27:=Tryz.isAgg146
 z27:=Tryz.sizeOf146
 v27:=Tryz.zeroValue146
 t28:=Tryz.underlying147
 a28:=Tryz.isAgg147
 z28:=Tryz.sizeOf147
 v28:=Tryz.zeroValue147
 t33:=Tryz.underlying172
 a33:=Tryz.isAgg172
 z33:=Tryz.sizeOf172
 v33:=Tryz.zeroValue172 }
def Tryz.sortedS_ren:Go.Shelf.Ren:=⟨fun | 6=>64 | 8=>115 | 9=>116 | 11=>173 | 13=>156 | 12=>174 | 23=>207 | 24=>208 | 14=>230 | 15=>231 | 16=>232 | 17=>233 | 18=>234 | 19=>235 | 20=>236 | 21=>237 | 22=>238 | 25=>274 | 26=>255 | 27=>256 | 28=>275 | 29=>276 | 30=>277 | 31=>296 | n=>n,fun | 26=>9 | 28=>147 | 24=>52 | 0=>0 | 3=>3 | 37=>226 | 48=>262 | 50=>32 | 4=>4 | 40=>254 | 39=>253 | 45=>259 | 5=>5 | 9=>9 | 51=>294 | 55=>297 | 57=>317 | 58=>288 | 33=>172 | n=>n,fun | n=>n⟩
theorem Tryz.sortedS:Go.Proofs.SlLaysZ.n6 Tryz.prog Tryz.sortedS_ren:={
 mixed:=by kernel_rfl
 f6:=⟨Tryz.f64.name,by decide,Tryz.func64.trans (congrArg some (by kernel_rfl))⟩
 f8:=⟨Tryz.f115.name,by decide,Tryz.func115.trans (congrArg some (by kernel_rfl))⟩
 f11:=⟨Tryz.f173.name,by decide,Tryz.func173.trans (congrArg some (by kernel_rfl))⟩
 t0:=Tryz.underlying0
 a0:=Tryz.isAgg0
 z0:=Tryz.sizeOf0
 v0:=Tryz.zeroValue0
 t24:=Tryz.underlying52
 a24:=Tryz.isAgg52
 z24:=Tryz.sizeOf52
 v24:=Tryz.zeroValue52
 t26:=Tryz.underlying9
 a26:=Tryz.isAgg9
 z26:=Tryz.sizeOf9
 v26:=Tryz.zeroValue9
 t28:=Tryz.underlying147
 a28:=Tryz.isAgg147
 z28:=Tryz.sizeOf147
 v28:=Tryz.zeroValue147
 i26:=by kernel_rfl }
def Tryz.sortS_ren:Go.Shelf.Ren:=⟨fun | 6=>116 | 8=>156 | 9=>174 | 19=>207 | 20=>208 | 21=>230 | 22=>231 | 23=>232 | 24=>233 | 25=>234 | 26=>235 | 27=>236 | 28=>237 | 29=>238 | 36=>274 | 31=>255 | 32=>256 | 37=>275 | 38=>276 | 39=>277 | 41=>296 | n=>n,fun | 27=>52 | 29=>9 | 3=>3 | 32=>226 | 26=>52 | 0=>0 | 44=>262 | 46=>32 | 4=>4 | 36=>254 | 35=>253 | 41=>259 | 5=>5 | 9=>9 | 53=>294 | 57=>297 | 63=>317 | 64=>288 | n=>n,fun | n=>n⟩
theorem Tryz.sortS:Go.Proofs.SlLaysM.n6 Tryz.prog Tryz.sortS_ren:={
 mixed:=by kernel_rfl
 f6:=⟨Tryz.f116.name,by decide,Tryz.func116.trans (congrArg some (by kernel_rfl))⟩
 f8:=Tryz.func156.trans (congrArg some (by kernel_rfl))
 f9:=⟨Tryz.f174.name,by decide,Tryz.func174.trans (congrArg some (by kernel_rfl))⟩
 f19:=Tryz.func207.trans (congrArg some (by kernel_rfl))
 f20:=Tryz.func208.trans (congrArg some (by kernel_rfl))
 f21:=⟨Tryz.f230.name,by decide,Tryz.func230.trans (congrArg some (by kernel_rfl))⟩
 f22:=⟨Tryz.f231.name,by decide,Tryz.func231.trans (congrArg some (by kernel_rfl))⟩
 f23:=⟨Tryz.f232.name,by decide,Tryz.func232.trans (congrArg some (by kernel_rfl))⟩
 f24:=⟨Tryz.f233.name,by decide,Tryz.func233.trans (congrArg some (by kernel_rfl))⟩
 f25:=⟨Tryz.f234.name,by decide,Tryz.func234.trans (congrArg some (by kernel_rfl))⟩
 f26:=⟨Tryz.f235.name,by decide,Tryz.func235.trans (congrArg some (by kernel_rfl))⟩
 f27:=⟨Tryz.f236.name,by decide,Tryz.func236.trans (congrArg some (by kernel_rfl))⟩
 f28:=⟨Tryz.f237.name,by decide,Tryz.func237.trans (congrArg some (by kernel_rfl))⟩
 f29:=⟨Tryz.f238.name,by decide,Tryz.func238.trans (congrArg some (by kernel_rfl))⟩
 f31:=Tryz.func255.trans (congrArg some (by kernel_rfl))
 f32:=Tryz.func256.trans (congrArg some (by kernel_rfl))
 f36:=⟨Tryz.f274.name,by decide,Tryz.func274.trans (congrArg some (by kernel_rfl))⟩
 f37:=⟨Tryz.f275.name,by decide,Tryz.func275.trans (congrArg some (by kernel_rfl))⟩
 f38:=⟨Tryz.f276.name,by decide,Tryz.func276.trans (congrArg some (by kernel_rfl))⟩
 f39:=⟨Tryz.f277.name,by decide,Tryz.func277.trans (congrArg some (by kernel_rfl))⟩
 f41:=⟨Tryz.f296.name,by decide,Tryz.func296.trans (congrArg some (by kernel_rfl))⟩
 t0:=Tryz.underlying0
 a0:=Tryz.isAgg0
 z0:=Tryz.sizeOf0
 v0:=Tryz.zeroValue0
 t3:=Tryz.underlying3
 a3:=Tryz.isAgg3
 z3:=Tryz.sizeOf3
 v3:=Tryz.zeroValue3
 t4:=Tryz.underlying4
 a4:=Tryz.isAgg4
 z4:=Tryz.sizeOf4
 v4:=Tryz.zeroValue4
 t5:=Tryz.underlying5
 a5:=Tryz.isAgg5
 z5:=Tryz.sizeOf5
 v5:=Tryz.zeroValue5
 t9:=Tryz.underlying9
 a9:=Tryz.isAgg9
 z9:=Tryz.sizeOf9
 v9:=Tryz.zeroValue9
 t26:=Tryz.underlying52
 a26:=Tryz.isAgg52
 z26:=Tryz.sizeOf52
 v26:=Tryz.zeroValue52
 t27:=Tryz.underlying52
 a27:=Tryz.isAgg52
 z27:=Tryz.sizeOf52
 v27:=Tryz.zeroValue52
 t29:=Tryz.underlying9
 a29:=Tryz.isAgg9
 z29:=Tryz.sizeOf9
 v29:=Tryz.zeroValue9
 t32:=Tryz.underlying226
 a32:=Tryz.isAgg226
 z32:=Tryz.sizeOf226
 v32:=Tryz.zeroValue226
 t35:=Tryz.underlying253
 a35:=Tryz.isAgg253
 z35:=Tryz.sizeOf253
 v35:=Tryz.zeroValue253
 t36:=Tryz.underlying254
 a36:=Tryz.isAgg254
 z36:=Tryz.sizeOf254
 v36:=Tryz.zeroValue254
 t41:=Tryz.underlying259
 a41:=Tryz.isAgg259
 z41:=Tryz.sizeOf259
 v41:=Tryz.zeroValue259
 t44:=Tryz.underlying262
 a44:=Tryz.isAgg262
 z44:=Tryz.sizeOf262
 v44:=Tryz.zeroValue262
 t46:=Tryz.underlying32
 a46:=Tryz.isAgg32
 z46:=Tryz.sizeOf32
 v46:=Tryz.zeroValue32
 t53:=Tryz.underlying294
 a53:=Tryz.isAgg294
 z53:=Tryz.sizeOf294
 v53:=Tryz.zeroValue294
 t57:=Tryz.underlying297
 a57:=Tryz.isAgg297
 z57:=Tryz.sizeOf297
 v57:=Tryz.zeroValue297
 t63:=Tryz.underlying317
 a63:=Tryz.isAgg317
 z63:=Tryz.sizeOf317
 v63:=Tryz.zeroValue317
 t64:=Tryz.underlying288
 a64:=Tryz.isAgg288
 z64:=Tryz.sizeOf288
 v64:=Tryz.zeroValue288 }
def Tryz.keysL_ren:Go.Shelf.Ren:=⟨fun | 7=>70 | 10=>124 | n=>n,fun | 23=>86 | 26=>3 | 3=>62 | 28=>156 | 0=>0 | 27=>155 | 33=>116 | 4=>4 | n=>n,fun | n=>n⟩
theorem Tryz.keysL:Go.Proofs.SlLaysZI.n7 Tryz.prog Tryz.keysL_ren:={
 mixed:=by kernel_rfl
 f7:=⟨Tryz.f70.name,by decide,Tryz.func70.trans (congrArg some (by kernel_rfl))⟩
 f10:=⟨Tryz.f124.name,by decide,Tryz.func124.trans (congrArg some (by kernel_rfl))⟩
 t0:=Tryz.underlying0
 a0:=Tryz.isAgg0
 z0:=Tryz.sizeOf0
 v0:=Tryz.zeroValue0
 t4:=Tryz.underlying4
 a4:=Tryz.isAgg4
 z4:=Tryz.sizeOf4
 v4:=Tryz.zeroValue4
 t23:=Tryz.underlying86
 a23:=Tryz.isAgg86
 z23:=Tryz.sizeOf86
 v23:=Tryz.zeroValue86
 t26:=Tryz.underlying3
 a26:=Tryz.isAgg3
 z26:=Tryz.sizeOf3
 v26:=Tryz.zeroValue3
 t27:=Tryz.underlying155
 a27:=Tryz.isAgg155
 z27:=Tryz.sizeOf155
 v27:=Tryz.zeroValue155
 t28:=Tryz.underlying156
 a28:=Tryz.isAgg156
 z28:=Tryz.sizeOf156
 v28:=Tryz.zeroValue156
 t33:=Tryz.underlying116
 a33:=Tryz.isAgg116
 z33:=Tryz.sizeOf116
 v33:=Tryz.zeroValue116 }
def Tryz.sortedI_ren:Go.Shelf.Ren:=⟨fun | 6=>69 | 8=>123 | 9=>98 | 11=>175 | 13=>156 | 12=>155 | 23=>207 | 24=>208 | 14=>198 | 15=>199 | 16=>200 | 17=>201 | 18=>202 | 19=>203 | 20=>204 | 21=>205 | 22=>206 | 25=>254 | 26=>255 | 27=>256 | 28=>257 | 29=>258 | 30=>259 | 31=>290 | n=>n,fun | 26=>3 | 28=>156 | 24=>60 | 0=>0 | 3=>3 | 37=>226 | 48=>262 | 50=>32 | 4=>4 | 40=>254 | 39=>253 | 45=>259 | 5=>5 | 9=>9 | 51=>294 | 55=>297 | 57=>317 | 58=>288 | 33=>116 | n=>n,fun | n=>n⟩
theorem Tryz.sortedI:Go.Proofs.SlLaysZI.n6 Tryz.prog Tryz.sortedI_ren:={
 mixed:=by kernel_rfl
 f6:=⟨Tryz.f69.name,by decide,Tryz.func69.trans (congrArg some (by kernel_rfl))⟩
 f8:=⟨Tryz.f123.name,by decide,Tryz.func123.trans (congrArg some (by kernel_rfl))⟩
 f11:=⟨Tryz.f175.name,by decide,Tryz.func175.trans (congrArg some (by kernel_rfl))⟩
 t0:=Tryz.underlying0
 a0:=Tryz.isAgg0
 z0:=Tryz.sizeOf0
 v0:=Tryz.zeroValue0
 t24:=Tryz.underlying60
 a24:=Tryz.isAgg60
 z24:=Tryz.sizeOf60
 v24:=Tryz.zeroValue60
 t26:=Tryz.underlying3
 a26:=Tryz.isAgg3
 z26:=Tryz.sizeOf3
 v26:=Tryz.zeroValue3
 t28:=Tryz.underlying156
 a28:=Tryz.isAgg156
 z28:=Tryz.sizeOf156
 v28:=Tryz.zeroValue156
 i26:=by kernel_rfl }
def Tryz.cloneX_ren:Go.Shelf.Ren:=⟨fun | 5=>71 | 7=>125 | n=>n,fun | 23=>124 | 25=>9 | 3=>34 | 4=>4 | 20=>20 | n=>n,fun | n=>n⟩
theorem Tryz.cloneX:Go.Proofs.SlLaysW.n5 Tryz.prog Tryz.cloneX_ren:={
 mixed:=by kernel_rfl
 f5:=⟨Tryz.f71.name,by decide,Tryz.func71.trans (congrArg some (by kernel_rfl))⟩
 f7:=Tryz.func125.trans (congrArg some (by kernel_rfl))
 t4:=Tryz.underlying4
 a4:=Tryz.isAgg4
 z4:=Tryz.sizeOf4
 v4:=Tryz.zeroValue4
 t20:=Tryz.underlying20
 a20:=Tryz.isAgg20
 z20:=Tryz.sizeOf20
 v20:=Tryz.zeroValue20
 t23:=Tryz.underlying124
 a23:=Tryz.isAgg124
 z23:=Tryz.sizeOf124
 v23:=Tryz.zeroValue124 }
def Tryz.cloneB_ren:Go.Shelf.Ren:=⟨fun | 5=>72 | 7=>125 | n=>n,fun | 23=>125 | 25=>36 | 3=>143 | 4=>4 | 20=>20 | n=>n,fun | n=>n⟩
theorem Tryz.cloneB:Go.Proofs.SlLaysW.n5 Tryz.prog Tryz.cloneB_ren:={
 mixed:=by kernel_rfl
 f5:=⟨Tryz.f72.name,by decide,Tryz.func72.trans (congrArg some (by kernel_rfl))⟩
 f7:=Tryz.func125.trans (congrArg some (by kernel_rfl))
 t4:=Tryz.underlying4
 a4:=Tryz.isAgg4
 z4:=Tryz.sizeOf4
 v4:=Tryz.zeroValue4
 t20:=Tryz.underlying20
 a20:=Tryz.isAgg20
 z20:=Tryz.sizeOf20
 v20:=Tryz.zeroValue20
 t23:=Tryz.underlying125
 a23:=Tryz.isAgg125
 z23:=Tryz.sizeOf125
 v23:=Tryz.zeroValue125 }
end Go.Proofs
