import Derived.Test.YtgcnemkhppkkcaaV04
import Derived.Laws.CopyOwn
import Derived.RegionTactic
import Derived.BigRegion
namespace Go.Proofs.Ytgcnemkhppkkcaa.pm
open arr
set_option linter.unusedVariables false
set_option maxRecDepth 100000
def OkTo (xs:List Int) (k:Nat):Prop:=∀ i,i < k->0<=xs.getD i 0/\xs.getD i 0 < xs.length/\∀ j,j < i->xs.getD j 0 ≠ xs.getD i 0
instance (xs:List Int) (k:Nat):Decidable (OkTo xs k):=by unfold OkTo;exact inferInstance
def okB (xs:List Int):Bool:=decide (xs.length<=24/\OkTo xs xs.length)
structure Ok (xs:List Int):Prop where
 len:xs.length<=24
 lo:∀ i,i < xs.length->0<=xs.getD i 0
 hi:∀ i,i < xs.length->xs.getD i 0 < xs.length
 inj:∀ i j,i < xs.length->j < xs.length->xs.getD i 0 = xs.getD j 0->i = j
theorem Ok.of (xs:List Int) (h:okB xs = true):Ok xs:=by
 unfold okB at h
 rw [decide_eq_true_iff] at h
 refine ⟨h.1,fun i hi=>(h.2 i hi).1,fun i hi=>(h.2 i hi).2.1,fun i j hi hj e=>?_⟩
 rcases Nat.lt_trichotomy i j with hl | hl | hl
 ·exact absurd e ((h.2 j hj).2.2 i hl)
 ·exact hl
 ·exact absurd e.symm ((h.2 i hi).2.2 j hl)
theorem Ok.b {xs:List Int} (h:Ok xs):okB xs = true:=by
 unfold okB
 rw [decide_eq_true_iff]
 exact ⟨h.len,fun i hi=>⟨h.lo i hi,h.hi i hi,fun j hj e=>by have:=h.inj j i (by omega) hi e;omega⟩⟩
theorem okB_long {xs:List Int} (h:24 < xs.length):okB xs = false:=by
 unfold okB;rw [decide_eq_false_iff_not];intro e;omega
theorem okB_bad {xs:List Int} {k:Nat} (hk:k < xs.length) (h:xs.getD k 0 < 0\/xs.length<=xs.getD k 0):okB xs = false:=by
 unfold okB;rw [decide_eq_false_iff_not];intro e
 have:=e.2 k hk
 omega
theorem okB_dup {xs:List Int} {k:Nat} (hk:k < xs.length) (h:xs.getD k 0 ∈ xs.take k):okB xs = false:=by
 unfold okB;rw [decide_eq_false_iff_not];intro e
 obtain ⟨j,hj,he⟩:=List.getElem_of_mem h
 simp at hj
 refine (e.2 k hk).2.2 j (by omega) ?_
 rw [<-he]
 simp [List.getD,List.getElem?_eq_getElem (show j < xs.length by omega)]
theorem okB_yes {xs:List Int} (h:xs.length<=24) (h2:OkTo xs xs.length):okB xs = true:=by
 unfold okB;rw [decide_eq_true_iff];exact ⟨h,h2⟩
theorem OkTo.step {xs:List Int} {k:Nat} (h:OkTo xs k) (hk:k < xs.length) (h1:0<=xs.getD k 0) (h2:xs.getD k 0 < xs.length) (h3:¬ xs.getD k 0 ∈ xs.take k):OkTo xs (k + 1):=by
 intro i hi
 by_cases e:i = k
 ·subst e
  refine ⟨h1,h2,fun j hj he=>h3 ?_⟩
  rw [<-he]
  have hl:j < xs.length:=by omega
  have:xs.getD j 0 = (xs.take i)[j]'(by simp;omega):=by simp [List.getD,List.getElem?_eq_getElem hl]
  rw [this]
  exact List.getElem_mem _
 ·exact h i (by omega)
def tabB (f:Nat->Bool):List Bool:=(List.range 24).map f
theorem tabB_len (f:Nat->Bool):(tabB f).length = 24:=by simp [tabB]
theorem tabB_at (f:Nat->Bool) {k:Nat} (h:k < 24):(tabB f)[k]? = some (f k):=by simp [tabB,h]
theorem tabB_set (f f':Nat->Bool) {k:Nat} (h:∀ j,j < 24->f' j = if j = k then true else f j):(tabB f).set k true = tabB f':=by
 refine List.ext_getElem? fun i=>?_
 by_cases hi:i < 24
 ·rw [tabB_at _ hi,List.getElem?_set,h i hi]
  by_cases e:k = i
  ·subst e;simp [tabB_len,hi]
  ·rw [if_neg e,tabB_at _ hi,if_neg (by omega)]
 ·rw [List.getElem?_eq_none (by simp [tabB_len];omega),List.getElem?_eq_none (by simp [tabB_len];omega)]
def flags (xs:List Int) (k:Nat):List Bool:=tabB fun j=>decide ((j:Int) ∈ xs.take k)
theorem flags_step {xs:List Int} {k z:Nat} (hk:k < xs.length) (hz:xs.getD k 0 = (z:Int)):(flags xs k).set z true = flags xs (k + 1):=by
 refine tabB_set _ _ fun j hj=>?_
 have e:xs.take (k + 1) = xs.take k ++ [(z:Int)]:=by
  rw [List.take_succ_eq_append_getElem hk,<-hz];simp [List.getD,List.getElem?_eq_getElem hk]
 rw [e]
 by_cases hjz:j = z
 ·subst hjz;simp
 ·have:¬ ((j:Int) = (z:Int)):=by omega
  simp [hjz,this]
def extTo (xs:List Int) (k:Nat):List Int:=tab fun i=>if i < k then xs.getD i 0 else (i:Int)
theorem extTo_zero (xs:List Int):extTo xs 0 = idl:=by simp [extTo,idl]
theorem extTo_step (xs:List Int) (k:Nat):(extTo xs k).set k (xs.getD k 0) = extTo xs (k + 1):=by
 have h:=tab_set (fun i=>if i < k then xs.getD i 0 else (i:Int)) (fun i=>if i < k + 1 then xs.getD i 0 else (i:Int)) (k:=k) (fun j hj=>by
  by_cases e:j = k
  ·subst e;simp
  ·simp only [if_neg e];split <;> split <;> first | rfl | omega)
 simpa [extTo] using h
def ext (xs:List Int):List Int:=extTo xs xs.length
def pv (xs:List Int):List Int:=if okB xs then ext xs else zeros
theorem zeros_len:zeros.length = 24:=by simp [zeros]
theorem ext_len (xs:List Int):(ext xs).length = 24:=tab_len _
theorem pv_len (xs:List Int):(pv xs).length = 24:=by unfold pv;split;exact ext_len _;exact zeros_len
theorem ext_at {xs:List Int} {i:Nat} (h:i < 24):(ext xs).getD i 0 = if i < xs.length then xs.getD i 0 else (i:Int):=by
 unfold ext extTo;rw [tab_get _ h]
end Go.Proofs.Ytgcnemkhppkkcaa.pm

namespace Go.Proofs.Ytgcnemkhppkkcaa.permOk
open Go.ChangeShapes Go.WideShapes Go.ChangeAt Go.RowKit
open mem ints arr pm
set_option linter.unusedVariables false
set_option maxRecDepth 100000
theorem in_yes (x a b:Int) (w:World) (h1:a<=x) (h2:x<=b) :
  Calls sqp.prog 92 #[.int .i64 x,.int .i64 a,.int .i64 b] w fun e w'=>e = .returned (.bool true)/\w = w':=by
 go_enter sqp.func92,sqp.ntmps92
 go_wp2
 go_ret
 exact ⟨rfl,rfl⟩
theorem in_no (x a b:Int) (w:World) (h:x < a\/b < x) :
  Calls sqp.prog 92 #[.int .i64 x,.int .i64 a,.int .i64 b] w fun e w'=>e = .returned (.bool false)/\w = w':=by
 by_cases h1:x < a
 ·clear h
  have hd:decide (a<=x) = false:=by simp;omega
  go_enter sqp.func92,sqp.ntmps92
  go_wp2
  go_ret
  exact ⟨rfl,rfl⟩
 ·have h2:b < x:=by omega
  have hd:decide (x<=b) = false:=by simp;omega
  clear h
  go_enter sqp.func92,sqp.ntmps92
  go_wp2
  go_ret
  exact ⟨rfl,rfl⟩
def hasB (xs:List Int) (z:Int):Bool:=decide (z ∈ xs)
theorem take_no {xs:List Int} {k:Nat} {z s:Int} (h:¬ z ∈ xs.take k) (hk:xs[k]? = some s) (hs:¬ s = z):¬ z ∈ xs.take (k + 1):=by
 rw [List.take_add_one,hk]
 simp
 exact ⟨h,fun e=>hs e.symm⟩
set_option maxHeartbeats 400000 in
theorem has_any (A:Option Addr) (n c:Nat) (xs:List Int) (hi:Nat) (z:Int) (w:World) (hx:Rd w hi A n (V xs)) (hn:n<=1048576) :
  Calls sqp.prog 135 #[.slice A n c,.int .i64 z] w fun e w'=>e = .returned (.bool (hasB xs z))/\w = w':=by
 have lx:xs.length = n:=by simpa [V] using hx.1
 have LX:=Lib.hid lx;clear lx
 have HX:=Lib.hid hx;clear hx
 go_enter sqp.func135,sqp.ntmps135
 go_wp2
 go_loop [9] (fun i=>∃ k:Nat,k<=n/\i = .int .i64 k/\Hid (¬ z ∈ xs.take k)) (fun i=>n - (intOf i).toNat)
 case atStart=>exact ⟨0,Nat.zero_le _,rfl,Lib.hid (by simp)⟩
 case round =>
  obtain ⟨k,hk,rfl,HN⟩:=hrel
  by_cases hlt:k < n
  ·obtain ⟨g,off,u,rfl,_,hxu,hcx⟩:=HX.out.at_ hlt
   obtain ⟨s,hxs,rfl⟩:=V_at hxu
   have HS:=Lib.hid hxs;clear hxs hxu
   by_cases hst:s = z
   ·subst hst
    go_wp2
    go_ret
    refine ⟨ret_bool ?_,rfl⟩
    unfold hasB;rw [eq_comm,decide_eq_true_iff];exact List.mem_of_getElem? HS.out
   ·have hb:(s == z) = false:=by simpa using hst
    have HST:=Lib.hid hst;clear hst
    go_wp2
    go_round
    case rel=>exact ⟨k + 1,by omega,by go_num,Lib.hid (take_no HN.out HS.out HST.out)⟩
    case measure=>simp [intOf];omega
  ·obtain rfl:k = n:=by omega
   go_wp2
   go_ret
   refine ⟨ret_bool ?_,rfl⟩
   unfold hasB;rw [eq_comm,decide_eq_false_iff_not]
   have:=HN.out
   rw [List.take_of_length_le (by rw [LX.out];exact Nat.le_refl _)] at this
   exact this
theorem Rd.take {w:World} {hi n k:Nat} {A:Option Addr} {xs:List Int} (h:Rd w hi A n (V xs)) (hk:k<=n):Rd w hi A k (V (xs.take k)):=by
 have hl:xs.length = n:=by simpa [V] using h.1
 refine ⟨by simp [V];omega,h.2.1,fun h0=>?_⟩
 obtain ⟨g,off,e,hlt,hc⟩:=h.2.2 (by omega)
 refine ⟨g,off,e,hlt,fun j hj=>?_⟩
 rw [hc j (by omega)]
 simp [V,hj]
theorem getD_of {xs:List Int} {k:Nat} {s:Int} (h:xs[k]? = some s):xs.getD k 0 = s:=by simp [List.getD,h]
set_option maxHeartbeats 800000 in
theorem spec_any (A:Option Addr) (n c:Nat) (xs:List Int) (hi:Nat) (w:World) (hx:Rd w hi A n (V xs)) (hn:n<=1048576) (hc:n<=c) :
  Calls sqp.prog 104 #[.slice A n c] w fun e w'=>e = .returned (.bool (okB xs))/\w = w':=by
 have lx:xs.length = n:=by simpa [V] using hx.1
 have LX:=Lib.hid lx;clear lx
 have HX:=Lib.hid hx;clear hx
 by_cases h24:24 < n
 ·have e:=Lib.hid (okB_long (xs:=xs) (by rw [LX.out];exact h24))
  go_enter sqp.func104,sqp.ntmps104
  go_wp2
  go_ret
  exact ⟨ret_bool e.out.symm,rfl⟩
 go_enter sqp.func104,sqp.ntmps104
 go_wp2
 go_loop [10] (fun i=>∃ k:Nat,k<=n/\i = .int .i64 k/\Hid (OkTo xs k)) (fun i=>n - (intOf i).toNat)
 case atStart=>exact ⟨0,Nat.zero_le _,rfl,Lib.hid (fun i hi=>by omega)⟩
 case round =>
  obtain ⟨k,hk,rfl,HO⟩:=hrel
  by_cases hlt:k < n
  ·obtain ⟨g,off,u,rfl,_,hxu,hcx⟩:=HX.out.at_ hlt
   obtain ⟨s,hxs,rfl⟩:=V_at hxu
   have HG:=Lib.hid (getD_of hxs)
   clear hxs hxu
   by_cases hin:0<=s/\s<=(n:Int) - 1
   ·obtain ⟨i1,i2⟩:=hin
    by_cases hh:hasB (xs.take k) s = true
    ·have HF:Hid (okB xs = false):=Lib.hid (okB_dup (by rw [LX.out];exact hlt) (by rw [HG.out];simpa [hasB] using hh))
     have HH:=Lib.hid hh;clear hh
     go_wp2_with (go_at_call 92;refine (in_yes _ _ _ _ i1 i2).mono ?_;rintro e w' ⟨rfl,rfl⟩)
     refine (has_any _ k _ (xs.take k) _ s _ (Rd.take HX.out (by omega)) (by omega)).mono ?_
     rintro e w' ⟨rfl,rfl⟩
     rw [HH.out]
     go_wp2
     go_ret
     exact ⟨ret_bool HF.out.symm,rfl⟩
    ·have hh':hasB (xs.take k) s = false:=by simpa using hh
     have HH:=Lib.hid hh';clear hh hh'
     go_wp2_with (go_at_call 92;refine (in_yes _ _ _ _ i1 i2).mono ?_;rintro e w' ⟨rfl,rfl⟩)
     refine (has_any _ k _ (xs.take k) _ s _ (Rd.take HX.out (by omega)) (by omega)).mono ?_
     rintro e w' ⟨rfl,rfl⟩
     rw [HH.out]
     go_wp2
     go_round
     case rel=>exact ⟨k + 1,by omega,by go_num,Lib.hid (HO.out.step (by rw [LX.out];exact hlt) (by rw [HG.out];exact i1) (by rw [HG.out,LX.out];omega) (by rw [HG.out];simpa [hasB] using HH.out))⟩
     case measure=>simp [intOf];omega
   ·have hno:s < 0\/(n:Int) - 1 < s:=by omega
    have HF:Hid (okB xs = false):=Lib.hid (okB_bad (k:=k) (by rw [LX.out];exact hlt) (by rw [HG.out,LX.out];omega))
    clear hin
    go_wp2_with (go_at_call 92;refine (in_no _ _ _ _ hno).mono ?_;rintro e w' ⟨rfl,rfl⟩)
    go_ret
    exact ⟨ret_bool HF.out.symm,rfl⟩
  ·obtain rfl:k = n:=by omega
   go_wp2
   go_ret
   exact ⟨ret_bool (okB_yes (by rw [LX.out];omega) (by rw [LX.out];exact HO.out)).symm,rfl⟩
end Go.Proofs.Ytgcnemkhppkkcaa.permOk

namespace Go.Proofs.Ytgcnemkhppkkcaa.permOf
open Go.ChangeShapes Go.WideShapes Go.ChangeAt Go.RowKit
open mem ints arr pm permOk
set_option linter.unusedVariables false
set_option maxRecDepth 100000
theorem results_cell_tmp {P:Program} {fn:Func} {p q:Tmp} {ty:TypeId} (h:fn.results = #[.cell p ty,.tmp q]) (tmps:Array Value) (w:World) (g:Nat) (t:TypeId) (cs:Array Value) (fr:Nat × Nat) (d:TypeDesc) (v:Value)
  (hp:tmps.getD p undef = .pointer (some ⟨g,0,none⟩)) (hq:tmps.getD q undef = v) (hg:w.heap[g]? = some (.cells cs t fr))
  (hu:P.underlying ty = some d) (hd:(match d with | .struct _ | .array _ _=>true | _=>false) = true) (hi:(P.info? ty).map (·.size) = some cs.size) :
  (results fn tmps).run P w = .ok (.tuple #[.agg cs,v]) w:=by
 have hp':tmps[p]?.getD undef = .pointer (some ⟨g,0,none⟩):=by simpa using hp
 have hq':tmps[q]?.getD undef = v:=by simpa using hq
 simp [results,h,hp',hq',asAddr,run_loadVar_row w g t ty cs fr d hg hu hd hi]
theorem results_cell2_tmp {P:Program} {fn:Func} {p p2 q:Tmp} {ty:TypeId} (h:fn.results = #[.cell p ty,.cell p2 ty,.tmp q]) (tmps:Array Value) (w:World) (g g2:Nat) (t:TypeId) (cs cs2:Array Value) (fr:Nat × Nat) (d:TypeDesc) (v:Value)
  (hp:tmps.getD p undef = .pointer (some ⟨g,0,none⟩)) (hp2:tmps.getD p2 undef = .pointer (some ⟨g2,0,none⟩)) (hq:tmps.getD q undef = v) (hg:w.heap[g]? = some (.cells cs t fr)) (hg2:w.heap[g2]? = some (.cells cs2 t fr))
  (hu:P.underlying ty = some d) (hd:(match d with | .struct _ | .array _ _=>true | _=>false) = true) (hi:(P.info? ty).map (·.size) = some cs.size) (hi2:(P.info? ty).map (·.size) = some cs2.size) :
  (results fn tmps).run P w = .ok (.tuple #[.agg cs,.agg cs2,v]) w:=by
 have hp':tmps[p]?.getD undef = .pointer (some ⟨g,0,none⟩):=by simpa using hp
 have hp2':tmps[p2]?.getD undef = .pointer (some ⟨g2,0,none⟩):=by simpa using hp2
 have hq':tmps[q]?.getD undef = v:=by simpa using hq
 simp [results,h,hp',hp2',hq',asAddr,run_loadVar_row w g t ty cs fr d hg hu hd hi,run_loadVar_row w g2 t ty cs2 fr d hg2 hu hd hi2]
def VB (l:List Bool):List Value:=l.map Value.bool
theorem VB_set (l:List Bool) (k:Nat) (b:Bool):(VB l).set k (.bool b) = VB (l.set k b):=by simp [VB,List.map_set]
theorem flags_cell {w:World} {g:Nat} {f:Nat->Bool} {t:TypeId} (h:Arr w g (VB (tabB f)) t) {k:Nat} (hk:k < 24) {b:Bool} (hb:f k = b):w.cell? ⟨g,k,none⟩ = some (.bool b) :=
 h.cell (by simp [VB,tabB_at f hk,hb])
def PRel (xs:List Int) (R G:Nat) (w wr:World) (k:Nat):Prop :=
 Arr wr R (V zeros) 60/\Arr wr G (V (extTo xs k)) 60/\Arr wr (G + 1) (VB (flags xs k)) 140/\Below w.heap.size w wr/\OkTo xs k
def PermPost (xs:List Int) (w:World) (e:Ending) (w':World):Prop:=e = .returned (.tuple #[.agg (V (pv xs)).toArray,.bool (okB xs)])/\Below w.heap.size w w'
theorem post_no {xs:List Int} {w w':World} (h:okB xs = false) (hb:Below w.heap.size w w'):PermPost xs w (.returned (.tuple #[.agg (V zeros).toArray,.bool false])) w':=by
 refine ⟨?_,hb⟩
 unfold pv
 simp [h]
theorem post_yes {xs:List Int} {w w':World} (h:okB xs = true) (hb:Below w.heap.size w w'):PermPost xs w (.returned (.tuple #[.agg (V (ext xs)).toArray,.bool true])) w':=by
 refine ⟨?_,hb⟩
 unfold pv
 simp [h]
theorem flags_zero (xs:List Int):flags xs 0 = List.replicate 24 false:=by
 simp only [flags,List.take_zero,List.not_mem_nil,decide_false];decide
set_option maxHeartbeats 1000000 in
theorem permOf_any (A:Option Addr) (n c:Nat) (xs:List Int) (hi:Nat) (w:World) (hx:Rd w hi A n (V xs)) (hn:n<=1048576) :
  Calls sqp.prog 98 #[.slice A n c] w (PermPost xs w):=by
 have lx:xs.length = n:=by simpa [V] using hx.1
 have LX:=Lib.hid lx;clear lx
 have HX:=Lib.hid hx;clear hx
 by_cases h24:24 < n
 ·have E:=Lib.hid (okB_long (xs:=xs) (by rw [LX.out];exact h24))
  have N:=Lib.hid (Arr.new w (V zeros) 60 rfl)
  go_enter sqp.func98,sqp.ntmps98
  go_wp2_with (refine wpList_store_row rfl 60 _ _ rfl w.heap.size (V zeros).toArray rfl rfl 60 (V zeros).toArray N.out (size_V zeros_len) rfl (one_V _) ?_)
  exact bodyPost_ret (v:=.tuple #[.agg (V zeros).toArray,.bool false]) (results_cell_tmp rfl _ _ w.heap.size 60 (V zeros).toArray (0,0) _ _ rfl rfl N.out.row sqp.underlying60 rfl (size_V zeros_len)) rfl (post_no E.out (below_setRow ((Below.refl _ _).alloc (Nat.le_refl _) _) (Nat.le_refl _) _))
 have N:=Lib.hid (Arr.new w (V zeros) 60 rfl)
 go_enter sqp.func98,sqp.ntmps98
 go_wp2_with fail
 refine (staying_any _).mono ?_
 rintro e w1 ⟨rfl,b1⟩
 have hs1:w.heap.size + 1<=w1.heap.size:=by have:=b1.size;simpa using this
 have A1:=Lib.hid (N.out.keep b1 (by simp))
 have B1:Hid (Below w.heap.size w w1):=Lib.hid (((Below.refl _ _).alloc (Nat.le_refl _) _).trans (b1.mono (by simp)))
 clear b1
 go_wp2_with (refine wpList_store_row rfl 60 _ _ rfl w1.heap.size (V idl).toArray rfl rfl 60 (V zeros).toArray (Arr.new w1 (V zeros) _ rfl) (size_V (tab_len _)) rfl (one_V _) ?_)
 go_loopw [15] (fun i wr=>∃ k:Nat,k<=n/\i = .int .i64 k/\PRel xs w.heap.size w1.heap.size w wr k) (fun i _=>n - (intOf i).toNat)
 case atStart =>
  refine ⟨0,Nat.zero_le _,rfl,((A1.out.alloc _).rowOther (by omega)).alloc _,?_,?_,(below_setRow (B1.out.alloc B1.out.size _) (by omega) _).alloc (by simp;omega) _,fun i hi=>by omega⟩
  ·rw [extTo_zero]
   exact (Arr.new w1 (V zeros) _ rfl).row.alloc _
  ·rw [flags_zero]
   exact Arr.new _ (VB (List.replicate 24 false)) _ (by simp)
 case round =>
  obtain ⟨k,hk,rfl,hp⟩:=hrel
  have HP:=Lib.hid hp;clear hp
  by_cases hlt:k < n
  ·obtain ⟨g,off,u,rfl,hgl,hxu,hcx⟩:=HX.out.at_ hlt
   obtain ⟨s,hxs,rfl⟩:=V_at hxu
   have HG:=Lib.hid (getD_of hxs)
   clear hxs hxu
   have hgw:g < w.heap.size:=Nat.lt_of_lt_of_le hgl HX.out.2.1
   rw [<-HP.out.2.2.2.1.cell (p:=⟨g,off + k,none⟩) hgw] at hcx
   clear hgl hgw
   have arm:=HP.out.1
   have ARM:=Lib.hid arm;clear arm
   by_cases hbad:s < 0\/(n:Int)<=s
   ·have HF:Hid (okB xs = false):=Lib.hid (okB_bad (k:=k) (by rw [LX.out];exact hlt) (by rw [HG.out,LX.out];omega))
    by_cases hneg:s < 0
    ·clear hbad
     go_wp2_with (refine wpList_store_row rfl 60 _ _ rfl w.heap.size (V zeros).toArray rfl rfl 60 (V zeros).toArray ARM.out (size_V zeros_len) rfl (one_V _) ?_)
     exact bodyPost_ret (v:=.tuple #[.agg (V zeros).toArray,.bool false]) (results_cell_tmp rfl _ _ w.heap.size 60 (V zeros).toArray (0,0) _ _ rfl rfl ARM.out.row sqp.underlying60 rfl (size_V zeros_len)) rfl (post_no HF.out (below_setRow HP.out.2.2.2.1 (Nat.le_refl _) _))
    ·have hge:(n:Int)<=s:=by omega
     have hd:decide (s < 0) = false:=by simp;omega
     clear hbad
     go_wp2_with (refine wpList_store_row rfl 60 _ _ rfl w.heap.size (V zeros).toArray rfl rfl 60 (V zeros).toArray ARM.out (size_V zeros_len) rfl (one_V _) ?_)
     exact bodyPost_ret (v:=.tuple #[.agg (V zeros).toArray,.bool false]) (results_cell_tmp rfl _ _ w.heap.size 60 (V zeros).toArray (0,0) _ _ rfl rfl ARM.out.row sqp.underlying60 rfl (size_V zeros_len)) rfl (post_no HF.out (below_setRow HP.out.2.2.2.1 (Nat.le_refl _) _))
   ·have i1:0<=s:=by omega
    have i2:s < n:=by omega
    clear hbad
    obtain ⟨z,rfl⟩:=Int.eq_ofNat_of_zero_le i1
    have hz:z < n:=by omega
    have hz24:z < 24:=by omega
    clear i1 i2
    by_cases hin:(z:Int) ∈ xs.take k
    ·have HF:Hid (okB xs = false):=Lib.hid (okB_dup (k:=k) (by rw [LX.out];exact hlt) (by rw [HG.out];exact hin))
     have hfl:wr.cell? ⟨w1.heap.size + 1,z,none⟩ = some (.bool true):=flags_cell HP.out.2.2.1 hz24 (by simpa using hin)
     clear hin
     go_wp2_with (refine wpList_store_row rfl 60 _ _ rfl w.heap.size (V zeros).toArray rfl rfl 60 (V zeros).toArray ARM.out (size_V zeros_len) rfl (one_V _) ?_)
     exact bodyPost_ret (v:=.tuple #[.agg (V zeros).toArray,.bool false]) (results_cell_tmp rfl _ _ w.heap.size 60 (V zeros).toArray (0,0) _ _ rfl rfl ARM.out.row sqp.underlying60 rfl (size_V zeros_len)) rfl (post_no HF.out (below_setRow HP.out.2.2.2.1 (Nat.le_refl _) _))
    ·have hfl:wr.cell? ⟨w1.heap.size + 1,z,none⟩ = some (.bool false):=flags_cell HP.out.2.2.1 hz24 (by simpa using hin)
     have hff:=HP.out.2.2.1.frozen z
     have hc2:wr.cell? ⟨w1.heap.size,k,none⟩ = some (.int .i64 ((extTo xs k).getD k 0)):=HP.out.2.1.cell (V_getD (by rw [extTo,tab_len];omega))
     have hf2:=HP.out.2.1.frozen k
     have HIN:=Lib.hid hin;clear hin
     go_wp2
     go_roundw
     case rel =>
      refine ⟨k + 1,by omega,by go_num,(HP.out.1.other (by omega) _).other (by omega) _,?_,?_,(HP.out.2.2.2.1.setCell (by simp;omega) _).setCell (by simp;omega) _,HP.out.2.2.2.2.step (by rw [LX.out];exact hlt) (by rw [HG.out];omega) (by rw [HG.out,LX.out];omega) (by rw [HG.out];exact HIN.out)⟩
      ·have h:=(HP.out.2.1.other (k:=z) (g':=w1.heap.size + 1) (by omega) (.bool true)).set_ k (.int .i64 (z:Int))
       rw [V_set,<-HG.out,extTo_step] at h
       rw [<-HG.out]
       exact h
      ·have h:=HP.out.2.2.1.set_ z (.bool true)
       rw [VB_set,flags_step (by rw [LX.out];exact hlt) HG.out] at h
       exact h.other (by omega) _
     case measure=>simp [intOf];omega
  ·obtain rfl:k = n:=by omega
   have HY:Hid (okB xs = true):=Lib.hid (okB_yes (by rw [LX.out];omega) (by rw [LX.out];exact HP.out.2.2.2.2))
   have h2:=HP.out.2.1
   rw [<-LX.out] at h2
   have H2:Hid (Arr wr w1.heap.size (V (ext xs)) 60):=Lib.hid h2
   have H1:=Lib.hid HP.out.1;have HB:=Lib.hid HP.out.2.2.2.1
   clear h2 HP
   go_wp2_with (first | (refine wpList_load_row rfl 60 _ rfl w1.heap.size rfl 60 (V (ext xs)).toArray (0,0) _ H2.out sqp.underlying60 rfl (size_V (ext_len _)) ?_) | (refine wpList_store_row rfl 60 _ _ rfl w.heap.size (V (ext xs)).toArray rfl rfl 60 (V zeros).toArray H1.out (size_V (ext_len _)) (by simp [V_len,ext_len,zeros]) (one_V _) ?_))
   exact bodyPost_ret (v:=.tuple #[.agg (V (ext xs)).toArray,.bool true]) (results_cell_tmp rfl _ _ w.heap.size 60 (V (ext xs)).toArray (0,0) _ _ rfl rfl H1.out.row sqp.underlying60 rfl (size_V (ext_len _))) rfl (post_yes HY.out (below_setRow HB.out (Nat.le_refl _) _))
end Go.Proofs.Ytgcnemkhppkkcaa.permOf

namespace Go.Proofs.Ytgcnemkhppkkcaa.inv
open Go.ChangeShapes Go.WideShapes Go.ChangeAt Go.RowKit
open mem ints arr pm permOk permOf
set_option linter.unusedVariables false
set_option maxRecDepth 100000
structure Sq (qs:List Int):Prop where
 len:qs.length = 24
 lo:∀ i,i < 24->0<=qs.getD i 0
 hi:∀ i,i < 24->qs.getD i 0 < 24
theorem Sq.at_ {qs:List Int} (h:Sq qs) {i:Nat} (hi:i < 24):∃ z:Nat,z < 24/\qs[i]? = some (z:Int)/\qs.getD i 0 = (z:Int):=by
 have h1:=h.lo i hi;have h2:=h.hi i hi
 have e:qs[i]? = some (qs.getD i 0):=by rw [List.getD,List.getElem?_eq_getElem (by rw [h.len];exact hi)];rfl
 exact ⟨(qs.getD i 0).toNat,by omega,by rw [e];congr 1;omega,by omega⟩
theorem index_row (l:List Int) (k:Nat) (z:Int) (hk:k < 24) (hz:l[k]? = some z) (w:World) :
  (Instr.index 60 (.agg (V l).toArray) (.int .i64 (k:Int))).run sqp.prog w = .ok (.int .i64 z) w:=by
 have hs:(sizeOf 3).run sqp.prog w = .ok 1 w:=by kernel_rfl
 have h2:(V l)[k]? = some (.int .i64 z):=V_get hz
 simp [Instr.index,asIntOf,run_underlying sqp.underlying60,hk,hs,part,h2]
def invTo (n:Nat) (qs:List Int):Nat->List Int
 | 0=>List.replicate n 0
 | k + 1=>(invTo n qs k).set (qs.getD k 0).toNat (k:Int)
theorem invTo_len (n:Nat) (qs:List Int) (k:Nat):(invTo n qs k).length = n:=by
 induction k with
 | zero=>simp [invTo]
 | succ k ih=>simp [invTo,ih]
def InvRel (qs:List Int) (w wr:World) (k:Nat):Prop :=
 Arr wr (w.heap.size + 1) (V zeros) 60/\Arr wr (w.heap.size + 2) (V (invTo 24 qs k)) 60/\Below w.heap.size w wr
set_option maxHeartbeats 1000000 in
theorem inverse_any (qs:List Int) (w:World) (hq:Sq qs) :
  Calls sqp.prog 100 #[.agg (V qs).toArray] w fun e w'=>e = .returned (.agg (V (invTo 24 qs 24)).toArray)/\Below w.heap.size w w':=by
 have HQ:=Lib.hid hq;clear hq
 go_enter sqp.func100,sqp.ntmps100
 go_wp2_with (refine wpList_load_row rfl 60 _ rfl w.heap.size rfl 60 (V qs).toArray (0,0) _ (((Arr.new w (V qs) 60 rfl).alloc _).alloc _) sqp.underlying60 rfl (size_V HQ.out.len) ?_)
 go_loopw [7] (fun i wr=>∃ k:Nat,k<=24/\i = .int .i64 k/\InvRel qs w wr k) (fun i _=>24 - (intOf i).toNat)
 case atStart =>
  exact ⟨0,Nat.zero_le _,rfl,(Arr.new _ (V zeros) _ (by simp)).alloc _,Arr.new _ (V zeros) _ (by simp),(((Below.refl _ _).alloc (Nat.le_refl _) _).alloc (by simp) _).alloc (by simp;omega) _⟩
 case round =>
  obtain ⟨k,hk,rfl,hr⟩:=hrel
  have HR:=Lib.hid hr;clear hr
  by_cases hlt:k < 24
  ·obtain ⟨z,hz,hqz,hqd⟩:=HQ.out.at_ hlt
   have hvz:=index_row qs k z hlt hqz
   have HD:=Lib.hid hqd;clear hqz hqd
   have hc:wr.cell? ⟨w.heap.size + 2,z,none⟩ = some (.int .i64 ((invTo 24 qs k).getD z 0)):=HR.out.2.1.cell (V_getD (by rw [invTo_len];exact hz))
   have hf:=HR.out.2.1.frozen z
   go_wp2
   go_roundw
   case rel =>
    refine ⟨k + 1,by omega,by go_num,HR.out.1.other (by omega) _,?_,HR.out.2.2.setCell (by simp;omega) _⟩
    have h:=HR.out.2.1.set_ z (.int .i64 (k:Int))
    rw [V_set] at h
    have e:invTo 24 qs (k + 1) = (invTo 24 qs k).set z (k:Int):=by rw [invTo,HD.out];rfl
    rw [e]
    exact h
   case measure=>simp [intOf];omega
  ·obtain rfl:k = 24:=by omega
   have H1:=Lib.hid HR.out.1;have H2:=Lib.hid HR.out.2.1;have HB:=Lib.hid HR.out.2.2;clear HR
   have HL:=Lib.hid (invTo_len 24 qs 24)
   generalize hr:invTo 24 qs 24 = r at H2 HL
   have HRR:=Lib.hid hr;clear hr
   go_wp2_with (first | (refine wpList_load_row rfl 60 (.tmp 3) rfl (w.heap.size + 2) rfl 60 (V r).toArray (0,0) _ H2.out sqp.underlying60 rfl (size_V HL.out) ?_) | (refine wpList_store_row rfl 60 (.tmp 2) (.tmp 15) rfl (w.heap.size + 1) (V r).toArray rfl rfl 60 (V zeros).toArray H1.out (size_V HL.out) (by simp [V_len,HL.out,zeros]) (one_V _) ?_))
   exact bodyPost_ret (v:=.agg (V r).toArray) (results_cell_row rfl _ _ (w.heap.size + 1) 60 (V r).toArray (0,0) _ rfl H1.out.row sqp.underlying60 rfl (size_V HL.out)) rfl ⟨by rw [HRR.out],arr.below_setRow HB.out (by omega) _⟩
def thenL (ps qs:List Int):List Int:=tab fun i=>qs.getD (ps.getD i 0).toNat 0
def ThenRel (ps qs:List Int) (w wr:World) (k:Nat):Prop :=
 Arr wr (w.heap.size + 1) (V qs) 60/\Arr wr (w.heap.size + 2) (V zeros) 60/\Arr wr (w.heap.size + 3) (V (tab fun i=>if i < k then qs.getD (ps.getD i 0).toNat 0 else 0)) 60/\Below w.heap.size w wr
set_option maxHeartbeats 1000000 in
theorem then_any (ps qs:List Int) (w:World) (hp:Sq ps) (hq:Sq qs) :
  Calls sqp.prog 101 #[.agg (V ps).toArray,.agg (V qs).toArray] w fun e w'=>e = .returned (.agg (V (thenL ps qs)).toArray)/\Below w.heap.size w w':=by
 have HP:=Lib.hid hp;have HQ:=Lib.hid hq;clear hp hq
 go_enter sqp.func101,sqp.ntmps101
 go_wp2_with (refine wpList_load_row rfl 60 _ rfl w.heap.size rfl 60 (V ps).toArray (0,0) _ ((((Arr.new w (V ps) 60 rfl).alloc _).alloc _).alloc _) sqp.underlying60 rfl (size_V HP.out.len) ?_)
 go_loopw [9] (fun i wr=>∃ k:Nat,k<=24/\i = .int .i64 k/\ThenRel ps qs w wr k) (fun i _=>24 - (intOf i).toNat)
 case atStart =>
  exact ⟨0,Nat.zero_le _,rfl,((Arr.new _ (V qs) _ (by simp)).alloc _).alloc _,(Arr.new _ (V zeros) _ (by simp)).alloc _,Arr.new _ (V zeros) _ (by simp),((((Below.refl _ _).alloc (Nat.le_refl _) _).alloc (by simp) _).alloc (by simp;omega) _).alloc (by simp;omega) _⟩
 case round =>
  obtain ⟨k,hk,rfl,hr⟩:=hrel
  have HR:=Lib.hid hr;clear hr
  by_cases hlt:k < 24
  ·obtain ⟨z,hz,hqz,hqd⟩:=HP.out.at_ hlt
   have hvz:=index_row ps k z hlt hqz
   have HD:=Lib.hid hqd;clear hqz hqd
   have hcq:wr.cell? ⟨w.heap.size + 1,z,none⟩ = some (.int .i64 (qs.getD z 0)):=HR.out.1.cell (V_getD (by rw [HQ.out.len];exact hz))
   have hc:wr.cell? ⟨w.heap.size + 3,k,none⟩ = some (.int .i64 ((tab fun i=>if i < k then qs.getD (ps.getD i 0).toNat 0 else 0).getD k 0)):=HR.out.2.2.1.cell (V_getD (by rw [tab_len];exact hlt))
   have hf:=HR.out.2.2.1.frozen k
   go_wp2
   go_roundw
   case rel =>
    refine ⟨k + 1,by omega,by go_num,HR.out.1.other (by omega) _,HR.out.2.1.other (by omega) _,?_,HR.out.2.2.2.setCell (by simp;omega) _⟩
    have h:=HR.out.2.2.1.set_ k (.int .i64 (qs.getD z 0))
    rw [V_set] at h
    have e:=tab_set (fun i=>if i < k then qs.getD (ps.getD i 0).toNat 0 else 0) (fun i=>if i < k + 1 then qs.getD (ps.getD i 0).toNat 0 else 0) (k:=k) (fun j hj=>by
     by_cases e:j = k
     ·subst e;simp
     ·simp only [if_neg e];split <;> split <;> first | rfl | omega)
    simp only [Nat.lt_succ_self,if_true] at e
    rw [HD.out,Int.toNat_natCast] at e
    rw [e] at h
    exact h
   case measure=>simp [intOf];omega
  ·obtain rfl:k = 24:=by omega
   have er:(tab fun i=>if i < 24 then qs.getD (ps.getD i 0).toNat 0 else 0) = thenL ps qs:=by
    unfold thenL tab
    refine List.map_congr_left fun i hi=>?_
    simp at hi
    simp [hi]
   have H1:=Lib.hid HR.out.2.1;have h2:=HR.out.2.2.1;have HB:=Lib.hid HR.out.2.2.2;clear HR
   rw [er] at h2
   have H2:=Lib.hid h2;clear h2 er
   have HL:Hid ((thenL ps qs).length = 24):=Lib.hid (tab_len _)
   generalize hr:thenL ps qs = r at H2 HL
   have HRR:=Lib.hid hr;clear hr
   go_wp2_with (first | (refine wpList_load_row rfl 60 (.tmp 5) rfl (w.heap.size + 3) rfl 60 (V r).toArray (0,0) _ H2.out sqp.underlying60 rfl (size_V HL.out) ?_) | (refine wpList_store_row rfl 60 (.tmp 4) (.tmp 19) rfl (w.heap.size + 2) (V r).toArray rfl rfl 60 (V zeros).toArray H1.out (size_V HL.out) (by simp [V_len,HL.out,zeros]) (one_V _) ?_))
   exact bodyPost_ret (v:=.agg (V r).toArray) (results_cell_row rfl _ _ (w.heap.size + 2) 60 (V r).toArray (0,0) _ rfl H1.out.row sqp.underlying60 rfl (size_V HL.out)) rfl ⟨by rw [HRR.out],arr.below_setRow HB.out (by omega) _⟩
theorem slice_row (b n:Nat) (w:World) (hn:n<=24) :
  (Instr.sliceAt 60 (.pointer (some ⟨b,0,none⟩)) none (some (.int .i64 (n:Int))) none).run sqp.prog w = .ok (.slice (some ⟨b,0,none⟩) n 24) w:=by
 have h:=run_sliceAt_array_h (P:=sqp.prog) (t:=60) (w:=w) (a:=⟨b,0,none⟩) sqp.underlying60 .i64 (n:Int) (by omega) (by show (n:Int)<=24;omega)
 exact h.trans (by kernel_rfl)
set_option maxHeartbeats 1000000 in
theorem list_any (qs:List Int) (n:Nat) (w:World) (hl:qs.length = 24) (hn:n<=24) :
  Calls sqp.prog 67 #[.agg (V qs).toArray,.int .i64 n] w fun e w'=>∃ v,e = .returned v/\w'.ownsRow w.heap.size 3 1 v (qs.take n).length (V (qs.take n))/\Below w.heap.size w w':=by
 obtain ⟨i0,hi0,hz0,hz1,hz2⟩:=info_parts infoI
 have HL:=Lib.hid hl;clear hl
 have HZ2:=Lib.hid hz2;clear hz2
 go_enter sqp.func67,sqp.ntmps67
 go_wp2_with (at_make;refine wpList_make_full _ rfl _ _ 23 rfl (w.heap.size + 1) 3 i0 _ 1 sqp.underlying23 hi0 hz0 hz1 _ _ _ _ n rfl rfl rfl rfl ?b2 ?b3 (by simp) ?_)
 case b2=>rw [HZ2.out];omega
 case b3=>unfold maxLen;omega
 intro w1 hown hg
 have hb1:Below (w.heap.size + 1) (w.alloc (.cells (V qs).toArray 60)) w1:=(Below.refl _ _).grown hg (by simp) (by simp)
 have hcu:∃ cur:Array Value,w1.heap[w.heap.size + 1]? = some (.cells cur 3 (0,0))/\cur.size = n:=by
  rcases hown.2 with ⟨hv,_⟩ | ⟨g,cap,cur,hv,_,hh,_,_,hsz,_⟩
  ·cases hv
  ·injection hv with e1 e2 e3
   injection e1 with e1
   injection e1 with e1
   subst e1;subst e3
   exact ⟨cur,hh,by simpa using hsz⟩
 obtain ⟨cur,hh,hsz⟩:=hcu
 have HH:=Lib.hid hh;have HSZ:=Lib.hid hsz;clear hh hsz hown hg
 have A1:=Lib.hid ((Arr.new w (V qs) 60 rfl).keep hb1 (by simp))
 have hs1:w.heap.size + 1<=w1.heap.size:=by have:=hb1.size;simpa using this
 have B1:Hid (Below w.heap.size w w1):=Lib.hid (((Below.refl _ _).alloc (Nat.le_refl _) _).trans (hb1.mono (by omega)))
 clear hb1
 have HT:Hid ((qs.take n).length = n):=Lib.hid (by simp [HL.out];omega)
 have hin:Hid (∀ j v,(V (qs.take n))[j]? = some v->w1.cell? ((⟨w.heap.size,0,none⟩:Addr).add j) = some v):=Lib.hid (by
  intro j v hv
  obtain ⟨z,hz,rfl⟩:=V_at hv
  have hj:j < n:=by
   rcases Nat.lt_or_ge j n with h | h
   ·exact h
   ·rw [List.getElem?_eq_none (by rw [HT.out];exact h)] at hz;cases hz
  have hadd:(⟨w.heap.size,0,none⟩:Addr).add j = ⟨w.heap.size,j,none⟩:=by unfold Addr.add;split <;> simp_all
  rw [hadd]
  refine A1.out.cell (V_get ?_)
  simpa [List.getElem?_take,hj] using hz)
 have hsl:=fun W=>slice_row w.heap.size n W hn
 have hsz3:(sqp.prog.info? 3).map (·.size) = some 1:=by kernel_rfl
 go_wp2_with (refine wpList_copy_own rfl (.tmp 8) (.tmp 10) 23 23 rfl 3 sqp.underlying23 hsz3 (w.heap.size + 1) 0 n n ⟨w.heap.size,0,none⟩ n 24 rfl rfl cur 3 HH.out (V (qs.take n)) ?c1 hin.out ?c2 ?c3 ?_)
 case c1=>rw [V_len,HT.out];exact (Nat.min_self n).symm
 case c2=>rw [V_len,HT.out,HSZ.out];omega
 case c3=>intro v hv;unfold V at hv;rw [List.mem_map] at hv;obtain ⟨z,_,rfl⟩:=hv;rfl
 go_ret
 refine ⟨_,rfl,⟨by simp [V_len],.inr ⟨w.heap.size + 1,n,_,?_,by omega,setRow_heap _ _ _ _ _ _ HH.out,?_,?_,?_,?_⟩⟩,arr.below_setRow B1.out (by omega) _⟩
 ·rw [HT.out];rfl
 ·rw [HT.out];exact Nat.le_refl _
 ·unfold maxLen;omega
 ·have h1:=HT.out;have h2:=HSZ.out
  simp [V_len];omega
 ·have h1:=HT.out;have h2:=HSZ.out
  simp only [Nat.mul_one]
  rw [V_len,h1,List.drop_of_length_le (by simp [h2]),List.append_nil,List.take_of_length_le (by rw [V_len,h1];exact Nat.le_refl _)]
end Go.Proofs.Ytgcnemkhppkkcaa.inv

namespace Go.Proofs.Ytgcnemkhppkkcaa.permOf
open Go.ChangeShapes Go.WideShapes Go.ChangeAt Go.RowKit
open mem ints arr pm permOk
set_option linter.unusedVariables false
set_option maxRecDepth 100000
def okBB (xs ys:List Int):Bool:=okB xs && okB ys && decide (xs.length = ys.length)
def PermsPost (xs ys:List Int) (w:World) (e:Ending) (w':World):Prop :=
 e = .returned (.tuple #[.agg (V (if okBB xs ys then ext xs else zeros)).toArray,.agg (V (if okBB xs ys then ext ys else zeros)).toArray,.bool (okBB xs ys)])/\Below w.heap.size w w'
theorem posts_no {xs ys:List Int} {w w':World} (h:okBB xs ys = false) (hb:Below w.heap.size w w'):PermsPost xs ys w (.returned (.tuple #[.agg (V zeros).toArray,.agg (V zeros).toArray,.bool false])) w':=by
 refine ⟨?_,hb⟩
 simp [h]
theorem posts_yes {xs ys:List Int} {w w':World} (h:okBB xs ys = true) (hb:Below w.heap.size w w'):PermsPost xs ys w (.returned (.tuple #[.agg (V (ext xs)).toArray,.agg (V (ext ys)).toArray,.bool true])) w':=by
 refine ⟨?_,hb⟩
 simp [h]
theorem step_load_row {P:Program} {ops:Array Oper} {o:Oper} {a:Act} {w:World} {K:Act->World->Prop} {Q:Exit->Act->World->Prop} {E:Prop} (hgd:o.guard = none) (ty:TypeId) (x:Operand) (ho:o.op = .load ty x)
  (g:Nat) (hx:a.eval x = .pointer (some ⟨g,0,none⟩)) (t:TypeId) (cs:Array Value) (fr:Nat × Nat) (d:TypeDesc) (hg:w.heap[g]? = some (.cells cs t fr))
  (hu:P.underlying ty = some d) (hd:(match d with | .struct _ | .array _ _=>true | _=>false) = true) (hi:(P.info? ty).map (·.size) = some cs.size)
  (h:K (a.put o.dst (.agg cs)) w):if Region.wanted o (yielded ops a.tmps) = true then Oper.wp P o a w K Q else E:=by
 have hw:Region.wanted o (yielded ops a.tmps) = true:=by simp [Region.wanted,hgd]
 rw [if_pos hw]
 exact wp_load_row ty x ho g hx t cs fr d hg hu hd hi h
theorem step_store_row {P:Program} {ops:Array Oper} {o:Oper} {a:Act} {w:World} {K:Act->World->Prop} {Q:Exit->Act->World->Prop} {E:Prop} (hgd:o.guard = none) (ty:TypeId) (x y:Operand) (ho:o.op = .store ty x y)
  (g:Nat) (cells:Array Value) (hx:a.eval x = .pointer (some ⟨g,0,none⟩)) (hy:a.eval y = .agg cells)
  (t:TypeId) (old:Array Value) (hg:w.heap[g]? = some (.cells old t (0,0))) (hi:(P.info? ty).map (·.size) = some cells.size)
  (hold:old.size = cells.size) (h1:cells.all (·.oneCell') = true)
  (h:K (a.put o.dst undef) (w.setRow g cells)):if Region.wanted o (yielded ops a.tmps) = true then Oper.wp P o a w K Q else E:=by
 have hw:Region.wanted o (yielded ops a.tmps) = true:=by simp [Region.wanted,hgd]
 rw [if_pos hw]
 exact wp_store_row ty x y ho g cells hx hy t old hg hi hold h1 h
theorem step_assign {P:Program} {ops:Array Oper} {o:Oper} {a:Act} {w:World} {K:Act->World->Prop} {Q:Exit->Act->World->Prop} {E:Prop} (hgd:o.guard = none) (x:Operand) (ho:o.op = .assign x)
  (h:K (a.put o.dst (a.eval x)) w):if Region.wanted o (yielded ops a.tmps) = true then Oper.wp P o a w K Q else E:=by
 have hw:Region.wanted o (yielded ops a.tmps) = true:=by simp [Region.wanted,hgd]
 rw [if_pos hw]
 unfold Oper.wp execOp
 simp only [ho,Sem.run_pure]
 exact h
theorem below_drew1 {B:Nat} {a w:World} (h:Below B a w):Below B a { w with drawn:=w.drawn + 1 }:=⟨h.os,h.tape,h.output,h.size,h.block⟩
set_option maxHeartbeats 2000000 in
theorem permsOf_any (A:Option Addr) (n c:Nat) (B:Option Addr) (m d:Nat) (xs ys:List Int) (h1 h2:Nat) (w:World) (hx:Rd w h1 A n (V xs)) (hy:Rd w h2 B m (V ys)) (hn:n<=1048576) (hm:m<=1048576) (hh1:h1<=w.heap.size) (hh2:h2<=w.heap.size) :
  Calls sqp.prog 76 #[.slice A n c,.slice B m d] w (PermsPost xs ys w):=by
 have lx:xs.length = n:=by simpa [V] using hx.1
 have ly:ys.length = m:=by simpa [V] using hy.1
 have LX:=Lib.hid lx;have LY:=Lib.hid ly;clear lx ly
 have HX:=Lib.hid hx;have HY:=Lib.hid hy;clear hx hy
 have N0:=Lib.hid ((Arr.new w (V zeros) 60 rfl).alloc (.cells (V zeros).toArray 60))
 have N1:=Lib.hid (Arr.new (w.alloc (.cells (V zeros).toArray 60)) (V zeros) 60 (g:=w.heap.size + 1) (by simp))
 have B0:=Lib.hid (((Below.refl w.heap.size w).alloc (Nat.le_refl _) (.cells (V zeros).toArray 60)).alloc (by simp) (.cells (V zeros).toArray 60))
 go_enter sqp.func76,sqp.ntmps76
 go_wp2_with fail
 refine (permOf_any A n c xs _ _ (HX.out.keep B0.out hh1) hn).mono ?_
 rintro e w1 ⟨rfl,b1⟩
 have hs1:w.heap.size + 2<=w1.heap.size:=by have:=b1.size;simpa using this
 have P0:=Lib.hid (N0.out.keep b1 (by simp;omega));have P1:=Lib.hid (N1.out.keep b1 (by simp))
 have B1:=Lib.hid (B0.out.trans (b1.mono B0.out.size))
 clear b1 N0 N1 B0
 have Q1:=Lib.hid ((Arr.new w1 (V zeros) 60 rfl).row (cs':=V (pv xs)))
 go_wp2_with (refine wpList_store_row rfl 60 _ _ rfl w1.heap.size (V (pv xs)).toArray rfl rfl 60 (V zeros).toArray (Arr.new w1 (V zeros) _ rfl) (size_V (pv_len _)) (by simp [V_len,pv_len,zeros]) (one_V _) ?_)
 refine (permOf_any B m d ys _ _ (HY.out.keep (below_setRow (B1.out.alloc B1.out.size _) (by omega) _) hh2) hm).mono ?_
 rintro e w2 ⟨rfl,b2⟩
 have hs2:w1.heap.size + 1<=w2.heap.size:=by have:=b2.size;simpa using this
 have R0:=Lib.hid (((P0.out.alloc _).rowOther (by omega)).keep b2 (by simp;omega))
 have R1:=Lib.hid (((P1.out.alloc _).rowOther (by omega)).keep b2 (by simp;omega))
 have R2:=Lib.hid ((Arr.new w1 (V zeros) _ rfl).row.keep b2 (by simp))
 have B2:=Lib.hid ((below_setRow (B1.out.alloc B1.out.size _) (by omega) _).trans (b2.mono (by simp;omega)))
 clear b2 P0 P1 Q1 B1
 by_cases hall:okB xs = true/\okB ys = true/\n = m
 ·obtain ⟨ox,oy,rfl⟩:=hall
  have HF:Hid (okBB xs ys = true):=Lib.hid (by simp [okBB,ox,oy,LX.out,LY.out])
  have px:pv xs = ext xs:=by simp [pv,ox]
  have py:pv ys = ext ys:=by simp [pv,oy]
  rw [ox,oy]
  rw [px] at R2 ⊢;rw [py]
  clear ox oy px py
  go_wp2_with (refine wpList_store_row rfl 60 _ _ rfl w2.heap.size (V (ext ys)).toArray rfl rfl 60 (V zeros).toArray (Arr.new w2 (V zeros) _ rfl) (size_V (ext_len _)) (by simp [V_len,ext_len,zeros]) (one_V _) ?_)
  generalize hw3:(w2.alloc (.cells #[.int .i64 0,.int .i64 0,.int .i64 0,.int .i64 0,.int .i64 0,.int .i64 0,.int .i64 0,.int .i64 0,.int .i64 0,.int .i64 0,.int .i64 0,.int .i64 0,.int .i64 0,.int .i64 0,.int .i64 0,.int .i64 0,.int .i64 0,.int .i64 0,.int .i64 0,.int .i64 0,.int .i64 0,.int .i64 0,.int .i64 0,.int .i64 0] 60)).setRow w2.heap.size (V (ext ys)).toArray = w3
  have S0:Arr w3 w.heap.size (V zeros) 60:=by rw [<-hw3];exact (R0.out.alloc _).rowOther (by omega)
  have S1:Arr w3 (w.heap.size + 1) (V zeros) 60:=by rw [<-hw3];exact (R1.out.alloc _).rowOther (by omega)
  have S2:Arr w3 w1.heap.size (V (ext xs)) 60:=by rw [<-hw3];exact (R2.out.alloc _).rowOther (by omega)
  have S3:Arr w3 w2.heap.size (V (ext ys)) 60:=by rw [<-hw3];exact (Arr.new w2 (V zeros) _ rfl).row
  have B3:Hid (Below w.heap.size w w3):=Lib.hid (by rw [<-hw3];exact below_setRow (B2.out.alloc B2.out.size _) (by omega) _)
  clear hw3 R0 R1 R2 B2
  clear HX HY LX LY
  refine wp_region_any (by kernel_rfl) ?_
  generalize hwd:({ w3 with drawn:=w3.drawn + 1 }:World) = wd
  replace S0:Arr wd w.heap.size (V zeros) 60:=by rw [<-hwd];exact S0
  replace S1:Arr wd (w.heap.size + 1) (V zeros) 60:=by rw [<-hwd];exact S1
  replace S2:Arr wd w1.heap.size (V (ext xs)) 60:=by rw [<-hwd];exact S2
  replace S3:Arr wd w2.heap.size (V (ext ys)) 60:=by rw [<-hwd];exact S3
  replace B3:Hid (Below w.heap.size w wd):=Lib.hid (by rw [<-hwd];exact below_drew1 B3.out)
  clear hwd w3
  refine wpAny_ready (rs:=[0,1]) (by kernel_rfl) (by simp) (AllReady.cons rfl (fun K hK=>?_) (AllReady.cons rfl (fun K hK=>?_) AllReady.nil))
  ·refine step_load_row rfl 60 (.tmp 7) rfl w1.heap.size rfl 60 (V (ext xs)).toArray (0,0) _ S2 sqp.underlying60 rfl (size_V (ext_len _)) ?_;refine hK _ _ ?_;clear hK K
   refine wpAny_ready (rs:=[1,2]) (by kernel_rfl) (by simp) (AllReady.cons rfl (fun K hK=>?_) (AllReady.cons rfl (fun K hK=>?_) AllReady.nil))
   ·refine step_load_row rfl 60 (.tmp 9) rfl w2.heap.size rfl 60 (V (ext ys)).toArray (0,0) _ S3 sqp.underlying60 rfl (size_V (ext_len _)) ?_;refine hK _ _ ?_;clear hK K
    refine wpAny_ready (rs:=[2]) (by kernel_rfl) (by simp) (AllReady.cons rfl (fun K hK=>?_) AllReady.nil)
    refine step_store_row rfl 60 (.tmp 4) (.tmp 36) rfl w.heap.size (V (ext xs)).toArray rfl rfl 60 (V zeros).toArray S0 (size_V (ext_len _)) (by simp [V_len,zeros,ext_len]) (one_V _) ?_;refine hK _ _ ?_;clear hK K
    refine wpAny_ready (rs:=[3]) (by kernel_rfl) (by simp) (AllReady.cons rfl (fun K hK=>?_) AllReady.nil)
    refine step_store_row rfl 60 (.tmp 5) (.tmp 37) rfl (w.heap.size + 1) (V (ext ys)).toArray rfl rfl 60 (V zeros).toArray (S1.rowOther (by omega)) (size_V (ext_len _)) (by simp [V_len,zeros,ext_len]) (one_V _) ?_;refine hK _ _ ?_;clear hK K
    refine wpAny_ready (rs:=[4]) (by kernel_rfl) (by simp) (AllReady.cons rfl (fun K hK=>?_) AllReady.nil)
    refine step_assign rfl _ rfl ?_;refine hK _ _ ?_;clear hK K
    refine wpAny_done (by kernel_rfl) ?_ _
    go_wp2
    exact bodyPost_ret (v:=.tuple #[.agg (V (ext xs)).toArray,.agg (V (ext ys)).toArray,.bool true]) (results_cell2_tmp rfl _ _ w.heap.size (w.heap.size + 1) 60 (V (ext xs)).toArray (V (ext ys)).toArray (0,0) _ _ rfl rfl rfl (S0.row.rowOther (by omega)) (S1.rowOther (by omega)).row sqp.underlying60 rfl (size_V (ext_len _)) (size_V (ext_len _))) rfl (posts_yes HF.out (below_setRow (below_setRow B3.out (Nat.le_refl _) _) (by omega) _))
   ·refine step_store_row rfl 60 (.tmp 4) (.tmp 36) rfl w.heap.size (V (ext xs)).toArray rfl rfl 60 (V zeros).toArray S0 (size_V (ext_len _)) (by simp [V_len,zeros,ext_len]) (one_V _) ?_;refine hK _ _ ?_;clear hK K
    refine wpAny_ready (rs:=[1]) (by kernel_rfl) (by simp) (AllReady.cons rfl (fun K hK=>?_) AllReady.nil)
    refine step_load_row rfl 60 (.tmp 9) rfl w2.heap.size rfl 60 (V (ext ys)).toArray (0,0) _ (S3.rowOther (by omega)) sqp.underlying60 rfl (size_V (ext_len _)) ?_;refine hK _ _ ?_;clear hK K
    refine wpAny_ready (rs:=[3]) (by kernel_rfl) (by simp) (AllReady.cons rfl (fun K hK=>?_) AllReady.nil)
    refine step_store_row rfl 60 (.tmp 5) (.tmp 37) rfl (w.heap.size + 1) (V (ext ys)).toArray rfl rfl 60 (V zeros).toArray (S1.rowOther (by omega)) (size_V (ext_len _)) (by simp [V_len,zeros,ext_len]) (one_V _) ?_;refine hK _ _ ?_;clear hK K
    refine wpAny_ready (rs:=[4]) (by kernel_rfl) (by simp) (AllReady.cons rfl (fun K hK=>?_) AllReady.nil)
    refine step_assign rfl _ rfl ?_;refine hK _ _ ?_;clear hK K
    refine wpAny_done (by kernel_rfl) ?_ _
    go_wp2
    exact bodyPost_ret (v:=.tuple #[.agg (V (ext xs)).toArray,.agg (V (ext ys)).toArray,.bool true]) (results_cell2_tmp rfl _ _ w.heap.size (w.heap.size + 1) 60 (V (ext xs)).toArray (V (ext ys)).toArray (0,0) _ _ rfl rfl rfl (S0.row.rowOther (by omega)) (S1.rowOther (by omega)).row sqp.underlying60 rfl (size_V (ext_len _)) (size_V (ext_len _))) rfl (posts_yes HF.out (below_setRow (below_setRow B3.out (Nat.le_refl _) _) (by omega) _))
  ·refine step_load_row rfl 60 (.tmp 9) rfl w2.heap.size rfl 60 (V (ext ys)).toArray (0,0) _ S3 sqp.underlying60 rfl (size_V (ext_len _)) ?_;refine hK _ _ ?_;clear hK K
   refine wpAny_ready (rs:=[0]) (by kernel_rfl) (by simp) (AllReady.cons rfl (fun K hK=>?_) AllReady.nil)
   refine step_load_row rfl 60 (.tmp 7) rfl w1.heap.size rfl 60 (V (ext xs)).toArray (0,0) _ S2 sqp.underlying60 rfl (size_V (ext_len _)) ?_;refine hK _ _ ?_;clear hK K
   refine wpAny_ready (rs:=[2]) (by kernel_rfl) (by simp) (AllReady.cons rfl (fun K hK=>?_) AllReady.nil)
   refine step_store_row rfl 60 (.tmp 4) (.tmp 36) rfl w.heap.size (V (ext xs)).toArray rfl rfl 60 (V zeros).toArray S0 (size_V (ext_len _)) (by simp [V_len,zeros,ext_len]) (one_V _) ?_;refine hK _ _ ?_;clear hK K
   refine wpAny_ready (rs:=[3]) (by kernel_rfl) (by simp) (AllReady.cons rfl (fun K hK=>?_) AllReady.nil)
   refine step_store_row rfl 60 (.tmp 5) (.tmp 37) rfl (w.heap.size + 1) (V (ext ys)).toArray rfl rfl 60 (V zeros).toArray (S1.rowOther (by omega)) (size_V (ext_len _)) (by simp [V_len,zeros,ext_len]) (one_V _) ?_;refine hK _ _ ?_;clear hK K
   refine wpAny_ready (rs:=[4]) (by kernel_rfl) (by simp) (AllReady.cons rfl (fun K hK=>?_) AllReady.nil)
   refine step_assign rfl _ rfl ?_;refine hK _ _ ?_;clear hK K
   refine wpAny_done (by kernel_rfl) ?_ _
   go_wp2
   exact bodyPost_ret (v:=.tuple #[.agg (V (ext xs)).toArray,.agg (V (ext ys)).toArray,.bool true]) (results_cell2_tmp rfl _ _ w.heap.size (w.heap.size + 1) 60 (V (ext xs)).toArray (V (ext ys)).toArray (0,0) _ _ rfl rfl rfl (S0.row.rowOther (by omega)) (S1.rowOther (by omega)).row sqp.underlying60 rfl (size_V (ext_len _)) (size_V (ext_len _))) rfl (posts_yes HF.out (below_setRow (below_setRow B3.out (Nat.le_refl _) _) (by omega) _))
 ·by_cases ox:okB xs = true
  ·by_cases oy:okB ys = true
   ·have hne:n ≠ m:=fun e=>hall ⟨ox,oy,e⟩
    have HF:Hid (okBB xs ys = false):=Lib.hid (by simp [okBB,ox,oy,LX.out,LY.out,hne])
    have hb:((n:Int) != (m:Int)) = true:=by simp;omega
    rw [ox,oy]
    clear ox oy hall
    go_wp2_with (first | (refine wpList_store_row rfl 60 (.tmp 9) (.tmp 19) rfl w2.heap.size (V (pv ys)).toArray rfl rfl 60 (V zeros).toArray (Arr.new w2 (V zeros) _ rfl) (size_V (pv_len _)) (by simp [V_len,pv_len,zeros]) (one_V _) ?_;generalize hw3:(w2.alloc (.cells #[.int .i64 0,.int .i64 0,.int .i64 0,.int .i64 0,.int .i64 0,.int .i64 0,.int .i64 0,.int .i64 0,.int .i64 0,.int .i64 0,.int .i64 0,.int .i64 0,.int .i64 0,.int .i64 0,.int .i64 0,.int .i64 0,.int .i64 0,.int .i64 0,.int .i64 0,.int .i64 0,.int .i64 0,.int .i64 0,.int .i64 0,.int .i64 0] 60)).setRow w2.heap.size (V (pv ys)).toArray = w3;have S0:Hid (Arr w3 w.heap.size (V zeros) 60):=Lib.hid (by rw [<-hw3];exact (R0.out.alloc _).rowOther (by omega));have S1:Hid (Arr w3 (w.heap.size + 1) (V zeros) 60):=Lib.hid (by rw [<-hw3];exact (R1.out.alloc _).rowOther (by omega));have B3:Hid (Below w.heap.size w w3):=Lib.hid (by rw [<-hw3];exact below_setRow (B2.out.alloc B2.out.size _) (by omega) _);clear hw3 R0 R1 R2 B2) | (refine wpList_store_row rfl 60 (.tmp 4) (.tmp 34) rfl w.heap.size (V zeros).toArray rfl rfl 60 (V zeros).toArray S0.out (size_V zeros_len) rfl (one_V _) ?_) | (refine wpList_store_row rfl 60 (.tmp 5) (.tmp 35) rfl (w.heap.size + 1) (V zeros).toArray rfl rfl 60 (V zeros).toArray (S1.out.rowOther (by omega)) (size_V zeros_len) rfl (one_V _) ?_))
    exact bodyPost_ret (v:=.tuple #[.agg (V zeros).toArray,.agg (V zeros).toArray,.bool false]) (results_cell2_tmp rfl _ _ w.heap.size (w.heap.size + 1) 60 (V zeros).toArray (V zeros).toArray (0,0) _ _ rfl rfl rfl (S0.out.row.rowOther (by omega)) (S1.out.rowOther (by omega)).row sqp.underlying60 rfl (size_V zeros_len) (size_V zeros_len)) rfl (posts_no HF.out (below_setRow (below_setRow B3.out (Nat.le_refl _) _) (by omega) _))
   ·have oy':okB ys = false:=by simpa using oy
    have HF:Hid (okBB xs ys = false):=Lib.hid (by simp [okBB,oy'])
    rw [ox,oy']
    clear ox oy oy' hall
    go_wp2_with (first | (refine wpList_store_row rfl 60 (.tmp 9) (.tmp 19) rfl w2.heap.size (V (pv ys)).toArray rfl rfl 60 (V zeros).toArray (Arr.new w2 (V zeros) _ rfl) (size_V (pv_len _)) (by simp [V_len,pv_len,zeros]) (one_V _) ?_;generalize hw3:(w2.alloc (.cells #[.int .i64 0,.int .i64 0,.int .i64 0,.int .i64 0,.int .i64 0,.int .i64 0,.int .i64 0,.int .i64 0,.int .i64 0,.int .i64 0,.int .i64 0,.int .i64 0,.int .i64 0,.int .i64 0,.int .i64 0,.int .i64 0,.int .i64 0,.int .i64 0,.int .i64 0,.int .i64 0,.int .i64 0,.int .i64 0,.int .i64 0,.int .i64 0] 60)).setRow w2.heap.size (V (pv ys)).toArray = w3;have S0:Hid (Arr w3 w.heap.size (V zeros) 60):=Lib.hid (by rw [<-hw3];exact (R0.out.alloc _).rowOther (by omega));have S1:Hid (Arr w3 (w.heap.size + 1) (V zeros) 60):=Lib.hid (by rw [<-hw3];exact (R1.out.alloc _).rowOther (by omega));have B3:Hid (Below w.heap.size w w3):=Lib.hid (by rw [<-hw3];exact below_setRow (B2.out.alloc B2.out.size _) (by omega) _);clear hw3 R0 R1 R2 B2) | (refine wpList_store_row rfl 60 (.tmp 4) (.tmp 34) rfl w.heap.size (V zeros).toArray rfl rfl 60 (V zeros).toArray S0.out (size_V zeros_len) rfl (one_V _) ?_) | (refine wpList_store_row rfl 60 (.tmp 5) (.tmp 35) rfl (w.heap.size + 1) (V zeros).toArray rfl rfl 60 (V zeros).toArray (S1.out.rowOther (by omega)) (size_V zeros_len) rfl (one_V _) ?_))
    exact bodyPost_ret (v:=.tuple #[.agg (V zeros).toArray,.agg (V zeros).toArray,.bool false]) (results_cell2_tmp rfl _ _ w.heap.size (w.heap.size + 1) 60 (V zeros).toArray (V zeros).toArray (0,0) _ _ rfl rfl rfl (S0.out.row.rowOther (by omega)) (S1.out.rowOther (by omega)).row sqp.underlying60 rfl (size_V zeros_len) (size_V zeros_len)) rfl (posts_no HF.out (below_setRow (below_setRow B3.out (Nat.le_refl _) _) (by omega) _))
  ·have ox':okB xs = false:=by simpa using ox
   have HF:Hid (okBB xs ys = false):=Lib.hid (by simp [okBB,ox'])
   rw [ox']
   clear ox ox' hall
   generalize okB ys = q
   go_wp2_with (first | (refine wpList_store_row rfl 60 (.tmp 9) (.tmp 19) rfl w2.heap.size (V (pv ys)).toArray rfl rfl 60 (V zeros).toArray (Arr.new w2 (V zeros) _ rfl) (size_V (pv_len _)) (by simp [V_len,pv_len,zeros]) (one_V _) ?_;generalize hw3:(w2.alloc (.cells #[.int .i64 0,.int .i64 0,.int .i64 0,.int .i64 0,.int .i64 0,.int .i64 0,.int .i64 0,.int .i64 0,.int .i64 0,.int .i64 0,.int .i64 0,.int .i64 0,.int .i64 0,.int .i64 0,.int .i64 0,.int .i64 0,.int .i64 0,.int .i64 0,.int .i64 0,.int .i64 0,.int .i64 0,.int .i64 0,.int .i64 0,.int .i64 0] 60)).setRow w2.heap.size (V (pv ys)).toArray = w3;have S0:Hid (Arr w3 w.heap.size (V zeros) 60):=Lib.hid (by rw [<-hw3];exact (R0.out.alloc _).rowOther (by omega));have S1:Hid (Arr w3 (w.heap.size + 1) (V zeros) 60):=Lib.hid (by rw [<-hw3];exact (R1.out.alloc _).rowOther (by omega));have B3:Hid (Below w.heap.size w w3):=Lib.hid (by rw [<-hw3];exact below_setRow (B2.out.alloc B2.out.size _) (by omega) _);clear hw3 R0 R1 R2 B2) | (refine wpList_store_row rfl 60 (.tmp 4) (.tmp 34) rfl w.heap.size (V zeros).toArray rfl rfl 60 (V zeros).toArray S0.out (size_V zeros_len) rfl (one_V _) ?_) | (refine wpList_store_row rfl 60 (.tmp 5) (.tmp 35) rfl (w.heap.size + 1) (V zeros).toArray rfl rfl 60 (V zeros).toArray (S1.out.rowOther (by omega)) (size_V zeros_len) rfl (one_V _) ?_))
   exact bodyPost_ret (v:=.tuple #[.agg (V zeros).toArray,.agg (V zeros).toArray,.bool false]) (results_cell2_tmp rfl _ _ w.heap.size (w.heap.size + 1) 60 (V zeros).toArray (V zeros).toArray (0,0) _ _ rfl rfl rfl (S0.out.row.rowOther (by omega)) (S1.out.rowOther (by omega)).row sqp.underlying60 rfl (size_V zeros_len) (size_V zeros_len)) rfl (posts_no HF.out (below_setRow (below_setRow B3.out (Nat.le_refl _) _) (by omega) _))
end Go.Proofs.Ytgcnemkhppkkcaa.permOf

namespace Go.Proofs.Ytgcnemkhppkkcaa.pm
open arr inv permOf
set_option linter.unusedVariables false
set_option maxRecDepth 100000
theorem Ok.sq {xs:List Int} (h:Ok xs):Sq (ext xs):=by
 refine ⟨ext_len xs,fun i hi=>?_,fun i hi=>?_⟩
 ·rw [ext_at hi];split
  ·exact h.lo i (by assumption)
  ·omega
 ·rw [ext_at hi];split
  ·have:=h.hi i (by assumption);have:=h.len;omega
  ·omega
theorem getD_set {l:List Int} {i k:Nat} {z:Int}:(l.set k z).getD i 0 = if k = i/\i < l.length then z else l.getD i 0:=by
 simp only [List.getD,List.getElem?_set]
 by_cases e:k = i
 ·subst e
  by_cases h:k < l.length
  ·simp [h]
  ·simp [h]
 ·simp [e]
theorem invTo_range (n:Nat) (qs:List Int) (k:Nat) (hk:k<=24) (i:Nat):0<=(invTo n qs k).getD i 0/\(invTo n qs k).getD i 0 < 24:=by
 induction k with
 | zero =>
  simp only [invTo,List.getD,List.getElem?_replicate]
  split <;> simp
 | succ k ih =>
  have:=ih (by omega)
  rw [invTo,getD_set]
  split
  ·omega
  ·exact this
theorem inv_sq (qs:List Int):Sq (invTo 24 qs 24) :=
 ⟨invTo_len _ _ _,fun i _=>(invTo_range 24 qs 24 (Nat.le_refl _) i).1,fun i _=>(invTo_range 24 qs 24 (Nat.le_refl _) i).2⟩
theorem then_sq {ps qs:List Int} (hp:Sq ps) (hq:Sq qs):Sq (thenL ps qs):=by
 refine ⟨tab_len _,fun i hi=>?_,fun i hi=>?_⟩
 ·unfold thenL;rw [tab_get _ hi]
  exact hq.lo _ (by have:=hp.lo i hi;have:=hp.hi i hi;omega)
 ·unfold thenL;rw [tab_get _ hi]
  exact hq.hi _ (by have:=hp.lo i hi;have:=hp.hi i hi;omega)
theorem list_eq {l m:List Int} (n:Nat) (h1:l.length = n) (h2:m.length = n) (h:∀ i,i < n->l.getD i 0 = m.getD i 0):l = m:=by
 refine List.ext_getElem? fun i=>?_
 by_cases hi:i < n
 ·have:=h i hi
  rw [List.getD,List.getD,List.getElem?_eq_getElem (by omega),List.getElem?_eq_getElem (by omega)] at this
  rw [List.getElem?_eq_getElem (by omega),List.getElem?_eq_getElem (by omega)]
  simpa using this
 ·rw [List.getElem?_eq_none (by omega),List.getElem?_eq_none (by omega)]
theorem getD_take {l:List Int} {n i:Nat} (h:i < n):(l.take n).getD i 0 = l.getD i 0:=by
 simp [List.getD,h]
def invF (xs:List Int):List Int:=if okB xs then invTo xs.length xs xs.length else []
theorem take_inv {xs:List Int} (h:Ok xs):(invTo 24 (ext xs) 24).take xs.length = invTo xs.length xs xs.length:=by
 have hl:=h.len
 have A:∀ k,k<=xs.length->(invTo 24 (ext xs) k).take xs.length = invTo xs.length xs k:=by
  intro k
  induction k with
  | zero=>intro _;rw [invTo,invTo,List.take_replicate,Nat.min_eq_left hl]
  | succ k ih =>
   intro hk
   have e:(ext xs).getD k 0 = xs.getD k 0:=by rw [ext_at (by omega),if_pos (by omega)]
   rw [invTo,invTo,e,List.take_set,ih (by omega)]
 have B:∀ k,xs.length<=k->k<=24->(invTo 24 (ext xs) k).take xs.length = invTo xs.length xs xs.length:=by
  intro k hk
  induction k with
  | zero =>
   intro _
   have e:xs.length = 0:=by omega
   rw [A 0 (Nat.zero_le _),e]
  | succ k ih =>
   intro h24
   by_cases e:xs.length = k + 1
   ·rw [<-e];exact A _ (Nat.le_refl _)
   ·have hk':xs.length<=k:=by omega
    have ee:(ext xs).getD k 0 = (k:Int):=by rw [ext_at (by omega),if_neg (by omega)]
    rw [invTo,ee,Int.toNat_natCast,List.take_set_of_le hk',ih hk' (by omega)]
 exact B 24 hl (Nat.le_refl _)
def thn (xs ys:List Int):List Int:=xs.map fun x=>ys.getD x.toNat 0
def thenF (xs ys:List Int):List Int:=if okBB xs ys then thn xs ys else []
theorem okBB_iff {xs ys:List Int}:okBB xs ys = true ↔ okB xs = true/\okB ys = true/\xs.length = ys.length:=by
 simp [okBB,and_assoc]
def idF (a:Int):List Int:=if 0<=a/\a<=24 then (List.range a.toNat).map (fun (i:Nat)=>(i:Int)) else []
end Go.Proofs.Ytgcnemkhppkkcaa.pm

namespace Go.Proofs.Ytgcnemkhppkkcaa.pm
open arr inv permOf
set_option linter.unusedVariables false
set_option maxRecDepth 100000
theorem nodup_le:∀ (n:Nat) (l:List Nat),l.Nodup->(∀ x ∈ l,x < n)->l.length<=n:=by
 intro n
 induction n with
 | zero =>
  intro l _ h
  cases l with
  | nil=>simp
  | cons a t=>have:=h a (by simp);omega
 | succ n ih =>
  intro l hd h
  by_cases hm:n ∈ l
  ·have h1:=ih (l.erase n) (hd.erase n) (fun x hx=>by
    have h2:=(List.Nodup.mem_erase_iff hd).1 hx
    have:=h x h2.2
    have:=h2.1
    omega)
   rw [List.length_erase_of_mem hm] at h1
   omega
  ·have h1:=ih l hd (fun x hx=>by
    have:=h x hx
    have:x ≠ n:=fun e=>hm (e ▸ hx)
    omega)
   omega
theorem onto_of_inj (n:Nat) (f:Nat->Nat) (h1:∀ i,i < n->f i < n) (h2:∀ i j,i < n->j < n->f i = f j->i = j) (y:Nat) (hy:y < n):∃ k,k < n/\f k = y:=by
 by_cases h:∃ k,k < n/\f k = y
 ·exact h
 ·exfalso
  have hn:((List.range n).map f).Nodup:=by
   unfold List.Nodup
   rw [List.pairwise_map]
   refine List.Pairwise.imp_of_mem ?_ (List.pairwise_lt_range (n:=n))
   intro a b ha hb hab e
   simp at ha hb
   have:=h2 a b ha hb e
   omega
  have hy':¬ y ∈ (List.range n).map f:=by
   intro hm
   obtain ⟨k,hk,e⟩:=List.mem_map.1 hm
   simp at hk
   exact h ⟨k,hk,e⟩
  have:=nodup_le n (y :: (List.range n).map f) (List.nodup_cons.2 ⟨hy',hn⟩) (by
   intro x hx
   rcases List.mem_cons.1 hx with rfl | hx
   ·exact hy
   ·obtain ⟨k,hk,rfl⟩:=List.mem_map.1 hx
    simp at hk
    exact h1 k hk)
  simp at this
  omega
theorem Ok.onto {ys:List Int} (h:Ok ys) {y:Nat} (hy:y < ys.length):∃ k,k < ys.length/\ys.getD k 0 = (y:Int):=by
 obtain ⟨k,hk,e⟩:=onto_of_inj ys.length (fun i=>(ys.getD i 0).toNat) (fun i hi=>by have:=h.lo i hi;have:=h.hi i hi;omega) (fun i j hi hj e=>h.inj i j hi hj (by have:=h.lo i hi;have:=h.lo j hj;omega)) y hy
 exact ⟨k,hk,by have:=h.lo k hk;omega⟩
def setTo (n:Nat) (f:Nat->Nat) (g:Nat->Int):Nat->List Int
 | 0=>List.replicate n 0
 | k + 1=>(setTo n f g k).set (f k) (g k)
theorem setTo_len (n:Nat) (f:Nat->Nat) (g:Nat->Int) (k:Nat):(setTo n f g k).length = n:=by
 induction k with
 | zero=>simp [setTo]
 | succ k ih=>simp [setTo,ih]
theorem setTo_at (n:Nat) (f:Nat->Nat) (g:Nat->Int) (k:Nat) (hf:∀ i j,i < k->j < k->f i = f j->i = j) (hl:∀ i,i < k->f i < n) {j:Nat} (hj:j < k):(setTo n f g k).getD (f j) 0 = g j:=by
 induction k with
 | zero=>omega
 | succ k ih =>
  rw [setTo,getD_set]
  by_cases e:j = k
  ·subst e;rw [if_pos ⟨rfl,by rw [setTo_len];exact hl j (by omega)⟩]
  ·rw [if_neg (fun h=>e (hf j k (by omega) (by omega) h.1.symm)),ih (fun i j hi hj=>hf i j (by omega) (by omega)) (fun i hi=>hl i (by omega)) (by omega)]
theorem invTo_eq (n:Nat) (qs:List Int) (k:Nat):invTo n qs k = setTo n (fun j=>(qs.getD j 0).toNat) (fun j=>(j:Int)) k:=by
 induction k with
 | zero=>rfl
 | succ k ih=>rw [invTo,setTo,ih]
theorem Ok.injN {ys:List Int} (h:Ok ys):∀ i j,i < ys.length->j < ys.length->(ys.getD i 0).toNat = (ys.getD j 0).toNat->i = j :=
 fun i j hi hj e=>h.inj i j hi hj (by have:=h.lo i hi;have:=h.lo j hj;omega)
theorem Ok.ltN {ys:List Int} (h:Ok ys):∀ i,i < ys.length->(ys.getD i 0).toNat < ys.length :=
 fun i hi=>by have:=h.lo i hi;have:=h.hi i hi;omega
theorem inv_at {ys:List Int} (h:Ok ys) {k:Nat} (hk:k < ys.length):(invTo ys.length ys ys.length).getD (ys.getD k 0).toNat 0 = (k:Int):=by
 rw [invTo_eq,setTo_at _ _ _ _ h.injN h.ltN hk]
def renTo (n:Nat) (xs ys:List Int) (k:Nat):List Int:=setTo n (fun j=>(ys.getD j 0).toNat) (fun j=>ys.getD (xs.getD j 0).toNat 0) k
theorem renTo_len (n:Nat) (xs ys:List Int) (k:Nat):(renTo n xs ys k).length = n:=setTo_len _ _ _ _
def renF (xs ys:List Int):List Int:=if okBB xs ys then renTo xs.length xs ys xs.length else []
theorem ren_at {xs ys:List Int} (h':Ok ys) (e:xs.length = ys.length) {k:Nat} (hk:k < xs.length):(renTo xs.length xs ys xs.length).getD (ys.getD k 0).toNat 0 = ys.getD (xs.getD k 0).toNat 0:=by
 unfold renTo
 rw [e]
 exact setTo_at _ _ _ _ h'.injN h'.ltN (by omega)
theorem thenL_at (ps qs:List Int) {i:Nat} (h:i < 24):(thenL ps qs).getD i 0 = qs.getD (ps.getD i 0).toNat 0:=by
 unfold thenL;rw [tab_get _ h]
theorem take_ren {xs ys:List Int} (h:Ok xs) (h':Ok ys) (e:xs.length = ys.length):(thenL (thenL (invTo 24 (ext ys) 24) (ext xs)) (ext ys)).take xs.length = renTo xs.length xs ys xs.length:=by
 have hl:=h.len
 refine list_eq xs.length (by simp [thenL,tab_len];omega) (renTo_len _ _ _ _) fun i hi=>?_
 obtain ⟨k,hk,ek⟩:=h'.onto (y:=i) (by omega)
 have e1:(invTo 24 (ext ys) 24).getD i 0 = (k:Int):=by
  rw [<-getD_take (n:=ys.length) (by omega),take_inv h']
  have:=inv_at h' hk
  rw [ek] at this
  simpa using this
 rw [getD_take hi,thenL_at _ _ (by omega),thenL_at _ _ (by omega),e1,Int.toNat_natCast]
 have h1:=h.lo k (by omega);have h2:=h.hi k (by omega)
 rw [ext_at (xs:=xs) (i:=k) (by omega),if_pos (by omega),ext_at (by omega),if_pos (by omega)]
 have:=ren_at (xs:=xs) h' e (k:=k) (by omega)
 rw [ek] at this
 simpa using this.symm
end Go.Proofs.Ytgcnemkhppkkcaa.pm

namespace Go.Proofs.Ytgcnemkhppkkcaa.pm
open arr inv permOf
set_option linter.unusedVariables false
set_option maxRecDepth 100000
def add1 (l:List Int) (x:Int):List Int:=if x ∈ l then l else l ++ [x]
def rnd (ps qs l:List Int) (k:Nat):List Int:=if k < l.length then add1 (add1 l (ps.getD (l.getD k 0).toNat 0)) (qs.getD (l.getD k 0).toNat 0) else l
def rs (ps qs:List Int) (f:Int):Nat->List Int
 | 0=>[f]
 | k + 1=>rnd ps qs (rs ps qs f k) k
structure In (n:Nat) (l:List Int):Prop where
 nd:l.Nodup
 lo:∀ x ∈ l,0<=x
 hi:∀ x ∈ l,x < n
theorem In.len {n:Nat} {l:List Int} (h:In n l):l.length<=n:=by
 have:=nodup_le n (l.map Int.toNat) (by
  unfold List.Nodup
  rw [List.pairwise_map]
  refine List.Pairwise.imp_of_mem ?_ h.nd
  intro a b ha hb hab e
  have:=h.lo a ha;have:=h.lo b hb
  exact hab (by omega)) (by
  intro x hx
  obtain ⟨y,hy,rfl⟩:=List.mem_map.1 hx
  have:=h.lo y hy;have:=h.hi y hy
  omega)
 simpa using this
theorem In.add {n:Nat} {l:List Int} (h:In n l) {x:Int} (h0:0<=x) (h1:x < n):In n (add1 l x):=by
 unfold add1
 split
 ·exact h
 ·rename_i hx
  refine ⟨?_,fun y hy=>?_,fun y hy=>?_⟩
  ·rw [List.nodup_append]
   exact ⟨h.nd,by simp,fun a ha b hb e=>by simp at hb;subst hb;exact hx (e ▸ ha)⟩
  ·rcases List.mem_append.1 hy with hy | hy
   ·exact h.lo y hy
   ·simp at hy;subst hy;exact h0
  ·rcases List.mem_append.1 hy with hy | hy
   ·exact h.hi y hy
   ·simp at hy;subst hy;exact h1
theorem add1_le (l:List Int) (x:Int):l.length<=(add1 l x).length:=by unfold add1;split <;> simp
def Maps (n:Nat) (ps:List Int):Prop:=∀ i,i < n->0<=ps.getD i 0/\ps.getD i 0 < n
theorem Ok.maps {xs:List Int} (h:Ok xs):Maps xs.length xs:=fun i hi=>⟨h.lo i hi,h.hi i hi⟩
theorem Sq.maps {xs:List Int} (h:Sq xs):Maps 24 xs:=fun i hi=>⟨h.lo i hi,h.hi i hi⟩
theorem In.at_ {n:Nat} {l:List Int} (h:In n l) {k:Nat} (hk:k < l.length):∃ z:Nat,z < n/\l[k]? = some (z:Int)/\l.getD k 0 = (z:Int):=by
 have hm:l[k] ∈ l:=List.getElem_mem hk
 have h1:=h.lo _ hm;have h2:=h.hi _ hm
 refine ⟨l[k].toNat,by omega,?_,?_⟩
 ·rw [List.getElem?_eq_getElem hk];congr 1;omega
 ·simp [List.getD,List.getElem?_eq_getElem hk];omega
theorem In.rnd {n:Nat} {l ps qs:List Int} (h:In n l) (hp:Maps n ps) (hq:Maps n qs) (k:Nat):In n (rnd ps qs l k):=by
 unfold pm.rnd
 split
 ·rename_i hk
  obtain ⟨z,hz,_,e⟩:=h.at_ hk
  rw [e,Int.toNat_natCast]
  exact (h.add (hp z hz).1 (hp z hz).2).add (hq z hz).1 (hq z hz).2
 ·exact h
theorem rs_in {n:Nat} {ps qs:List Int} (hp:Maps n ps) (hq:Maps n qs) {f:Int} (h0:0<=f) (h1:f < n) (k:Nat):In n (rs ps qs f k):=by
 induction k with
 | zero=>exact ⟨by simp [rs],fun x hx=>by simp [rs] at hx;omega,fun x hx=>by simp [rs] at hx;omega⟩
 | succ k ih=>exact ih.rnd hp hq k
theorem rs_stay (ps qs:List Int) (f:Int) {k:Nat} (h:(rs ps qs f k).length<=k) (j:Nat):rs ps qs f (k + j) = rs ps qs f k:=by
 induction j with
 | zero=>rfl
 | succ j ih =>
  show pm.rnd ps qs (rs ps qs f (k + j)) (k + j) = _
  rw [ih]
  unfold pm.rnd
  rw [if_neg (by omega)]
theorem rs_stop (ps qs:List Int) (f:Int) {k m:Nat} (h:(rs ps qs f k).length<=k) (hm:k<=m):rs ps qs f m = rs ps qs f k:=by
 obtain ⟨j,rfl⟩:∃ j,m = k + j:=⟨m - k,by omega⟩
 exact rs_stay ps qs f h j
theorem rs_step (ps qs:List Int) (f:Int) {k z:Nat} (h:k < (rs ps qs f k).length) (hz:(rs ps qs f k).getD k 0 = (z:Int)):rs ps qs f (k + 1) = add1 (add1 (rs ps qs f k) (ps.getD z 0)) (qs.getD z 0):=by
 show pm.rnd ps qs (rs ps qs f k) k = _
 unfold pm.rnd
 rw [if_pos h,hz,Int.toNat_natCast]
theorem rs_le (ps qs:List Int) (f:Int) {k:Nat} (h:k < (rs ps qs f k).length):k + 1<=(rs ps qs f (k + 1)).length:=by
 show _<=(pm.rnd ps qs (rs ps qs f k) k).length
 unfold pm.rnd
 rw [if_pos h]
 exact Nat.le_trans h (Nat.le_trans (add1_le _ _) (add1_le _ _))
theorem rs_congr {n:Nat} {ps qs ps' qs':List Int} (hp:Maps n ps) (hq:Maps n qs) (h1:∀ i,i < n->ps'.getD i 0 = ps.getD i 0) (h2:∀ i,i < n->qs'.getD i 0 = qs.getD i 0) {f:Int} (hf0:0<=f) (hf1:f < n) (k:Nat):rs ps' qs' f k = rs ps qs f k:=by
 induction k with
 | zero=>rfl
 | succ k ih =>
  show pm.rnd ps' qs' (rs ps' qs' f k) k = pm.rnd ps qs (rs ps qs f k) k
  rw [ih]
  unfold pm.rnd
  split
  ·rename_i hk
   obtain ⟨z,hz,_,e⟩:=(rs_in hp hq hf0 hf1 k).at_ hk
   rw [e,Int.toNat_natCast,h1 z hz,h2 z hz]
  ·rfl
def reach (ps qs:List Int) (f:Int):List Int:=rs ps qs f ps.length
theorem reach_of {ps qs:List Int} {n:Nat} (hn:ps.length = n) {f:Int} {k:Nat} (hk:k<=n) (h:(rs ps qs f k).length<=k):rs ps qs f k = reach ps qs f:=by
 unfold reach;rw [hn];exact (rs_stop ps qs f h hk).symm
theorem reach_ext {xs ys:List Int} (h:Ok xs) (h':Ok ys) (e:xs.length = ys.length) {f:Int} (hf0:0<=f) (hf1:f < xs.length):reach (ext xs) (ext ys) f = reach xs ys f:=by
 have hl:=h.len
 have hy:Maps xs.length ys:=by rw [e];exact h'.maps
 unfold reach
 rw [ext_len,rs_congr (ps':=ext xs) (qs':=ext ys) h.maps hy (fun i hi=>by rw [ext_at (by omega),if_pos hi]) (fun i hi=>by rw [ext_at (by omega),if_pos (by omega)]) hf0 hf1]
 exact rs_stop _ _ _ ((rs_in h.maps hy hf0 hf1 _).len) hl
def transB (xs ys:List Int):Bool:=okBB xs ys && decide (0 < xs.length) && decide ((reach xs ys 0).length = xs.length)
def flagsOf (l:List Int):List Bool:=tabB fun j=>decide ((j:Int) ∈ l)
theorem flagsOf_add {l:List Int} {z:Nat} (hz:¬ (z:Int) ∈ l):(flagsOf l).set z true = flagsOf (add1 l (z:Int)):=by
 refine tabB_set _ _ fun j hj=>?_
 unfold add1
 rw [if_neg hz]
 by_cases hjz:j = z
 ·subst hjz;simp
 ·have:¬ ((j:Int) = (z:Int)):=by omega
  simp [hjz,this]
end Go.Proofs.Ytgcnemkhppkkcaa.pm
