import Derived.Test.YtcdclihinmdgiaaZ04
import Derived.Test.YtcdclihinmdgiaaZ20
import Derived.Deep.RegionLaw
import Derived.Test.YtcdclihinmdgiaaZ13
import Derived.Test.YtcdclihinmdgiaaZ07
namespace Go.Proofs.Ytcdclihinmdgiaa.wd
open Go.ChangeShapes Go.WideShapes Go.ChangeAt Go.RowKit
open mem ints arr pm sf gl
set_option linter.unusedVariables false
set_option maxRecDepth 100000
theorem qlo:(sqp.prog.info? 43).map (fun i=>(i.zero,i.size,i.bytes)) = some (some (.agg (V qp).toArray),49,392):=by kernel_rfl
theorem qav {w:World} {base g n c:Nat} {e:TypeId} {size:Nat} {xs:List Value} (h:w.ownsRow base e size (.slice (some ⟨g,0,none⟩) n c) n xs) (j:Nat) (v:Value) (hj:xs[j]? = some v):w.cell? ⟨g,j,none⟩ = some v:=by
 have:=h.cells (g:=g) rfl j v hj
 rwa [show ((⟨g,0,none⟩:Addr).add j) = ⟨g,j,none⟩ by unfold Addr.add;split <;> simp_all] at this
theorem qh9 {P:Program} (w:World) (size k g l c:Nat) (xs:List Value) (hk:k * size<=xs.length) (hc:∀ (j:Nat) v,xs[j]? = some v->w.cell? ⟨g,j,none⟩ = some v) :
  (Builtin.firstCells size k (.slice (some ⟨g,0,none⟩) l c)).run P w = .ok (xs.take (k * size)).toArray w:=by
 have h:=run_loadCells_list (P:=P) w ⟨g,0,none⟩ (xs.take (k * size)) (fun j v hj=>by
  rw [show ((⟨g,0,none⟩:Addr).add j) = ⟨g,j,none⟩ by unfold Addr.add;split <;> simp_all]
  rw [List.getElem?_take] at hj
  split at hj
  ·exact hc j v hj
  ·cases hj)
 rw [List.length_take,Nat.min_eq_left hk] at h
 exact h
set_option maxHeartbeats 4000000 in
set_option maxRecDepth 100000 in
theorem qqv (g n i vb base:Nat) (xs x:List Value) (w:World) (ho:w.ownsRow base 43 49 (.slice (some ⟨g,0,none⟩) n n) n xs) (hi:i < n) (hn:n<=1000)
  (hx:Arr w vb x 43) (hxl:x.length = 49) (h1x:∀ v ∈ x,v.oneCell' = true) (h1:∀ v ∈ xs,v.oneCell' = true) (hg:g < w.heap.size) :
  Calls sqp.prog 39 #[.slice (some ⟨g,0,none⟩) n n,.int .i64 i,.slice (some ⟨vb,0,none⟩) 1 1] w fun e w' =>
   ∃ cap,e = .returned (.slice (some ⟨w.heap.size,0,none⟩) (n + 1) cap)/\w'.ownsRow base 43 49 (.slice (some ⟨w.heap.size,0,none⟩) (n + 1) cap) (n + 1) (xs.take (i * 49) ++ x ++ xs.drop (i * 49))/\w.grownBy w' none:=by
 obtain ⟨i0,hi0,hz0,hzs,hzb⟩:=info_parts qlo
 have hbase:=(ho.lt g rfl).1
 have hxn:xs.length = n * 49:=ho.1
 have hcs:=qav ho
 have hz2:¬ ((i:Int) = (n:Int)):=by omega
 have hz3:(n:Int) < (n:Int) + 1:=by omega
 have hkk:(n:Int) + 1 - (i:Int) = ((n + 1 - i:Nat):Int):=by omega
 have hik:i + (n + 1 - i) = n + 1:=by omega
 have hold:(Builtin.firstCells i0.size i (.slice (some ⟨g,0,none⟩) i n)).run sqp.prog w.drew = .ok (xs.take (i * 49)).toArray w.drew:=by
  rw [hzs]
  exact qh9 w.drew 49 i g i n xs (by omega) hcs
 have hrz:∀ ty,(Builtin.append_ #[44,3] ty #[.slice (some ⟨g,0,none⟩) i n,.int .i64 ((n:Int) + 1 - (i:Int))]).run sqp.prog w =
   .ok (.slice (some ⟨w.heap.size,0,none⟩) (n + 1) (grownCap w (n + 1) n 43)) (w.drew.alloc (.cells ((xs.take (i * 49)).toArray ++ Builtin.zeroCells (Value.agg (V qp).toArray).cells (n + 1 - i) ++ Builtin.zeroCells (Value.agg (V qp).toArray).cells (grownCap w (n + 1) n 43 - (n + 1))) 43)):=fun ty=>by
  have h:=Lib.run_append_grow_zeros w 44 3 ty 43 i0 _ .i64 .i64 sqp.underlying44 sqp.underlying3 hi0 hz0 (some ⟨g,0,none⟩) i n (xs.take (i * 49)) hold (n + 1 - i) (by omega) (by omega) (by omega) (by omega) (by rw [hzb];omega)
   (by rw [hzb,hik];exact growslice_fits_wide (by omega) (by omega))
  rw [hik] at h
  rw [hkk]
  exact h
 obtain ⟨G,hG⟩:∃ G,G = grownCap w (n + 1) n 43:=⟨_,rfl⟩
 have hGn:n + 1<=G:=by rw [hG];exact grownCap_ge w _ _ _
 have hGm:G<=maxLen:=by rw [hG];exact grownCap_le_maxLen w _ _ _ (by unfold maxLen;omega)
 have zc:((Value.agg (V qp).toArray).cells).size = 49:=by kernel_rfl
 obtain ⟨ROW,hROW⟩:∃ ROW:Array Value,ROW = (xs.take (i * 49)).toArray ++ Builtin.zeroCells (Value.agg (V qp).toArray).cells (n + 1 - i) ++ Builtin.zeroCells (Value.agg (V qp).toArray).cells (G - (n + 1)):=⟨_,rfl⟩
 rw [<-hG] at hrz
 rw [<-hROW] at hrz
 have hRl:ROW.size = G * 49:=by
  rw [hROW,Array.size_append,Array.size_append,y8,y8,zc,List.size_toArray,List.length_take]
  omega
 have hRt:ROW.toList.take (i * 49) = xs.take (i * 49):=by
  rw [hROW]
  simp only [Array.toList_append,List.append_assoc]
  rw [List.take_append_of_le_length (by simp;omega)]
  show List.take (i * 49) (List.take (i * 49) xs) = _
  rw [List.take_take,Nat.min_self]
 obtain ⟨W1,hW1⟩:∃ W1,W1 = w.drew.alloc (.cells ROW 43):=⟨_,rfl⟩
 rw [<-hW1] at hrz
 have H1:W1.heap[w.heap.size]? = some (.cells ROW 43 (0,0)):=by rw [hW1];exact heap_alloc_last w.drew _
 have B1:w.grownBy W1 none:=by
  rw [hW1]
  exact ⟨rfl,rfl,rfl,by simp,fun k hk _=>((Below.refl w.heap.size w.drew).alloc (Nat.le_refl _) _).block k hk⟩
 have hs1:W1.heap.size = w.heap.size + 1:=by rw [hW1];simp
 obtain ⟨R2,hR2⟩:∃ R2:Array Value,R2 = (ROW.toList.take (i * 49) ++ x ++ ROW.toList.drop (i * 49 + x.length)).toArray:=⟨_,rfl⟩
 have hR2l:R2.size = G * 49:=by rw [hR2];simp [hxl,hRl];omega
 have hsz:(sqp.prog.info? 43).map (·.size) = some 49:=qj1
 have hvb:=hx.lt
 have hcpA:∀ ty dc,(Builtin.copy_ #[44,44] ty #[.slice (some ⟨w.heap.size,i * 49,none⟩) (n + 1 - i) dc,.slice (some ⟨vb,0,none⟩) 1 1]).run sqp.prog W1 = .ok (goInt (1:Nat)) (W1.setRow w.heap.size R2):=fun ty dc=>by
  rw [hR2]
  exact qcv W1 _ _ ty 43 49 w.heap.size (i * 49) (n + 1 - i) dc ⟨vb,0,none⟩ 1 1 1 ROW 43 x sqp.underlying44 hsz H1 (by simp only [Nat.min_def];split <;> omega) (by omega)
   (fun j v hj=>by
    have h:=hx.cell hj
    rw [show ((⟨vb,0,none⟩:Addr).add j) = ⟨vb,j,none⟩ by unfold Addr.add;split <;> simp_all]
    rw [World.cell?_of_block (w:=w) (a:=⟨vb,j,none⟩) (B1.block vb hvb (by simp))]
    exact h) (by omega) h1x
 obtain ⟨W2,hW2⟩:∃ W2,W2 = W1.setRow w.heap.size R2:=⟨_,rfl⟩
 rw [<-hW2] at hcpA
 have H2:W2.heap[w.heap.size]? = some (.cells R2 43 (0,0)):=by rw [hW2];exact setRow_heap _ _ _ _ _ _ H1
 have B2:w.grownBy W2 none:=by
  rw [hW2]
  exact ⟨B1.os,B1.tape,B1.output,by simp;omega,fun k hk hn=>by rw [setRow_other _ _ _ _ (by omega)];exact B1.block k hk hn⟩
 have hR2t:R2.toList.take ((i + 1) * 49) = xs.take (i * 49) ++ x:=by
  have l1:(xs.take (i * 49)).length = i * 49:=by rw [List.length_take];omega
  rw [hR2,hRt,List.toList_toArray,List.take_append_of_le_length (by simp [hxl];omega)]
  exact List.take_of_length_le (by simp [hxl];omega)
 have hdl:(xs.drop (i * 49)).length = (n - i) * 49:=by rw [List.length_drop,hxn];omega
 obtain ⟨R3,hR3⟩:∃ R3:Array Value,R3 = (R2.toList.take ((i + 1) * 49) ++ xs.drop (i * 49) ++ R2.toList.drop ((i + 1) * 49 + (xs.drop (i * 49)).length)).toArray:=⟨_,rfl⟩
 have hR3l:R3.size = G * 49:=by rw [hR3];simp [hdl,hR2l];omega
 have hR3t:R3.toList.take ((n + 1) * 49) = xs.take (i * 49) ++ x ++ xs.drop (i * 49):=by
  rw [hR3,hR2t,List.toList_toArray,List.take_append_of_le_length (by simp [hxl];omega)]
  exact List.take_of_length_le (by simp [hxl];omega)
 have hcpB:∀ (W:World),W.heap = W2.heap->∀ ty dc sc,(Builtin.copy_ #[44,44] ty #[.slice (some ⟨w.heap.size,(i + 1) * 49,none⟩) (n - i) dc,.slice (some ⟨g,i * 49,none⟩) (n - i) sc]).run sqp.prog W = .ok (goInt (n - i:Nat)) (W.setRow w.heap.size R3):=fun W hW ty dc sc=>by
  rw [hR3]
  exact qcv W _ _ ty 43 49 w.heap.size ((i + 1) * 49) (n - i) dc ⟨g,i * 49,none⟩ (n - i) sc (n - i) R2 43 (xs.drop (i * 49)) sqp.underlying44 hsz (by rw [hW];exact H2) (by simp only [Nat.min_def];split <;> omega) hdl
   (fun j v hj=>by
    rw [show ((⟨g,i * 49,none⟩:Addr).add j) = ⟨g,i * 49 + j,none⟩ by unfold Addr.add;split <;> simp_all]
    have e:W.heap[g]? = w.heap[g]?:=by rw [hW];exact B2.block g hg (by simp)
    rw [World.cell?_of_block (w:=w) (a:=⟨g,i * 49 + j,none⟩) e]
    rw [List.getElem?_drop] at hj
    exact hcs _ v hj) (by rw [hdl,hR2l];have:=Nat.mul_le_mul_right 49 hGn;omega) (fun v hv=>h1 v (List.mem_of_mem_drop hv))
 have FIN:Hid (∀ (W:World),W.heap = W2.heap->W.os = W2.os->W.tape = W2.tape->W.output = W2.output->(W.setRow w.heap.size R3).ownsRow base 43 49 (.slice (some ⟨w.heap.size,0,none⟩) (n + 1) G) (n + 1) (xs.take (i * 49) ++ x ++ xs.drop (i * 49))/\w.grownBy (W.setRow w.heap.size R3) none):=Lib.hid (fun W e1 e2 e3 e4=>by
  refine ⟨⟨by simp [hxl];omega,.inr ⟨w.heap.size,G,R3,rfl,by omega,setRow_heap _ _ R2 _ _ _ (by rw [e1];exact H2),hGn,hGm,hR3l,hR3t⟩⟩,⟨e2.trans B2.os,e3.trans B2.tape,e4.trans B2.output,by simp [e1];exact B2.size,fun k hk hn=>?_⟩⟩
  rw [setRow_other _ _ _ _ (by omega),e1]
  exact B2.block k hk hn)
 have hGi:¬ (G = i):=by omega
 have hGim:¬ (G = i + 1):=by omega
 have hni:¬ (n = i):=by omega
 have hw1:IntKind.i64.wrap ((i:Int) + 1) = (i:Int) + 1:=by rw [IntKind.wrap_i64];omega
 have htn:((i:Int) + 1).toNat = i + 1:=by omega
 have hin:i<=n:=by omega
 have hb1:(0:Int)<=(i:Int) + 1:=by omega
 have hb3:(i:Int)<=(n:Int):=by omega
 clear hkk hik hold hROW hG hRl hR2 hR3 hR2t hR3t hR3l hR2l hRt hdl zc H1 H2 B1 B2 hcs hxn hW1 hW2 ho hbase hGm h1 h1x hx hs1 hxl
 go_enter sqp.func39,sqp.ntmps39
 go_wp2_with (first
  | (at_builtin;refine Lib.wpList_append_run _ rfl _ _ _ _ rfl _ _ rfl rfl _ _ (hrz _) ?_)
  | (at_builtin;refine qbb _ rfl _ _ 44 44 rfl _ _ rfl rfl (hcpA _ _) ?_)
  | (at_builtin;refine qbb _ rfl _ _ 44 44 rfl _ _ rfl rfl (hcpB _ rfl _ _ _) ?_))
 go_region_law (refine qe2 rfl _ _ 44 44 rfl (.slice (some ⟨w.heap.size,(i + 1) * 49,none⟩) (n - i) (G - (i + 1))) (.slice (some ⟨g,i * 49,none⟩) (n - i) (n - i)) (by simp [Act.eval,Act.put]) (by simp [Act.eval,Act.put]) (hcpB W2.drew rfl _ _ _) ?_)
 go_wp2
 go_ret
 exact ⟨G,rfl,FIN.out W2.drew rfl rfl rfl rfl⟩
set_option maxHeartbeats 4000000 in
set_option maxRecDepth 100000 in
theorem qo4 (g n c i vb base:Nat) (xs x:List Value) (w:World) (ho:w.ownsRow base 43 49 (.slice (some ⟨g,0,none⟩) n c) n xs) (hi:i < n) (hn:n<=1000) (hc:n + 1<=c)
  (hx:Arr w vb x 43) (hxl:x.length = 49) (h1x:∀ v ∈ x,v.oneCell' = true) (h1:∀ v ∈ xs,v.oneCell' = true) (hne:vb ≠ g) :
  Calls sqp.prog 39 #[.slice (some ⟨g,0,none⟩) n c,.int .i64 i,.slice (some ⟨vb,0,none⟩) 1 1] w fun e w' =>
   e = .returned (.slice (some ⟨g,0,none⟩) (n + 1) c)/\w'.ownsRow base 43 49 (.slice (some ⟨g,0,none⟩) (n + 1) c) (n + 1) (xs.take (i * 49) ++ x ++ xs.drop (i * 49))/\w.grownBy w' (some g):=by
 have hcs:=qav ho
 have hxn:xs.length = n * 49:=ho.1
 obtain ⟨cur,hbg,hh,hcm,hcz,hct⟩:∃ cur,base<=g/\w.heap[g]? = some (.cells cur 43 (0,0))/\c<=maxLen/\cur.size = c * 49/\cur.toList.take (n * 49) = xs:=by
  rcases ho.2 with ⟨q,_⟩ | ⟨g',cap,cur,q,h1,h2,h3,h4,h5,h6⟩
  ·cases q
  ·injection q with q1 q2 q3
   injection q1 with q1
   injection q1 with q1
   subst q1;subst q3
   exact ⟨cur,h1,h2,h4,h5,h6⟩
 have hlt:g < w.heap.size:=(Array.getElem?_eq_some_iff.1 hh).1
 have hvb:=hx.lt
 have hsz:(sqp.prog.info? 43).map (·.size) = some 49:=qj1
 have hdl:(xs.drop (i * 49)).length = (n - i) * 49:=by rw [List.length_drop,hxn];omega
 have hmul:(n + 1) * 49<=c * 49:=Nat.mul_le_mul_right 49 hc
 obtain ⟨R2,hR2⟩:∃ R2:Array Value,R2 = (cur.toList.take ((i + 1) * 49) ++ xs.drop (i * 49) ++ cur.toList.drop ((i + 1) * 49 + (xs.drop (i * 49)).length)).toArray:=⟨_,rfl⟩
 have hR2l:R2.size = c * 49:=by rw [hR2];simp [hdl,hcz];omega
 have hcpA:∀ (W:World),W.heap = w.heap->∀ ty dc sc,(Builtin.copy_ #[44,44] ty #[.slice (some ⟨g,(i + 1) * 49,none⟩) (n - i) dc,.slice (some ⟨g,i * 49,none⟩) (n + 1 - i) sc]).run sqp.prog W = .ok (goInt (n - i:Nat)) (W.setRow g R2):=fun W hW ty dc sc=>by
  rw [hR2]
  exact qcv W _ _ ty 43 49 g ((i + 1) * 49) (n - i) dc ⟨g,i * 49,none⟩ (n + 1 - i) sc (n - i) cur 43 (xs.drop (i * 49)) sqp.underlying44 hsz (by rw [hW];exact hh) (by simp only [Nat.min_def];split <;> omega) hdl
   (fun j v hj=>by
    rw [show ((⟨g,i * 49,none⟩:Addr).add j) = ⟨g,i * 49 + j,none⟩ by unfold Addr.add;split <;> simp_all]
    rw [World.cell?_of_block (w:=w) (a:=⟨g,i * 49 + j,none⟩) (by rw [hW])]
    rw [List.getElem?_drop] at hj
    exact hcs _ v hj) (by rw [hdl,hcz];omega) (fun v hv=>h1 v (List.mem_of_mem_drop hv))
 obtain ⟨W2,hW2⟩:∃ W2,W2 = w.drew.setRow g R2:=⟨_,rfl⟩
 have hcpA':=hcpA w.drew rfl
 rw [<-hW2] at hcpA'
 have H2:W2.heap[g]? = some (.cells R2 43 (0,0)):=by rw [hW2];exact setRow_heap w.drew _ _ _ _ _ hh
 have B2:∀ k,k ≠ g->W2.heap[k]? = w.heap[k]?:=fun k hk=>by rw [hW2,setRow_other _ _ _ _ hk];rfl
 have S2:W2.heap.size = w.heap.size:=by rw [hW2];simp
 have O2:W2.os = w.os/\W2.tape = w.tape/\W2.output = w.output:=by rw [hW2];exact ⟨rfl,rfl,rfl⟩
 have c1:cur.toList.take (i * 49) = xs.take (i * 49):=by rw [<-hct,List.take_take,Nat.min_eq_left (by omega)]
 have hR2t:R2.toList.take (i * 49) = xs.take (i * 49):=by
  rw [hR2,List.toList_toArray,List.append_assoc,List.take_append_of_le_length (by simp;omega),List.take_take,Nat.min_eq_left (by omega),c1]
 have l2:(cur.toList.take ((i + 1) * 49)).length = (i + 1) * 49:=by simp;omega
 have hR2d:R2.toList.drop ((i + 1) * 49) = xs.drop (i * 49) ++ cur.toList.drop ((i + 1) * 49 + (xs.drop (i * 49)).length):=by
  rw [hR2,List.toList_toArray,List.append_assoc,List.drop_append,List.drop_of_length_le (by omega),l2,Nat.sub_self]
  rfl
 obtain ⟨R3,hR3⟩:∃ R3:Array Value,R3 = (R2.toList.take (i * 49) ++ x ++ R2.toList.drop (i * 49 + x.length)).toArray:=⟨_,rfl⟩
 have hR3l:R3.size = c * 49:=by rw [hR3];simp [hxl,hR2l];omega
 have hR3t:R3.toList.take ((n + 1) * 49) = xs.take (i * 49) ++ x ++ xs.drop (i * 49):=by
  rw [hR3,hR2t,hxl,show i * 49 + 49 = (i + 1) * 49 by omega,hR2d,List.toList_toArray,<-List.append_assoc,List.take_append_of_le_length (by simp [hxl];omega)]
  exact List.take_of_length_le (by simp [hxl];omega)
 have hcpB:∀ ty dc,(Builtin.copy_ #[44,44] ty #[.slice (some ⟨g,i * 49,none⟩) (n + 1 - i) dc,.slice (some ⟨vb,0,none⟩) 1 1]).run sqp.prog W2 = .ok (goInt (1:Nat)) (W2.setRow g R3):=fun ty dc=>by
  rw [hR3]
  exact qcv W2 _ _ ty 43 49 g (i * 49) (n + 1 - i) dc ⟨vb,0,none⟩ 1 1 1 R2 43 x sqp.underlying44 hsz H2 (by simp only [Nat.min_def];split <;> omega) (by omega)
   (fun j v hj=>by
    have h:=hx.cell hj
    rw [show ((⟨vb,0,none⟩:Addr).add j) = ⟨vb,j,none⟩ by unfold Addr.add;split <;> simp_all]
    rw [World.cell?_of_block (w:=w) (a:=⟨vb,j,none⟩) (B2 vb hne)]
    exact h) (by omega) h1x
 have FIN:Hid ((W2.setRow g R3).ownsRow base 43 49 (.slice (some ⟨g,0,none⟩) (n + 1) c) (n + 1) (xs.take (i * 49) ++ x ++ xs.drop (i * 49))/\w.grownBy (W2.setRow g R3) (some g)):=Lib.hid (by
  refine ⟨⟨by simp [hxl];omega,.inr ⟨g,c,R3,rfl,hbg,setRow_heap _ _ R2 _ _ _ H2,hc,hcm,hR3l,hR3t⟩⟩,⟨O2.1,O2.2.1,O2.2.2,by simp [S2],fun k hk hn=>?_⟩⟩
  have hkg:k ≠ g:=fun e=>hn (by rw [e])
  rw [setRow_other _ _ _ _ hkg]
  exact B2 k hkg)
 have hov:∀ lb cb,(callFunc 61 #[.slice (some ⟨vb,0,none⟩) 1 1,.slice (some ⟨g,(i + 1) * 49,none⟩) lb cb]).run sqp.prog w = .ok (.value (.bool false)) w:=fun lb cb=>by
  rw [run_callFunc_extern sqp.func61 (by kernel_rfl) (by kernel_rfl) (by kernel_rfl) (e:=Extern.SlicesOverlaps.overlaps #[44,44] #[4]) (by kernel_rfl),
   Lib.run_overlaps_apart w 44 4 43 sqp.underlying44 49 (fun w'=>by
    obtain ⟨j0,hj0,_,hjs,_⟩:=info_parts qlo
    simp [sizeOf,typeInfo,hj0,hjs]) ⟨vb,0,none⟩ ⟨g,(i + 1) * 49,none⟩ 1 1 lb cb hne 43 43 49 (c * 49) (by have h:w.heap[vb]? = _:=hx;simp [World.shape?,h,hxl]) (by simp [World.shape?,hh,hcz]) (by omega) (hx.frozen 0) (hx.frozen 49)]
  rfl
 have hz2:¬ ((i:Int) = (n:Int)):=by omega
 have hz3:¬ ((c:Int) < (n:Int) + 1):=by omega
 have hci:¬ (c = i):=by omega
 have hci1:¬ (c = i + 1):=by omega
 have hw1:IntKind.i64.wrap ((i:Int) + 1) = (i:Int) + 1:=by rw [IntKind.wrap_i64];omega
 have htn:((i:Int) + 1).toNat = i + 1:=by omega
 have hin:i<=n:=by omega
 have hb1:(0:Int)<=(i:Int) + 1:=by omega
 have hb3:(i:Int)<=(n:Int):=by omega
 have hb4:(n:Int) + 1<=(c:Int):=by omega
 have hb5:(i:Int)<=(n:Int) + 1:=by omega
 clear hW2 hR2 hR3 hR2t hR3t hR3l hR2l hdl H2 B2 hcs hxn ho hbg h1 h1x hx hxl hcpA hcm hcz hct hh hmul S2 O2 c1 l2 hR2d
 go_enter sqp.func39,sqp.ntmps39
 go_wp2_with (simp only [hov])
 go_region_law (refine qe2 rfl _ _ 44 44 rfl (.slice (some ⟨g,(i + 1) * 49,none⟩) (n - i) (c - (i + 1))) (.slice (some ⟨g,i * 49,none⟩) (n + 1 - i) (c - i)) (by simp [Act.eval,Act.put]) (by simp [Act.eval,Act.put]) (hcpA' _ _ _) ?_)
 go_wp2_with (at_builtin;refine qbb _ rfl _ _ 44 44 rfl _ _ rfl rfl (hcpB _ _) ?_)
 go_ret
 exact ⟨rfl,FIN.out⟩
set_option maxHeartbeats 4000000 in
theorem qub (v:Value) (n vb base:Nat) (xs x:List Value) (w:World) (ho:w.ownsRow base 43 49 v n xs) (hn:n<=1000) (hb:base<=w.heap.size)
  (hx:Arr w vb x 43) (hxl:x.length = 49) (h1x:∀ v ∈ x,v.oneCell' = true) :
  Calls sqp.prog 39 #[v,.int .i64 n,.slice (some ⟨vb,0,none⟩) 1 1] w fun e w' =>
   ∃ v',e = .returned v'/\w'.ownsRow base 43 49 v' (n + 1) (xs ++ x)/\w.grownBy w' v.ownBlock/\∀ b,v'.ownBlock = some b->v.ownBlock = some b\/w.heap.size<=b:=by
 obtain ⟨i0,hi0,hz0,hzs,hzb⟩:=info_parts qlo
 have zc:((Value.agg (V qp).toArray).cells).size = 49:=by kernel_rfl
 have HN:Hid (∀ (j:Nat) u,x[j]? = some u->w.cell? ((⟨vb,0,none⟩:Addr).add j) = some u):=Lib.hid (fun j u hj=>by
  rw [show ((⟨vb,0,none⟩:Addr).add j) = ⟨vb,j,none⟩ by unfold Addr.add;split <;> simp_all]
  exact hx.cell hj)
 have HO:=Lib.hid ho
 have H1:=Lib.hid h1x
 have h63:n + 1<=maxLen:=by unfold maxLen;omega
 have hby:(n + 1) * 392<=140737488355328:=by omega
 have hx2:x.length = 1 * 49:=by omega
 have HC:=Lib.hid ho.2
 clear hxl hx h1x ho
 rcases HC.out with ⟨q,q2⟩ | ⟨g,c,cur,q,h1',h2,h3,h4,h5,h6⟩
 ·subst q
  subst q2
  clear HC
  have hxs:xs = []:=by simpa using HO.out.1
  subst hxs
  go_enter sqp.func39,sqp.ntmps39
  go_wp2_with (at_builtin;refine wpList_append_lies w rfl _ _ 44 rfl base 43 i0 _ 49 392 sqp.underlying44 hi0 hz0 hzs hzb zc (by decide) (.slice none 0 0) 0 [] rfl HO.out ⟨vb,0,none⟩ 1 1 x rfl hx2 HN.out H1.out (by decide) h63 hby hb w.heap.size rfl ?_)
  intro g' cap w' ho hg hb' hlt
  have HO':=Lib.hid ho;have HG:=Lib.hid hg;have HB:=Lib.hid hb'
  clear ho hg hb'
  go_wp2_with fail
  go_ret
  refine ⟨_,rfl,HO'.out,HG.out,fun b e=>?_⟩
  have e2:g' = b:=by simpa [Value.ownBlock] using e
  rcases HB.out with q | q
  ·exact .inl (by rw [q,e2])
  ·exact .inr (by omega)
 ·subst q
  clear HC h1' h2 h4 h5 h6
  by_cases hcn:c = n
  ·subst hcn
   go_enter sqp.func39,sqp.ntmps39
   go_wp2_with (at_builtin;refine wpList_append_lies w rfl _ _ 44 rfl base 43 i0 _ 49 392 sqp.underlying44 hi0 hz0 hzs hzb zc (by decide) (.slice (some ⟨g,0,none⟩) c c) c xs rfl HO.out ⟨vb,0,none⟩ 1 1 x rfl hx2 HN.out H1.out (by decide) h63 hby hb w.heap.size rfl ?_)
   intro g' cap w' ho hg hb' hlt
   have HO':=Lib.hid ho;have HG:=Lib.hid hg;have HB:=Lib.hid hb'
   clear ho hg hb'
   go_wp2_with fail
   go_ret
   refine ⟨_,rfl,HO'.out,HG.out,fun b e=>?_⟩
   have e2:g' = b:=by simpa [Value.ownBlock] using e
   rcases HB.out with q | q
   ·exact .inl (by rw [q,e2])
   ·exact .inr (by omega)
  ·go_enter sqp.func39,sqp.ntmps39
   go_wp2_with (at_builtin;refine wpList_append_lies w rfl _ _ 44 rfl base 43 i0 _ 49 392 sqp.underlying44 hi0 hz0 hzs hzb zc (by decide) (.slice (some ⟨g,0,none⟩) n c) n xs rfl HO.out ⟨vb,0,none⟩ 1 1 x rfl hx2 HN.out H1.out (by decide) h63 hby hb w.heap.size rfl ?_)
   intro g' cap w' ho hg hb' hlt
   have HO':=Lib.hid ho;have HG:=Lib.hid hg;have HB:=Lib.hid hb'
   clear ho hg hb'
   go_wp2_with fail
   go_ret
   refine ⟨_,rfl,HO'.out,HG.out,fun b e=>?_⟩
   have e2:g' = b:=by simpa [Value.ownBlock] using e
   rcases HB.out with q | q
   ·exact .inl (by rw [q,e2])
   ·exact .inr (by omega)
theorem qlp {w w':World} {r:Option Nat} (h:w.grownBy w' none):w.grownBy w' r:=⟨h.os,h.tape,h.output,h.size,fun k hk _=>h.block k hk (by simp)⟩
theorem qne (v:Value) (n i vb base:Nat) (xs x:List Value) (w:World) (ho:w.ownsRow base 43 49 v n xs) (hi:i<=n) (hn:n<=1000) (hb:base<=w.heap.size)
  (hx:Arr w vb x 43) (hxl:x.length = 49) (h1x:∀ v ∈ x,v.oneCell' = true) (h1:∀ v ∈ xs,v.oneCell' = true) (hne:¬ v.ownBlock = some vb) :
  Calls sqp.prog 39 #[v,.int .i64 i,.slice (some ⟨vb,0,none⟩) 1 1] w fun e w' =>
   ∃ v',e = .returned v'/\w'.ownsRow base 43 49 v' (n + 1) (xs.take (i * 49) ++ x ++ xs.drop (i * 49))/\w.grownBy w' v.ownBlock/\∀ b,v'.ownBlock = some b->v.ownBlock = some b\/w.heap.size<=b:=by
 by_cases hin:i = n
 ·subst hin
  have e1:xs.take (i * 49) = xs:=List.take_of_length_le (by rw [ho.1];omega)
  have e2:xs.drop (i * 49) = []:=List.drop_of_length_le (by rw [ho.1];omega)
  rw [e1,e2,List.append_nil]
  exact qub v i vb base xs x w ho hn hb hx hxl h1x
 ·rcases ho.2 with ⟨q,q2⟩ | ⟨g,c,cur,rfl,h1',h2,h3,h4,h5,h6⟩
  ·omega
  ·have hg:g < w.heap.size:=(Array.getElem?_eq_some_iff.1 h2).1
   have hne':vb ≠ g:=fun e=>hne (by rw [e];rfl)
   by_cases hc:c = n
   ·subst hc
    refine (qqv g c i vb base xs x w ho (by omega) hn hx hxl h1x h1 hg).mono ?_
    rintro e w' ⟨cap,rfl,o,gr⟩
    refine ⟨_,rfl,o,qlp gr,fun b e=>.inr ?_⟩
    have:w.heap.size = b:=by simpa [Value.ownBlock] using e
    omega
   ·refine (qo4 g n c i vb base xs x w ho (by omega) hn (by omega) hx hxl h1x h1 hne').mono ?_
    rintro e w' ⟨rfl,o,gr⟩
    exact ⟨_,rfl,o,gr,fun b e=>.inl e⟩
end Go.Proofs.Ytcdclihinmdgiaa.wd

namespace Go.Proofs.Ytcdclihinmdgiaa.orb
open Go.ChangeShapes Go.WideShapes Go.ChangeAt Go.RowKit
open mem ints arr pm sf gl
set_option linter.unusedVariables false
set_option maxRecDepth 100000
def gS (s:Sur) (n:Nat):List Int:=gl (ext s.1) (ext s.2) n
theorem qaq (s:Sur) (n:Nat):(gS s n).length = 49:=jg (qc _) (qc _) _
set_option maxHeartbeats 4000000 in
theorem qnl (r u:List Int) (n:Nat) (w:World) (hs:Sf n r u) :
  Calls sqp.prog 34 #[.agg (V (gl (ext r) (ext u) n)).toArray] w fun e w'=>e = .returned (.agg (V (gS (cn (r,u)) n)).toArray)/\Below w.heap.size w w':=by
 have HS:=Lib.hid hs;clear hs
 have HC:Hid (gl (ext (can r u n).1) (ext (can r u n).2) n = gS (cn (r,u)) n):=Lib.hid (by unfold gS cn;rw [HS.out.lr])
 have HL:(gS (cn (r,u)) n).length = 49:=qaq _ _
 go_enter sqp.func34,sqp.ntmps34
 have G49:(gl (ext r) (ext u) n).length = 49:=jg (qc _) (qc _) _
 go_wp2_with (first | (refine wpList_load_row rfl 43 _ rfl w.heap.size rfl 43 (V (gl (ext r) (ext u) n)).toArray (0,0) _ ((Arr.new w _ _ rfl).alloc _) sqp.underlying43 rfl (zu G49) ?_) | fail)
 generalize hw1:(w.alloc (.cells (V (gl (ext r) (ext u) n)).toArray 43)).alloc (.cells #[.int .i64 0,.int .i64 0,.int .i64 0,.int .i64 0,.int .i64 0,.int .i64 0,.int .i64 0,.int .i64 0,.int .i64 0,.int .i64 0,.int .i64 0,.int .i64 0,.int .i64 0,.int .i64 0,.int .i64 0,.int .i64 0,.int .i64 0,.int .i64 0,.int .i64 0,.int .i64 0,.int .i64 0,.int .i64 0,.int .i64 0,.int .i64 0,.int .i64 0,.int .i64 0,.int .i64 0,.int .i64 0,.int .i64 0,.int .i64 0,.int .i64 0,.int .i64 0,.int .i64 0,.int .i64 0,.int .i64 0,.int .i64 0,.int .i64 0,.int .i64 0,.int .i64 0,.int .i64 0,.int .i64 0,.int .i64 0,.int .i64 0,.int .i64 0,.int .i64 0,.int .i64 0,.int .i64 0,.int .i64 0,.int .i64 0] 43) = w1
 have A1:Hid (Arr w1 (w.heap.size + 1) (V qp) 43):=Lib.hid (by rw [<-hw1];exact Arr.new _ (V qp) _ (by simp))
 have B1:Hid (Below w.heap.size w w1):=Lib.hid (by rw [<-hw1];exact ((Below.refl _ _).alloc (Nat.le_refl _) _).alloc (by simp) _)
 have s1:w1.heap.size = w.heap.size + 2:=by rw [<-hw1];simp
 clear hw1
 refine (qq9 r u n _ HS.out).mono ?_
 rintro e w3 ⟨B,D,mm,rfl,_,_,b1⟩
 rw [HC.out]
 replace A1:=Lib.hid (A1.out.keep b1 A1.out.lt)
 replace B1:=Lib.hid (B1.out.trans (b1.mono B1.out.size))
 have hs3:=b1.size
 clear b1
 generalize hLL:gS (cn (r,u)) n = L at *
 go_wp2_with (first | (refine wpList_store_row rfl 43 _ _ rfl w3.heap.size (V (L)).toArray rfl rfl 43 (V qp).toArray (Arr.new w3 (V qp) _ rfl) (zu HL) (by simp [q8,HL,qp]) (zy _) ?_;generalize hw4:(w3.alloc (.cells #[.int .i64 0,.int .i64 0,.int .i64 0,.int .i64 0,.int .i64 0,.int .i64 0,.int .i64 0,.int .i64 0,.int .i64 0,.int .i64 0,.int .i64 0,.int .i64 0,.int .i64 0,.int .i64 0,.int .i64 0,.int .i64 0,.int .i64 0,.int .i64 0,.int .i64 0,.int .i64 0,.int .i64 0,.int .i64 0,.int .i64 0,.int .i64 0,.int .i64 0,.int .i64 0,.int .i64 0,.int .i64 0,.int .i64 0,.int .i64 0,.int .i64 0,.int .i64 0,.int .i64 0,.int .i64 0,.int .i64 0,.int .i64 0,.int .i64 0,.int .i64 0,.int .i64 0,.int .i64 0,.int .i64 0,.int .i64 0,.int .i64 0,.int .i64 0,.int .i64 0,.int .i64 0,.int .i64 0,.int .i64 0,.int .i64 0] 43)).setRow w3.heap.size (V L).toArray = w4;have A3:Hid (Arr w4 w3.heap.size (V L) 43):=Lib.hid (by rw [<-hw4];exact (Arr.new w3 (V qp) _ rfl).row);have b1:Below w3.heap.size w3 w4:=(by rw [<-hw4];exact arr.below_setRow ((Below.refl _ _).alloc (Nat.le_refl _) _) (Nat.le_refl _) _);have s4:=b1.size;replace A1:=Lib.hid (A1.out.keep b1 A1.out.lt);replace B1:=Lib.hid (B1.out.trans (b1.mono B1.out.size));clear hw4 b1) | (refine wpList_load_row rfl 43 _ rfl w3.heap.size rfl 43 (V L).toArray (0,0) _ A3.out sqp.underlying43 rfl (zu HL) ?_) | (refine wpList_store_row rfl 43 _ _ rfl (w.heap.size + 1) (V (L)).toArray rfl rfl 43 (V qp).toArray A1.out (zu HL) (by simp [q8,HL,qp]) (zy _) ?_) | fail)
 exact bodyPost_ret (v:=.agg (V L).toArray) (results_cell_row rfl _ _ (w.heap.size + 1) 43 (V L).toArray (0,0) _ rfl A1.out.row sqp.underlying43 rfl (zu HL)) rfl ⟨by rw [<-hLL],below_setRow B1.out (by omega) _⟩
end Go.Proofs.Ytcdclihinmdgiaa.orb
