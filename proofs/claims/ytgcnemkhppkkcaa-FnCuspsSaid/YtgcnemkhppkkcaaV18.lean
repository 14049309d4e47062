import Derived.Test.YtgcnemkhppkkcaaV04
import Derived.Test.YtgcnemkhppkkcaaV17
import Derived.Sort.Grow
import Derived.Test.YtgcnemkhppkkcaaV14
import Derived.Test.YtgcnemkhppkkcaaV15
import Derived.Test.YtgcnemkhppkkcaaV12
import Derived.IntWalk
import Derived.Test.YtgcnemkhppkkcaaV09
namespace Go.Proofs.Ytgcnemkhppkkcaa.orb
open Go.ChangeShapes Go.WideShapes Go.ChangeAt Go.RowKit Go.Maps Go.Sort
open mem ints arr pm sf gl
set_option linter.unusedVariables false
set_option maxRecDepth 100000
theorem holds_row {w:World} {base g cap:Nat} {e:TypeId} {l:List Int} (h:w.ownsRow base e 1 (.slice (some ⟨g,0,none⟩) l.length cap) l.length (V l)):Holds (Value.int .i64) w g 0 l.toArray:=by
 intro j hj
 have hj':j < l.length:=by simpa using hj
 rw [Nat.zero_add]
 refine ⟨?_,h.frozenAt j⟩
 rw [h.cellAt j (by omega),V_getD hj']
 simp [List.getD,hj']
theorem put_heap {w:World} {g n:Nat} {os:Array Obj} {cur:Array Value} {e:TypeId} {fr:Nat × Nat} (d:Array Int) (hb:w.heap[g]? = some (.cells cur e fr)) :
  (grow (putRow (Value.int .i64) (Sort.ahead w n) g 0 d) os).heap[g]? = some (.cells (putCells (Value.int .i64) 0 d cur) e fr):=by
 have hg:g < w.heap.size:=(Array.getElem?_eq_some_iff.1 hb).1
 rw [heap_grow_old _ _ (by simpa using hg)]
 simp [putRow,mapBlock,Sort.ahead,Array.getElem?_modify,hb,onCells]
theorem put_grown {w:World} {g n:Nat} {os:Array Obj} (d:Array Int):w.grownBy (grow (putRow (Value.int .i64) (Sort.ahead w n) g 0 d) os) (some g):=by
 refine ⟨rfl,rfl,rfl,by simp,fun k hk hne=>?_⟩
 rw [heap_grow_old _ _ (by simpa using hk)]
 have:g ≠ k:=fun e=>hne (by rw [e])
 simp [putRow,mapBlock,Sort.ahead,Array.getElem?_modify,this]
theorem put_own {w:World} {base g cap n:Nat} {e:TypeId} {os:Array Obj} {l m:List Int} (hl:m.length = l.length) (h:w.ownsRow base e 1 (.slice (some ⟨g,0,none⟩) l.length cap) l.length (V l)) :
  (grow (putRow (Value.int .i64) (Sort.ahead w n) g 0 m.toArray) os).ownsRow base e 1 (.slice (some ⟨g,0,none⟩) m.length cap) m.length (V m):=by
 rcases h.2 with ⟨h0,_⟩ | ⟨g',cap',cur,q1,q2,q3,q4,q5,q6,q7⟩
 ·cases h0
 ·injection q1 with e1 e2 e3
  injection e1 with e1
  injection e1 with e1
  subst e1;subst e3
  refine ⟨by simp [V],.inr ⟨g,cap,_,by rw [hl],q2,put_heap _ q3,by omega,q5,by simp [putCells,q6],?_⟩⟩
  rw [Nat.mul_one]
  apply List.ext_getElem?
  intro j
  by_cases hj:j < m.length
  ·rw [List.getElem?_take_of_lt hj,Array.getElem?_toList]
   have:j < cur.size:=by omega
   simp [putCells,hj,this,V]
  ·rw [List.getElem?_take_eq_none (by omega),List.getElem?_eq_none (by simp [V];omega)]
theorem grow_none (w:World):grow w #[] = w:=by simp [grow]
theorem sort_desc (l:List Int):(l.mergeSort fun x y=>decide (x<=y)).reverse = sortD l:=by
 have h1:(l.mergeSort fun x y=>decide (x<=y)).Pairwise (fun x y=>decide (x<=y) = true):=List.pairwise_mergeSort (fun a b c=>by simp;omega) (fun a b=>by simp;omega) l
 refine List.Perm.eq_of_pairwise (le:=fun a b=>b<=a) (fun a b _ _ h1 h2=>by omega) ?_ (sortD_desc l) ((List.reverse_perm _).trans ((List.mergeSort_perm _ _).trans (sortD_perm l).symm))
 rw [List.pairwise_reverse]
 exact h1.imp (fun {a b} h=>by simpa using h)
def frq (L:List Sur) (z:Int):Sur:=L.getD z.toNat ([],[])
theorem frq_at {L:List Sur} {k:Nat} {x:Sur} (h:L[k]? = some x):frq L (k:Int) = x:=by simp [frq,List.getD,h]
theorem fnd_frm {L:List Sur} {x:Sur} (h:x ∈ L):frq L (fnd L x) = x:=by
 obtain ⟨k,h1,h2,h3⟩:=fnd_get h
 rw [h1];exact frq_at h3
theorem frq_mem {L:List Sur} {z:Int} (h0:0<=z) (h1:z < L.length):frq L z ∈ L:=by
 have:z.toNat < L.length:=by omega
 simp [frq,List.getD,this]
theorem frq_inj {L:List Sur} (hn:L.Nodup) {a b:Int} (a0:0<=a) (a1:a < L.length) (b0:0<=b) (b1:b < L.length) (h:frq L a = frq L b):a = b:=by
 have ha:L[a.toNat]? = some (frq L a):=by have:a.toNat < L.length:=by omega
                                          simp [frq,List.getD,this]
 have hb:L[b.toNat]? = some (frq L b):=by have:b.toNat < L.length:=by omega
                                          simp [frq,List.getD,this]
 rw [<-h] at hb
 have:=nd_at hn ha hb
 omega
theorem spGo_min {x:Sur} {m:Nat} (hm:cn (shN m x) = cn x):∀ (f k:Nat),k<=m->m<=k + f->(∀ j,k<=j->j < m->¬ cn (shN j x) = cn x)->spGo x f k = m
 | 0,k,h1,h2,_=>by show k = m;omega
 | f + 1,k,h1,h2,h3=>by
  by_cases e:k = m
  ·subst e;exact spGo_yes hm
  ·rw [spGo_no (h3 k (Nat.le_refl _) (by omega))]
   exact spGo_min hm f (k + 1) (by omega) (by omega) (fun j a b=>h3 j (by omega) b)
section
variable {n N:Nat} {s:Sur} {q:LW} (hs:Sf n s.1 s.2) (h:Oj n s q.1.length q) (hN:q.1.length = N)
include hs h hN
theorem sh_it (hsf:∀ x ∈ q.1,Sf n x.1 x.2) {i:Nat} (hi:i < N):∀ j,0<=it (pL q.1) i j/\it (pL q.1) i j < N/\cn (shN j (frq q.1 i)) = frq q.1 (it (pL q.1) i j):=by
 subst hN
 have bj:=pL_bij hs h
 have hx:frq q.1 i ∈ q.1:=frq_mem (by omega) (by omega)
 intro j
 induction j with
 | zero=>exact ⟨by show (0:Int)<=i;omega,by show (i:Int) < _;omega,h.fix hs hx⟩
 | succ j ih =>
  obtain ⟨a,b,c⟩:=ih
  have hm:=frq_mem (L:=q.1) a b
  have e1:cn (shN (j + 1) (frq q.1 i)) = stp 84 (frq q.1 (it (pL q.1) i j)):=by
   rw [<-cn_sh (hsf _ hx) j,c];rfl
  have hst:=h.step (c:=84) (.inl rfl) hm
  have e2:it (pL q.1) i (j + 1) = fnd q.1 (stp 84 (frq q.1 (it (pL q.1) i j))):=by
   show (pL q.1).getD (it (pL q.1) i j).toNat 0 = _
   have hl:(it (pL q.1) i j).toNat < q.1.length:=by omega
   have hg:q.1[(it (pL q.1) i j).toNat]? = some (frq q.1 (it (pL q.1) i j)):=by simp [frq,List.getD,hl]
   rw [List.getD_eq_getElem?_getD,pL_at hg];rfl
  obtain ⟨k,h1,h2,h3⟩:=fnd_get hst
  refine ⟨by rw [e2,h1];omega,by rw [e2,h1];omega,?_⟩
  rw [e1,e2,fnd_frm hst]
theorem cyc_sp (hsf:∀ x ∈ q.1,Sf n x.1 x.2) (h120:N<=1000) {i:Nat} (hi:i < N):spGo (frq q.1 i) 16777216 1 = (cyc (pL q.1) N i).length/\(cyc (pL q.1) N i).length<=N/\∀ j,j < (cyc (pL q.1) N i).length->(cyc (pL q.1) N i).getD j 0 = it (pL q.1) i j:=by
 have bj:=pL_bij hs h
 rw [hN] at bj
 have hw:=cyc_way (f:=(i:Int)) bj (by omega) (by omega)
 have hit:=way_it hw
 have hl:=way_last hw
 have hle:=hw.inn.len
 have hpos:0 < (cyc (pL q.1) N i).length:=hw.pos
 have S:=sh_it hs h hN hsf hi
 refine ⟨spGo_min ?_ _ _ (by omega) (by omega) ?_,hle,hit⟩
 ·rw [(S _).2.2,<-hl]
  have:=(S 0).2.2
  exact this.symm
 ·intro j h1 h2 he
  have e0:=(S 0).2.2
  have ej:=(S j).2.2
  have e1:frq q.1 (it (pL q.1) i j) = frq q.1 (i:Int):=by
   rw [<-ej,he]
   exact e0
  have e2:=frq_inj h.nd (S j).1 (by rw [hN];exact (S j).2.1) (by omega) (by omega) e1
  have e3:=hit j h2
  have e4:=hit 0 hpos
  rw [e2] at e3
  have e5:it (pL q.1) i 0 = (i:Int):=rfl
  rw [e5] at e4
  have:=nodup_getD hw.inn.nd h2 hpos (by rw [e3,e4])
  omega
end
structure Cz (w1 wr:World) (mp n:Nat) (ms:List Fd) (v:Value) (ws:List Int):Prop where
 map:∃ D:DataW Unit,wr.ownsMap sqp.prog 62 (plainElem sqp.prog 4) mp ms.length D/\Kb D (ms.map (fdK n))
 own:wr.ownsRow w1.heap.size 3 1 v ws.length (V ws)
 bel:Below w1.heap.size w1 wr
 lo:w1.heap.size<=mp
 ne:¬ v.ownBlock = some mp
theorem own_stay {w w':World} {base n:Nat} {v:Value} {xs:List Value} {e:TypeId} {size:Nat} (h:w.ownsRow base e size v n xs) (hb:∀ b,v.ownBlock = some b->w'.heap[b]? = w.heap[b]?):w'.ownsRow base e size v n xs:=by
 refine ⟨h.1,?_⟩
 rcases h.2 with h0 | ⟨g,cap,cur,h1,h2,h3,h4⟩
 ·exact .inl h0
 ·exact .inr ⟨g,cap,cur,h1,h2,by rw [hb g (by rw [h1];rfl)];exact h3,h4⟩
theorem map_stay {w w':World} {mp m:Nat} {D:DataW Unit} (h:w.ownsMap sqp.prog 62 (plainElem sqp.prog 4) mp m D) (hb:w'.heap[mp]? = w.heap[mp]?):w'.ownsMap sqp.prog 62 (plainElem sqp.prog 4) mp m D:=by
 obtain ⟨es,cl,e1,e2⟩:=h
 exact ⟨es,cl,hb.trans e1,e2⟩
theorem Cz.mlt {w1 wr:World} {mp n:Nat} {ms:List Fd} {v:Value} {ws:List Int} (h:Cz w1 wr mp n ms v ws):mp < wr.heap.size:=by
 obtain ⟨D,hD,_⟩:=h.map
 exact hD.lt
theorem Cz.keep {w1 wr w':World} {mp n:Nat} {ms:List Fd} {v:Value} {ws:List Int} (h:Cz w1 wr mp n ms v ws) (hb:Below wr.heap.size wr w'):Cz w1 w' mp n ms v ws:=by
 have hl:=h.mlt
 obtain ⟨D,hD,hk⟩:=h.map
 exact ⟨⟨D,map_stay hD (hb.block _ hl),hk⟩,own_stay h.own (fun b e=>hb.block _ (h.own.lt b e).2),h.bel.trans (hb.mono h.bel.size),h.lo,h.ne⟩
def mt (L:List Sur) (zs:List Int):List Fd:=zs.map fun z=>((frq L z,0,0):Fd)
theorem mt_app (L:List Sur) (a b:List Int):mt L (a ++ b) = mt L a ++ mt L b:=by simp [mt]
theorem mt_fst (L:List Sur) (zs:List Int):(mt L zs).map Prod.fst = zs.map (frq L):=by simp [mt,Function.comp_def]
theorem mt_mem {L:List Sur} (hn:L.Nodup) {zs:List Int} (hz:In L.length zs) {k:Nat} (hk:k < L.length):frq L k ∈ (mt L zs).map Prod.fst ↔ (k:Int) ∈ zs:=by
 rw [mt_fst,List.mem_map]
 constructor
 ·rintro ⟨z,h1,h2⟩
  have:=frq_inj hn (hz.lo z h1) (hz.hi z h1) (b:=(k:Int)) (by omega) (by omega) h2
  rw [<-this];exact h1
 ·exact fun h=>⟨k,h,rfl⟩
theorem fs_at {s:Sur} {n:Nat}:∀ {K j:Nat},j < K->∀ (t:Nat) v,(V (gS (cn (shN j s)) n))[t]? = some v->(fs s n K)[j * 49 + t]? = some v
 | 0,_,h,_,_,_=>by omega
 | K + 1,j,h,t,v,hv=>by
  have ht:t < 49:=by have:=(List.getElem?_eq_some_iff.1 hv).1;rwa [V_len,gS_len] at this
  rw [fs_succ]
  by_cases e:j = K
  ·subst e
   rw [List.getElem?_append_right (by rw [fs_len];omega),fs_len,show j * 49 + t - j * 49 = t by omega]
   exact hv
  ·rw [List.getElem?_append_left (by rw [fs_len];omega)]
   exact fs_at (by omega) t v hv
theorem fs_mem {w:World} {B n K cp:Nat} {s:Sur} {A:Option Addr} (h:w.ownsRow B 62 49 (.slice A K cp) K (fs s n K)) (h0:0 < K) :
  ∃ g,A = some ⟨g,0,none⟩/\B<=g/\g < w.heap.size/\∀ (j:Nat),j < K->∀ (t:Nat) v,(V (gS (cn (shN j s)) n))[t]? = some v->w.cell? ⟨g,j * 49 + t,none⟩ = some v:=by
 rcases h.2 with ⟨_,q⟩ | ⟨g,cap,cur,q1,q2,q3,q4,q5,q6,q7⟩
 ·omega
 ·injection q1 with e1 e2 e3
  refine ⟨g,e1,q2,?_,fun j hj t v hv=>?_⟩
  ·rcases Nat.lt_or_ge g w.heap.size with hlt | hge
   ·exact hlt
   ·rw [Array.getElem?_eq_none hge] at q3;cases q3
  have h1:=fs_at (K:=K) hj t v hv
  rw [cell_of_row w g _ cur _ _ q3]
  have h2:(List.take (K * 49) cur.toList)[j * 49 + t]? = some v:=by rw [q7];exact h1
  rw [List.getElem?_take] at h2
  split at h2
  ·simpa using h2
  ·cases h2
theorem cyc_gS (s:Sur) (n:Nat) (G:List Int) (hG:gS s n = G) (w:World) (hs:Sf n s.1 s.2) :
  Calls sqp.prog 58 #[.agg (V G).toArray] w fun e w'=>∃ A k c,e = .returned (.slice A k c)/\spGo s 16777216 1 = k/\k<=16777216/\w'.ownsRow w.heap.size 62 49 (.slice A k c) k (fs s n k)/\Below w.heap.size w w':=by
 subst hG
 exact shearCycle_any s.1 s.2 n w hs
theorem cuC_pos {L:List Sur} (hb:Bij L.length (pL L)) (h:0 < L.length):0 < (cuC L L.length).length:=by
 have c:=cso_cs hb L.length (Nat.le_refl _)
 unfold cuC
 rw [List.length_map]
 rcases Nat.eq_zero_or_pos (cso (pL L) L.length L.length).length with z | z
 ·have:=c.all 0 h
  rw [List.eq_nil_of_length_eq_zero z] at this
  simp at this
 ·exact z
theorem own_pos {w:World} {base n c:Nat} {A:Option Addr} {e:TypeId} {xs:List Value} (h:w.ownsRow base e 1 (.slice A n c) n xs) (h0:0 < n):∃ g,A = some ⟨g,0,none⟩/\base<=g/\g < w.heap.size:=by
 rcases h.2 with ⟨_,q⟩ | ⟨g,cap,cur,q1,_⟩
 ·omega
 ·injection q1 with q1
  subst q1
  have:=h.lt g rfl
  exact ⟨g,rfl,this⟩
set_option maxHeartbeats 8000000 in
theorem cu_impl (v:Value) (r u:List Int) (hi:Nat) (w:World) (hx:Srd w hi v r u) (hn:r.length<=1048576) (hm:u.length<=1048576) :
  Calls sqp.prog 24 #[v] w (CUPost r u w):=by
 have HX:=Lib.hid hx
 obtain ⟨P,n,c,Q,m,d,rfl,q1,q2,e1,e2,ht,HR⟩:=hx.open
 have L1:=Lib.hid q1
 clear hx q1 q2 HR
 obtain ⟨i0,hi0,hz0,hz1,hz2⟩:=info_parts infoI
 go_enter sqp.func24,sqp.ntmps24
 go_wp2_with fail
 refine (orbitOf_any _ r u hi _ (HX.out.keep ((Below.refl hi w).alloc ht _) (Nat.le_refl _)) hn hm).mono ?_
 rintro e w1 ⟨b1,h⟩
 have B1:=Lib.hid (below1 _ _ b1);clear b1
 rcases h with ⟨h1,h2,A,cp,rfl,h3⟩ | ⟨h1,rfl⟩
 ·have FM0:=Lib.hid (Fm.of h3 rfl (finds_pos (r,u)))
  have HP:=finds_pos (r,u)
  obtain ⟨q,a1,a2,a3,a4,a5,a6⟩:=fin_open h1 h2
  obtain ⟨z1,z2,z3⟩:=orbF_inv a1
  have HOB:=(by rw [<-orbF_yes h1];exact a1:orb (r,u) = some q)
  have JJ:=orb_oj (s:=(r,u)) z1 HOB
  have SR:=Lib.hid (show Sf r.length (r,u).1 (r,u).2 from z1)
  have BJ0:=pL_bij (s:=(r,u)) z1 JJ
  have HF0:=cuL_yes a4
  have EL:q.1 = (finds (r,u)).map Prod.fst:=a2.fst
  rw [a3,<-EL] at HF0
  have HB:=Lib.hid a4
  have HLEN:q.1.length = (finds (r,u)).length:=by rw [EL,List.length_map]
  have HSF:=Lib.hid a5.sf
  clear h3 h1 a1 a2 a3 a4 a5 a6 z2 z3 HOB
  generalize finds (r,u) = xs at *
  obtain ⟨N,hN⟩:∃ N,xs.length = N:=⟨_,rfl⟩
  rw [hN] at h2 HP HLEN ⊢
  rw [L1.out] at FM0 SR JJ HSF
  rw [HLEN] at HF0 BJ0
  have LN:=Lib.hid hN;have EQL:=Lib.hid EL;have QL:=Lib.hid HLEN;have JO:=Lib.hid JJ;have BJ:=Lib.hid BJ0;have HF:=Lib.hid HF0;have FM:=FM0
  have ND:=Lib.hid JJ.nd
  clear hN EL HLEN JJ BJ0 HF0 FM0 z1
  have hmm:=@run_makeMap sqp.prog
  go_wp2
  have CZ0:Hid (Cz w1 (w1.alloc (.map #[] 0)) w1.heap.size n (mt q.1 (cso (pL q.1) N 0).flatten) (.slice none 0 0) (cuC q.1 0)):=Lib.hid
   ⟨⟨.map [],World.ownsMap_made _ _ _ _,Kb.empty⟩,World.ownsRow_nil _ _ _ _,(Below.refl _ _).alloc (Nat.le_refl _) _,Nat.le_refl _,by simp [Value.ownBlock]⟩
  obtain ⟨mp,hmp⟩:∃ mp,mp = w1.heap.size:=⟨_,rfl⟩
  rw [<-hmp] at CZ0 ⊢
  clear hmp hmm
  go_loopw [7,23] (fun v i wr=>∃ k:Nat,k<=N/\i = .int .i64 k/\Cz w1 wr mp n (mt q.1 (cso (pL q.1) N k).flatten) v (cuC q.1 k)) (fun _ i _=>N - (intOf i).toNat)
  case atStart=>exact ⟨0,Nat.zero_le _,rfl,CZ0.out⟩
  case round =>
   obtain ⟨k,hk,rfl,hcz⟩:=hrel
   obtain ⟨C,cc,e7⟩:=own_form hcz.own
   subst e7
   have CZ:=Lib.hid hcz;clear hcz CZ0
   have hsz:=CZ.out.bel.size
   have hlm:=CZ.out.mlt
   have hlo:=CZ.out.lo
   by_cases hlt:k < N
   ·obtain ⟨x,hxk⟩:∃ x,xs[k]? = some x:=⟨_,List.getElem?_eq_getElem (by rw [LN.out];exact hlt)⟩
    obtain ⟨g,rfl,hg,hc⟩:=FM.out k x hxk
    have hqk:q.1[k]? = some x.1:=by rw [EQL.out];simp [hxk]
    have FX:Hid (frq q.1 k = x.1):=Lib.hid (frq_at hqk)
    have SX:=Lib.hid (HSF.out x.1 (List.mem_of_getElem? hqk))
    have PX:Hid (∀ (j:Nat) v,(V (fdL x.1 n x.2.1 x.2.2))[j]? = some v->wr.cell? ⟨g,k * 51 + j,none⟩ = some v):=Lib.hid (fun j v hv=>by rw [CZ.out.bel.cell (p:=⟨g,k * 51 + j,none⟩) hg];exact hc j v hv)
    have L51:=fdL_len x.1 n x.2.1 x.2.2
    have L49:=gS_len x.1 n
    have FP:Hid (∀ (j:Nat) v,(V (gS x.1 n))[j]? = some v->(V (fdL x.1 n x.2.1 x.2.2))[j]? = some v):=Lib.hid (fun j v h=>part_find _ _ _ _ j v h)
    have KF:Hid (keyOf sqp.prog 62 (.agg (V (gS x.1 n)).toArray) = some (kG (gS x.1 n))):=Lib.hid (key_fd SX.out)
    have CS:=Lib.hid (cso_cs BJ.out k hk)
    have MK:Hid (kG (gS x.1 n) ∈ (mt q.1 (cso (pL q.1) N k).flatten).map (fdK n) ↔ (k:Int) ∈ (cso (pL q.1) N k).flatten):=Lib.hid (by
     rw [mem_keys SX.out (fun y hy=>by
      obtain ⟨z,hz,rfl⟩:=List.mem_map.1 hy
      exact HSF.out _ (frq_mem (CS.out.inn.lo z hz) (by rw [QL.out];exact CS.out.inn.hi z hz))),<-FX.out]
     exact mt_mem ND.out (by rw [QL.out];exact CS.out.inn) (by rw [QL.out];exact hlt))
    have GX:Hid (gS x.1 n = gS x.1 n):=Lib.hid rfl
    clear hxk hc hqk
    generalize hLX:fdL x.1 n x.2.1 x.2.2 = LX at *
    clear hLX
    generalize hG:gS x.1 n = G at *
    have HG:=Lib.hid hG;clear hG GX
    obtain ⟨D,hD,hKb⟩:=CZ.out.map
    by_cases hin:(k:Int) ∈ (cso (pL q.1) N k).flatten
    ·have HT:Hid (D.atKey (kG G) (.lit (.bool false)) = .lit (.bool true)):=Lib.hid (hKb.yes _ (MK.out.2 hin))
     have EM:Hid (cso (pL q.1) N (k + 1) = cso (pL q.1) N k):=Lib.hid (by rw [cso,if_pos hin])
     have EW:Hid (cuC q.1 (k + 1) = cuC q.1 k):=Lib.hid (cuC_same (by rw [QL.out];exact hin))
     clear hin hKb MK
     go_wp2_with (first | (refine wpList_load_part rfl 65 _ rfl g (k * 51) rfl (V LX) _ PX.out sqp.underlying65 rfl (by rw [size51 L51];simp) ?_) | (refine wpList_store_row rfl 65 _ _ rfl wr.heap.size (V LX).toArray rfl rfl 65 (V zero51).toArray (Arr.new wr (V zero51) _ rfl) (size51 L51) (by simp [V_len,L51,zero51]) (one_V _) ?_;generalize hw6:(wr.alloc (.cells #[.int .i64 0,.int .i64 0,.int .i64 0,.int .i64 0,.int .i64 0,.int .i64 0,.int .i64 0,.int .i64 0,.int .i64 0,.int .i64 0,.int .i64 0,.int .i64 0,.int .i64 0,.int .i64 0,.int .i64 0,.int .i64 0,.int .i64 0,.int .i64 0,.int .i64 0,.int .i64 0,.int .i64 0,.int .i64 0,.int .i64 0,.int .i64 0,.int .i64 0,.int .i64 0,.int .i64 0,.int .i64 0,.int .i64 0,.int .i64 0,.int .i64 0,.int .i64 0,.int .i64 0,.int .i64 0,.int .i64 0,.int .i64 0,.int .i64 0,.int .i64 0,.int .i64 0,.int .i64 0,.int .i64 0,.int .i64 0,.int .i64 0,.int .i64 0,.int .i64 0,.int .i64 0,.int .i64 0,.int .i64 0,.int .i64 0,.int .i64 0,.int .i64 0] 65)).setRow wr.heap.size (V LX).toArray = w6;have A6:Hid (Arr w6 wr.heap.size (V LX) 65):=Lib.hid (by rw [<-hw6];exact (Arr.new wr (V zero51) _ rfl).row);have b6:Below wr.heap.size wr w6:=(by rw [<-hw6];exact arr.below_setRow ((Below.refl _ _).alloc (Nat.le_refl _) _) (Nat.le_refl _) _);have t6:wr.heap.size + 1<=w6.heap.size:=(by rw [<-hw6];simp);clear hw6;have HD:Hid (w6.ownsMap sqp.prog 62 (plainElem sqp.prog 4) mp (mt q.1 (cso (pL q.1) N k).flatten).length D):=Lib.hid (map_stay hD (b6.block _ hlm));have P6:Hid (∀ (j:Nat) v,(V G)[j]? = some v->w6.cell? ⟨wr.heap.size,0 + j,none⟩ = some v):=Lib.hid (fun j v h=>by rw [Nat.zero_add];exact A6.out.cell (FP.out j v h));have C6:=Lib.hid (CZ.out.keep b6);clear b6 hD) | (refine wpList_load_part rfl 62 _ rfl wr.heap.size 0 rfl (V G) _ P6.out sqp.underlying62 rfl (size49 L49) ?_) | (refine wpList_lookup_own_bool _ rfl _ _ 89 rfl 62 4 lawG sqp.underlying89 sqp.underlying4 (by kernel_rfl) mp _ D rfl HD.out _ _ rfl KF.out true HT.out ?_))
     go_roundw
     case rel=>exact ⟨k + 1,by omega,by go_num,by rw [EM.out,EW.out];exact C6.out⟩
     case measure=>simp [intOf];omega
    ·have HT:Hid (D.atKey (kG G) (.lit (.bool false)) = .lit (.bool false)):=Lib.hid (hKb.no _ (fun e=>hin (MK.out.1 e)))
     have KB:=Lib.hid hKb
     have EM:Hid (cso (pL q.1) N (k + 1) = cso (pL q.1) N k ++ [cyc (pL q.1) N k]):=Lib.hid (by rw [cso,if_neg hin])
     have EW:Hid (cuC q.1 (k + 1) = cuC q.1 k ++ [((cyc (pL q.1) N (k:Int)).length:Int)]):=Lib.hid (by have:=cuC_next (L:=q.1) (k:=k) (by rw [QL.out];exact hin);rwa [QL.out] at this)
     have CY:=Lib.hid (cyc_sp (s:=(r,u)) SR.out JO.out QL.out HSF.out (by omega) hlt)
     have SI:=Lib.hid (sh_it (s:=(r,u)) SR.out JO.out QL.out HSF.out hlt)
     have CPOS:0 < (cyc (pL q.1) N (k:Int)).length:=(cyc_way (f:=(k:Int)) BJ.out (by omega) (by omega)).pos
     rw [FX.out] at CY SI
     clear hin hKb MK
     go_wp2_with (first | (refine wpList_load_part rfl 65 _ rfl g (k * 51) rfl (V LX) _ PX.out sqp.underlying65 rfl (by rw [size51 L51];simp) ?_) | (refine wpList_store_row rfl 65 _ _ rfl wr.heap.size (V LX).toArray rfl rfl 65 (V zero51).toArray (Arr.new wr (V zero51) _ rfl) (size51 L51) (by simp [V_len,L51,zero51]) (one_V _) ?_;generalize hw6:(wr.alloc (.cells #[.int .i64 0,.int .i64 0,.int .i64 0,.int .i64 0,.int .i64 0,.int .i64 0,.int .i64 0,.int .i64 0,.int .i64 0,.int .i64 0,.int .i64 0,.int .i64 0,.int .i64 0,.int .i64 0,.int .i64 0,.int .i64 0,.int .i64 0,.int .i64 0,.int .i64 0,.int .i64 0,.int .i64 0,.int .i64 0,.int .i64 0,.int .i64 0,.int .i64 0,.int .i64 0,.int .i64 0,.int .i64 0,.int .i64 0,.int .i64 0,.int .i64 0,.int .i64 0,.int .i64 0,.int .i64 0,.int .i64 0,.int .i64 0,.int .i64 0,.int .i64 0,.int .i64 0,.int .i64 0,.int .i64 0,.int .i64 0,.int .i64 0,.int .i64 0,.int .i64 0,.int .i64 0,.int .i64 0,.int .i64 0,.int .i64 0,.int .i64 0,.int .i64 0] 65)).setRow wr.heap.size (V LX).toArray = w6;have A6:Hid (Arr w6 wr.heap.size (V LX) 65):=Lib.hid (by rw [<-hw6];exact (Arr.new wr (V zero51) _ rfl).row);have b6:Below wr.heap.size wr w6:=(by rw [<-hw6];exact arr.below_setRow ((Below.refl _ _).alloc (Nat.le_refl _) _) (Nat.le_refl _) _);have t6:wr.heap.size + 1<=w6.heap.size:=(by rw [<-hw6];simp);clear hw6;have HD:Hid (w6.ownsMap sqp.prog 62 (plainElem sqp.prog 4) mp (mt q.1 (cso (pL q.1) N k).flatten).length D):=Lib.hid (map_stay hD (b6.block _ hlm));have P6:Hid (∀ (j:Nat) v,(V G)[j]? = some v->w6.cell? ⟨wr.heap.size,0 + j,none⟩ = some v):=Lib.hid (fun j v h=>by rw [Nat.zero_add];exact A6.out.cell (FP.out j v h));have C6:=Lib.hid (CZ.out.keep b6);clear b6 hD) | (refine wpList_load_part rfl 62 _ rfl wr.heap.size 0 rfl (V G) _ P6.out sqp.underlying62 rfl (size49 L49) ?_) | (refine wpList_lookup_own_bool _ rfl _ _ 89 rfl 62 4 lawG sqp.underlying89 sqp.underlying4 (by kernel_rfl) mp _ D rfl HD.out _ _ rfl KF.out false HT.out ?_))
     refine (cyc_gS x.1 n G HG.out _ SX.out).mono ?_
     rintro e w7 ⟨A7,K,c7,rfl,hK,_,o7,b7⟩
     rw [CY.out.1] at hK
     have C7:=Lib.hid (C6.out.keep b7)
     have KN:K<=N:=by rw [<-hK];exact CY.out.2.1
     have K0:0 < K:=by rw [<-hK];exact CPOS
     obtain ⟨g7,e7,hg7,hg7',hc7⟩:=fs_mem o7 K0
     subst e7
     have FC:Hid (∀ W,Out mp (mp + 1) w7 W->∀ (j:Nat),j < K->∀ (t:Nat) v,(V (gS (cn (shN j x.1)) n))[t]? = some v->W.cell? ⟨g7,j * 49 + t,none⟩ = some v):=Lib.hid (fun W hW j hj t v hv=>by
      rw [World.cell?_of_block (w:=w7) (a:=⟨g7,j * 49 + t,none⟩) (hW.block g7 hg7' (.inr (by have:=C6.out.mlt;omega)))]
      exact hc7 j hj t v hv)
     have HD7:Hid (w7.ownsMap sqp.prog 62 (plainElem sqp.prog 4) mp (mt q.1 (cso (pL q.1) N k).flatten).length D):=Lib.hid (map_stay HD.out (b7.block _ C6.out.mlt))
     have s7:=b7.size
     have hlm7:=C7.out.mlt
     clear b7 o7 hc7 HT HD P6 C6 CZ PX FP
     generalize hcy:cyc (pL q.1) N (k:Int) = cy at *
     generalize hms:mt q.1 (cso (pL q.1) N k).flatten = ms at *
     have HCY:=Lib.hid hcy;have HMS:=Lib.hid hms;have HK:=Lib.hid hK
     clear hcy hms hK
     have ML:ms.length<=100000:=by
      rw [<-HMS.out];unfold mt;rw [List.length_map];have:=CS.out.inn.len;omega
     obtain ⟨wo,hwo⟩:∃ wo:World,wo = w7:=⟨_,rfl⟩
     rw [<-hwo] at FC C7 HD7 s7 hlm7 hg7'
     subst hwo
     go_wp2
     go_loopw [36] (fun i wr=>∃ j:Nat,j<=K/\i = .int .i64 j/\Out mp (mp + 1) wo wr/\∃ D:DataW Unit,wr.ownsMap sqp.prog 62 (plainElem sqp.prog 4) mp (ms.length + j) D/\Kb D ((ms ++ mt q.1 (cy.take j)).map (fdK n))) (fun i _=>K - (intOf i).toNat)
     case atStart=>exact ⟨0,Nat.zero_le _,rfl,Out.refl _ _ _,D,HD7.out,by simpa [mt] using KB.out⟩
     case round =>
      obtain ⟨j,hj,rfl,hout,D2,hD2,hK2⟩:=hrel
      have OU:=Lib.hid hout;clear hout
      have hso:=OU.out.size
      have hlm8:=hD2.lt
      by_cases hjl:j < K
      ·have hcj:cy[j]? = some (it (pL q.1) k j):=by
        have hjc:j < cy.length:=by rw [HK.out];exact hjl
        have:=CY.out.2.2 j hjc
        rw [<-this]
        simp [List.getD,hjc]
       obtain ⟨y,hy⟩:∃ y,frq q.1 (it (pL q.1) k j) = y:=⟨_,rfl⟩
       have HY:Hid (cn (shN j x.1) = y):=Lib.hid (by rw [<-hy];exact (SI.out j).2.2)
       have SY:Hid (Sf n y.1 y.2):=Lib.hid (by rw [<-hy];exact HSF.out _ (frq_mem (SI.out j).1 (by rw [QL.out];exact (SI.out j).2.1)))
       have TK:Hid (mt q.1 (cy.take (j + 1)) = mt q.1 (cy.take j) ++ [(y,0,0)]):=Lib.hid (by
        rw [List.take_add_one,hcj,mt_app,<-hy];rfl)
       have PY:Hid (∀ (t:Nat) v,(V (gS y n))[t]? = some v->wr.cell? ⟨g7,j * 49 + t,none⟩ = some v):=Lib.hid (fun t v hv=>FC.out wr OU.out j hjl t v (by rw [HY.out];exact hv))
       have M49:=gS_len y n
       have KY:Hid (keyOf sqp.prog 62 (.agg (V (gS y n)).toArray) = some (kG (gS y n))):=Lib.hid (key_fd SY.out)
       have HD2:=Lib.hid hD2;have HK2:=Lib.hid hK2
       have IK:Hid (WideAt.IsKeyLit (kG (gS y n))):=Lib.hid trivial
       have FK:Hid (fdK n (y,0,0) = kG (gS y n)):=Lib.hid rfl
       clear hcj hy hD2 hK2
       generalize gS y n = Y at *
       go_wp2_with (first | (refine wpList_load_part rfl 62 _ rfl g7 (j * 49) rfl (V Y) _ PY.out sqp.underlying62 rfl (size49 M49) ?_) | (refine wpList_store_row rfl 62 _ _ rfl wr.heap.size (V Y).toArray rfl rfl 62 (V zero49).toArray (Arr.new wr (V zero49) _ rfl) (size49 M49) (by simp [V_len,M49,zero49]) (one_V _) ?_;generalize hw8:(wr.alloc (.cells #[.int .i64 0,.int .i64 0,.int .i64 0,.int .i64 0,.int .i64 0,.int .i64 0,.int .i64 0,.int .i64 0,.int .i64 0,.int .i64 0,.int .i64 0,.int .i64 0,.int .i64 0,.int .i64 0,.int .i64 0,.int .i64 0,.int .i64 0,.int .i64 0,.int .i64 0,.int .i64 0,.int .i64 0,.int .i64 0,.int .i64 0,.int .i64 0,.int .i64 0,.int .i64 0,.int .i64 0,.int .i64 0,.int .i64 0,.int .i64 0,.int .i64 0,.int .i64 0,.int .i64 0,.int .i64 0,.int .i64 0,.int .i64 0,.int .i64 0,.int .i64 0,.int .i64 0,.int .i64 0,.int .i64 0,.int .i64 0,.int .i64 0,.int .i64 0,.int .i64 0,.int .i64 0,.int .i64 0,.int .i64 0,.int .i64 0] 62)).setRow wr.heap.size (V Y).toArray = w8;have A8:Hid (Arr w8 wr.heap.size (V Y) 62):=Lib.hid (by rw [<-hw8];exact (Arr.new wr (V zero49) _ rfl).row);have b8:Below wr.heap.size wr w8:=(by rw [<-hw8];exact arr.below_setRow ((Below.refl _ _).alloc (Nat.le_refl _) _) (Nat.le_refl _) _);have t8:wr.heap.size + 1<=w8.heap.size:=(by rw [<-hw8];simp);clear hw8;have D8:Hid (w8.ownsMap sqp.prog 62 (plainElem sqp.prog 4) mp (ms.length + j) D2):=Lib.hid (map_stay HD2.out (b8.block _ hlm8));have O8:Hid (Out mp (mp + 1) wo w8):=Lib.hid (OU.out.trans (Out.of_below b8));clear b8) | (refine wpList_load_row rfl 62 _ rfl wr.heap.size rfl 62 (V Y).toArray (0,0) _ A8.out sqp.underlying62 rfl (size49 M49) ?_) | (at_mapUpdate;refine wpList_mapUpdate_own _ rfl _ _ _ 89 rfl 62 4 lawG sqp.underlying89 (plainElem sqp.prog 4) mp (ms.length + j) D2 rfl D8.out (by unfold maxLen;omega) _ _ (kG Y) rfl rfl KY.out (.lit (.bool true)) [] (plainElem_bool sqp.underlying4 true) ?_;intro w9 hown9 hgrow9;have D9:=Lib.hid hown9;have O9:Hid (Out mp (mp + 1) wo w9):=Lib.hid (O8.out.trans ⟨hgrow9.os,hgrow9.tape,hgrow9.output,hgrow9.size,fun k h1 h2=>hgrow9.block k h1 (by simp;omega)⟩);clear hown9 hgrow9))
       go_roundw
       case rel=>exact ⟨j + 1,by omega,by go_num,O9.out,_,D9.out,by rw [TK.out,<-List.append_assoc,List.map_append,List.map_cons,List.map_nil,FK.out];exact HK2.out.put IK.out⟩
       case measure=>simp [intOf];omega
      ·have hjK:j = K:=by omega
       subst hjK
       have TA:Hid (cy.take j = cy):=Lib.hid (List.take_of_length_le (by rw [HK.out];exact Nat.le_refl _))
       have HD2:=Lib.hid hD2;have HK2:=Lib.hid hK2
       have OW:Hid (wr.ownsRow w1.heap.size 3 1 (.slice C (cuC q.1 k).length cc) (cuC q.1 k).length (V (cuC q.1 k))):=Lib.hid (own_stay C7.out.own (fun b e=>OU.out.block b (C7.out.own.lt b e).2 (by
        have:b ≠ mp:=fun h=>C7.out.ne (by rw [e,h])
        omega)))
       have BW:Hid (Below w1.heap.size w1 wr):=Lib.hid (C7.out.bel.trans (OU.out.below C7.out.lo C7.out.bel.size))
       have hbw:=BW.out.size
       have hcl:(cuC q.1 k).length<=1000:=by have:=cuC_len (L:=q.1) (k:=k) (by rw [QL.out];exact BJ.out) (by rw [QL.out];exact hk);omega
       have MS:Hid (mt q.1 (cso (pL q.1) N (k + 1)).flatten = ms ++ mt q.1 cy):=Lib.hid (by rw [EM.out,List.flatten_append,mt_app,HMS.out];simp)
       have LC:Hid ((ms ++ mt q.1 cy).length = ms.length + j):=Lib.hid (by rw [List.length_append];unfold mt;rw [List.length_map,HK.out])
       have CL:Hid ((cy.length:Int) = j):=Lib.hid (by rw [HK.out])
       rw [TA.out] at HK2
       clear hD2 hK2
       go_wp2_with (at_builtin;refine wpList_append_one2 wr _ _ rfl _ _ 23 rfl w1.heap.size 3 i0 _ 8 1 sqp.underlying23 hi0 hz0 hz1 rfl hz2 rfl _ _ _ rfl OW.out rfl rfl ?c4 (by decide) (by omega) ?_)
       case c4=>omega
       intro v' w' ho hg hb'
       have HN:Hid (Cz w1 w' mp n (mt q.1 (cso (pL q.1) N (k + 1)).flatten) v' (cuC q.1 (k + 1))):=Lib.hid (by
        rw [MS.out,EW.out,CL.out]
        refine ⟨⟨D2,?_,HK2.out⟩,by simpa [V] using ho,BW.out.trans ((Below.refl _ _).grown hg (by omega) (fun b' e=>(OW.out.lt b' e).1)),C7.out.lo,fun e=>?_⟩
        ·rw [LC.out]
         exact map_stay HD2.out (hg.block mp HD2.out.lt (fun e=>C7.out.ne e.symm))
        ·rcases hb' with q' | ⟨k',q',hk'⟩
         ·exact C7.out.ne (by rw [<-q',e])
         ·rw [e] at q';injection q' with q';have:=HD2.out.lt;omega)
       clear ho hg hb' OW
       go_wp2
       go_roundw
       case rel=>exact ⟨k + 1,by omega,by go_num,HN.out⟩
       case measure=>simp [intOf];omega
   ·obtain rfl:k = N:=by omega
    have hcl:(cuC q.1 k).length<=1000:=by have:=cuC_len (L:=q.1) (k:=k) (by rw [QL.out];exact BJ.out) (by rw [QL.out];exact hk);omega
    have hcp:0 < (cuC q.1 k).length:=by have:=cuC_pos (L:=q.1) (by rw [QL.out];exact BJ.out) (by rw [QL.out];exact HP);rwa [QL.out] at this
    obtain ⟨g,rfl,hg1,hg2⟩:=own_pos CZ.out.own hcp
    have OWN:=Lib.hid CZ.out.own
    have BZ:=Lib.hid (B1.out.trans (CZ.out.bel.mono B1.out.size))
    have bs:=B1.out.size
    clear CZ FM SR JO
    generalize cuC q.1 k = ls at *
    have CS:=Lib.hid (sqp.slices_Sort_int g 0 cc ls wr (holds_row OWN.out) hg2 (by omega))
    go_wp2_with fail
    refine CS.out.mono ?_
    rintro e w8 ⟨rfl,nn,os,hw8⟩
    have O8:Hid (w8.ownsRow w1.heap.size 3 1 (.slice (some ⟨g,0,none⟩) (ls.mergeSort fun x y=>decide (x<=y)).length cc) (ls.mergeSort fun x y=>decide (x<=y)).length (V (ls.mergeSort fun x y=>decide (x<=y)))):=Lib.hid (by rw [hw8];exact put_own (by simp) OWN.out)
    have G8:wr.grownBy w8 (some g):=by rw [hw8];exact put_grown _
    have B8:=Lib.hid (BZ.out.trans ((Below.refl _ _).grown G8 BZ.out.size (fun b e=>by injection e with e;omega)))
    clear hw8 G8 CS
    have CR:=sqp.slices_Reverse_int g 0 cc (ls.mergeSort fun x y=>decide (x<=y)) w8 (holds_row O8.out) (by simp;omega)
    rw [List.length_mergeSort] at CR
    have CRH:=Lib.hid CR;clear CR
    go_wp2_with fail
    refine CRH.out.mono ?_
    rintro e w9 ⟨rfl,nn2,hw9⟩
    have O9:Hid (w9.ownsRow w1.heap.size 3 1 (.slice (some ⟨g,0,none⟩) ls.length cc) ls.length (V (sortD ls))):=Lib.hid (by
     have h:=put_own (n:=nn2) (os:=#[]) (m:=(ls.mergeSort fun x y=>decide (x<=y)).reverse) (by simp) O8.out
     rw [grow_none,<-hw9,sort_desc,sortD_len] at h
     exact h)
    have G9:w8.grownBy w9 (some g):=by
     rw [hw9]
     have h:=put_grown (w:=w8) (g:=g) (n:=nn2) (os:=#[]) (ls.mergeSort fun x y=>decide (x<=y)).reverse.toArray
     rwa [grow_none] at h
    have B9:=Lib.hid (B8.out.trans ((Below.refl _ _).grown G9 B8.out.size (fun b e=>by injection e with e;omega)))
    clear hw9 G9 CRH
    have hcc:=(sf.own_cap O9.out).2
    have R9:=Lib.hid (Row.of_own O9.out)
    have HL:Hid ((cuL r u).length = ls.length):=Lib.hid (by rw [HF.out,sortD_len])
    go_wp2_with fail
    go_ret2
    refine ⟨some ⟨g,0,none⟩,cc,by (rw [HL.out,HB.out] <;> rfl),?_,by rw [HL.out];exact hcc,B9.out⟩
    rw [HL.out,HF.out]
    exact R9.out.wider bs (Nat.le_refl _) (Nat.le_refl _)
 ·have HE:=Lib.hid (orbB_no (fin_shut h1))
  clear h1
  go_wp2_with fail
  go_ret2
  exact cu_no HE.out B1.out
end Go.Proofs.Ytgcnemkhppkkcaa.orb

namespace Go.Proofs.Ytgcnemkhppkkcaa.orb
open Go.ChangeShapes Go.WideShapes Go.ChangeAt Go.RowKit
open mem ints arr pm sf
set_option linter.unusedVariables false
set_option maxRecDepth 100000
end Go.Proofs.Ytgcnemkhppkkcaa.orb

namespace Go.Proofs.Ytgcnemkhppkkcaa.orb
open pm
set_option linter.unusedVariables false
set_option maxRecDepth 100000
def tup (m:Nat):Nat->List (List Int)
 | 0=>[[]]
 | k + 1=>(rng m).flatMap fun x=>(tup m k).map fun l=>x :: l
theorem mem_tup {m:Nat}:∀ {k:Nat} {l:List Int},l.length = k->(∀ x ∈ l,0<=x/\x < m)->l ∈ tup m k
 | 0,l,h,_=>by
  have:=List.eq_nil_of_length_eq_zero h
  subst this
  simp [tup]
 | k + 1,l,h,hx=>by
  cases l with
  | nil=>simp at h
  | cons a l =>
   unfold tup
   refine List.mem_flatMap.2 ⟨a,mem_rng.2 (hx a (by simp)),List.mem_map.2 ⟨l,mem_tup (by simpa using h) (fun x q=>hx x (List.mem_cons_of_mem _ q)),rfl⟩⟩
def prm (n:Nat):List (List Int):=(tup n n).filter okB
theorem mem_prm {n:Nat} {l:List Int} (h:Ok l) (hl:l.length = n):l ∈ prm n:=by
 refine List.mem_filter.2 ⟨mem_tup hl (fun x hx=>?_),h.b⟩
 obtain ⟨i,hi,rfl⟩:=List.mem_iff_getElem.1 hx
 have h1:=h.lo i hi;have h2:=h.hi i hi
 rw [List.getD_eq_getElem?_getD,List.getElem?_eq_getElem hi,Option.getD_some] at h1 h2
 omega
def frm (n:Nat):List Sur:=(prm n).flatMap fun R=>((prm n).filter fun U=>transB R U && decide (cn (R,U) = (R,U))).map fun U=>(R,U)
theorem mem_frm {n:Nat} {x:Sur} (h:Sf n x.1 x.2) (hc:cn x = x):x ∈ frm n:=by
 obtain ⟨R,U⟩:=x
 refine List.mem_flatMap.2 ⟨R,mem_prm h.r h.lr,List.mem_map.2 ⟨U,List.mem_filter.2 ⟨mem_prm h.u h.lu,?_⟩,rfl⟩⟩
 have ht:transB R U = true:=transB_iff.2 (by rw [h.lr];exact h)
 simp [ht,hc]
set_option maxRecDepth 100000 in
theorem frm_few:∀ n:Fin 5,(frm n.val).length<=26:=by decide +kernel
theorem few_len {n k:Nat} {s:Sur} {q:LW} (hs:Sf n s.1 s.2) (hn:n<=4) (h:Oj n s k q):q.1.length<=26:=by
 refine Nat.le_trans (g_sub_len q.1 (frm n) h.nd (fun x hx=>?_)) (frm_few ⟨n,by omega⟩)
 obtain ⟨i,hi,e⟩:=List.mem_iff_getElem.1 hx
 have hi2:i < q.2.length:=by rw [h.oi.len];exact hi
 obtain ⟨_,w2⟩:=h.word i _ x (List.getElem?_eq_getElem hi2) (by rw [List.getElem?_eq_getElem hi,e])
 exact mem_frm (h.oi.sf x hx) (by rw [w2];exact cn_cn (runS_sf _ s hs))
theorem orun_some {n:Nat} {s:Sur} (hs:Sf n s.1 s.2) (hn:n<=4):∀ (f k:Nat) (q:LW),Oj n s k q->k<=q.1.length->27<=f + k->∃ q',orun f k q = some q'
 | 0,k,q,h,hk,hf=>by have:=few_len hs hn h;omega
 | f + 1,k,q,h,hk,hf=>by
  unfold orun
  by_cases h1:k < q.1.length
  ·rw [if_pos h1]
   have h2:=h.two hs h1
   have:=few_len hs hn h2
   rw [if_neg (by omega)]
   obtain ⟨r,e,_⟩:=addL_sub k 84 q
   obtain ⟨r2,e2,_⟩:=addL_sub k 83 (addL k 84 q)
   refine orun_some hs hn f (k + 1) _ h2 ?_ (by omega)
   show _<=(addL k 83 (addL k 84 q)).1.length
   rw [e2,e]
   simp;omega
  ·rw [if_neg h1]
   exact ⟨q,rfl⟩
theorem orb_few {n:Nat} {s:Sur} (hs:Sf n s.1 s.2) (hn:n<=4):∃ q,orb s = some q/\q.1.length<=26:=by
 obtain ⟨q,e⟩:=orun_some hs hn 122 0 _ (Oj.start hs) (Nat.zero_le _) (by omega)
 exact ⟨q,e,few_len hs hn (orb_oj hs e)⟩
end Go.Proofs.Ytgcnemkhppkkcaa.orb

namespace Go.Proofs.Ytgcnemkhppkkcaa.rw
open Go.ChangeShapes Go.WideShapes Go.ChangeAt Go.RowKit
open mem ints arr pm permOk permOf inv fns sf gl mk lw la Go.Proofs.Ytgcnemkhppkkcaa.wd
set_option linter.unusedVariables false
set_option maxRecDepth 100000
end Go.Proofs.Ytgcnemkhppkkcaa.rw

namespace Go.Proofs.Ytgcnemkhppkkcaa.orb
open pm sf gl Go.Proofs.Ytgcnemkhppkkcaa.rw Go.Proofs.Ytgcnemkhppkkcaa.wd
set_option linter.unusedVariables false
set_option maxRecDepth 100000
theorem tr_of {N:Nat} {r u:List Int} (s:Sf N r u):transB r u = true:=transB_iff.2 (by rw [s.lr];exact s)
theorem iso_cn {N:Nat} {r u r' u':List Int} (s:Sf N r u) (s':Sf N r' u') (e:cn (r,u) = cn (r',u')):isoF r u r' u' = true:=by
 rw [iso_yes (tr_of s) (tr_of s')]
 unfold cn at e
 rw [same_eq,decide_eq_true_iff]
 rw [Prod.mk.injEq]
 exact ⟨congrArg Prod.fst e,congrArg Prod.snd e⟩
theorem om_start {N:Nat} {r u:List Int} (s:Sf N r u) (h4:N<=4) :
  ∃ q,orb (r,u) = some q/\orbB r u = true/\orbL r u = q.1/\idxF r u = q.1.length/\0 < q.1.length/\q.1.length<=26:=by
 obtain ⟨q,h1,h2⟩:=orb_few (s:=(r,u)) s h4
 have hF:orbF r u = some q:=by rw [orbF_yes (tr_of s),h1]
 obtain ⟨e1,e2⟩:=orbL_some hF
 refine ⟨q,h1,e2,e1,by rw [idxF,e2,e1];rfl,?_,h2⟩
 have:=(orb_oj (s:=(r,u)) s h1).head
 exact (List.getElem?_eq_some_iff.1 this).1
end Go.Proofs.Ytgcnemkhppkkcaa.orb

namespace Go.Proofs.Ytgcnemkhppkkcaa.orb
open pm cy sf arr gl lw
set_option linter.unusedVariables false
set_option maxRecDepth 100000
theorem cu_cast (l:List (List Int)):(l.map fun xs=>(xs.length:Int)).sum = (((l.map List.length).sum:Nat):Int):=by
 induction l with
 | nil=>rfl
 | cons a l ih=>simp only [List.map_cons,List.sum_cons,ih];omega
theorem cu_perm {l m:List Int} (h:l.Perm m):l.sum = m.sum:=by
 induction h with
 | nil=>rfl
 | cons x _ ih=>simp [ih]
 | swap x y l=>simp only [List.sum_cons];omega
 | trans _ _ h1 h2=>rw [h1,h2]
theorem cu_take:∀ (l:List Int) (k:Nat),(∀ x ∈ l,0<=x)->0<=(l.take k).sum/\(l.take k).sum<=l.sum
 | [],k,_=>by simp
 | a :: l,0,h=>by
  have a0:=h a (List.mem_cons_self ..)
  have:=cu_take l l.length (fun x hx=>h x (List.mem_cons_of_mem _ hx))
  rw [List.take_of_length_le (Nat.le_refl _)] at this
  simp only [List.take_zero,List.sum_nil,List.sum_cons];omega
 | a :: l,k + 1,h=>by
  have a0:=h a (List.mem_cons_self ..)
  have:=cu_take l k (fun x hx=>h x (List.mem_cons_of_mem _ hx))
  simp only [List.take_succ_cons,List.sum_cons];omega
theorem cn_shN {n:Nat} {s:Sur} (h:Sf n s.1 s.2):∀ j,cn (shN j s) = cn (shN j (cn s))
 | 0=>(cn_cn h).symm
 | j + 1=>by rw [<-cn_sh h j,<-cn_sh (cn_sf h) j,cn_shN h j]
theorem spGo_congr {s x:Sur} (h:∀ j,cn (shN j s) = cn (shN j x)):∀ f k,spGo s f k = spGo x f k
 | 0,k=>rfl
 | f + 1,k=>by
  have h0:cn s = cn x:=h 0
  rw [spGo,spGo,h k,h0,spGo_congr h f (k + 1)]
structure Fcu (N:Nat) (r u:List Int) (k n:Nat):Prop where
 sp:spF r u = (k:Int)
 ls:lsF r u = (n:Int)
 k1:1<=k
 k2:k<=120
 n1:1<=n
 dv:n % k = 0
 ok:orbB r u = true
 len:0 < (cuL r u).length
 le:(cuL r u).length<=26
 sum:(cuL r u).sum = idxF r u
 tk:∀ j,0<=((cuL r u).take j).sum/\((cuL r u).take j).sum<=1000
 has:(k:Int) ∈ cuL r u
 back:cn (shN k (r,u)) = cn (r,u)
 no:∀ j,0 < j->j < k->¬ cn (shN j (r,u)) = cn (r,u)
theorem ls_pos:∀ {L:List Cy} {n:Nat},0 < n->(∀ x ∈ L,∃ w h:Nat,x = ((w:Int),(h:Int))/\1<=w/\1<=h/\w<=24)->0 < lsG L n
 | [],n,h,_=>h
 | x :: t,n,h,hx=>by
  obtain ⟨w,hh,rfl,h1,h2,_⟩:=hx x (by simp)
  rw [lsG]
  refine ls_pos (Nat.lcm_pos h ?_) (fun y hy=>hx y (by simp [hy]))
  simp only [need,Int.toNat_natCast]
  exact (need_le w hh h1).1
theorem fcu_ok {N:Nat} {r u:List Int} (s:Sf N r u) (h4:N<=4):∃ k n,Fcu N r u k n:=by
 obtain ⟨q,hq,hB,hL,hI,hp,h26⟩:=om_start s h4
 have J:=orb_oj (s:=(r,u)) s hq
 have ht:=tr_of s
 have hsf:=J.oi.sf
 have bj:=pL_bij (s:=(r,u)) s J
 have h0:frq q.1 ((0:Nat):Int) = cn (r,u):=frq_at J.head
 have S:=sh_it (s:=(r,u)) s J rfl hsf hp
 obtain ⟨c1,c2,c3⟩:=cyc_sp (s:=(r,u)) s J rfl hsf (by omega) hp
 have hw:=cyc_way (f:=((0:Nat):Int)) bj (by omega) (by omega)
 have hpos:=hw.pos
 have hper:=it_per (x:=((0:Nat):Int)) bj (by omega) (by omega)
 have hmul:=it_mul (x:=((0:Nat):Int)) bj (by omega) (by omega)
 generalize hk:(cyc (pL q.1) q.1.length ((0:Nat):Int)).length = k at *
 have key:∀ j,cn (shN j (r,u)) = frq q.1 (it (pL q.1) ((0:Nat):Int) j):=fun j=>by
  rw [cn_shN (s:=(r,u)) s j,<-h0];exact (S j).2.2
 have key0:cn (r,u) = frq q.1 ((0:Nat):Int):=h0.symm
 have only:∀ j,cn (shN j (r,u)) = cn (r,u)->it (pL q.1) ((0:Nat):Int) j = ((0:Nat):Int):=fun j he=>by
  rw [key j,key0] at he
  exact frq_inj J.nd (S j).1 (S j).2.1 (by omega) (by omega) he
 have small:∀ j,j < k->it (pL q.1) ((0:Nat):Int) j = ((0:Nat):Int)->j = 0:=fun j hj he=>by
  have e3:=c3 j hj
  have e4:=c3 0 hpos
  have e5:it (pL q.1) ((0:Nat):Int) 0 = ((0:Nat):Int):=rfl
  exact nodup_getD hw.inn.nd (by rw [hk];exact hj) (by rw [hk];exact hpos) (by rw [e3,e4,he,e5])
 have cl:=cyl_all ht
 have hn1:=ls_pos (L:=cyF r u) (n:=1) (by omega) cl.2.2
 have hback:=ls_back ht
 generalize hn:lsG (cyF r u) 1 = n at *
 have eC:cuL r u = sortD (cuC q.1 q.1.length):=by rw [cuL_yes hB,hL]
 have pC:=sortD_perm (cuC q.1 q.1.length)
 have sumC:(cuL r u).sum = (q.1.length:Int):=by
  rw [eC,cu_perm pC,cuC,cu_cast,cso_len bj]
 have lenC:(cuL r u).length = (cso (pL q.1) q.1.length q.1.length).length:=by rw [eC,sortD_len,cuC,List.length_map]
 have pos:∀ x ∈ cuL r u,0<=x:=fun x hx=>by
  rw [eC,pC.mem_iff,cuC] at hx
  obtain ⟨c,_,rfl⟩:=List.mem_map.1 hx
  omega
 have hcs:=cso_cs bj q.1.length (Nat.le_refl _)
 have hmem:((k:Nat):Int) ∈ cuL r u:=by
  rw [eC,pC.mem_iff,cuC,List.mem_map]
  have h1:((0:Nat):Int) ∈ (cso (pL q.1) q.1.length q.1.length).flatten:=hcs.all 0 hp
  obtain ⟨c,hc,hxc⟩:=List.mem_flatten.1 h1
  obtain ⟨i,hi,rfl⟩:=cso_cyc q.1.length (Nat.le_refl _) c hc
  have hp':=per_same bj (f:=(i:Int)) (by omega) (by omega) hxc
  exact ⟨_,hc,by rw [<-hp',hk]⟩
 refine ⟨k,n,by rw [spF,if_pos ht,spGo_congr (x:=frq q.1 ((0:Nat):Int)) (fun j=>by rw [h0];exact cn_shN (s:=(r,u)) s j),c1],by rw [lsF_yes ht,hn],hpos,by omega,hn1,?_,hB,List.length_pos_of_mem hmem,by rw [lenC];have:=hcs.len;omega,by rw [sumC,hI],fun j=>?_,hmem,by rw [key k,hper];exact h0,fun j j1 j2 he=>?_⟩
 ·have e1:=only n hback
  have e2:it (pL q.1) ((0:Nat):Int) n = it (pL q.1) ((0:Nat):Int) (n % k):=by
   have:it (pL q.1) ((0:Nat):Int) n = it (pL q.1) ((0:Nat):Int) (k * (n / k) + n % k):=by rw [Nat.div_add_mod]
   rw [this,<-it_add,hmul]
  rw [e2] at e1
  exact small _ (Nat.mod_lt _ hpos) e1
 ·have:=cu_take (cuL r u) j pos
  rw [sumC] at this
  omega
 ·have:=small j j2 (only j he)
  omega
theorem iso_no {N:Nat} {r u r' u':List Int} (s:Sf N r u) (s':Sf N r' u') (e:¬ cn (r,u) = cn (r',u')):isoF r u r' u' = false:=by
 rw [iso_yes (tr_of s) (tr_of s'),same_eq,decide_eq_false_iff_not]
 intro h
 rw [Prod.mk.injEq] at h
 exact e (Prod.ext h.1 h.2)
theorem sh_fst {N:Nat} {s:Sur} (h:Sf N s.1 s.2):shR s.1 s.2 = (shearS s).1/\shU s.1 s.2 = (shearS s).2:=by
 have ht:=tr_of h
 exact ac_yes shearS ht
end Go.Proofs.Ytgcnemkhppkkcaa.orb

namespace Go.Proofs.Ytgcnemkhppkkcaa.orb
open Go.ChangeShapes Go.WideShapes Go.ChangeAt Go.RowKit
open mem ints arr pm sf
set_option linter.unusedVariables false
set_option maxRecDepth 100000
structure Cst (s:Sur) (N:Nat) (w wr:World) (bs bx:Nat) (Ps Qs:Option Addr) (cs ds:Nat) (x:Value × Value) (j:Nat):Prop where
 boxs:Arr wr bs [.slice Ps N cs,.slice Qs N ds] 25
 boxx:Arr wr bx [x.1,x.2] 25
 fst:∃ l h,Svl wr l h (.agg #[.slice Ps N cs,.slice Qs N ds]) s.1 s.2/\h<=bs
 snd:∃ l h P Q c d,x = (.slice P N c,.slice Q N d)/\Svl wr l h (.agg #[.slice P N c,.slice Q N d]) (shN j s).1 (shN j s).2
 bel:Below w.heap.size w wr
 lt:w.heap.size<=bs
 lt2:bs < bx
theorem Cst.keep {s:Sur} {N:Nat} {w wr w':World} {bs bx:Nat} {Ps Qs:Option Addr} {cs ds:Nat} {x:Value × Value} {j:Nat} (h:Cst s N w wr bs bx Ps Qs cs ds x j) (hb:Below wr.heap.size wr w'):Cst s N w w' bs bx Ps Qs cs ds x j:=by
 obtain ⟨l,hh,h1,h2⟩:=h.fst
 obtain ⟨l',hh',P,Q,c,d,e,h3⟩:=h.snd
 exact ⟨h.boxs.keep hb h.boxs.lt,h.boxx.keep hb h.boxx.lt,⟨l,hh,h1.keep hb h1.top,h2⟩,⟨l',hh',P,Q,c,d,e,h3.keep hb h3.top⟩,h.bel.trans (hb.mono h.bel.size),h.lt,h.lt2⟩
theorem Cst.put {s:Sur} {N:Nat} {w wr:World} {bs bx:Nat} {Ps Qs P Q:Option Addr} {cs ds c d l hh:Nat} {x:Value × Value} {j:Nat} (h:Cst s N w wr bs bx Ps Qs cs ds x j)
  (hs:Svl wr l hh (.agg #[.slice P N c,.slice Q N d]) (shN (j + 1) s).1 (shN (j + 1) s).2) (hl:bx < l) :
  Cst s N w (wr.setRow bx #[.slice P N c,.slice Q N d]) bs bx Ps Qs cs ds (.slice P N c,.slice Q N d) (j + 1):=by
 have h1:=h.lt;have h2:=h.lt2
 obtain ⟨l0,h0,a1,a2⟩:=h.fst
 exact ⟨h.boxs.rowOther (by omega),h.boxx.row,⟨l0,h0,a1.out ((Out.refl bx (bx + 1) wr).row_ (Nat.le_refl _) (Nat.lt_succ_self _) _) (.inl (by omega)),a2⟩,⟨_,_,_,_,_,_,rfl,hs.out ((Out.refl 0 (bx + 1) wr).row_ (Nat.zero_le _) (Nat.lt_succ_self _) _) (.inr (by omega))⟩,below_setRow h.bel (by omega) _,h1,h2⟩
end Go.Proofs.Ytgcnemkhppkkcaa.orb

namespace Go.Proofs.Ytgcnemkhppkkcaa.th
open Go.ChangeShapes Go.WideShapes Go.ChangeAt Go.RowKit
open mem ints
set_option linter.unusedVariables false
set_option maxRecDepth 100000
set_option maxHeartbeats 400000 in
theorem total_any (A:Option Addr) (n c:Nat) (xs:List Int) (hi:Nat) (w:World) (hx:Rd w hi A n (V xs)) (hn:n<=1000) (hs:∀ k,0<=(xs.take k).sum/\(xs.take k).sum<=1000) :
  Calls sqp.prog 32 #[.slice A n c] w fun e w'=>e = .returned (.int .i64 xs.sum)/\Below w.heap.size w w':=by
 have lx:xs.length = n:=by simpa [V] using hx.1
 have LX:=Lib.hid lx;clear lx
 have HX:=Lib.hid hx;clear hx
 have HS:=Lib.hid hs;clear hs
 go_enter sqp.func32,sqp.ntmps32
 go_wp2
 go_loopw [3,8] (fun t i wr=>∃ k:Nat,k<=n/\i = .int .i64 k/\t = .int .i64 (xs.take k).sum/\Drawn w wr) (fun _ i _=>n - (intOf i).toNat)
 case atStart=>exact ⟨0,Nat.zero_le _,rfl,rfl,⟨0,rfl⟩⟩
 case round =>
  obtain ⟨k,hk,rfl,rfl,hdr⟩:=hrel
  have HD:=Lib.hid hdr;clear hdr
  by_cases hlt:k < n
  ·obtain ⟨g,off,u,rfl,_,hxu,hcx⟩:=HX.out.at_ hlt
   obtain ⟨s,hxs,rfl⟩:=V_at hxu
   rw [<-HD.out.cell] at hcx
   have e:(xs.take (k + 1)).sum = (xs.take k).sum + s:=by rw [List.take_add_one,hxs];simp
   have hw:IntKind.i64.wrap ((xs.take k).sum + s) = (xs.take (k + 1)).sum:=by
    rw [<-e];have:=HS.out (k + 1);exact IntWalk.i64_in _ (by omega)
   clear e hxs hxu
   generalize (xs.take k).sum = t at *
   generalize ht':(xs.take (k + 1)).sum = t' at *
   have HT:=Lib.hid ht';clear ht'
   go_wp2
   go_roundw
   case rel=>exact ⟨k + 1,by omega,by go_num,by rw [HT.out],HD.out⟩
   case measure=>simp [intOf];omega
  ·obtain rfl:k = n:=by omega
   have e:(xs.take k).sum = xs.sum:=by rw [List.take_of_length_le (by rw [LX.out];exact Nat.le_refl _)]
   rw [e]
   go_wp2
   go_ret
   exact ⟨rfl,HD.out.below _⟩
set_option maxHeartbeats 400000 in
theorem has_any (A:Option Addr) (n c:Nat) (xs:List Int) (z:Int) (hi:Nat) (w:World) (hx:Rd w hi A n (V xs)) (hn:n<=1048576) :
  Calls sqp.prog 33 #[.slice A n c,.int .i64 z] w fun e w'=>e = .returned (.bool (decide (z ∈ xs)))/\Below w.heap.size w w':=by
 have lx:xs.length = n:=by simpa [V] using hx.1
 have LX:=Lib.hid lx;clear lx
 have HX:=Lib.hid hx;clear hx
 go_enter sqp.func33,sqp.ntmps33
 go_wp2
 go_loopw [9] (fun i wr=>∃ k:Nat,k<=n/\i = .int .i64 k/\(∀ j,j < k->xs[j]? ≠ some z)/\Drawn w wr) (fun i _=>n - (intOf i).toNat)
 case atStart=>exact ⟨0,Nat.zero_le _,rfl,fun j hj=>by omega,⟨0,rfl⟩⟩
 case round =>
  obtain ⟨k,hk,rfl,hno,hdr⟩:=hrel
  have HD:=Lib.hid hdr;have NO:=Lib.hid hno;clear hdr hno
  by_cases hlt:k < n
  ·obtain ⟨g,off,u,rfl,_,hxu,hcx⟩:=HX.out.at_ hlt
   obtain ⟨s,hxs,rfl⟩:=V_at hxu
   rw [<-HD.out.cell] at hcx
   have HXS:=Lib.hid hxs;clear hxs hxu
   by_cases hst:s = z
   ·subst hst
    have e:Hid (decide (s ∈ xs) = true):=Lib.hid (decide_eq_true (List.mem_of_getElem? HXS.out))
    go_wp2
    go_ret
    exact ⟨ret_bool e.out.symm,HD.out.below _⟩
   ·have hb:(s == z) = false:=by simpa using hst
    have HST:=Lib.hid hst;clear hst
    go_wp2
    go_roundw
    case rel=>exact ⟨k + 1,by omega,by go_num,fun j hj q=>by
     by_cases e:j = k
     ·subst e;rw [HXS.out] at q;exact HST.out (Option.some.inj q)
     ·exact NO.out j (by omega) q,HD.out⟩
    case measure=>simp [intOf];omega
  ·obtain rfl:k = n:=by omega
   have e:Hid (decide (z ∈ xs) = false):=Lib.hid (decide_eq_false (fun q=>by
    obtain ⟨j,hj,e⟩:=List.mem_iff_getElem.1 q
    exact NO.out j (by rw [<-LX.out];exact hj) (by rw [List.getElem?_eq_getElem hj,e])))
   go_wp2
   go_ret
   exact ⟨ret_bool e.out.symm,HD.out.below _⟩
end Go.Proofs.Ytgcnemkhppkkcaa.th

namespace Go.Proofs.Ytgcnemkhppkkcaa.sqb
open Go.ChangeShapes Go.WideShapes Go.ChangeAt Go.RowKit
open Go mem ints sf sq sqw cur
set_option linter.unusedVariables false
set_option maxRecDepth 100000
theorem u_clo (xs:List Int):∀ v ∈ U xs,clo 20 v = true:=by
 intro v hv
 simp only [U,List.mem_map] at hv
 obtain ⟨x,_,rfl⟩:=hv
 rfl
theorem rd_on {W:World} {ws:Array Wn} {A:Option Addr} {n:Nat} {xs:List Value} (h:Rd (wnW W ws) ws.size A n xs) (τ:Tape):Rd (retape τ (wnW W ws)) (retape τ (wnW W ws)).heap.size A n xs:=by
 have e:ws.size = (wnW W ws).heap.size:=by simp [wnW]
 rw [e] at h
 exact h
theorem bytes_new {W:World} {ws:Array Wn} {A:Option Addr} {n c:Nat} {l:List Int} (hw:WnOk W ws) (rd:Rd W W.heap.size A n (U l)) {b:Nat} (hv:Value.okWide Try.prog W .any b 22 (.slice A n c)) :
  ∃ (more:Array Wn) (A':Option Addr),WnOk W (ws ++ more)/\(∀ rest:Array Wn,(∀ τ:Tape,Rd (retape τ (wnW W (ws ++ more ++ rest))) (retape τ (wnW W (ws ++ more ++ rest))).heap.size A' n (U l))/\(∀ C:Cal,@VR C (wnB (ws ++ more ++ rest)) (.slice A' n c) (.slice A n c))/\∀ C:Cal,@VR C (wnB (wnS (ws ++ more ++ rest))) (.slice A' n c) (.slice A' n c)):=by
 have hk:Cell.okWide Try.prog W .any b 22 (.slice A n c):=by
  have h:=hv
  unfold Value.okWide at h
  rw [Try.underlying22] at h
  exact h
 have s0:=slot_of Try.underlying22 hk rd
 obtain ⟨m0,A0,w0,t0⟩:=slot_new hw s0 (u_clo l)
 have z0:A = none->n = 0:=fun e=>by
  subst e
  rcases Nat.eq_zero_or_pos n with z | z
  ·exact z
  ·obtain ⟨g,off,e,_⟩:=rd.2.2 z;cases e
 refine ⟨m0,A0,w0,fun rest=>?_⟩
 have q0:Slot (ws ++ m0 ++ rest) (U l) A0 A:=t0.ext rest
 exact ⟨fun τ=>rd_on (rd_slot q0 rd.1 z0) τ,fun C=>@Slot.vr _ _ _ _ _ _ C q0,fun C=>@Slot.vrS _ _ _ _ _ _ C q0⟩
end Go.Proofs.Ytgcnemkhppkkcaa.sqb

namespace Go.Proofs.Ytgcnemkhppkkcaa.cur
open Go.ChangeShapes Go.WideShapes Go.ChangeAt Go.RowKit
open mem
theorem open_B {H:Type} {enc:TypeId × Value->H} {P:Program} {W:World} {t e:TypeId} {A:Option Addr} {n c:Nat} {d:DataW H} {ps:List MemPlace}
  (ht:P.underlying t = some (.slice e)) (he:P.underlying e = some (.int .u8)) (hc:P.cellsOf e = 1) (h:DataW.Trod enc P W 0 (fun _=>true) true t (.slice A n c) d ps) :
  ∃ xs:List Int,Rd W W.heap.size A n (U xs)/\n<=c/\c<=maxLen/\Bytes xs:=by
 obtain ⟨fuel,hf⟩:=h
 rcases open_ints ht he hc hf with ⟨hcs,_⟩ | ⟨x,l,cap,ss,hcs,_,hl,hm,hz,_,hcell,hwz⟩
 ·simp [Value.cells] at hcs
  obtain ⟨rfl,rfl,rfl⟩:=hcs
  exact ⟨[],⟨rfl,Nat.le_refl _,fun h=>absurd h (by omega)⟩,Nat.le_refl _,by simp,fun z hz=>by cases hz⟩
 ·simp [Value.cells] at hcs
  obtain ⟨rfl,rfl,rfl⟩:=hcs
  have hz':ss.length = c:=by simpa using hz
  refine ⟨ss.take n,Rd.of_cells (by simp [U];omega) (fun i hi=>?_),hl,hm,fun z hz=>?_⟩
  ·rw [hcell i (by omega)]
   simp [U,hi,List.getD,List.getElem?_eq_getElem (show i < ss.length by omega)]
  ·have:=hwz z (List.mem_of_mem_take hz)
   simpa [Lit.wf,IntKind.min,IntKind.max,IntKind.signed,IntKind.bits] using this
end Go.Proofs.Ytgcnemkhppkkcaa.cur
