import Derived.Test.YtcdclihinmdgiaaZ04
import Derived.Test.YtcdclihinmdgiaaZ20
import Derived.Test.YtcdclihinmdgiaaZ12
import Derived.Test.YtcdclihinmdgiaaZ21
import Derived.Test.YtcdclihinmdgiaaZ08
import Derived.Test.YtcdclihinmdgiaaZ15
namespace Go.Proofs.Ytcdclihinmdgiaa.lst
open Go.ChangeShapes Go.WideShapes Go.ChangeAt Go.RowKit
open mem ints arr pm sf gl orb
set_option linter.unusedVariables false
set_option maxRecDepth 100000
theorem qcj:∀ (L:List Sur) (s:Sur),qbe L s true = L
 | [],s=>rfl
 | x :: t,s=>by simp [qbe,qcj t s]
structure Pl (L:List Sur) (t:Sur) (i:Nat):Prop where
 le:i<=L.length
 lo:∀ (k:Nat) x,k < i->L[k]? = some x->bef x t = true
 hi:∀ (k:Nat) x,i<=k->L[k]? = some x->bef x t = false
theorem qnf {a b:Sur} (h:bef a b = true):bef b a = false:=by
 cases q:bef b a
 ·rfl
 ·have:=qbi h q;rw [qgh] at this;cases this
theorem Pl.ins {n:Nat} {t:Sur} (ht:Sf n t.1 t.2):∀ {L:List Sur} {i:Nat},Pl L t i->(∀ y ∈ L,Sf n y.1 y.2)->qbe L t false = if L[i]? = some t then L else L.take i ++ t :: L.drop i
 | [],i,h,_=>by
  obtain rfl:i = 0:=by have:=h.le;simpa using this
  simp [qbe]
 | x :: l,0,h,hs=>by
  have h0:=h.hi 0 x (Nat.le_refl _) rfl
  rw [qbe]
  by_cases e:x = t
  ·subst e
   simp [qcj]
  ·have q:=hs x (List.mem_cons_self ..)
   have hb:bef t x = true:=by
    rcases qgi (a:=t) (b:=x) (by rw [ht.lr,q.lr]) (by rw [ht.lu,q.lu]) (fun q=>e q.symm) with q | q
    ·exact q
    ·rw [h0] at q;cases q
   simp [e,hb,qcj]
 | x :: l,i + 1,h,hs=>by
  have h0:=h.lo 0 x (by omega) rfl
  have e:¬ x = t:=fun q=>by rw [q,qgh] at h0;cases h0
  have ih:=Pl.ins ht (L:=l) (i:=i) ⟨by have:=h.le;simpa using this,fun k y hk hy=>h.lo (k + 1) y (by omega) (by simpa using hy),fun k y hk hy=>h.hi (k + 1) y (by omega) (by simpa using hy)⟩ (fun y hy=>hs y (List.mem_cons_of_mem _ hy))
  rw [qbe]
  simp only [e,qnf h0,decide_false,Bool.or_false,Bool.not_false,Bool.and_false,Bool.false_eq_true,if_false]
  rw [ih]
  simp only [List.getElem?_cons_succ,List.take_succ_cons,List.drop_succ_cons,List.cons_append]
  split <;> rfl
structure Sr (L:List Sur) (t:Sur) (i j:Nat):Prop where
 le:i<=j
 top:j<=L.length
 lo:∀ (k:Nat) x,k < i->L[k]? = some x->bef x t = true
 hi:∀ (k:Nat) x,j<=k->L[k]? = some x->bef x t = false
theorem Sr.start (L:List Sur) (t:Sur):Sr L t 0 L.length:=⟨Nat.zero_le _,Nat.le_refl _,fun k x h=>by omega,fun k x h e=>by rw [List.getElem?_eq_none h] at e;cases e⟩
theorem qw3 {L:List Sur} (h:L.Pairwise fun a b=>bef a b = true) {i j:Nat} {x y:Sur} (hij:i < j) (hx:L[i]? = some x) (hy:L[j]? = some y):bef x y = true:=by
 obtain ⟨hi,rfl⟩:=List.getElem?_eq_some_iff.1 hx
 obtain ⟨hj,rfl⟩:=List.getElem?_eq_some_iff.1 hy
 exact List.pairwise_iff_getElem.1 h i j hi hj hij
theorem Sr.right {L:List Sur} {t x:Sur} {i j h:Nat} (s:Sr L t i j) (a:L.Pairwise fun a b=>bef a b = true) (h2:h < j) (hx:L[h]? = some x) (hb:bef x t = true):Sr L t (h + 1) j :=
 ⟨h2,s.top,fun k y hk hy=>by
  by_cases e:k = h
  ·subst e;rw [hx] at hy;cases hy;exact hb
  ·exact qbi (qw3 a (by omega) hy hx) hb,s.hi⟩
theorem Sr.left {L:List Sur} {t x:Sur} {i j h:Nat} (s:Sr L t i j) (a:L.Pairwise fun a b=>bef a b = true) (h1:i<=h) (h2:h < j) (hx:L[h]? = some x) (hb:bef x t = false):Sr L t i h :=
 ⟨h1,by have:=s.top;omega,s.lo,fun k y hk hy=>by
  by_cases e:k = h
  ·subst e;rw [hx] at hy;cases hy;exact hb
  ·cases q:bef y t
   ·rfl
   ·have:=qbi (qw3 a (show h < k by omega) hx hy) q
    rw [hb] at this;cases this⟩
def flG (n:Nat) (L:List Sur):List Value:=L.flatMap fun s=>V (gS s n)
theorem qaw (s:Sur) (n:Nat):(V (gS s n)).length = 49:=by rw [q8,qaq]
theorem qjs (n:Nat):∀ {L:List Sur} {k:Nat} {s:Sur},L[k]? = some s->∀ (j:Nat) v,(V (gS s n))[j]? = some v->(flG n L)[k * 49 + j]? = some v
 | [],k,s,h,_,_,_=>by simp at h
 | x :: L,0,s,h,j,v,hj=>by
  obtain rfl:x = s:=by simpa using h
  unfold flG
  rw [List.flatMap_cons,Nat.zero_mul,Nat.zero_add,List.getElem?_append_left (List.getElem?_eq_some_iff.1 hj).1]
  exact hj
 | x :: L,k + 1,s,h,j,v,hj=>by
  have:=qjs n (L:=L) (k:=k) (by simpa using h) j v hj
  unfold flG at this ⊢
  rw [List.flatMap_cons,List.getElem?_append_right (by rw [qaw];omega),qaw,show (k + 1) * 49 + j - 49 = k * 49 + j by omega]
  exact this
theorem qjt {w:World} {g n k:Nat} {L:List Sur} {s:Sur} (h:w.rangeAt g 0 (flG n L)) (hs:L[k]? = some s):w.rangeAt g (k * 49) (V (gS s n)):=fun j v hj=>by
 have:=h _ v (qjs n hs j v hj)
 rwa [Nat.zero_add] at this
theorem qia (n:Nat):∀ (L:List Sur) (i:Nat),(flG n L).take (i * 49) = flG n (L.take i)/\(flG n L).drop (i * 49) = flG n (L.drop i)
 | [],i=>by simp [flG]
 | s :: L,0=>by simp [flG]
 | s :: L,i + 1=>by
  have:=qia n L i
  have l:=qaw s n
  unfold flG at this ⊢
  rw [List.flatMap_cons,List.take_succ_cons,List.drop_succ_cons,List.flatMap_cons]
  constructor
  ·rw [List.take_append,List.take_of_length_le (by omega),l,show (i + 1) * 49 - 49 = i * 49 by omega,this.1]
  ·rw [List.drop_append,List.drop_of_length_le (by omega),l,show (i + 1) * 49 - 49 = i * 49 by omega,this.2]
   rfl
theorem qqw (n:Nat) (L:List Sur) (t:Sur) (i:Nat):(flG n L).take (i * 49) ++ V (gS t n) ++ (flG n L).drop (i * 49) = flG n (L.take i ++ t :: L.drop i):=by
 rw [(qia n L i).1,(qia n L i).2]
 simp [flG]
theorem qlq (n:Nat) (L:List Sur):∀ v ∈ flG n L,v.oneCell' = true:=by
 intro v hv
 unfold flG at hv
 obtain ⟨s,_,q⟩:=List.mem_flatMap.1 hv
 unfold V at q
 obtain ⟨x,_,rfl⟩:=List.mem_map.1 q
 rfl
theorem _root_.Go.Proofs.Ytcdclihinmdgiaa.sf.Hld.start {w:World} {bs:List (Nat × List Value)} (h:∀ p ∈ bs,p.1 < w.heap.size/\w.rangeAt p.1 0 p.2):Hld w.heap.size w.heap.size w bs w.drew :=
 ⟨h,⟨rfl,rfl,rfl,Nat.le_refl _,fun _ _=>rfl⟩,Nat.le_refl _⟩
def qqh (a b:Sur):Int:=qxa (ext a.1) (ext a.2) (ext b.1) (ext b.2)
theorem quc {n:Nat} {s:Sur} (h:Sf n s.1 s.2):n<=24:=by have:=h.r.len;rw [h.lr] at this;exact this
theorem qx9 {n:Nat} {a b:Sur} (ha:Sf n a.1 a.2) (hb:Sf n b.1 b.2):decide (qqh a b < 0) = bef a b:=by
 have:=quc ha
 unfold qqh
 rw [qni (by rw [qc,qc]) (by rw [qc,qc])]
 exact qr2 (by rw [ha.lr,hb.lr]) (by rw [ha.lu,hb.lu]) (by rw [ha.lr];exact this) (by rw [ha.lu];exact this)
theorem qya {n:Nat} {a b:Sur} (ha:Sf n a.1 a.2) (hb:Sf n b.1 b.2):(qqh a b = 0) ↔ a = b:=by
 have hn:=quc ha
 unfold qqh qxa
 have c1:=(qbf (ext a.1) (ext b.1) (by rw [qc,qc])).2
 have c2:=(qbf (ext a.2) (ext b.2) (by rw [qc,qc])).2
 constructor
 ·intro h
  split at h
  ·rename_i h1
   exact Prod.ext (qax (by rw [ha.lr,hb.lr]) (by rw [ha.lr];exact hn) (c1.1 h1)) (qax (by rw [ha.lu,hb.lu]) (by rw [ha.lu];exact hn) (c2.1 h))
  ·exact absurd h (by assumption)
 ·rintro rfl
  rw [if_pos (c1.2 rfl)]
  exact c2.2 rfl
theorem qng (a b:Sur) (n:Nat) (w:World) :
  Calls sqp.prog 14 #[.agg (V (gS a n)).toArray,.agg (V (gS b n)).toArray] w fun e w'=>e = .returned (.int .i64 (qqh a b))/\Below w.heap.size w w' :=
 qfx _ _ _ _ n n w (qc _) (qc _) (qc _) (qc _)
theorem hiS (s:Sur) (n:Nat):(sqp.prog.info? 43).map (·.size) = some (V (gS s n)).length:=by rw [qj1,qaw]
set_option maxHeartbeats 400000 in
theorem qud (A:Option Addr) (c n:Nat) (t:Sur) (w:World) :
  Calls sqp.prog 38 #[.slice A 0 c,.agg (V (gS t n)).toArray,.func (.func 14) #[] #[]] w fun e w'=>e = .returned (.tuple #[.int .i64 (0:Nat),.bool false])/\Below w.heap.size w w':=by
 have SZ:(V (gS t n)).toArray.size = 49:=by simp [qaw]
 have LC:(V (gS t n)).toArray.toList = V (gS t n):=by simp
 have B0:Hid (Below w.heap.size w ((w.alloc (.cells (V (gS t n)).toArray 43)))):=Lib.hid ((Below.refl _ _).alloc (Nat.le_refl _) _)
 go_enter sqp.func38,sqp.ntmps38
 go_wp2_with fail
 go_loopw [9,10] (fun i j wr=>i = .int .i64 (0:Nat)/\j = .int .i64 (0:Nat)/\Below w.heap.size w wr) (fun _ _ _=>0)
 case atStart=>exact ⟨rfl,rfl,B0.out⟩
 case round =>
  obtain ⟨rfl,rfl,bl⟩:=hrel
  have BL:=Lib.hid bl;clear bl B0
  go_wp2_with fail
  refine wp_region_held_drew (S:=Hld wr.heap.size wr.heap.size wr []) (by kernel_rfl) (Hld.start (fun p hp=>by simp at hp)) (fun hHeld=>?_)
  have b1:Below wr.heap.size wr wr.drew:=⟨rfl,rfl,rfl,Nat.le_refl _,fun _ _=>rfl⟩
  have BL2:=Lib.hid (BL.out.trans (b1.mono BL.out.size))
  generalize wr.drew = w2 at *
  clear b1 BL
  refine wpAnyH_take (i:=0) (v:=.int .i64 (0:Nat)) rfl (by kernel_rfl) (by kernel_rfl) (by kernel_rfl) (fun _ _ _ h=>h) (Or.inl ⟨by kernel_rfl,fun w hSw=>by go_simp⟩) hHeld ?_
  refine wpAnyH_take (i:=1) (v:=.int .i64 (0:Nat)) rfl (by kernel_rfl) (by kernel_rfl) (by kernel_rfl) (fun _ _ _ h=>h) (Or.inl ⟨by kernel_rfl,fun w hSw=>by go_simp⟩) hHeld ?_
  refine wpAnyH_take (i:=2) (v:=.int .i64 (0:Nat)) rfl (by kernel_rfl) (by kernel_rfl) (by kernel_rfl) (fun _ _ _ h=>h) (Or.inl ⟨by kernel_rfl,fun w hSw=>by go_simp⟩) hHeld ?_
  refine wpAnyH_take (i:=3) (v:=.bool false) rfl (by kernel_rfl) (by kernel_rfl) (by kernel_rfl) (fun _ _ _ h=>h) (Or.inl ⟨by kernel_rfl,fun w hSw=>by go_simp⟩) hHeld ?_
  refine wpAnyH_take (i:=4) (v:=.bool false) rfl (by kernel_rfl) (by kernel_rfl) (by kernel_rfl) (fun _ _ _ h=>h) (Or.inl ⟨by kernel_rfl,fun w hSw=>by go_simp⟩) hHeld ?_
  refine wpAnyH_take (i:=5) (v:=undef) rfl (by kernel_rfl) (by kernel_rfl) (by kernel_rfl) (fun _ _ _ h=>h) (Or.inr ⟨by kernel_rfl,rfl⟩) hHeld ?_
  refine wpAnyH_take (i:=6) (v:=undef) rfl (by kernel_rfl) (by kernel_rfl) (by kernel_rfl) (fun _ _ _ h=>h) (Or.inr ⟨by kernel_rfl,rfl⟩) hHeld ?_
  refine wpAnyH_take (i:=7) (v:=undef) rfl (by kernel_rfl) (by kernel_rfl) (by kernel_rfl) (fun _ _ _ h=>h) (Or.inr ⟨by kernel_rfl,rfl⟩) hHeld ?_
  refine wpAnyH_take (i:=8) (v:=undef) rfl (by kernel_rfl) (by kernel_rfl) (by kernel_rfl) (fun _ _ _ h=>h) (Or.inr ⟨by kernel_rfl,rfl⟩) hHeld ?_
  refine wpAnyH_take (i:=9) (v:=undef) rfl (by kernel_rfl) (by kernel_rfl) (by kernel_rfl) (fun _ _ _ h=>h) (Or.inr ⟨by kernel_rfl,rfl⟩) hHeld ?_
  refine wpAnyH_take (i:=10) (v:=undef) rfl (by kernel_rfl) (by kernel_rfl) (by kernel_rfl) (fun _ _ _ h=>h) (Or.inr ⟨by kernel_rfl,rfl⟩) hHeld ?_
  refine wpAnyH_take (i:=11) (v:=undef) rfl (by kernel_rfl) (by kernel_rfl) (by kernel_rfl) (fun _ _ _ h=>h) (Or.inr ⟨by kernel_rfl,rfl⟩) hHeld ?_
  refine wpAnyH_take (i:=12) (v:=undef) rfl (by kernel_rfl) (by kernel_rfl) (by kernel_rfl) (fun _ _ _ h=>h) (Or.inr ⟨by kernel_rfl,rfl⟩) hHeld ?_
  refine wpAnyH_take (i:=13) (v:=.bool false) rfl (by kernel_rfl) (by kernel_rfl) (by kernel_rfl) (fun _ _ _ h=>h) (Or.inl ⟨by kernel_rfl,fun w hSw=>by go_simp⟩) hHeld ?_
  refine wpAnyH_take (i:=14) (v:=.int .i64 (0:Nat)) rfl (by kernel_rfl) (by kernel_rfl) (by kernel_rfl) (fun _ _ _ h=>h) (Or.inl ⟨by kernel_rfl,fun w hSw=>by go_simp⟩) hHeld ?_
  refine wpAnyH_take (i:=15) (v:=.bool false) rfl (by kernel_rfl) (by kernel_rfl) (by kernel_rfl) (fun _ _ _ h=>h) (Or.inl ⟨by kernel_rfl,fun w hSw=>by go_simp⟩) hHeld ?_
  refine wpAnyH_done (by kernel_rfl) ?_ _
  go_simp
  go_wp2_with fail
  go_ret2
  exact ⟨rfl,BL2.out⟩
set_option maxHeartbeats 1000000 in
theorem quf (g c n:Nat) (L:List Sur) (t:Sur) (w:World) (hg:g < w.heap.size) (hr:w.rangeAt g 0 (flG n L)) (ha:L.Pairwise fun a b=>bef a b = true) (hs:∀ y ∈ L,Sf n y.1 y.2) (ht:Sf n t.1 t.2) (hc:L.length<=c) (hl:L.length<=1000) :
  Calls sqp.prog 38 #[.slice (some ⟨g,0,none⟩) L.length c,.agg (V (gS t n)).toArray,.func (.func 14) #[] #[]] w fun e w'=>∃ i:Nat,Pl L t i/\e = .returned (.tuple #[.int .i64 i,.bool (decide (L[i]? = some t))])/\Below w.heap.size w w':=by
 have SZ:(V (gS t n)).toArray.size = 49:=by simp [qaw]
 have LC:(V (gS t n)).toArray.toList = V (gS t n):=by simp
 have HA:=Lib.hid ha;have HS:=Lib.hid hs;have HT:=Lib.hid ht;have HR:=Lib.hid hr
 clear ha hs ht hr
 have B0:Hid (∃ W,W = w.alloc (.cells (V (gS t n)).toArray 43)/\Below w.heap.size w W/\Arr W w.heap.size (V (gS t n)) 43):=Lib.hid ⟨_,rfl,(Below.refl _ _).alloc (Nat.le_refl _) _,Arr.new w _ _ rfl⟩
 go_enter sqp.func38,sqp.ntmps38
 go_wp2_with fail
 obtain ⟨w0,eW,bl0,ar0⟩:=B0.out
 rw [<-eW]
 have BL0:=Lib.hid bl0;have AR0:=Lib.hid ar0
 clear eW bl0 ar0 B0 SZ LC
 go_loopw [9,10] (fun u v wr=>∃ i j:Nat,u = .int .i64 i/\v = .int .i64 j/\Sr L t i j/\Arr wr w.heap.size (V (gS t n)) 43/\Below w.heap.size w wr) (fun u v _=>(intOf v).toNat - (intOf u).toNat)
 case atStart=>exact ⟨0,L.length,rfl,rfl,Sr.start L t,AR0.out,BL0.out⟩
 case round =>
  obtain ⟨i,j,rfl,rfl,sr,ar,bl⟩:=hrel
  have SR:=Lib.hid sr;have AR:=Lib.hid ar;have BL:=Lib.hid bl;clear sr ar bl AR0 BL0
  have hij:=SR.out.le;have hjl:=SR.out.top
  by_cases hlt:i < j
  ·obtain ⟨h,hh⟩:∃ h,h = (i + j) / 2:=⟨_,rfl⟩
   have h1:i<=h:=by omega
   have h2:h < j:=by omega
   obtain ⟨x,hx⟩:∃ x,L[h]? = some x:=⟨_,List.getElem?_eq_getElem (by omega)⟩
   have HX:=Lib.hid hx
   have SX:Sf n x.1 x.2:=HS.out x (List.mem_of_getElem? hx)
   have hd:=qx9 SX HT.out
   have hhl:h < L.length:=by omega
   have hcast:((i:Int) + (j:Int)) / 2 = ((h:Nat):Int):=by omega
   clear hx SX hh
   go_wp2_with fail
   refine wp_region_held_drew (S:=Hld wr.heap.size wr.heap.size wr [(g,flG n L),(w.heap.size,V (gS t n))]) (by kernel_rfl) (Hld.start (fun p hp=>by
    have hgz:g < wr.heap.size:=Nat.lt_of_lt_of_le hg BL.out.size
    rcases List.mem_cons.1 hp with rfl | hp
    ·exact ⟨hgz,fun k v hk=>by rw [BL.out.cell (p:=⟨g,0 + k,none⟩) hg];exact HR.out k v hk⟩
    ·rcases List.mem_cons.1 hp with rfl | hp
     ·exact ⟨AR.out.lt,fun k v hk=>by rw [Nat.zero_add];exact AR.out.cell hk⟩
     ·simp at hp)) (fun hHeld=>?_)
   have b1:Below wr.heap.size wr wr.drew:=⟨rfl,rfl,rfl,Nat.le_refl _,fun _ _=>rfl⟩
   have BL2:=Lib.hid (BL.out.trans (b1.mono BL.out.size));have AR2:=Lib.hid (AR.out.keep b1 AR.out.lt)
   have s1:=b1.size
   generalize wr.drew = w2 at *
   clear b1 BL AR
   refine wpAnyH_take (i:=0) (v:=.func (.func 14) #[] #[]) rfl (by kernel_rfl) (by kernel_rfl) (by kernel_rfl) (fun _ _ _ h=>h) (Or.inl ⟨by kernel_rfl,fun w hSw=>by go_simp⟩) hHeld ?_
   refine wpAnyH_take (i:=1) (v:=.slice (some ⟨g,0,none⟩) L.length c) rfl (by kernel_rfl) (by kernel_rfl) (by kernel_rfl) (fun _ _ _ h=>h) (Or.inl ⟨by kernel_rfl,fun w hSw=>by go_simp⟩) hHeld ?_
   refine wpAnyH_take (i:=2) (v:=.int .i64 h) rfl (by kernel_rfl) (by kernel_rfl) (by kernel_rfl) (fun _ _ _ h=>h) (Or.inl ⟨by kernel_rfl,fun w hSw=>by go_simp⟩) hHeld ?_
   refine wpAnyH_take (i:=3) (v:=.pointer (some ⟨g,h * 49,none⟩)) rfl (by kernel_rfl) (by kernel_rfl) (by kernel_rfl) (fun _ _ _ h=>h) (Or.inl ⟨by kernel_rfl,fun w hSw=>by go_simp⟩) hHeld ?_
   refine wpAnyH_take (i:=4) (v:=.agg (V (gS x n)).toArray) rfl (by kernel_rfl) (by kernel_rfl) (by kernel_rfl) (fun _ _ _ h=>h) (yieldsIf_load_mid (by kernel_rfl) _ _ rfl g (h * 49) (by kernel_rfl) (V (gS x n)) _ (fun w h=>qjt h.fst HX.out) sqp.underlying43 rfl (hiS x n)) hHeld ?_
   refine wpAnyH_take (i:=5) (v:=.agg (V (gS t n)).toArray) rfl (by kernel_rfl) (by kernel_rfl) (by kernel_rfl) (fun _ _ _ h=>h) (yieldsIf_load_mid (by kernel_rfl) _ _ rfl w.heap.size 0 (by kernel_rfl) (V (gS t n)) _ (fun w h=>h.snd) sqp.underlying43 rfl (hiS t n)) hHeld ?_
   refine wpAnyH_ready (rs:=[6]) (by kernel_rfl) (by simp) (AllReadyH.cons rfl (fun K hK=>?_) AllReadyH.nil)
   go_simp
   refine (qng x t n _).mono ?_
   rintro e w3 ⟨rfl,b1⟩
   replace AR2:=Lib.hid (AR2.out.keep b1 AR2.out.lt)
   replace BL2:=Lib.hid (BL2.out.trans (b1.mono BL2.out.size))
   go_wp2_with fail
   have hHeld2:=hHeld.later b1 (Nat.le_refl _)
   clear b1 hHeld
   refine hK.out _ _ hHeld2 (fun hHeld=>?_)
   clear hK K hHeld2
   refine wpAnyH_take (i:=7) (v:=.bool (decide (qqh x t < 0))) rfl (by kernel_rfl) (by kernel_rfl) (by kernel_rfl) (fun _ _ _ h=>h) (Or.inl ⟨by kernel_rfl,fun w hSw=>by go_simp⟩) hHeld ?_
   refine wpAnyH_done (by kernel_rfl) ?_ _
   clear hHeld
   go_simp
   cases hb:bef x t
   ·rw [hb] at hd
    have SN:=Lib.hid (SR.out.left HA.out h1 h2 HX.out hb)
    clear hb
    go_wp2_with fail
    go_roundw
    case rel=>exact ⟨i,h,rfl,rfl,SN.out,AR2.out,BL2.out⟩
    case measure=>simp [intOf];omega
   ·rw [hb] at hd
    have SN:=Lib.hid (SR.out.right HA.out h2 HX.out hb)
    clear hb
    go_wp2_with fail
    go_roundw
    case rel=>exact ⟨h + 1,j,by go_num,rfl,SN.out,AR2.out,BL2.out⟩
    case measure=>simp [intOf];omega
  ·obtain rfl:i = j:=by omega
   have PL:Hid (Pl L t i):=Lib.hid ⟨SR.out.top,SR.out.lo,SR.out.hi⟩
   by_cases hil:i < L.length
   ·obtain ⟨x,hx⟩:∃ x,L[i]? = some x:=⟨_,List.getElem?_eq_getElem hil⟩
    have SX:Sf n x.1 x.2:=HS.out x (List.mem_of_getElem? hx)
    have HD:Hid ((qqh x t == 0) = decide (L[i]? = some t)):=Lib.hid (by
     rw [hx,show (qqh x t == 0) = decide (qqh x t = 0) from rfl]
     have:=qya SX HT.out
     by_cases e:x = t
     ·rw [decide_eq_true (this.2 e),decide_eq_true (by rw [e])]
     ·rw [decide_eq_false (fun q=>e (this.1 q)),decide_eq_false (fun q=>e (Option.some.inj q))])
    have HX:=Lib.hid hx
    clear hx SX SR
    go_wp2_with fail
    refine wp_region_held_drew (S:=Hld wr.heap.size wr.heap.size wr [(g,flG n L),(w.heap.size,V (gS t n))]) (by kernel_rfl) (Hld.start (fun p hp=>by
     have hgz:g < wr.heap.size:=Nat.lt_of_lt_of_le hg BL.out.size
     rcases List.mem_cons.1 hp with rfl | hp
     ·exact ⟨hgz,fun k v hk=>by rw [BL.out.cell (p:=⟨g,0 + k,none⟩) hg];exact HR.out k v hk⟩
     ·rcases List.mem_cons.1 hp with rfl | hp
      ·exact ⟨AR.out.lt,fun k v hk=>by rw [Nat.zero_add];exact AR.out.cell hk⟩
      ·simp at hp)) (fun hHeld=>?_)
    have b1:Below wr.heap.size wr wr.drew:=⟨rfl,rfl,rfl,Nat.le_refl _,fun _ _=>rfl⟩
    have BL2:=Lib.hid (BL.out.trans (b1.mono BL.out.size))
    have s1:=b1.size
    generalize wr.drew = w2 at *
    clear b1 BL AR
    refine wpAnyH_take (i:=0) (v:=.int .i64 i) rfl (by kernel_rfl) (by kernel_rfl) (by kernel_rfl) (fun _ _ _ h=>h) (Or.inl ⟨by kernel_rfl,fun w hSw=>by go_simp⟩) hHeld ?_
    refine wpAnyH_take (i:=1) (v:=.int .i64 i) rfl (by kernel_rfl) (by kernel_rfl) (by kernel_rfl) (fun _ _ _ h=>h) (Or.inl ⟨by kernel_rfl,fun w hSw=>by go_simp⟩) hHeld ?_
    refine wpAnyH_take (i:=2) (v:=.int .i64 L.length) rfl (by kernel_rfl) (by kernel_rfl) (by kernel_rfl) (fun _ _ _ h=>h) (Or.inl ⟨by kernel_rfl,fun w hSw=>by go_simp⟩) hHeld ?_
    refine wpAnyH_take (i:=3) (v:=.bool true) rfl (by kernel_rfl) (by kernel_rfl) (by kernel_rfl) (fun _ _ _ h=>h) (Or.inl ⟨by kernel_rfl,fun w hSw=>by go_simp⟩) hHeld ?_
    refine wpAnyH_take (i:=4) (v:=.bool true) rfl (by kernel_rfl) (by kernel_rfl) (by kernel_rfl) (fun _ _ _ h=>h) (Or.inl ⟨by kernel_rfl,fun w hSw=>by go_simp⟩) hHeld ?_
    refine wpAnyH_take (i:=5) (v:=.func (.func 14) #[] #[]) rfl (by kernel_rfl) (by kernel_rfl) (by kernel_rfl) (fun _ _ _ h=>h) (Or.inl ⟨by kernel_rfl,fun w hSw=>by go_simp⟩) hHeld ?_
    refine wpAnyH_take (i:=6) (v:=.slice (some ⟨g,0,none⟩) L.length c) rfl (by kernel_rfl) (by kernel_rfl) (by kernel_rfl) (fun _ _ _ h=>h) (Or.inl ⟨by kernel_rfl,fun w hSw=>by go_simp⟩) hHeld ?_
    refine wpAnyH_take (i:=7) (v:=.int .i64 i) rfl (by kernel_rfl) (by kernel_rfl) (by kernel_rfl) (fun _ _ _ h=>h) (Or.inl ⟨by kernel_rfl,fun w hSw=>by go_simp⟩) hHeld ?_
    refine wpAnyH_take (i:=8) (v:=.pointer (some ⟨g,i * 49,none⟩)) rfl (by kernel_rfl) (by kernel_rfl) (by kernel_rfl) (fun _ _ _ h=>h) (Or.inl ⟨by kernel_rfl,fun w hSw=>by go_simp⟩) hHeld ?_
    refine wpAnyH_take (i:=9) (v:=.agg (V (gS x n)).toArray) rfl (by kernel_rfl) (by kernel_rfl) (by kernel_rfl) (fun _ _ _ h=>h) (yieldsIf_load_mid (by kernel_rfl) _ _ rfl g (i * 49) (by kernel_rfl) (V (gS x n)) _ (fun w h=>qjt h.fst HX.out) sqp.underlying43 rfl (hiS x n)) hHeld ?_
    refine wpAnyH_take (i:=10) (v:=.agg (V (gS t n)).toArray) rfl (by kernel_rfl) (by kernel_rfl) (by kernel_rfl) (fun _ _ _ h=>h) (yieldsIf_load_mid (by kernel_rfl) _ _ rfl w.heap.size 0 (by kernel_rfl) (V (gS t n)) _ (fun w h=>h.snd) sqp.underlying43 rfl (hiS t n)) hHeld ?_
    refine wpAnyH_ready (rs:=[11]) (by kernel_rfl) (by simp) (AllReadyH.cons rfl (fun K hK=>?_) AllReadyH.nil)
    go_simp
    refine (qng x t n _).mono ?_
    rintro e w3 ⟨rfl,b1⟩
    replace BL2:=Lib.hid (BL2.out.trans (b1.mono BL2.out.size))
    go_wp2_with fail
    have hHeld2:=hHeld.later b1 (Nat.le_refl _)
    clear b1 hHeld
    refine hK.out _ _ hHeld2 (fun hHeld=>?_)
    clear hK K hHeld2
    refine wpAnyH_take (i:=12) (v:=.bool (qqh x t == 0)) rfl (by kernel_rfl) (by kernel_rfl) (by kernel_rfl) (fun _ _ _ h=>h) (Or.inl ⟨by kernel_rfl,fun w hSw=>by go_simp⟩) hHeld ?_
    refine wpAnyH_take (i:=13) (v:=.bool (qqh x t == 0)) rfl (by kernel_rfl) (by kernel_rfl) (by kernel_rfl) (fun _ _ _ h=>h) (Or.inl ⟨by kernel_rfl,fun w hSw=>by go_simp⟩) hHeld ?_
    refine wpAnyH_take (i:=14) (v:=.int .i64 i) rfl (by kernel_rfl) (by kernel_rfl) (by kernel_rfl) (fun _ _ _ h=>h) (Or.inl ⟨by kernel_rfl,fun w hSw=>by go_simp⟩) hHeld ?_
    refine wpAnyH_take (i:=15) (v:=.bool (qqh x t == 0)) rfl (by kernel_rfl) (by kernel_rfl) (by kernel_rfl) (fun _ _ _ h=>h) (Or.inl ⟨by kernel_rfl,fun w hSw=>by go_simp⟩) hHeld ?_
    refine wpAnyH_done (by kernel_rfl) ?_ _
    clear hHeld
    go_simp
    go_wp2_with fail
    go_ret2
    refine ⟨i,PL.out,?_,BL2.out⟩
    rw [<-HD.out]
    rfl
   ·obtain rfl:i = L.length:=by omega
    have HD:Hid (false = decide (L[L.length]? = some t)):=Lib.hid (by simp)
    clear SR
    go_wp2_with fail
    refine wp_region_held_drew (S:=Hld wr.heap.size wr.heap.size wr []) (by kernel_rfl) (Hld.start (fun p hp=>by simp at hp)) (fun hHeld=>?_)
    have b1:Below wr.heap.size wr wr.drew:=⟨rfl,rfl,rfl,Nat.le_refl _,fun _ _=>rfl⟩
    have BL2:=Lib.hid (BL.out.trans (b1.mono BL.out.size))
    generalize wr.drew = w2 at *
    clear b1 BL AR
    refine wpAnyH_take (i:=0) (v:=.int .i64 L.length) rfl (by kernel_rfl) (by kernel_rfl) (by kernel_rfl) (fun _ _ _ h=>h) (Or.inl ⟨by kernel_rfl,fun w hSw=>by go_simp⟩) hHeld ?_
    refine wpAnyH_take (i:=1) (v:=.int .i64 L.length) rfl (by kernel_rfl) (by kernel_rfl) (by kernel_rfl) (fun _ _ _ h=>h) (Or.inl ⟨by kernel_rfl,fun w hSw=>by go_simp⟩) hHeld ?_
    refine wpAnyH_take (i:=2) (v:=.int .i64 L.length) rfl (by kernel_rfl) (by kernel_rfl) (by kernel_rfl) (fun _ _ _ h=>h) (Or.inl ⟨by kernel_rfl,fun w hSw=>by go_simp⟩) hHeld ?_
    refine wpAnyH_take (i:=3) (v:=.bool false) rfl (by kernel_rfl) (by kernel_rfl) (by kernel_rfl) (fun _ _ _ h=>h) (Or.inl ⟨by kernel_rfl,fun w hSw=>by go_simp⟩) hHeld ?_
    refine wpAnyH_take (i:=4) (v:=.bool false) rfl (by kernel_rfl) (by kernel_rfl) (by kernel_rfl) (fun _ _ _ h=>h) (Or.inl ⟨by kernel_rfl,fun w hSw=>by go_simp⟩) hHeld ?_
    refine wpAnyH_take (i:=5) (v:=undef) rfl (by kernel_rfl) (by kernel_rfl) (by kernel_rfl) (fun _ _ _ h=>h) (Or.inr ⟨by kernel_rfl,rfl⟩) hHeld ?_
    refine wpAnyH_take (i:=6) (v:=undef) rfl (by kernel_rfl) (by kernel_rfl) (by kernel_rfl) (fun _ _ _ h=>h) (Or.inr ⟨by kernel_rfl,rfl⟩) hHeld ?_
    refine wpAnyH_take (i:=7) (v:=undef) rfl (by kernel_rfl) (by kernel_rfl) (by kernel_rfl) (fun _ _ _ h=>h) (Or.inr ⟨by kernel_rfl,rfl⟩) hHeld ?_
    refine wpAnyH_take (i:=8) (v:=undef) rfl (by kernel_rfl) (by kernel_rfl) (by kernel_rfl) (fun _ _ _ h=>h) (Or.inr ⟨by kernel_rfl,rfl⟩) hHeld ?_
    refine wpAnyH_take (i:=9) (v:=undef) rfl (by kernel_rfl) (by kernel_rfl) (by kernel_rfl) (fun _ _ _ h=>h) (Or.inr ⟨by kernel_rfl,rfl⟩) hHeld ?_
    refine wpAnyH_take (i:=10) (v:=undef) rfl (by kernel_rfl) (by kernel_rfl) (by kernel_rfl) (fun _ _ _ h=>h) (Or.inr ⟨by kernel_rfl,rfl⟩) hHeld ?_
    refine wpAnyH_take (i:=11) (v:=undef) rfl (by kernel_rfl) (by kernel_rfl) (by kernel_rfl) (fun _ _ _ h=>h) (Or.inr ⟨by kernel_rfl,rfl⟩) hHeld ?_
    refine wpAnyH_take (i:=12) (v:=undef) rfl (by kernel_rfl) (by kernel_rfl) (by kernel_rfl) (fun _ _ _ h=>h) (Or.inr ⟨by kernel_rfl,rfl⟩) hHeld ?_
    refine wpAnyH_take (i:=13) (v:=.bool false) rfl (by kernel_rfl) (by kernel_rfl) (by kernel_rfl) (fun _ _ _ h=>h) (Or.inl ⟨by kernel_rfl,fun w hSw=>by go_simp⟩) hHeld ?_
    refine wpAnyH_take (i:=14) (v:=.int .i64 L.length) rfl (by kernel_rfl) (by kernel_rfl) (by kernel_rfl) (fun _ _ _ h=>h) (Or.inl ⟨by kernel_rfl,fun w hSw=>by go_simp⟩) hHeld ?_
    refine wpAnyH_take (i:=15) (v:=.bool false) rfl (by kernel_rfl) (by kernel_rfl) (by kernel_rfl) (fun _ _ _ h=>h) (Or.inl ⟨by kernel_rfl,fun w hSw=>by go_simp⟩) hHeld ?_
    refine wpAnyH_done (by kernel_rfl) ?_ _
    clear hHeld
    go_simp
    go_wp2_with fail
    go_ret2
    refine ⟨L.length,PL.out,?_,BL2.out⟩
    rw [<-HD.out]
    rfl
end Go.Proofs.Ytcdclihinmdgiaa.lst
