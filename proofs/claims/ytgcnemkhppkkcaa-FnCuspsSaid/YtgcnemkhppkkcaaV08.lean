import Derived.Test.YtgcnemkhppkkcaaV04
import Derived.Test.YtgcnemkhppkkcaaV07
import Derived.Test.YtgcnemkhppkkcaaV06
import Derived.Test.YtgcnemkhppkkcaaV05
import Derived.Deep.RegionLaw
import Derived.IntWalk
namespace Go.Proofs.Ytgcnemkhppkkcaa.gl
open Go.ChangeShapes Go.WideShapes Go.ChangeAt Go.RowKit
open mem ints arr pm permOk permOf inv fns sf
set_option linter.unusedVariables false
set_option maxRecDepth 100000
def ren24 (p ns:List Int):List Int:=thenL (thenL (invTo 24 ns 24) p) ns
theorem ren24_len (p ns:List Int):(ren24 p ns).length = 24:=tab_len _
theorem ext_ok {xs:List Int} (h:Ok xs):Ok (ext xs):=by
 have hl:=h.len
 refine ⟨by rw [ext_len];omega,fun i hi=>h.sq.lo i (by rwa [ext_len] at hi),fun i hi=>by rw [ext_len] at *;exact h.sq.hi i hi,fun i j hi hj e=>?_⟩
 rw [ext_len] at hi hj
 rw [ext_at hi,ext_at hj] at e
 split at e <;> split at e
 ·exact h.inj i j (by assumption) (by assumption) e
 ·have:=h.hi i (by assumption);omega
 ·have:=h.hi j (by assumption);omega
 ·omega
theorem ren24_ext {n:Nat} {xs ys:List Int} (h:Ok xs) (h':Ok ys) (lx:xs.length = n) (ly:ys.length = n):ren24 (ext xs) (ext ys) = ext (renTo n xs ys n):=by
 have hn:n<=24:=by have:=h.len;omega
 refine list_eq 24 (ren24_len _ _) (ext_len _) fun i hi=>?_
 rw [ext_at hi,renTo_len]
 by_cases hin:i < n
 ·rw [if_pos hin]
  have e:=take_ren h h' (by omega)
  rw [lx] at e
  rw [<-e]
  unfold ren24
  simp [List.getD,hin]
 ·rw [if_neg hin]
  have o:=ext_ok h'
  have ey:(ext ys).getD i 0 = (i:Int):=by rw [ext_at hi,if_neg (by omega)]
  have ex:(ext xs).getD i 0 = (i:Int):=by rw [ext_at hi,if_neg (by omega)]
  have a:=inv_at o (k:=i) (by rw [ext_len];exact hi)
  rw [ey,ext_len,Int.toNat_natCast] at a
  unfold ren24 thenL
  rw [tab_get _ hi,tab_get _ hi,a,Int.toNat_natCast,ex,Int.toNat_natCast,ey]
set_option maxHeartbeats 8000000 in
theorem renamed_any (p q ns:List Int) (n:Nat) (w:World) (hp:Sq p) (hq:Sq q) (hn:Sq ns) :
  Calls sqp.prog 78 #[.agg (V (gl p q n)).toArray,.agg (V ns).toArray] w fun e w'=>e = .returned (.agg (V (gl (ren24 p ns) (ren24 q ns) n)).toArray)/\Below w.heap.size w w':=by
 have HP:=Lib.hid hp;have HQ:=Lib.hid hq;have HN:=Lib.hid hn;clear hp hq hn
 go_enter sqp.func78,sqp.ntmps78
 have A3':Hid (Arr (((w.alloc (.cells (V (gl p q n)).toArray 62)).alloc (.cells (V ns).toArray 60)).alloc (.cells #[.int .i64 0,.int .i64 0,.int .i64 0,.int .i64 0,.int .i64 0,.int .i64 0,.int .i64 0,.int .i64 0,.int .i64 0,.int .i64 0,.int .i64 0,.int .i64 0,.int .i64 0,.int .i64 0,.int .i64 0,.int .i64 0,.int .i64 0,.int .i64 0,.int .i64 0,.int .i64 0,.int .i64 0,.int .i64 0,.int .i64 0,.int .i64 0,.int .i64 0,.int .i64 0,.int .i64 0,.int .i64 0,.int .i64 0,.int .i64 0,.int .i64 0,.int .i64 0,.int .i64 0,.int .i64 0,.int .i64 0,.int .i64 0,.int .i64 0,.int .i64 0,.int .i64 0,.int .i64 0,.int .i64 0,.int .i64 0,.int .i64 0,.int .i64 0,.int .i64 0,.int .i64 0,.int .i64 0,.int .i64 0,.int .i64 0] 62)) (w.heap.size + 1) (V ns) 60):=Lib.hid ((Arr.new _ (V ns) _ (by simp)).alloc _)
 go_wp2_with (refine wpList_load_row rfl 60 (.tmp 3) rfl (w.heap.size + 1) rfl 60 (V ns).toArray (0,0) _ A3'.out sqp.underlying60 rfl (size_V HN.out.len) ?_)
 generalize hw1:((w.alloc (.cells (V (gl p q n)).toArray 62)).alloc (.cells (V ns).toArray 60)).alloc (.cells #[.int .i64 0,.int .i64 0,.int .i64 0,.int .i64 0,.int .i64 0,.int .i64 0,.int .i64 0,.int .i64 0,.int .i64 0,.int .i64 0,.int .i64 0,.int .i64 0,.int .i64 0,.int .i64 0,.int .i64 0,.int .i64 0,.int .i64 0,.int .i64 0,.int .i64 0,.int .i64 0,.int .i64 0,.int .i64 0,.int .i64 0,.int .i64 0,.int .i64 0,.int .i64 0,.int .i64 0,.int .i64 0,.int .i64 0,.int .i64 0,.int .i64 0,.int .i64 0,.int .i64 0,.int .i64 0,.int .i64 0,.int .i64 0,.int .i64 0,.int .i64 0,.int .i64 0,.int .i64 0,.int .i64 0,.int .i64 0,.int .i64 0,.int .i64 0,.int .i64 0,.int .i64 0,.int .i64 0,.int .i64 0,.int .i64 0] 62) = w1
 have A2:Hid (Arr w1 w.heap.size (V (gl p q n)) 62):=Lib.hid (by rw [<-hw1];exact ((Arr.new w _ _ rfl).alloc _).alloc _)
 have A3:Hid (Arr w1 (w.heap.size + 1) (V ns) 60):=Lib.hid (by rw [<-hw1];exact A3'.out)
 have A4:Hid (Arr w1 (w.heap.size + 2) (V zero49) 62):=Lib.hid (by rw [<-hw1];exact Arr.new _ (V zero49) _ (by simp))
 have B1:Hid (Below w.heap.size w w1):=Lib.hid (by rw [<-hw1];exact (((Below.refl _ _).alloc (Nat.le_refl _) _).alloc (by simp) _).alloc (by simp <;> omega) _)
 have s1:w1.heap.size = w.heap.size + 3:=by rw [<-hw1];simp
 clear hw1 A3'
 refine (inverse_any ns _ HN.out).mono ?_
 rintro e w2 ⟨rfl,b1⟩
 have s2:=b1.size
 replace A2:=Lib.hid (A2.out.keep b1 A2.out.lt)
 replace A3:=Lib.hid (A3.out.keep b1 A3.out.lt)
 replace A4:=Lib.hid (A4.out.keep b1 A4.out.lt)
 replace B1:=Lib.hid (B1.out.trans (b1.mono B1.out.size))
 clear b1
 go_wp2_with (refine wpList_store_row rfl 60 (.tmp 5) (.tmp 7) rfl w2.heap.size (V (invTo 24 ns 24)).toArray rfl rfl 60 (V zeros).toArray (Arr.new w2 (V zeros) _ rfl) (size_V (invTo_len _ _ _)) (by simp [V_len,invTo_len,zeros]) (one_V _) ?_;generalize hw3:(w2.alloc (.cells #[.int .i64 0,.int .i64 0,.int .i64 0,.int .i64 0,.int .i64 0,.int .i64 0,.int .i64 0,.int .i64 0,.int .i64 0,.int .i64 0,.int .i64 0,.int .i64 0,.int .i64 0,.int .i64 0,.int .i64 0,.int .i64 0,.int .i64 0,.int .i64 0,.int .i64 0,.int .i64 0,.int .i64 0,.int .i64 0,.int .i64 0,.int .i64 0] 60)).setRow w2.heap.size (V (invTo 24 ns 24)).toArray = w3;have A5:Hid (Arr w3 w2.heap.size (V (invTo 24 ns 24)) 60):=Lib.hid (by rw [<-hw3];exact (Arr.new w2 (V zeros) _ rfl).row);have b1:Below w2.heap.size w2 w3:=(by rw [<-hw3];exact arr.below_setRow ((Below.refl _ _).alloc (Nat.le_refl _) _) (Nat.le_refl _) _);have s3:w3.heap.size = w2.heap.size + 1:=(by rw [<-hw3];simp);replace A2:=Lib.hid (A2.out.keep b1 A2.out.lt);replace A3:=Lib.hid (A3.out.keep b1 A3.out.lt);replace A4:=Lib.hid (A4.out.keep b1 A4.out.lt);replace B1:=Lib.hid (B1.out.trans (b1.mono B1.out.size));clear hw3 b1)
 refine wp_region_held_drew (S:=Hld w.heap.size w3.heap.size w3 [(w.heap.size,V (gl p q n)),(w.heap.size + 1,V ns),(w2.heap.size,V (invTo 24 ns 24))]) (by kernel_rfl) ((Hld.start3 A2.out A3.out A5.out).lower (by omega)) (fun hHeld=>?_)
 have b1:Below w3.heap.size w3 w3.drew:=⟨rfl,rfl,rfl,Nat.le_refl _,fun _ _=>rfl⟩
 generalize w3.drew = w4 at *
 have s4:=b1.size
 replace A4:=Lib.hid (A4.out.keep b1 A4.out.lt)
 replace B1:=Lib.hid (B1.out.trans (b1.mono B1.out.size))
 clear b1 A2 A3 A5
 refine wpAnyH_take (i:=1) (v:=.pointer (some ⟨w.heap.size,0,none⟩)) rfl (by kernel_rfl) (by kernel_rfl) (by kernel_rfl) (fun _ _ _ h=>h) (Or.inl ⟨by rfl,fun w hSw=>by go_simp⟩) hHeld ?_
 refine wpAnyH_take (i:=7) (v:=.pointer (some ⟨w.heap.size,24,none⟩)) rfl (by kernel_rfl) (by kernel_rfl) (by kernel_rfl) (fun _ _ _ h=>h) (Or.inl ⟨by rfl,fun w hSw=>by go_simp⟩) hHeld ?_
 refine wpAnyH_take (i:=12) (v:=.pointer (some ⟨w.heap.size,48,none⟩)) rfl (by kernel_rfl) (by kernel_rfl) (by kernel_rfl) (fun _ _ _ h=>h) (Or.inl ⟨by rfl,fun w hSw=>by go_simp⟩) hHeld ?_
 refine wpAnyH_take (i:=0) (v:=.agg (V (invTo 24 ns 24)).toArray) rfl (by kernel_rfl) (by kernel_rfl) (by kernel_rfl) (fun _ _ _ h=>h) (yieldsIf_load_mid (by rfl) _ _ rfl (w2.heap.size) 0 rfl (V (invTo 24 ns 24)) _ (fun w h=>h.trd) sqp.underlying60 rfl (hi24 (invTo_len _ _ _))) hHeld ?_
 refine wpAnyH_take (i:=6) (v:=.agg (V (invTo 24 ns 24)).toArray) rfl (by kernel_rfl) (by kernel_rfl) (by kernel_rfl) (fun _ _ _ h=>h) (yieldsIf_load_mid (by rfl) _ _ rfl (w2.heap.size) 0 rfl (V (invTo 24 ns 24)) _ (fun w h=>h.trd) sqp.underlying60 rfl (hi24 (invTo_len _ _ _))) hHeld ?_
 refine wpAnyH_take (i:=2) (v:=.agg (V p).toArray) rfl (by kernel_rfl) (by kernel_rfl) (by kernel_rfl) (fun _ _ _ h=>h) (yieldsIf_load_mid (by rfl) _ _ rfl (w.heap.size) 0 rfl (V p) _ (fun w h=>rg_right HP.out.len h.fst) sqp.underlying60 rfl (hi24 HP.out.len)) hHeld ?_
 refine wpAnyH_take (i:=8) (v:=.agg (V q).toArray) rfl (by kernel_rfl) (by kernel_rfl) (by kernel_rfl) (fun _ _ _ h=>h) (yieldsIf_load_mid (by rfl) _ _ rfl (w.heap.size) 24 rfl (V q) _ (fun w h=>rg_up HP.out.len HQ.out.len h.fst) sqp.underlying60 rfl (hi24 HQ.out.len)) hHeld ?_
 refine wpAnyH_take (i:=4) (v:=.agg (V ns).toArray) rfl (by kernel_rfl) (by kernel_rfl) (by kernel_rfl) (fun _ _ _ h=>h) (yieldsIf_load_mid (by rfl) _ _ rfl (w.heap.size + 1) 0 rfl (V ns) _ (fun w h=>h.snd) sqp.underlying60 rfl (hi24 HN.out.len)) hHeld ?_
 refine wpAnyH_take (i:=10) (v:=.agg (V ns).toArray) rfl (by kernel_rfl) (by kernel_rfl) (by kernel_rfl) (fun _ _ _ h=>h) (yieldsIf_load_mid (by rfl) _ _ rfl (w.heap.size + 1) 0 rfl (V ns) _ (fun w h=>h.snd) sqp.underlying60 rfl (hi24 HN.out.len)) hHeld ?_
 refine wpAnyH_take (i:=13) (v:=.int .i64 n) rfl (by kernel_rfl) (by kernel_rfl) (by kernel_rfl) (fun _ _ _ h=>h) (Or.inl ⟨by rfl,fun w hSw=>by have:=rg_count HP.out.len HQ.out.len hSw.fst;go_simp⟩) hHeld ?_
 refine wpAnyH_ready (rs:=[3]) (by kernel_rfl) (by simp) (AllReadyH.cons rfl (fun K hK=>?_) AllReadyH.nil)
 go_simp
 refine (inv.then_any (invTo 24 ns 24) p _ (inv_sq _) HP.out).mono ?_
 rintro e w' ⟨rfl,b1⟩
 replace A4:=Lib.hid (A4.out.keep b1 A4.out.lt)
 replace B1:=Lib.hid (B1.out.trans (b1.mono B1.out.size))
 go_wp2_with fail
 have hHeld2:=hHeld.later b1 (by omega);clear b1 hHeld
 refine hK.out _ _ hHeld2 (fun hHeld=>?_)
 clear hK K hHeld2
 refine wpAnyH_ready (rs:=[5]) (by kernel_rfl) (by simp) (AllReadyH.cons rfl (fun K hK=>?_) AllReadyH.nil)
 go_simp
 refine (inv.then_any (thenL (invTo 24 ns 24) p) ns _ (then_sq (inv_sq _) HP.out) HN.out).mono ?_
 rintro e w' ⟨rfl,b1⟩
 replace A4:=Lib.hid (A4.out.keep b1 A4.out.lt)
 replace B1:=Lib.hid (B1.out.trans (b1.mono B1.out.size))
 go_wp2_with fail
 have hHeld2:=hHeld.later b1 (by omega);clear b1 hHeld
 refine hK.out _ _ hHeld2 (fun hHeld=>?_)
 clear hK K hHeld2
 refine wpAnyH_ready (rs:=[9]) (by kernel_rfl) (by simp) (AllReadyH.cons rfl (fun K hK=>?_) AllReadyH.nil)
 go_simp
 refine (inv.then_any (invTo 24 ns 24) q _ (inv_sq _) HQ.out).mono ?_
 rintro e w' ⟨rfl,b1⟩
 replace A4:=Lib.hid (A4.out.keep b1 A4.out.lt)
 replace B1:=Lib.hid (B1.out.trans (b1.mono B1.out.size))
 go_wp2_with fail
 have hHeld2:=hHeld.later b1 (by omega);clear b1 hHeld
 refine hK.out _ _ hHeld2 (fun hHeld=>?_)
 clear hK K hHeld2
 refine wpAnyH_ready (rs:=[11]) (by kernel_rfl) (by simp) (AllReadyH.cons rfl (fun K hK=>?_) AllReadyH.nil)
 go_simp
 refine (inv.then_any (thenL (invTo 24 ns 24) q) ns _ (then_sq (inv_sq _) HQ.out) HN.out).mono ?_
 rintro e w' ⟨rfl,b1⟩
 replace A4:=Lib.hid (A4.out.keep b1 A4.out.lt)
 replace B1:=Lib.hid (B1.out.trans (b1.mono B1.out.size))
 go_wp2_with fail
 have hHeld2:=hHeld.later b1 (by omega);clear b1 hHeld
 refine hK.out _ _ hHeld2 (fun hHeld=>?_)
 clear hK K hHeld2
 refine wpAnyH_ready (rs:=[14]) (by kernel_rfl) (by simp) (AllReadyH.cons rfl (fun K hK=>?_) AllReadyH.nil)
 refine step_build rfl 62 _ rfl [(0,.agg (V (ren24 p ns)).toArray),(1,.agg (V (ren24 q ns)).toArray),(2,.int .i64 n)] rfl (V (gl (ren24 p ns) (ren24 q ns) n)).toArray (built_gl (ren24_len _ _) (ren24_len _ _) n) ?_
 refine hK.out _ _ hHeld (fun hHeld2=>?_)
 clear hK K hHeld2
 refine wpAnyH_ready (rs:=[15]) (by kernel_rfl) (by simp) (AllReadyH.cons rfl (fun K hK=>?_) AllReadyH.nil)
 refine step_store_row rfl 62 _ _ rfl (w.heap.size + 2) (V (gl (ren24 p ns) (ren24 q ns) n)).toArray rfl rfl 62 (V zero49).toArray A4.out (size49 (gl_len (ren24_len _ _) (ren24_len _ _) n)) (by simp [V_len,gl_len,ren24_len,zero49]) (one_V _) ?_
 refine hK.out _ _ (hHeld.other (by omega) (by simp;omega) _) (fun hHeld2=>?_)
 clear hK K hHeld2
 refine wpAnyH_done (by kernel_rfl) ?_ _
 go_wp2_with fail
 exact bodyPost_ret (v:=.agg (V (gl (ren24 p ns) (ren24 q ns) n)).toArray) (results_cell_row rfl _ _ (w.heap.size + 2) 62 (V (gl (ren24 p ns) (ren24 q ns) n)).toArray (0,0) _ rfl A4.out.row sqp.underlying62 rfl (size49 (gl_len (ren24_len _ _) (ren24_len _ _) n))) rfl ⟨rfl,below_setRow B1.out (by omega) _⟩
end Go.Proofs.Ytgcnemkhppkkcaa.gl

namespace Go.Proofs.Ytgcnemkhppkkcaa.gl
open Go.ChangeShapes Go.WideShapes Go.ChangeAt Go.RowKit
open mem ints arr pm permOk permOf inv fns sf
set_option linter.unusedVariables false
set_option maxRecDepth 100000
def nms (ps qs:List Int) (f:Int):Nat->List Int
 | 0=>idl
 | k + 1=>(nms ps qs f k).set ((rs ps qs f k).getD k 0).toNat (k:Int)
theorem nms_len (ps qs:List Int) (f:Int) (k:Nat):(nms ps qs f k).length = 24:=by
 induction k with
 | zero=>exact tab_len _
 | succ k ih=>rw [nms,List.length_set];exact ih
def nmsF (ps qs:List Int) (f:Int):List Int:=nms ps qs f (reach ps qs f).length
theorem nms_at {ps qs:List Int} (hp:Maps 24 ps) (hq:Maps 24 qs) (l24:ps.length = 24) {f:Int} (f0:0<=f) (f1:f < 24):∀ k,k<=(reach ps qs f).length ->
  (∀ j,j < k->(nms ps qs f k).getD ((reach ps qs f).getD j 0).toNat 0 = (j:Int))/\(∀ i:Nat,i < 24->(∀ j,j < k->(reach ps qs f).getD j 0 ≠ (i:Int))->(nms ps qs f k).getD i 0 = (i:Int)):=by
 intro k
 induction k with
 | zero=>exact fun _=>⟨fun j hj=>by omega,fun i hi _=>tab_get _ hi⟩
 | succ k ih =>
  intro hk
  obtain ⟨h1,h2⟩:=ih (by omega)
  have hin:In 24 (reach ps qs f):=rs_in hp hq f0 f1 _
  have hle:=hin.len
  have hk24:k<=24:=by omega
  have hkk:k < (rs ps qs f k).length:=rs_early (m:=ps.length) (by unfold reach at hk;omega) (by omega)
  have he:(rs ps qs f k).getD k 0 = (reach ps qs f).getD k 0:=(pre_at (rs_pre ps qs f (by omega)) hkk).symm
  obtain ⟨z,hz,_,hzd⟩:=hin.at_ (k:=k) (by omega)
  have hs:nms ps qs f (k + 1) = (nms ps qs f k).set z (k:Int):=by rw [nms,he,hzd];rfl
  have hl:=nms_len ps qs f k
  rw [hs]
  refine ⟨fun j hj=>?_,fun i hi hne=>?_⟩
  ·by_cases e:j = k
   ·subst e
    rw [hzd,Int.toNat_natCast]
    simp [List.getD,hl,hz]
   ·obtain ⟨y,hy,_,hyd⟩:=hin.at_ (k:=j) (by omega)
    have hyz:y ≠ z:=fun e2=>e (nodup_getD hin.nd (by omega) (by omega) (by rw [hzd,hyd,e2]))
    rw [hyd,Int.toNat_natCast]
    have:=h1 j (by omega)
    rw [hyd,Int.toNat_natCast] at this
    rw [<-this]
    simp [List.getD,Ne.symm hyz]
  ·have hiz:i ≠ z:=fun e2=>hne k (by omega) (by rw [hzd,e2])
   rw [<-h2 i hi (fun j hj=>hne j (by omega))]
   simp [List.getD,Ne.symm hiz]
theorem nmsF_eq {n:Nat} {R U:List Int} (s:Sf n R U) {f:Int} (f0:0<=f) (f1:f < n):nmsF (ext R) (ext U) f = ext (nm R U f):=by
 have hn:n<=24:=by have:=s.r.len;have:=s.lr;omega
 have er:reach (ext R) (ext U) f = reach R U f:=reach_ext s.r s.u (by rw [s.lr,s.lu]) f0 (by rw [s.lr];exact f1)
 have fl:=s.flen f0 f1
 obtain ⟨nk,nl⟩:=s.nok f0 f1
 obtain ⟨h1,h2⟩:=nms_at (Sq.maps s.r.sq) (Sq.maps s.u.sq) (ext_len _) f0 (by omega) n (by rw [er,fl];exact Nat.le_refl _)
 rw [er] at h1 h2
 unfold nmsF
 rw [er,fl]
 refine list_eq 24 (nms_len _ _ _ _) (ext_len _) fun i hi=>?_
 rw [ext_at hi,nl]
 by_cases hin:i < n
 ·rw [if_pos hin]
  obtain ⟨k,hk,e⟩:=mem_getD (s.full f0 f1 (y:=(i:Int)) (by omega) (by omega))
  have a:=h1 k (by omega)
  rw [e,Int.toNat_natCast] at a
  have b:=Inv_at (s.rok f0 f1) hk
  rw [e,Int.toNat_natCast] at b
  rw [a]
  exact b.symm
 ·rw [if_neg hin]
  exact h2 i hi (fun j hj e=>by
   have:=(s.inn f0 f1).hi _ (getD_mem (i:=j) (l:=reach R U f) (by omega))
   omega)
structure Nr (w wr:World) (B:Nat) (p q:List Int) (n:Nat) (v:Value) (l ns:List Int):Prop where
 own:wr.ownsRow (B + 2) 3 1 v l.length (V l)
 g:Arr wr w.heap.size (V (gl p q n)) 62
 res:Arr wr (w.heap.size + 1) (V zeros) 60
 nm:Arr wr B (V ns) 60
 met:Arr wr (B + 1) (VB (flagsOf l)) 140
 below:Below w.heap.size w wr
 hB:w.heap.size + 2<=B
theorem Nr.drew {w wr:World} {B:Nat} {p q l ns:List Int} {n:Nat} {v:Value} (h:Nr w wr B p q n v l ns) (m:Nat):Nr w (wr.drewN m) B p q n v l ns:=⟨h.own,h.g,h.res,h.nm,h.met,below_drewN h.below m,h.hB⟩
theorem Nr.ne {w wr:World} {B:Nat} {p q l ns:List Int} {n:Nat} {v:Value} (h:Nr w wr B p q n v l ns) {k:Nat} (hk:k < B + 2):some k ≠ v.ownBlock:=fun e=>by
 have:=(h.own.lt k e.symm).1;omega
theorem Nr.name {w wr:World} {B:Nat} {p q l ns:List Int} {n:Nat} {v:Value} (h:Nr w wr B p q n v l ns) (z k:Nat):Nr w (wr.setCell ⟨B,z,none⟩ (.int .i64 (k:Int))) B p q n v l (ns.set z (k:Int)):=by
 have hB:=h.hB
 refine ⟨?_,h.g.other (by omega) _,h.res.other (by omega) _,?_,h.met.other (by omega) _,h.below.setCell (show w.heap.size<=B by omega) _,hB⟩
 ·exact h.own.kept (row:=some B) ⟨rfl,rfl,rfl,by simp [World.setCell],fun i hi hne=>heap_setCell_other _ _ _ _ (fun e=>hne (by rw [e]))⟩ (.inr (fun e=>h.ne (k:=B) (by omega) e.symm))
 ·have:=h.nm.set_ z (.int .i64 (k:Int))
  rw [V_set] at this
  exact this
theorem Nr.next {w wr w1 w':World} {B:Nat} {p q l ns:List Int} {n m:Nat} {v v':Value} {z:Nat} (h:Nr w wr B p q n v l ns) (hw1:w1 = wr.setCell ⟨B + 1,z,none⟩ (.bool true))
  (ho:w'.ownsRow (B + 2) 3 1 v' (m + 1) (V l ++ [.int .i64 (z:Int)])) (hn:m = l.length) (hg:w1.grownBy w' v.ownBlock) (hz:¬ (z:Int) ∈ l):Nr w w' B p q n v' (add1 l (z:Int)) ns:=by
 subst hn
 have e:V (add1 l (z:Int)) = V l ++ [.int .i64 (z:Int)]:=by unfold add1;rw [if_neg hz];simp [V]
 have el:(add1 l (z:Int)).length = l.length + 1:=by unfold add1;rw [if_neg hz];simp
 have hB:=h.hB
 have g1:=h.g.lt;have g2:=h.res.lt;have g3:=h.nm.lt;have hm:=h.met.lt
 have s1:w1.heap.size = wr.heap.size:=by rw [hw1];simp [World.setCell]
 refine ⟨by rw [e,el];exact ho,?_,?_,?_,?_,?_,hB⟩
 ·exact (hg.block _ (by omega) (h.ne (by omega))).trans (by rw [hw1];exact h.g.other (by omega) _)
 ·exact (hg.block _ (by omega) (h.ne (by omega))).trans (by rw [hw1];exact h.res.other (by omega) _)
 ·exact (hg.block _ (by omega) (h.ne (by omega))).trans (by rw [hw1];exact h.nm.other (by omega) _)
 ·refine (hg.block _ (by omega) (h.ne (by omega))).trans ?_
  have hh:=h.met.set_ z (.bool true)
  rw [VB_set,flagsOf_add hz,<-hw1] at hh
  exact hh
 ·refine Below.trans (b:=w1) (by rw [hw1];exact h.below.setCell (by simp;omega) _) ?_
  exact (Below.refl _ _).grown hg (by have:=h.below.size;omega) (fun k hk=>by have:=(h.own.lt k hk).1;omega)
theorem flagsOf_one {z:Nat}:(List.replicate 24 false).set z true = flagsOf [(z:Int)]:=by
 have h:List.replicate 24 false = flagsOf []:=by decide
 rw [h,flagsOf_add (by simp)]
 rfl
theorem gl_at_right {p q:List Int} {n k:Nat} (hp:p.length = 24) (hk:k < 24):(V (gl p q n))[k]? = some (.int .i64 (p.getD k 0)):=by
 rw [V_getD (by simp [gl];omega),right_at hp hk]
theorem gl_at_up {p q:List Int} {n k:Nat} (hp:p.length = 24) (hq:q.length = 24) (hk:k < 24):(V (gl p q n))[24 + k]? = some (.int .i64 (q.getD k 0)):=by
 rw [V_getD (by simp [gl];omega),up_at hp hq hk]
set_option maxHeartbeats 4000000 in
theorem names_any (p q:List Int) (n f:Nat) (w:World) (hp:Sq p) (hq:Sq q) (hf:f < 24) :
  Calls sqp.prog 77 #[.agg (V (gl p q n)).toArray,.int .i64 (f:Int)] w fun e w'=>e = .returned (.agg (V (nmsF p q f)).toArray)/\Below w.heap.size w w':=by
 obtain ⟨i0,hi0,hz0,hz1,hz2⟩:=info_parts infoI
 have MX:=Lib.hid (Sq.maps hp);have MY:=Lib.hid (Sq.maps hq)
 have LX:=Lib.hid hp.len;have LY:=Lib.hid hq.len
 clear hp hq
 go_enter sqp.func77,sqp.ntmps77
 go_wp2_with fail
 refine (staying_any _).mono ?_
 rintro e w1 ⟨rfl,b1⟩
 have hs1:w.heap.size + 2<=w1.heap.size:=by have:=b1.size;simpa using this
 have A0:=Lib.hid (((Arr.new w (V (gl p q n)) 62 rfl).alloc _).keep b1 (by simp <;> omega))
 have A1:=Lib.hid ((Arr.new (w.alloc (.cells (V (gl p q n)).toArray 62)) (V zeros) 60 (g:=w.heap.size + 1) (by simp)).keep b1 (by simp <;> omega))
 have B1:Hid (Below w.heap.size w w1):=Lib.hid ((((Below.refl _ _).alloc (Nat.le_refl _) _).alloc (by simp) _).trans (b1.mono (by simp <;> omega)))
 clear b1
 go_wp2_with (first | (refine wpList_store_row rfl 60 _ _ rfl w1.heap.size (V idl).toArray rfl rfl 60 (V zeros).toArray (Arr.new w1 (V zeros) _ rfl) (size_V (tab_len _)) rfl (one_V _) ?_;generalize hw2:(w1.alloc (.cells #[.int .i64 0,.int .i64 0,.int .i64 0,.int .i64 0,.int .i64 0,.int .i64 0,.int .i64 0,.int .i64 0,.int .i64 0,.int .i64 0,.int .i64 0,.int .i64 0,.int .i64 0,.int .i64 0,.int .i64 0,.int .i64 0,.int .i64 0,.int .i64 0,.int .i64 0,.int .i64 0,.int .i64 0,.int .i64 0,.int .i64 0,.int .i64 0] 60)).setRow w1.heap.size (V idl).toArray = w2;have A2:Hid (Arr w2 w1.heap.size (V idl) 60):=Lib.hid (by rw [<-hw2];exact (Arr.new w1 (V zeros) _ rfl).row);have b1:Below w1.heap.size w1 w2:=(by rw [<-hw2];exact arr.below_setRow ((Below.refl _ _).alloc (Nat.le_refl _) _) (Nat.le_refl _) _);have s2:w2.heap.size = w1.heap.size + 1:=(by rw [<-hw2];simp);replace A0:=Lib.hid (A0.out.keep b1 A0.out.lt);replace A1:=Lib.hid (A1.out.keep b1 A1.out.lt);replace B1:=Lib.hid (B1.out.trans (b1.mono B1.out.size));clear hw2 b1;have NF:=Lib.hid (Arr.new w2 (VB (List.replicate 24 false)) 140 rfl);have hcf:(w2.alloc (.cells #[.bool false,.bool false,.bool false,.bool false,.bool false,.bool false,.bool false,.bool false,.bool false,.bool false,.bool false,.bool false,.bool false,.bool false,.bool false,.bool false,.bool false,.bool false,.bool false,.bool false,.bool false,.bool false,.bool false,.bool false] 140)).cell? ⟨w2.heap.size,f,none⟩ = some (.bool false):=NF.out.cell (by unfold VB;rw [List.map_replicate,List.getElem?_replicate,if_pos hf]);have hff:(w2.alloc (.cells #[.bool false,.bool false,.bool false,.bool false,.bool false,.bool false,.bool false,.bool false,.bool false,.bool false,.bool false,.bool false,.bool false,.bool false,.bool false,.bool false,.bool false,.bool false,.bool false,.bool false,.bool false,.bool false,.bool false,.bool false] 140)).frozen? ⟨w2.heap.size,f,none⟩ = false:=NF.out.frozen f) | fail)
 go_loopw [7,8] (fun v i wr=>∃ k:Nat,k<=24/\i = .int .i64 k/\Nr w wr w1.heap.size p q n v (rs p q f k) (nms p q f k)/\k<=(rs p q f k).length) (fun _ i _=>24 - (intOf i).toNat)
 case atStart =>
  refine ⟨0,Nat.zero_le _,rfl,⟨?_,?_,?_,?_,?_,?_,hs1⟩,Nat.zero_le _⟩
  ·exact ⟨rfl,.inr ⟨w1.heap.size + 1 + 1,1,#[.int .i64 (f:Int)],rfl,Nat.le_refl _,Arr.new _ (V [(f:Int)]) _ (by simp;omega),Nat.le_refl _,by unfold maxLen;omega,rfl,rfl⟩⟩
  ·exact (A0.out.alloc _).alloc _
  ·exact (A1.out.alloc _).alloc _
  ·exact (A2.out.alloc _).alloc _
  ·have e:VB (flagsOf [(f:Int)]) = [Value.bool false,Value.bool false,Value.bool false,Value.bool false,Value.bool false,Value.bool false,Value.bool false,Value.bool false,Value.bool false,Value.bool false,Value.bool false,Value.bool false,Value.bool false,Value.bool false,Value.bool false,Value.bool false,Value.bool false,Value.bool false,Value.bool false,Value.bool false,Value.bool false,Value.bool false,Value.bool false,Value.bool false].set f (.bool true):=by rw [<-flagsOf_one,<-VB_set];rfl
   show Arr _ _ (VB (flagsOf [(f:Int)])) _
   rw [e]
   exact (Arr.new w2 _ _ (g:=w1.heap.size + 1) (by omega)).alloc _
  ·exact (B1.out.alloc B1.out.size _).alloc (by simp;omega) _
 case round =>
  obtain ⟨k,hk,rfl,hm,hle⟩:=hrel
  obtain ⟨wo,rfl⟩:∃ wo:World,wo = wr:=⟨_,rfl⟩
  have IN:=Lib.hid (rs_in MX.out MY.out (f:=(f:Int)) (by omega) (by omega) k)
  have hln:(rs p q f k).length<=24:=IN.out.len
  obtain ⟨C,cc,rfl⟩:=own_form hm.own
  have HR:=Lib.hid hm;clear hm hcf hff NF A0 A1 A2 B1
  by_cases hlt:k < (rs p q f k).length
  ·obtain ⟨z,hz,hzs,hzd⟩:=IN.out.at_ hlt
   have RO:=Row.of_own HR.out.own
   obtain ⟨go,oo,uo,rfl,hgo,hgo2,huo,hco,hfo⟩:=RO.at_ hlt
   rw [V_get hzs] at huo
   obtain rfl:=Option.some.inj huo
   have hcn:=HR.out.nm.cell (V_getD (l:=nms p q f k) (k:=z) (by rw [nms_len];exact hz))
   have hfn:=HR.out.nm.frozen z
   have HQ:=Lib.hid (HR.out.name z k)
   have hcp:=HQ.out.g.cell (gl_at_right (n:=n) LX.out hz)
   have hcq:=HQ.out.g.cell (gl_at_up (n:=n) LX.out LY.out hz)
   have a01:=MX.out z hz;have b01:=MY.out z hz
   have STEP:Hid (rs p q f (k + 1) = mid (rs p q f k) (p.getD z 0) (q.getD z 0) 2):=Lib.hid (by rw [rs_step p q f hlt hzd];rfl)
   have STEPN:Hid (nms p q f (k + 1) = (nms p q f k).set z (k:Int)):=Lib.hid (by rw [nms,hzd];rfl)
   generalize p.getD z 0 = a at *
   generalize q.getD z 0 = b at *
   obtain ⟨a0,a1⟩:=a01;obtain ⟨b0,b1⟩:=b01
   have LE:Hid (k + 1<=(rs p q f (k + 1)).length):=Lib.hid (rs_le p q f hlt)
   have MI:Hid (∀ j,In 24 (mid (rs p q f k) a b j)):=Lib.hid (mid_in IN.out a0 a1 b0 b1)
   have hB:=HR.out.hB
   clear hzs hzd huo RO hfo HR
   go_wp2
   go_region
   go_wp2
   go_loopw [7,39] (fun v i wr=>∃ j:Nat,j<=2/\i = .int .i64 j/\Nr w wr w1.heap.size p q n v (mid (rs p q f k) a b j) ((nms p q f k).set z (k:Int))) (fun _ i _=>2 - (intOf i).toNat)
   case atStart=>exact ⟨0,Nat.zero_le _,rfl,HQ.out.drew 1⟩
   case round =>
    obtain ⟨j,hj,rfl,hmid⟩:=hrel
    have hln2:(mid (rs p q f k) a b j).length<=24:=(MI.out j).len
    obtain ⟨C2,cc2,rfl⟩:=own_form hmid.own
    have HMI:=Lib.hid hmid;clear hmid
    by_cases hj2:j < 2
    ·generalize hq:[a,b].getD j 0 = x
     have MS:=Lib.hid (mid_step (rs p q f k) a b hj2 hq)
     have hix:=index_pair a b j hj2 x hq
     obtain ⟨y,rfl,hy⟩:=pair_in hj2 hq a0 a1 b0 b1
     clear hq
     have hsz:w1.heap.size + 2<=wr.heap.size:=HMI.out.met.lt
     by_cases hh:(y:Int) ∈ mid (rs p q f k) a b j
     ·have hfl:wr.cell? ⟨w1.heap.size + 1,y,none⟩ = some (.bool true):=flags_cell HMI.out.met hy (by simpa using hh)
      have EQ:Hid (mid (rs p q f k) a b (j + 1) = mid (rs p q f k) a b j):=Lib.hid (by rw [MS.out];unfold add1;rw [if_pos hh])
      clear hh
      go_wp2
      go_roundw
      case rel=>exact ⟨j + 1,by omega,by go_num,by rw [EQ.out];exact HMI.out⟩
      case measure=>simp [intOf];omega
     ·have hfl:wr.cell? ⟨w1.heap.size + 1,y,none⟩ = some (.bool false):=flags_cell HMI.out.met hy (by simpa using hh)
      have hff:=HMI.out.met.frozen y
      have HH:=Lib.hid hh
      have OW:Hid ((wr.setCell ⟨w1.heap.size + 1,y,none⟩ (.bool true)).ownsRow (w1.heap.size + 2) 3 1 (.slice C2 (mid (rs p q f k) a b j).length cc2) (mid (rs p q f k) a b j).length (V (mid (rs p q f k) a b j))):=Lib.hid (by
       refine HMI.out.own.kept (row:=some (w1.heap.size + 1)) ⟨rfl,rfl,rfl,by simp [World.setCell],fun i hi hne=>heap_setCell_other _ _ _ _ (fun e=>hne (by rw [e]))⟩ (.inr (fun e=>HMI.out.ne (k:=w1.heap.size + 1) (by omega) e.symm)))
      clear hh
      generalize hw1:wr.setCell ⟨w1.heap.size + 1,y,none⟩ (.bool true) = wx at OW
      have HW1:=Lib.hid hw1
      have hsz1:w1.heap.size + 2<=wx.heap.size:=by rw [<-hw1];simpa [World.setCell] using hsz
      go_wp2_with (at_builtin;refine wpList_append_one wx _ _ rfl _ _ 23 rfl (w1.heap.size + 2) 3 i0 _ 8 sqp.underlying23 hi0 hz0 hz1 hz2 rfl _ _ _ rfl OW.out rfl rfl ?c4 (by decide) hsz1 ?_)
      case c4=>omega
      intro v' w' ho hg
      have HN:Hid (Nr w w' w1.heap.size p q n v' (mid (rs p q f k) a b (j + 1)) ((nms p q f k).set z (k:Int))):=Lib.hid (by rw [MS.out];exact HMI.out.next HW1.out.symm ho rfl hg HH.out)
      clear ho hg HMI hw1 hfl hff
      go_wp2
      go_roundw
      case rel=>exact ⟨j + 1,by omega,by go_num,HN.out⟩
      case measure=>simp [intOf];omega
    ·obtain rfl:j = 2:=by omega
     have HN:Hid (Nr w wr w1.heap.size p q n (.slice C2 (mid (rs p q f k) a b 2).length cc2) (rs p q f (k + 1)) (nms p q f (k + 1))):=Lib.hid (by rw [STEP.out,STEPN.out];exact HMI.out)
     go_wp2
     go_roundw
     case rel=>exact ⟨k + 1,by omega,by go_num,HN.out,LE.out⟩
     case measure=>simp [intOf];omega
  ·have e:k = (rs p q f k).length:=by omega
   have R:Hid (rs p q f k = reach p q f):=Lib.hid (reach_of LX.out hk (by omega))
   have RN:Hid (nms p q f k = nmsF p q f):=Lib.hid (by unfold nmsF;rw [<-R.out,<-e])
   have hd:decide (k < (rs p q f k).length) = false:=by simp;omega
   have H2:Hid (Arr wo w1.heap.size (V (nmsF p q f)) 60):=Lib.hid (by rw [<-RN.out];exact HR.out.nm)
   have l2:(nmsF p q f).length = 24:=nms_len _ _ _ _
   clear e
   have hB:=HR.out.hB
   go_wp2_with (first | (refine wpList_load_row rfl 60 _ rfl w1.heap.size rfl 60 (V (nmsF p q f)).toArray (0,0) _ H2.out sqp.underlying60 rfl (size_V l2) ?_) | (refine wpList_store_row rfl 60 _ _ rfl (w.heap.size + 1) (V (nmsF p q f)).toArray rfl rfl 60 (V zeros).toArray HR.out.res (size_V l2) (by simp [V_len,l2,zeros]) (one_V _) ?_))
   exact bodyPost_ret (v:=.agg (V (nmsF p q f)).toArray) (results_cell_row rfl _ _ (w.heap.size + 1) 60 (V (nmsF p q f)).toArray (0,0) _ rfl HR.out.res.row sqp.underlying60 rfl (size_V l2)) rfl ⟨rfl,below_setRow HR.out.below (by omega) _⟩
end Go.Proofs.Ytgcnemkhppkkcaa.gl

namespace Go.Proofs.Ytgcnemkhppkkcaa.gl
open Go.ChangeShapes Go.WideShapes Go.ChangeAt Go.RowKit
open mem ints arr pm permOk permOf inv fns sf
set_option linter.unusedVariables false
set_option maxRecDepth 100000
end Go.Proofs.Ytgcnemkhppkkcaa.gl

namespace Go.Proofs.Ytgcnemkhppkkcaa.gl
open Go.ChangeShapes Go.WideShapes Go.ChangeAt Go.RowKit
open mem ints arr pm permOk permOf inv fns sf
set_option linter.unusedVariables false
set_option maxRecDepth 100000
theorem ext_take (xs:List Int) (h:xs.length<=24):(ext xs).take xs.length = xs:=by
 refine list_eq xs.length (by simp [ext_len];omega) rfl fun i hi=>?_
 have e:(ext xs).getD i 0 = xs.getD i 0:=by rw [ext_at (by omega),if_pos hi]
 rw [<-e]
 simp [List.getD,hi]
end Go.Proofs.Ytgcnemkhppkkcaa.gl

namespace Go.Proofs.Ytgcnemkhppkkcaa.gl
open Go.ChangeShapes Go.WideShapes Go.ChangeAt Go.RowKit
open mem ints arr pm permOk permOf inv fns sf
set_option linter.unusedVariables false
set_option maxRecDepth 100000
def SB (r u:List Int) (b:Bool) (w:World) (e:Ending) (w':World):Prop:=∃ g,e = .returned (.tuple #[g,.bool b])/\Svl w' w.heap.size w'.heap.size g r u/\Below w.heap.size w w'
theorem built2:sqp.prog.built 25 [] = some #[.slice none 0 0,.slice none 0 0]:=by kernel_rfl
theorem sb_nil {w w1:World} {b:Bool} {r u:List Int} (hr:r = []) (hu:u = []) (hb:b = false) (h:Below w.heap.size w w1):SB r u b w (.returned (.tuple #[.agg #[.slice none 0 0,.slice none 0 0],.bool false])) w1:=by
 subst hr;subst hu;subst hb
 exact ⟨_,rfl,Svl.nil _ _ _ (Nat.le_refl _) h.size,h⟩
theorem Svl.row {w:World} {lo hi g:Nat} {v:Value} {r u:List Int} (h:Svl w lo hi v r u) (hg:g < lo) (cs:Array Value):Svl (w.setRow g cs) lo hi v r u :=
 h.out ((Out.refl 0 (g + 1) w).row_ (Nat.zero_le _) (Nat.lt_succ_self _) cs) (.inr (by omega))
end Go.Proofs.Ytgcnemkhppkkcaa.gl

namespace Go.Proofs.Ytgcnemkhppkkcaa.mat
open Go.ChangeShapes Go.WideShapes Go.ChangeAt Go.RowKit
open mem ints
set_option linter.unusedVariables false
set_option maxRecDepth 100000
structure Hs (w:World) (lo hi:Nat) (ex:Nat->Prop) (bl:Nat->Nat) (hs:List Value) (xss:List (List Int)):Prop where
 len:hs.length = xss.length
 top:hi<=w.heap.size
 row:∀ i xs,xss[i]? = some xs->∃ A c,hs[i]? = some (.slice A xs.length c)/\(0 < xs.length->lo<=bl i/\bl i < hi/\¬ ex (bl i)/\Row w (bl i) (bl i + 1) A xs.length (V xs))
 ne:∀ i j xs ys,xss[i]? = some xs->xss[j]? = some ys->0 < xs.length->0 < ys.length->i ≠ j->bl i ≠ bl j
theorem Row.block {w w':World} {g n:Nat} {A:Option Addr} {xs:List Value} (h:Row w g (g + 1) A n xs) (hb:w'.heap[g]? = w.heap[g]?) (hs:w.heap.size<=w'.heap.size):Row w' g (g + 1) A n xs:=by
 refine ⟨h.1,Nat.le_trans h.2.1 hs,fun hn=>?_⟩
 obtain ⟨g',off,e,h1,h2,hc⟩:=h.2.2 hn
 obtain rfl:g' = g:=by omega
 refine ⟨g',off,e,h1,h2,fun j hj=>?_⟩
 rw [World.cell?_of_block (w:=w) (a:=⟨g',off + j,none⟩) hb,World.frozen?_of_block (w:=w) (a:=⟨g',off + j,none⟩) hb]
 exact hc j hj
theorem Hs.keep {w w':World} {lo hi:Nat} {ex:Nat->Prop} {bl:Nat->Nat} {hs:List Value} {xss:List (List Int)} (h:Hs w lo hi ex bl hs xss) (hs':w.heap.size<=w'.heap.size)
  (hk:∀ b,lo<=b->b < hi->¬ ex b->w'.heap[b]? = w.heap[b]?):Hs w' lo hi ex bl hs xss:=by
 refine ⟨h.len,Nat.le_trans h.top hs',fun i xs hx=>?_,h.ne⟩
 obtain ⟨A,c,e,hr⟩:=h.row i xs hx
 refine ⟨A,c,e,fun hp=>?_⟩
 obtain ⟨h1,h2,h3,h4⟩:=hr hp
 exact ⟨h1,h2,h3,Row.block h4 (hk _ h1 h2 h3) hs'⟩
theorem Hs.nil (w:World) (lo hi:Nat) (ex:Nat->Prop) (bl:Nat->Nat) (h:hi<=w.heap.size):Hs w lo hi ex bl [] [] :=
 ⟨rfl,h,fun i xs hx=>by simp at hx,fun i j xs ys hx=>by simp at hx⟩
theorem Hs.exs {w:World} {lo hi:Nat} {ex ex':Nat->Prop} {bl:Nat->Nat} {hs:List Value} {xss:List (List Int)} (h:Hs w lo hi ex bl hs xss) (he:∀ b,lo<=b->b < hi->¬ ex b->¬ ex' b):Hs w lo hi ex' bl hs xss:=by
 refine ⟨h.len,h.top,fun i xs hx=>?_,h.ne⟩
 obtain ⟨A,c,e,hr⟩:=h.row i xs hx
 exact ⟨A,c,e,fun hp=>⟨(hr hp).1,(hr hp).2.1,he _ (hr hp).1 (hr hp).2.1 (hr hp).2.2.1,(hr hp).2.2.2⟩⟩
theorem Hs.wider {w:World} {lo hi lo' hi':Nat} {ex:Nat->Prop} {bl:Nat->Nat} {hs:List Value} {xss:List (List Int)} (h:Hs w lo hi ex bl hs xss) (h0:lo'<=lo) (h1:hi<=hi') (h2:hi'<=w.heap.size):Hs w lo' hi' ex bl hs xss:=by
 refine ⟨h.len,h2,fun i xs hx=>?_,h.ne⟩
 obtain ⟨A,c,e,hr⟩:=h.row i xs hx
 exact ⟨A,c,e,fun hp=>⟨by have:=(hr hp).1;omega,by have:=(hr hp).2.1;omega,(hr hp).2.2⟩⟩
theorem Hs.snoc {w:World} {lo hi:Nat} {ex:Nat->Prop} {bl:Nat->Nat} {hs:List Value} {xss:List (List Int)} (h:Hs w lo hi ex bl hs xss) {g c:Nat} {A:Option Addr} {xs:List Int} (hg:hi<=g) (hlo:lo<=hi) (hx:¬ ex g) (hr:Row w g (g + 1) A xs.length (V xs)) :
  Hs w lo (g + 1) ex (fun i=>if i = xss.length then g else bl i) (hs ++ [.slice A xs.length c]) (xss ++ [xs]):=by
 have hl:=h.len
 refine ⟨by simp [hl],hr.2.1,fun i ys hy=>?_,fun i j ys zs hy hz y0 z0 hij=>?_⟩
 ·rw [List.getElem?_append] at hy
  by_cases hi':i < xss.length
  ·rw [if_pos hi'] at hy
   obtain ⟨A',c',e,hr'⟩:=h.row i ys hy
   refine ⟨A',c',?_,fun hp=>?_⟩
   ·rw [List.getElem?_append_left (by omega)];exact e
   ·rw [if_neg (by omega)]
    obtain ⟨q1,q2,q3,q4⟩:=hr' hp
    exact ⟨q1,by omega,q3,q4⟩
  ·rw [if_neg hi'] at hy
   have e0:i = xss.length:=by
    rcases Nat.lt_or_ge (i - xss.length) 1 with q | q
    ·omega
    ·rw [List.getElem?_eq_none (by simpa using q)] at hy;cases hy
   subst e0
   simp at hy
   subst hy
   refine ⟨A,c,?_,fun hp=>?_⟩
   ·rw [List.getElem?_append_right (by omega),hl];simp
   ·rw [if_pos rfl]
    exact ⟨by omega,by omega,hx,hr⟩
 ·have hlt:∀ (q:Nat) (us:List Int),(xss ++ [xs])[q]? = some us->q ≠ xss.length->xss[q]? = some us:=by
   intro q us hq hne
   rw [List.getElem?_append] at hq
   by_cases hq':q < xss.length
   ·rw [if_pos hq'] at hq;exact hq
   ·rw [if_neg hq',List.getElem?_eq_none (by simp;omega)] at hq;cases hq
  by_cases e1:i = xss.length
  ·by_cases e2:j = xss.length
   ·omega
   ·simp only [if_pos e1,if_neg e2]
    obtain ⟨A',c',e,hr'⟩:=h.row j zs (hlt j zs hz e2)
    have:=(hr' z0).2.1
    omega
  ·by_cases e2:j = xss.length
   ·simp only [if_pos e2,if_neg e1]
    obtain ⟨A',c',e,hr'⟩:=h.row i ys (hlt i ys hy e1)
    have:=(hr' y0).2.1
    omega
   ·simp only [if_neg e1,if_neg e2]
    exact h.ne i j ys zs (hlt i ys hy e1) (hlt j zs hz e2) y0 z0 hij
theorem Hs.one {w:World} {lo hi:Nat} {ex:Nat->Prop} {bl:Nat->Nat} {hs:List Value} {xss:List (List Int)} (h:Hs w lo hi ex bl hs xss) {i:Nat} {xs:List Int} (hx:xss[i]? = some xs) :
  ∃ A c l u,hs[i]? = some (.slice A xs.length c)/\Row w l u A xs.length (V xs)/\(0 < xs.length->lo<=l/\u<=hi/\l = bl i/\u = l + 1/\¬ ex l)/\(xs.length = 0->l = 0/\u = 0):=by
 obtain ⟨A,c,e,hr⟩:=h.row i xs hx
 rcases Nat.eq_zero_or_pos xs.length with h0 | h0
 ·refine ⟨A,c,0,0,e,⟨by simp [V],Nat.zero_le _,fun q=>by omega⟩,fun q=>by omega,fun _=>⟨rfl,rfl⟩⟩
 ·obtain ⟨q1,q2,q3,q4⟩:=hr h0
  exact ⟨A,c,bl i,bl i + 1,e,q4,fun _=>⟨q1,by omega,rfl,rfl,q3⟩,fun q=>by omega⟩
def Mat (w:World) (lo hi:Nat) (A:Option Addr) (n:Nat) (xss:List (List Int)):Prop :=
 xss.length = n/\hi<=w.heap.size/\∃ hs bl G,Hs w lo hi (fun b=>b = G) bl hs xss/\(0 < n->lo<=G/\G < hi/\Row w G (G + 1) A n hs)
theorem Mat.out {w w':World} {lo hi lo' hi' n:Nat} {A:Option Addr} {xss:List (List Int)} (h:Mat w lo hi A n xss) (ho:Out lo' hi' w w') (hd:hi<=lo'\/hi'<=lo):Mat w' lo hi A n xss:=by
 obtain ⟨h1,h2,hs,bl,G,h3,h4⟩:=h
 refine ⟨h1,Nat.le_trans h2 ho.size,hs,bl,G,h3.keep ho.size (fun b p q _=>ho.block b (by omega) (by omega)),fun hn=>?_⟩
 obtain ⟨q1,q2,q3⟩:=h4 hn
 exact ⟨q1,q2,Row.block q3 (ho.block G (by omega) (by omega)) ho.size⟩
end Go.Proofs.Ytgcnemkhppkkcaa.mat

namespace Go.Proofs.Ytgcnemkhppkkcaa.fns
open Go.ChangeShapes Go.WideShapes Go.ChangeAt Go.RowKit
open mem ints arr pm permOk permOf inv mat
set_option linter.unusedVariables false
set_option maxRecDepth 100000
def lenV:Value->Nat
 | .slice _ n _=>n
 | _=>0
theorem own_base {w:World} {base base':Nat} {e:TypeId} {v:Value} {n:Nat} {xs:List Value} (h:w.ownsRow base e 1 v n xs) (hb:base'<=base):w.ownsRow base' e 1 v n xs:=by
 refine ⟨h.1,?_⟩
 rcases h.2 with h0 | ⟨g,cap,cur,h1,h2,h3⟩
 ·exact .inl h0
 ·exact .inr ⟨g,cap,cur,h1,Nat.le_trans hb h2,h3⟩
theorem own_row {w:World} {base:Nat} {e:TypeId} {A:Option Addr} {c:Nat} {xs:List Value} (h:w.ownsRow base e 1 (.slice A xs.length c) xs.length xs) (h0:0 < xs.length):∃ g,base<=g/\Row w g (g + 1) A xs.length xs:=by
 have hr:=Row.of_own h
 obtain ⟨g,off,e1,h1,h2,h3⟩:=hr.2.2 h0
 exact ⟨g,h1,hr.1,by omega,fun _=>⟨g,off,e1,Nat.le_refl _,by omega,h3⟩⟩
def Mg (w:World) (bs lo s:Nat) (v:Value) (xss:List (List Int)):Prop :=
 ∃ hs bl,w.ownsRow bs 23 1 v xss.length hs/\Hs w lo w.heap.size (fun b=>v.ownBlock = some b) bl hs xss/\v.ownBlock ≠ some s
theorem Mg.nil (w:World) (bs lo s:Nat):Mg w bs lo s (.slice none 0 0) []:=⟨[],fun _=>0,⟨rfl,.inl ⟨rfl,rfl⟩⟩,Hs.nil _ _ _ _ _ (Nat.le_refl _),by simp [Value.ownBlock]⟩
theorem Mg.form {w:World} {bs lo s:Nat} {v:Value} {xss:List (List Int)} (h:Mg w bs lo s v xss):∃ A c,v = .slice A xss.length c:=by
 obtain ⟨hs,bl,own,_⟩:=h
 exact own_form own
theorem Mg.push {w0 W w':World} {bs lo s g c n:Nat} {v v':Value} {xss:List (List Int)} {hs:List Value} {bl:Nat->Nat} {A:Option Addr} {xs:List Int}
  (hh:Hs w0 lo w0.heap.size (fun b=>v.ownBlock = some b) bl hs xss) (ne:v.ownBlock ≠ some s) (hz:w0.heap.size<=W.heap.size) (hk:∀ b,lo<=b->b < w0.heap.size->W.heap[b]? = w0.heap[b]?)
  (hlo:lo<=w0.heap.size) (hs0:s < lo) (hr:Row W g (g + 1) A xs.length (V xs)) (hg0:w0.heap.size<=g) (hv:∀ b,v.ownBlock = some b->b < w0.heap.size)
  (hn:n = xss.length) (ho:w'.ownsRow bs 23 1 v' (n + 1) (hs ++ [.slice A xs.length c])) (hg:W.grownBy w' v.ownBlock) (hb:v'.ownBlock = v.ownBlock\/∃ k,v'.ownBlock = some k/\W.heap.size + 1<=k):Mg w' bs lo s v' (xss ++ [xs]):=by
 subst hn
 have gl:g < W.heap.size:=hr.2.1
 have H1:Hs W lo w0.heap.size (fun b=>v.ownBlock = some b) bl hs xss:=hh.keep hz (fun b q1 q2 _=>hk b q1 q2)
 have H2:=H1.snoc (g:=g) (c:=c) (A:=A) (xs:=xs) hg0 hlo (fun e=>by have:=hv g e;omega) hr
 have H3:=H2.keep (w':=w') hg.size (fun b q1 q2 q3=>hg.block b (by omega) (fun e=>q3 e.symm))
 refine ⟨_,_,by simpa using ho,(H3.exs ?_).wider (Nat.le_refl _) (by have:=hg.size;omega) (Nat.le_refl _),?_⟩
 ·intro b q1 q2 q3 e
  rcases hb with q | ⟨k,q,hk⟩
  ·exact q3 (by rw [<-q];exact e)
  ·rw [q] at e;injection e with e;omega
 ·rcases hb with q | ⟨k,q,hk⟩
  ·rw [q];exact ne
  ·rw [q];intro e;injection e with e;omega
theorem Mg.mat {w:World} {bs lo s:Nat} {A:Option Addr} {c:Nat} {xss:List (List Int)} (h:Mg w bs lo s (.slice A xss.length c) xss) {B:Nat} (h1:B<=bs) (h2:B<=lo):Mat w B w.heap.size A xss.length xss:=by
 obtain ⟨hs,bl,own,hh,ne⟩:=h
 refine ⟨rfl,Nat.le_refl _,?_⟩
 rcases Nat.eq_zero_or_pos xss.length with h0 | h0
 ·obtain rfl:=List.eq_nil_of_length_eq_zero h0
  exact ⟨[],fun _=>0,0,Hs.nil _ _ _ _ _ (Nat.le_refl _),fun q=>by simp at q⟩
 ·have hl:hs.length = xss.length:=by simpa using own.1
  rw [<-hl] at own h0
  obtain ⟨g,hg,hr⟩:=own_row own h0
  obtain ⟨g',off,e,q1,q2,_⟩:=hr.2.2 h0
  obtain rfl:g' = g:=by omega
  subst e
  have gl:g' < w.heap.size:=hr.2.1
  refine ⟨hs,bl,g',(hh.exs (fun b _ _ q e=>q (by rw [e];rfl))).wider h2 (Nat.le_refl _) (Nat.le_refl _),fun _=>⟨by omega,gl,?_⟩⟩
  rw [hl] at hr
  exact hr
structure Cf (w wr:World) (ps:List Int) (v:Value) (l:List Int):Prop where
 own:wr.ownsRow (w.heap.size + 1) 3 1 v l.length (V l)
 p:Arr wr w.heap.size (V ps) 60
 below:Below w.heap.size w wr
theorem Cf.next {w wr w':World} {ps l:List Int} {v v':Value} {z:Int} {n:Nat} (h:Cf w wr ps v l)
  (ho:w'.ownsRow (w.heap.size + 1) 3 1 v' (n + 1) (V l ++ [.int .i64 z])) (hn:n = l.length) (hg:wr.grownBy w' v.ownBlock):Cf w w' ps v' (l ++ [z]):=by
 subst hn
 have e:V (l ++ [z]) = V l ++ [.int .i64 z]:=by simp [V]
 refine ⟨by rw [e];simpa using ho,?_,?_⟩
 ·exact (hg.block _ h.p.lt (fun e=>by have:=(h.own.lt _ e.symm).1;omega)).trans h.p
 ·exact h.below.trans ((Below.refl _ _).grown hg h.below.size (fun k hk=>by have:=(h.own.lt k hk).1;omega))
set_option maxHeartbeats 1000000 in
theorem cycleFrom_any (ps:List Int) (n:Nat) (f:Nat) (w:World) (hl:ps.length = 24) (hb:Bij n ps) (hn:n<=24) (hf:f < n) :
  Calls sqp.prog 142 #[.agg (V ps).toArray,.int .i64 f] w (Gives (cyc ps n f) w):=by
 obtain ⟨i0,hi0,hz0,hz1,hz2⟩:=info_parts infoI
 have HL:=Lib.hid hl;have HB:=Lib.hid hb;clear hl hb
 have hcf:=((Arr.new w (V ps) 60 rfl).alloc (.cells #[.int .i64 f] 3)).cell (V_getD (l:=ps) (k:=f) (by rw [HL.out];omega))
 have CW:=Lib.hid (Cw.start (ps:=ps) (f:=(f:Int)) (n:=n) (by omega) (by omega))
 rw [Int.toNat_natCast] at CW
 have m0:=HB.out.maps f hf
 generalize ps.getD f 0 = x0 at *
 go_enter sqp.func142,sqp.ntmps142
 go_wp2
 go_loopw [5,6] (fun v x wr=>∃ (z:Int) (acc:List Int) (m:Nat),x = .int .i64 z/\Cf w wr ps v acc/\Cw n ps f z acc m) (fun v _ _=>n + 1 - lenV v)
 case atStart =>
  refine ⟨x0,[(f:Int)],n,rfl,⟨?_,(Arr.new w (V ps) _ rfl).alloc _,((Below.refl _ _).alloc (Nat.le_refl _) _).alloc (by simp) _⟩,CW.out⟩
  exact ⟨rfl,.inr ⟨w.heap.size + 1,1,#[.int .i64 f],rfl,Nat.le_refl _,Arr.new _ (V [(f:Int)]) _ (by simp),Nat.le_refl _,by unfold maxLen;omega,rfl,rfl⟩⟩
 case round =>
  obtain ⟨z,acc,m,rfl,hcf',hcw⟩:=hrel
  obtain ⟨C,cc,rfl⟩:=own_form hcf'.own
  have CF:=Lib.hid hcf';have CWW:=Lib.hid hcw;clear hcf' hcw
  have hal:acc.length<=n:=CWW.out.way.inn.len
  have zi:=CWW.out.way.x_in HB.out
  obtain ⟨y,rfl⟩:=Int.eq_ofNat_of_zero_le zi.1
  have hy:y < n:=by omega
  clear zi
  by_cases e:y = f
  ·subst e
   have D:=Lib.hid CWW.out.done
   go_wp2
   go_ret
   refine ⟨_,rfl,?_,CF.out.below⟩
   have:=own_base CF.out.own (base':=w.heap.size) (by omega)
   rw [D.out] at this
   rw [D.out]
   exact this
  ·have hne:((y:Int) != (f:Int)) = true:=by simp;omega
   have NX:Hid (Cw n ps f (ps.getD y 0) (acc ++ [(y:Int)]) (m - 1)):=Lib.hid (by have:=CWW.out.next HB.out (by omega);rw [Int.toNat_natCast] at this;exact this)
   have hsz:w.heap.size + 1<=wr.heap.size:=CF.out.p.lt
   clear e
   go_wp2_with (at_builtin;refine wpList_append_one wr _ _ rfl _ _ 23 rfl (w.heap.size + 1) 3 i0 _ 8 sqp.underlying23 hi0 hz0 hz1 hz2 rfl _ _ _ rfl CF.out.own rfl rfl ?c4 (by decide) hsz ?_)
   case c4=>omega
   intro v' w' ho hg
   have HN:=Lib.hid (CF.out.next ho rfl hg)
   clear ho hg CF
   obtain ⟨C',cc',rfl⟩:=own_form HN.out.own
   have hcy:=HN.out.p.cell (V_getD (l:=ps) (k:=y) (by rw [HL.out];omega))
   go_wp2
   go_roundw
   case rel=>exact ⟨_,_,_,rfl,HN.out,NX.out⟩
   case measure=>simp [lenV];omega
end Go.Proofs.Ytgcnemkhppkkcaa.fns

namespace Go.Proofs.Ytgcnemkhppkkcaa.gl
open Go.ChangeShapes Go.WideShapes Go.ChangeAt Go.RowKit
open mem ints arr pm permOk permOf inv fns sf
set_option linter.unusedVariables false
set_option maxRecDepth 100000
structure Tg (w wr:World) (v u:Value) (l m:List Int):Prop where
 res:Arr wr w.heap.size [.slice none 0 0,.slice none 0 0] 25
 box:Arr wr (w.heap.size + 1) [v,u] 25
 own1:wr.ownsRow (w.heap.size + 2) 3 1 v l.length (V l)
 own2:wr.ownsRow (w.heap.size + 2) 3 1 u m.length (V m)
 ne:∀ b,v.ownBlock = some b->u.ownBlock ≠ some b
 below:Below w.heap.size w wr
theorem Svl.apart {w:World} {lo:Nat} {P Q:Option Addr} {c d:Nat} {r u:List Int} (h1:w.ownsRow lo 3 1 (.slice P r.length c) r.length (V r)) (h2:w.ownsRow lo 3 1 (.slice Q u.length d) u.length (V u))
  (ne:∀ b,(Value.slice P r.length c).ownBlock = some b->(Value.slice Q u.length d).ownBlock ≠ some b) (hr:0 < r.length) (hu:0 < u.length):Svl w lo w.heap.size (.agg #[.slice P r.length c,.slice Q u.length d]) r u:=by
 have e1:=(own_cap h1).2
 have e2:=(own_cap h2).2
 have h1':=h1;have h2':=h2
 rw [<-V_len r] at h1';rw [<-V_len u] at h2'
 obtain ⟨g,hg,r1⟩:=own_row h1' (by rw [V_len];exact hr)
 obtain ⟨g',hg',r2⟩:=own_row h2' (by rw [V_len];exact hu)
 rw [V_len] at r1 r2
 obtain ⟨b,off,rfl,_,q1,_⟩:=r1.2.2 hr
 obtain ⟨b',off',rfl,_,q2,_⟩:=r2.2.2 hu
 have hne:g ≠ g':=fun e=>by
  have a1:b = g:=by have:=r1.2.2 hr;obtain ⟨_,_,e,_,_⟩:=this;injection e with e;injection e with e;omega
  have a2:b' = g':=by have:=r2.2.2 hu;obtain ⟨_,_,e,_,_⟩:=this;injection e with e;injection e with e;omega
  exact ne b rfl (by rw [a1,e,<-a2];rfl)
 exact ⟨_,_,_,_,_,_,g,g + 1,g',g' + 1,rfl,r1,r2,e1,e2,hg,r1.2.1,hg',r2.2.1,by omega,Nat.le_refl _⟩
theorem w_in {a:Int} (h:0<=a/\a<=1000):IntKind.i64.wrap a = a:=IntWalk.i64_in _ (by omega)
end Go.Proofs.Ytgcnemkhppkkcaa.gl

namespace Go.Proofs.Ytgcnemkhppkkcaa.gl
open Go.ChangeShapes Go.WideShapes Go.ChangeAt Go.RowKit
open mem ints arr pm permOk permOf inv fns sf
set_option linter.unusedVariables false
set_option maxRecDepth 100000
def lst (n:Nat) (f:Nat->Nat):List Int:=(List.range n).map fun i=>(f i:Int)
theorem lst_len (n:Nat) (f:Nat->Nat):(lst n f).length = n:=by simp [lst]
theorem lst_set {n k z:Nat} {f f':Nat->Nat} (h:∀ i,i < n->f' i = if i = k then z else f i):(lst n f).set k (z:Int) = lst n f':=by
 refine list_eq n (by simp [lst]) (lst_len _ _) fun i hi=>?_
 rw [getD_set,lst_len]
 have e:∀ g:Nat->Nat,(lst n g).getD i 0 = (g i:Int):=fun g=>by simp [lst,List.getD,hi]
 rw [e,e,h i hi]
 by_cases q:i = k
 ·rw [if_pos ⟨q.symm,hi⟩,if_pos q]
 ·rw [if_neg (fun x=>q x.1.symm),if_neg q]
theorem lst_congr {n:Nat} {f f':Nat->Nat} (h:∀ i,i < n->f i = f' i):lst n f = lst n f':=by
 unfold lst;exact List.map_congr_left fun i hi=>by rw [h i (by simpa using hi)]
theorem lst_id (n:Nat):lst n (fun i=>i) = (List.range n).map (fun (i:Nat)=>(i:Int)):=rfl
def elR (arm n k:Nat):List Int:=lst n fun i=>if i < k then (i + 1) % arm else i
def elS (arm n k:Nat):List Int:=lst n fun i=>if i = 0 then arm else if arm<=i/\i < k then (i + 1) % n else i
def elU (arm leg n:Nat):List Int:=if leg<=1 then lst n (fun i=>i) else elS arm n n
theorem elR_zero (arm n:Nat):elR arm n 0 = lst n (fun i=>i):=lst_congr fun i _=>by simp
theorem elR_succ {arm n k:Nat} (hk:k < n):(elR arm n k).set k (((k + 1) % arm:Nat):Int) = elR arm n (k + 1):=lst_set fun i _=>by
 by_cases q:i = k
 ·subst q;simp
 ·rw [if_neg q];split <;> split <;> first | rfl | omega
theorem elS_start {arm n:Nat} (h0:0 < n) (ha:1<=arm):(lst n (fun i=>i)).set 0 (arm:Int) = elS arm n arm:=lst_set fun i _=>by
 by_cases q:i = 0
 ·simp [q]
 ·rw [if_neg q,if_neg q,if_neg (by omega)]
theorem elS_succ {arm n k:Nat} (ha:1<=arm) (hk:arm<=k):(elS arm n k).set k (((k + 1) % n:Nat):Int) = elS arm n (k + 1):=lst_set fun i _=>by
 by_cases q:i = k
 ·subst q;rw [if_neg (by omega),if_pos (by omega),if_pos rfl]
 ·rw [if_neg q]
  by_cases q0:i = 0
  ·rw [if_pos q0,if_pos q0]
  ·rw [if_neg q0,if_neg q0];split <;> split <;> first | rfl | omega
def elB (a h:Int):Bool:=decide (1<=a/\1<=h/\a + h<=25)
def elFR (a h:Int):List Int:=if elB a h then elR a.toNat (a + h - 1).toNat a.toNat else []
def elFU (a h:Int):List Int:=if elB a h then elU a.toNat h.toNat (a + h - 1).toNat else []
theorem el_yes {A H n:Nat} (a1:1<=A) (h1:1<=H) (hn:n + 1 = A + H) (p:n<=24):elB A H = true/\elFR A H = elR A n A/\elFU A H = elU A H n:=by
 have e:elB A H = true:=by unfold elB;rw [decide_eq_true_eq];omega
 have en:((A:Int) + (H:Int) - 1).toNat = n:=by omega
 refine ⟨e,?_,?_⟩
 ·rw [elFR,e,if_pos rfl,en];rfl
 ·rw [elFU,e,if_pos rfl,en];rfl
theorem el_no {a h:Int} (q:¬ (1<=a/\1<=h/\a + h<=25)):elB a h = false/\elFR a h = []/\elFU a h = []:=by
 have e:elB a h = false:=by unfold elB;rw [decide_eq_false_iff_not];exact q
 exact ⟨e,by rw [elFR,e];rfl,by rw [elFU,e];rfl⟩
structure Eg (w wr:World) (b g1 g2 n c1 c2:Nat) (l m:List Int):Prop where
 res:Arr wr w.heap.size [.slice none 0 0,.slice none 0 0] 25
 box:Arr wr b [.slice (some ⟨g1,0,none⟩) n c1,.slice (some ⟨g2,0,none⟩) n c2] 25
 own1:wr.ownsRow (w.heap.size + 1) 3 1 (.slice (some ⟨g1,0,none⟩) n c1) n (V l)
 own2:wr.ownsRow (w.heap.size + 1) 3 1 (.slice (some ⟨g2,0,none⟩) n c2) n (V m)
 ne:g1 ≠ g2
 b1:g1 < b
 b2:g2 < b
 below:Below w.heap.size w wr
theorem own_set2 {W:World} {base b k:Nat} {e:TypeId} {v u:Value} {n:Nat} {xs:List Value} (h:W.ownsRow base e 1 v n xs) (hb:v.ownBlock ≠ some b):(W.setCell ⟨b,k,none⟩ u).ownsRow base e 1 v n xs:=by
 refine ⟨h.1,?_⟩
 rcases h.2 with h0 | ⟨g,cap,cur,q1,q2,q3,q4⟩
 ·exact .inl h0
 ·exact .inr ⟨g,cap,cur,q1,q2,(Below.heap_setCell _ _ _ _ (by show g ≠ b;intro e;exact hb (by rw [q1,<-e];rfl))).trans q3,q4⟩
theorem Eg.drew {w wr:World} {b g1 g2 n c1 c2:Nat} {l m:List Int} (h:Eg w wr b g1 g2 n c1 c2 l m):Eg w wr.drew b g1 g2 n c1 c2 l m:=⟨h.res,h.box,h.own1,h.own2,h.ne,h.b1,h.b2,⟨h.below.os,h.below.tape,h.below.output,h.below.size,h.below.block⟩⟩
theorem Eg.g1 {w wr:World} {b g1 g2 n c1 c2:Nat} {l m:List Int} (h:Eg w wr b g1 g2 n c1 c2 l m):w.heap.size + 1<=g1:=(h.own1.lt g1 rfl).1
theorem Eg.g2 {w wr:World} {b g1 g2 n c1 c2:Nat} {l m:List Int} (h:Eg w wr b g1 g2 n c1 c2 l m):w.heap.size + 1<=g2:=(h.own2.lt g2 rfl).1
theorem Eg.set1 {w wr:World} {b g1 g2 n c1 c2:Nat} {l m:List Int} (h:Eg w wr b g1 g2 n c1 c2 l m) (k:Nat) (z:Int):Eg w (wr.setCell ⟨g1,k,none⟩ (.int .i64 z)) b g1 g2 n c1 c2 (l.set k z) m:=by
 have q1:=h.g1;have q2:=h.b1;have q3:=h.ne
 refine ⟨(Below.heap_setCell _ _ _ _ (by show _ ≠ g1;omega)).trans h.res,(Below.heap_setCell _ _ _ _ (by show _ ≠ g1;omega)).trans h.box,?_,own_set2 h.own2 (by show some g2 ≠ some g1;intro e;injection e with e;exact q3 e.symm),h.ne,h.b1,h.b2,h.below.setCell (by show w.heap.size<=g1;omega) _⟩
 have:=(h.own1.stored k (.int .i64 z)).1
 rw [V_set] at this
 exact this
theorem Eg.set2 {w wr:World} {b g1 g2 n c1 c2:Nat} {l m:List Int} (h:Eg w wr b g1 g2 n c1 c2 l m) (k:Nat) (z:Int):Eg w (wr.setCell ⟨g2,k,none⟩ (.int .i64 z)) b g1 g2 n c1 c2 l (m.set k z):=by
 have q1:=h.g2;have q2:=h.b2;have q3:=h.ne
 refine ⟨(Below.heap_setCell _ _ _ _ (by show _ ≠ g2;omega)).trans h.res,(Below.heap_setCell _ _ _ _ (by show _ ≠ g2;omega)).trans h.box,own_set2 h.own1 (by show some g1 ≠ some g2;intro e;injection e with e;exact q3 e),?_,h.ne,h.b1,h.b2,h.below.setCell (by show w.heap.size<=g2;omega) _⟩
 have:=(h.own2.stored k (.int .i64 z)).1
 rw [V_set] at this
 exact this
theorem Eg.cell1 {w wr:World} {b g1 g2 n c1 c2:Nat} {l m:List Int} (h:Eg w wr b g1 g2 n c1 c2 l m) {k:Nat} (hk:k < n):wr.cell? ⟨g1,k,none⟩ = some (.int .i64 (l.getD k 0)):=by
 have hl:l.length = n:=by have:=h.own1.1;simpa [V] using this
 rw [h.own1.cellAt k (by omega)];exact V_getD (by omega)
theorem Eg.cell2 {w wr:World} {b g1 g2 n c1 c2:Nat} {l m:List Int} (h:Eg w wr b g1 g2 n c1 c2 l m) {k:Nat} (hk:k < n):wr.cell? ⟨g2,k,none⟩ = some (.int .i64 (m.getD k 0)):=by
 have hl:m.length = n:=by have:=h.own2.1;simpa [V] using this
 rw [h.own2.cellAt k (by omega)];exact V_getD (by omega)
theorem Eg.svl {w wr:World} {b g1 g2 n c1 c2:Nat} {l m:List Int} (h:Eg w wr b g1 g2 n c1 c2 l m) (hn:0 < n):Svl wr (w.heap.size + 1) wr.heap.size (.agg #[.slice (some ⟨g1,0,none⟩) n c1,.slice (some ⟨g2,0,none⟩) n c2]) l m:=by
 have e1:l.length = n:=by have:=h.own1.1;simpa [V] using this
 have e2:m.length = n:=by have:=h.own2.1;simpa [V] using this
 have r1:=h.own1;have r2:=h.own2
 have q:=Svl.apart (P:=some ⟨g1,0,none⟩) (Q:=some ⟨g2,0,none⟩) (c:=c1) (d:=c2) (r:=l) (u:=m) (by rw [e1];exact r1) (by rw [e2];exact r2) (fun x a1 a2=>h.ne ((Option.some.inj (show some g1 = some x from a1)).trans (Option.some.inj (show some g2 = some x from a2)).symm)) (by omega) (by omega)
 rw [e1,e2] at q
 exact q
theorem elf {A k:Nat} (h1:1<=A) (h2:A<=24) (h3:k<=24):∃ k1 z:Nat,((k:Int) + 1 = (k1:Int)/\IntKind.i64.wrap (k1:Int) = (k1:Int))/\(k1:Int).tmod (A:Int) = (z:Int)/\z = (k + 1) % A :=
 ⟨k + 1,(k + 1) % A,⟨by simp,w_in (by omega)⟩,by rw [Int.tmod_eq_emod_of_nonneg (by omega)];exact (Int.natCast_emod _ A).symm,rfl⟩
end Go.Proofs.Ytgcnemkhppkkcaa.gl
