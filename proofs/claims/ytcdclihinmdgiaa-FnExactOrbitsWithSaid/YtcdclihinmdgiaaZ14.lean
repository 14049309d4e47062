import Derived.Test.YtcdclihinmdgiaaZ04
import Derived.Test.YtcdclihinmdgiaaZ12
import Derived.Test.YtcdclihinmdgiaaZ13
import Derived.Deep.CutRange
import Derived.Test.YtcdclihinmdgiaaZ11
import Derived.Test.YtcdclihinmdgiaaZ08
import Derived.Test.YtcdclihinmdgiaaZ09
import Derived.OwnWalk
import Derived.Test.YtcdclihinmdgiaaZ06
import Derived.Test.YtcdclihinmdgiaaZ10
import Derived.Test.YtcdclihinmdgiaaZ05
import Derived.Deep.DeepAppendWide
namespace Go.Proofs.Ytcdclihinmdgiaa.gl
open Go.ChangeShapes Go.WideShapes Go.ChangeAt Go.RowKit
open mem ints arr pm permOk permOf inv fns sf
set_option linter.unusedVariables false
set_option maxRecDepth 100000
theorem quj {k:Nat} {xs ys:List Int} {s t:Int} (hl:xs.length = ys.length) (h:Same xs ys k) (h1:xs[k]? = some s) (h2:ys[k]? = some t) (hne:s ≠ t):y5 xs ys = decide (s < t):=by
 rw [<-(qbf xs ys hl).1,qlt k xs ys s t h h1 h2 hne]
 by_cases q:s < t <;> simp [q]
set_option maxHeartbeats 1000000 in
theorem qjz (A:Option Addr) (n c:Nat) (B:Option Addr) (m d:Nat) (xs ys:List Int) (h1 h2:Nat) (w:World)
  (hx:Rd w h1 A n (V xs)) (hy:Rd w h2 B m (V ys)) (hn:n<=1048576) (hnm:n = m) :
  Calls sqp.prog 53 #[.slice A n c,.slice B m d] w fun e w'=>e = .returned (.bool (y5 xs ys))/\w' = w:=by
 subst hnm
 have lx:xs.length = n:=by simpa [V] using hx.1
 have ly:ys.length = n:=by simpa [V] using hy.1
 have LX:=Lib.hid lx;have LY:=Lib.hid ly;clear lx ly
 have HX:=Lib.hid hx;have HY:=Lib.hid hy;clear hx hy
 go_enter sqp.func53,sqp.ntmps53
 go_wp2
 go_loopw [9] (fun i wr=>∃ k:Nat,k<=n/\i = .int .i64 k/\wr = w/\Same xs ys k) (fun i _=>n - (intOf i).toNat)
 case atStart=>refine ⟨0,Nat.zero_le _,?_,?_,fun j hj=>by omega⟩ <;> first | rfl | trivial
 case round =>
  obtain ⟨k,hk,rfl,rfl,hsame⟩:=hrel
  have HS:=Lib.hid hsame;clear hsame
  by_cases hlt:k < n
  ·obtain ⟨g,off,u,rfl,_,hxu,hcx⟩:=HX.out.at_ hlt
   obtain ⟨g',off',u',rfl,_,hyu,hcy⟩:=HY.out.at_ hlt
   obtain ⟨s,hxs,rfl⟩:=qhb hxu
   obtain ⟨t,hyt,rfl⟩:=qhb hyu
   have HXS:=Lib.hid hxs;have HYT:=Lib.hid hyt;clear hxs hyt hxu hyu
   by_cases hst:s = t
   ·subst hst
    go_wp2
    go_roundw
    case rel=>exact ⟨k + 1,by omega,by go_num,by first | rfl | trivial,HS.out.step HXS.out HYT.out⟩
    case measure=>simp [intOf];omega
   ·have HC:Hid (y5 xs ys = decide (s < t)):=Lib.hid (quj (by rw [LX.out,LY.out]) HS.out HXS.out HYT.out hst)
    have hb:(s != t) = true:=by simpa using hst
    clear hst
    go_wp2
    go_ret
    exact ⟨qx HC.out.symm,rfl⟩
  ·obtain rfl:k = n:=by omega
   have HC:Hid (y5 xs ys = false):=Lib.hid (by rw [qnh LX.out LY.out HS.out];exact qd5 _)
   go_wp2
   go_ret
   exact ⟨qx HC.out.symm,rfl⟩
set_option maxHeartbeats 1000000 in
theorem qfy (x y:Value) (r u r' u':List Int) (h1 h2:Nat) (w:World) (hx:Srd w h1 x r u) (hy:Srd w h2 y r' u') (hn:r.length<=1048576) (lr:r.length = r'.length) (lu:u.length = u'.length) (lm:u.length<=1048576) :
  Calls sqp.prog 29 #[x,y] w fun e w'=>e = .returned (.bool (bef (r,u) (r',u')))/\Below w.heap.size w w':=by
 obtain ⟨P,n,c,Q,m,d,rfl,rp,rq,e1,e2⟩:=hx
 obtain ⟨P',n',c',Q',m',d',rfl,rp',rq',e1',e2'⟩:=hy
 have q1:r.length = n:=by simpa [V] using rp.1
 have q2:u.length = m:=by simpa [V] using rq.1
 have q1':r'.length = n':=by simpa [V] using rp'.1
 have q2':u'.length = m':=by simpa [V] using rq'.1
 obtain rfl:n' = n:=by omega
 obtain rfl:m' = m:=by omega
 have RP:=Lib.hid rp;have RQ:=Lib.hid rq;have RP':=Lib.hid rp';have RQ':=Lib.hid rq';clear rp rq rp' rq'
 have HI:=RP.out.2.1;have HI':=RP'.out.2.1
 have B1:Hid (∀ a b,Below w.heap.size w ((w.alloc a).alloc b)):=Lib.hid (fun a b=>((Below.refl _ _).alloc (Nat.le_refl _) _).alloc (by simp) _)
 go_enter sqp.func29,sqp.ntmps29
 go_wp2_with fail
 refine (same.qsn P n' c r P' n' c' r' _ _ _ (RP.out.keep (B1.out _ _) HI) (RP'.out.keep (B1.out _ _) HI') (by omega) (by omega)).mono ?_
 rintro e w1 ⟨rfl,d1⟩
 have D1:=Lib.hid d1;clear d1
 have c0:=(((Arr.new w [.slice P n' c,.slice Q m' d] 32 rfl).alloc (.cells #[.slice P' n' c',.slice Q' m' d'] 32)).keep D1.out (by simp <;> omega)).cell (k:=0) rfl
 have c1:=(((Arr.new w [.slice P n' c,.slice Q m' d] 32 rfl).alloc (.cells #[.slice P' n' c',.slice Q' m' d'] 32)).keep D1.out (by simp <;> omega)).cell (k:=1) rfl
 have c2:=((Arr.new (w.alloc (.cells #[.slice P n' c,.slice Q m' d] 32)) [.slice P' n' c',.slice Q' m' d'] 32 (g:=w.heap.size + 1) (by simp <;> omega)).keep D1.out (by simp <;> omega)).cell (k:=0) rfl
 have c3:=((Arr.new (w.alloc (.cells #[.slice P n' c,.slice Q m' d] 32)) [.slice P' n' c',.slice Q' m' d'] 32 (g:=w.heap.size + 1) (by simp <;> omega)).keep D1.out (by simp <;> omega)).cell (k:=1) rfl
 have BB:Hid (Below w.heap.size w w1):=Lib.hid ((B1.out _ _).trans (D1.out.mono (by simp <;> omega)))
 by_cases hh:r = r'
 ·have HF:Hid (bef (r,u) (r',u') = y5 u u'):=Lib.hid (by simp [bef,hh])
  have hq:eqi r r' = true:=by subst hh;exact quu _
  rw [hq]
  clear hh hq
  go_wp2_with fail
  refine (qjz Q m' d Q' m' d' u u' _ _ _ (RQ.out.keep BB.out HI) (RQ'.out.keep BB.out HI') (by omega) rfl).mono ?_
  rintro e w2 ⟨rfl,rfl⟩
  go_wp2_with fail
  go_ret
  exact ⟨qx HF.out.symm,BB.out⟩
 ·have HF:Hid (bef (r,u) (r',u') = y5 r r'):=Lib.hid (by simp [bef,hh])
  have hq:eqi r r' = false:=by simp [eqi,hh]
  rw [hq]
  clear hh hq
  go_wp2_with fail
  refine (qjz P n' c P' n' c' r r' _ _ _ (RP.out.keep BB.out HI) (RP'.out.keep BB.out HI') (by omega) rfl).mono ?_
  rintro e w2 ⟨rfl,rfl⟩
  go_wp2_with fail
  go_ret
  exact ⟨qx HF.out.symm,BB.out⟩
structure Bs (wr:World) (B lo n:Nat) (f:Sur):Prop where
 ex:∃ P c Q d hi,Arr wr B [.slice P n c,.slice Q n d] 32/\Svl wr lo hi (.agg #[.slice P n c,.slice Q n d]) f.1 f.2
theorem Bs.keep {wr w':World} {B lo n:Nat} {f:Sur} (h:Bs wr B lo n f) (hb:Below wr.heap.size wr w'):Bs w' B lo n f:=by
 obtain ⟨P,c,Q,d,hi,a,s⟩:=h.ex
 exact ⟨P,c,Q,d,hi,a.keep hb a.lt,s.keep hb s.top⟩
structure Cs (w wr:World) (a b:Value) (n B3:Nat) (f:Sur):Prop where
 g:Arr wr w.heap.size [a,b] 32
 res:Arr wr (w.heap.size + 1) [.slice none 0 0,.slice none 0 0] 32
 best:Bs wr B3 (w.heap.size + 2) n f
 hB:w.heap.size + 2<=B3
 below:Below w.heap.size w wr
theorem Cs.keep {w wr w':World} {a b:Value} {n B3:Nat} {f:Sur} (h:Cs w wr a b n B3 f) (hb:Below wr.heap.size wr w'):Cs w w' a b n B3 f :=
 ⟨h.g.keep hb h.g.lt,h.res.keep hb h.res.lt,h.best.keep hb,h.hB,h.below.trans (hb.mono h.below.size)⟩
theorem Cs.new {w wr:World} {a b:Value} {n B3 lo hi:Nat} {f f':Sur} {P Q:Option Addr} {c d:Nat} (h:Cs w wr a b n B3 f) (hs:Svl wr lo hi (.agg #[.slice P n c,.slice Q n d]) f'.1 f'.2) (hl:B3 < lo) :
  Cs w (wr.setRow B3 #[.slice P n c,.slice Q n d]) a b n B3 f':=by
 have hB:=h.hB
 obtain ⟨P',c',Q',d',hi',a',s'⟩:=h.best.ex
 refine ⟨h.g.qh (by omega),h.res.qh (by omega),⟨P,c,Q,d,hi,a'.row,(Svl.row hs hl _).later (by omega)⟩,hB,below_setRow h.below (by omega) _⟩
def Fc (r u:List Int) (n k:Nat):Sur:=qhe (Fm r u n) k
theorem q1a (r u:List Int) (n k:Nat):(Fc r u n k).1.length = n/\(Fc r u n k).2.length = n:=by
 obtain ⟨j,hj,e⟩:=qof (Fm r u n) k
 unfold Fc;rw [e];exact qd6 _ _ _ _
set_option maxHeartbeats 2000000 in
theorem qem (v:Value) (r u:List Int) (n:Nat) (hi:Nat) (w:World) (hx:Srd w hi v r u) (s:Sf n r u) :
  Calls sqp.prog 26 #[v] w fun e w'=>∃ g,e = .returned g/\Svl w' w.heap.size w'.heap.size g (can r u n).1 (can r u n).2/\Below w.heap.size w w':=by
 have lr:=s.lr;have lu:=s.lu
 have hn24:n<=24:=by have:=s.r.len;omega
 have HX:=Lib.hid hx;have HS:=Lib.hid s
 obtain ⟨P,n1,c,Q,m1,d,rfl,q1,q2,e1,e2,ht,HR⟩:=hx.open
 have hpos:=s.pos
 obtain rfl:n1 = n:=by omega
 obtain rfl:m1 = n1:=by omega
 clear hx s lr lu q1 q2 HR
 go_enter sqp.func26,sqp.ntmps26
 go_wp2_with fail
 generalize hw1:(w.alloc (.cells #[.slice P m1 c,.slice Q m1 d] 32)).alloc (.cells #[.slice none 0 0,.slice none 0 0] 32) = w1
 have A0:Hid (Arr w1 w.heap.size [.slice P m1 c,.slice Q m1 d] 32):=Lib.hid (by rw [<-hw1];exact (Arr.new w _ _ rfl).alloc _)
 have A1:Hid (Arr w1 (w.heap.size + 1) [.slice none 0 0,.slice none 0 0] 32):=Lib.hid (by rw [<-hw1];exact Arr.new _ _ _ (by simp))
 have B1:Hid (Below w.heap.size w w1):=Lib.hid (by rw [<-hw1];exact ((Below.refl _ _).alloc (Nat.le_refl _) _).alloc (by simp) _)
 have s1:w.heap.size + 2<=w1.heap.size:=by rw [<-hw1];simp
 clear hw1
 go_cut [3] from 6 to 9 (fun p wx=>∃ B3,p = .pointer (some ⟨B3,0,none⟩)/\Cs w wx (.slice P m1 c) (.slice Q m1 d) m1 B3 (Fm r u m1 0))
 case first =>
  refine wp_region_held_drew (S:=Hld w.heap.size w1.heap.size w1 [(w.heap.size,[.slice P m1 c,.slice Q m1 d])]) (by kernel_rfl) ((Hld.qa6 A0.out).lower (by omega)) (fun hHeld=>?_)
  have b1:Below w1.heap.size w1 w1.drew:=⟨rfl,rfl,rfl,Nat.le_refl _,fun _ _=>rfl⟩
  generalize w1.drew = w2 at *
  have s2:=b1.size
  replace A0:=Lib.hid (A0.out.keep b1 A0.out.lt)
  replace A1:=Lib.hid (A1.out.keep b1 A1.out.lt)
  replace B1:=Lib.hid (B1.out.trans (b1.mono B1.out.size))
  clear b1
  refine wpAnyH_take (i:=0) (v:=.agg #[.slice P m1 c,.slice Q m1 d]) rfl (by kernel_rfl) (by kernel_rfl) (by kernel_rfl) (fun _ _ _ h=>h) (yieldsIf_load_mid (by rfl) _ _ rfl (w.heap.size) 0 rfl [.slice P m1 c,.slice Q m1 d] _ (fun w h=>h.fst) sqp.underlying32 rfl (qpo _ _)) hHeld ?_
  refine wpAnyH_take (i:=1) (v:=.agg #[.slice P m1 c,.slice Q m1 d]) rfl (by kernel_rfl) (by kernel_rfl) (by kernel_rfl) (fun _ _ _ h=>h) (yieldsIf_load_mid (by rfl) _ _ rfl (w.heap.size) 0 rfl [.slice P m1 c,.slice Q m1 d] _ (fun w h=>h.fst) sqp.underlying32 rfl (qpo _ _)) hHeld ?_
  refine wpAnyH_ready (rs:=[2,4]) (by kernel_rfl) (by simp) (AllReadyH.cons rfl (fun K hK=>?_) (AllReadyH.cons rfl (fun K hK=>?_) AllReadyH.nil))
  ·go_simp
   refine (qc0 _ r u m1 0 hi _ (HX.out.keep (B1.out.mono ht) (Nat.le_refl _)) HS.out (Int.le_refl _) (by omega)).mono ?_
   rintro e w3 ⟨v1,rfl,o1,b1⟩
   obtain ⟨P1,c1,rfl,r1,C1⟩:=dw o1
   have NK:=Lib.hid (HS.out.nok (f:=0) (Int.le_refl _) (by omega))
   rw [NK.out.2] at r1 C1 ⊢
   have s3:=b1.size
   have R1:=Lib.hid r1;clear r1 o1
   replace A0:=Lib.hid (A0.out.keep b1 A0.out.lt)
   replace A1:=Lib.hid (A1.out.keep b1 A1.out.lt)
   replace B1:=Lib.hid (B1.out.trans (b1.mono B1.out.size))
   go_wp2_with fail
   have hHeld2:=hHeld.later b1 (by omega);clear b1 hHeld
   refine hK.out _ _ hHeld2 (fun hHeld=>?_)
   clear hK K hHeld2
   refine wpAnyH_ready (rs:=[3,4]) (by kernel_rfl) (by simp) (AllReadyH.cons rfl (fun K hK=>?_) (AllReadyH.cons rfl (fun K hK=>?_) AllReadyH.nil))
   ·go_simp
    refine (dx _ r u P1 m1 c1 (nm r u 0) m1 hi _ _ (HX.out.keep (B1.out.mono ht) (Nat.le_refl _)) R1.out.rd HS.out NK.out.1 NK.out.2).mono ?_
    rintro e w4 ⟨g,rfl,sg,b1⟩
    obtain ⟨P2,c2,Q2,d2,rfl⟩:=sg.lens (xk _ _ _ _) (xk _ _ _ _)
    have s4:=b1.size
    have SG:=Lib.hid sg;clear sg R1
    replace A0:=Lib.hid (A0.out.keep b1 A0.out.lt)
    replace A1:=Lib.hid (A1.out.keep b1 A1.out.lt)
    replace B1:=Lib.hid (B1.out.trans (b1.mono B1.out.size))
    go_wp2_with fail
    have hHeld2:=hHeld.later b1 (by omega);clear b1 hHeld
    refine hK.out _ _ hHeld2 (fun hHeld=>?_)
    clear hK K hHeld2
    refine wpAnyH_ready (rs:=[4]) (by kernel_rfl) (by simp) (AllReadyH.cons rfl (fun K hK=>?_) AllReadyH.nil)
    go_simp
    generalize hwa:w4.alloc (.cells #[.slice none 0 0,.slice none 0 0] 32) = wa
    have b1:Below w4.heap.size w4 wa:=by rw [<-hwa];exact (Below.refl _ _).alloc (Nat.le_refl _) _
    have AL:Hid (Arr wa w4.heap.size [.slice none 0 0,.slice none 0 0] 32):=Lib.hid (by rw [<-hwa];exact Arr.new _ _ _ rfl)
    have sa:w4.heap.size + 1<=wa.heap.size:=by rw [<-hwa];simp
    clear hwa
    replace A0:=Lib.hid (A0.out.keep b1 A0.out.lt)
    replace A1:=Lib.hid (A1.out.keep b1 A1.out.lt)
    replace B1:=Lib.hid (B1.out.trans (b1.mono B1.out.size))
    replace SG:=Lib.hid (SG.out.keep b1 SG.out.top)
    have hHeld2:=hHeld.later b1 (by omega);clear b1 hHeld
    refine hK.out _ _ hHeld2 (fun hHeld=>?_)
    clear hK K hHeld2
    refine wpAnyH_ready (rs:=[5]) (by kernel_rfl) (by simp) (AllReadyH.cons rfl (fun K hK=>?_) AllReadyH.nil)
    refine ql rfl 32 _ _ rfl (w4.heap.size) #[.slice P2 m1 c2,.slice Q2 m1 d2] rfl rfl 32 #[.slice none 0 0,.slice none 0 0] AL.out yj rfl (by simp [Value.oneCell']) ?_
    change K (Act.put _ none _) _
    simp only [Act.put]
    refine hK.out _ _ (hHeld.other (by omega) (by simp;omega) _) (fun hHeld2=>?_)
    clear hK K hHeld2
    refine wpAnyH_done (by kernel_rfl) ?_ _
    go_wp2_with fail
    go_meet
    refine ⟨_,rfl,A0.out.qh (by omega),A1.out.qh (by omega),⟨P2,c2,Q2,d2,w4.heap.size,AL.out.row,?_⟩,by omega,below_setRow B1.out (by omega) _⟩
    exact (SG.out.out ((Out.refl (w4.heap.size) (w4.heap.size + 1) _).qvr (Nat.le_refl _) (Nat.lt_succ_self _) _) (by omega)).later (by omega)
   ·go_simp
    generalize hwa:w3.alloc (.cells #[.slice none 0 0,.slice none 0 0] 32) = wa
    have b1:Below w3.heap.size w3 wa:=by rw [<-hwa];exact (Below.refl _ _).alloc (Nat.le_refl _) _
    have AL:Hid (Arr wa w3.heap.size [.slice none 0 0,.slice none 0 0] 32):=Lib.hid (by rw [<-hwa];exact Arr.new _ _ _ rfl)
    have sa:w3.heap.size + 1<=wa.heap.size:=by rw [<-hwa];simp
    clear hwa
    replace A0:=Lib.hid (A0.out.keep b1 A0.out.lt)
    replace A1:=Lib.hid (A1.out.keep b1 A1.out.lt)
    replace B1:=Lib.hid (B1.out.trans (b1.mono B1.out.size))
    replace R1:=Lib.hid (R1.out.keep b1 R1.out.2.1)
    have hHeld2:=hHeld.later b1 (by omega);clear b1 hHeld
    refine hK.out _ _ hHeld2 (fun hHeld=>?_)
    clear hK K hHeld2
    refine wpAnyH_ready (rs:=[3]) (by kernel_rfl) (by simp) (AllReadyH.cons rfl (fun K hK=>?_) AllReadyH.nil)
    go_simp
    refine (dx _ r u P1 m1 c1 (nm r u 0) m1 hi _ _ (HX.out.keep (B1.out.mono ht) (Nat.le_refl _)) R1.out.rd HS.out NK.out.1 NK.out.2).mono ?_
    rintro e w4 ⟨g,rfl,sg,b1⟩
    obtain ⟨P2,c2,Q2,d2,rfl⟩:=sg.lens (xk _ _ _ _) (xk _ _ _ _)
    have s4:=b1.size
    have SG:=Lib.hid sg;clear sg R1
    replace A0:=Lib.hid (A0.out.keep b1 A0.out.lt)
    replace A1:=Lib.hid (A1.out.keep b1 A1.out.lt)
    replace B1:=Lib.hid (B1.out.trans (b1.mono B1.out.size))
    replace AL:=Lib.hid (AL.out.keep b1 AL.out.lt)
    go_wp2_with fail
    have hHeld2:=hHeld.later b1 (by omega);clear b1 hHeld
    refine hK.out _ _ hHeld2 (fun hHeld=>?_)
    clear hK K hHeld2
    refine wpAnyH_ready (rs:=[5]) (by kernel_rfl) (by simp) (AllReadyH.cons rfl (fun K hK=>?_) AllReadyH.nil)
    refine ql rfl 32 _ _ rfl (w3.heap.size) #[.slice P2 m1 c2,.slice Q2 m1 d2] rfl rfl 32 #[.slice none 0 0,.slice none 0 0] AL.out yj rfl (by simp [Value.oneCell']) ?_
    change K (Act.put _ none _) _
    simp only [Act.put]
    refine hK.out _ _ (hHeld.other (by omega) (by simp;omega) _) (fun hHeld2=>?_)
    clear hK K hHeld2
    refine wpAnyH_done (by kernel_rfl) ?_ _
    go_wp2_with fail
    go_meet
    refine ⟨_,rfl,A0.out.qh (by omega),A1.out.qh (by omega),⟨P2,c2,Q2,d2,w4.heap.size,AL.out.row,?_⟩,by omega,below_setRow B1.out (by omega) _⟩
    exact (SG.out.out ((Out.refl (w3.heap.size) (w3.heap.size + 1) _).qvr (Nat.le_refl _) (Nat.lt_succ_self _) _) (by omega)).later (by omega)
  ·go_simp
   generalize hwa:w2.alloc (.cells #[.slice none 0 0,.slice none 0 0] 32) = wa
   have b1:Below w2.heap.size w2 wa:=by rw [<-hwa];exact (Below.refl _ _).alloc (Nat.le_refl _) _
   have AL:Hid (Arr wa w2.heap.size [.slice none 0 0,.slice none 0 0] 32):=Lib.hid (by rw [<-hwa];exact Arr.new _ _ _ rfl)
   have sa:w2.heap.size + 1<=wa.heap.size:=by rw [<-hwa];simp
   clear hwa
   replace A0:=Lib.hid (A0.out.keep b1 A0.out.lt)
   replace A1:=Lib.hid (A1.out.keep b1 A1.out.lt)
   replace B1:=Lib.hid (B1.out.trans (b1.mono B1.out.size))
   have hHeld2:=hHeld.later b1 (by omega);clear b1 hHeld
   refine hK.out _ _ hHeld2 (fun hHeld=>?_)
   clear hK K hHeld2
   refine wpAnyH_ready (rs:=[2]) (by kernel_rfl) (by simp) (AllReadyH.cons rfl (fun K hK=>?_) AllReadyH.nil)
   go_simp
   refine (qc0 _ r u m1 0 hi _ (HX.out.keep (B1.out.mono ht) (Nat.le_refl _)) HS.out (Int.le_refl _) (by omega)).mono ?_
   rintro e w3 ⟨v1,rfl,o1,b1⟩
   obtain ⟨P1,c1,rfl,r1,C1⟩:=dw o1
   have NK:=Lib.hid (HS.out.nok (f:=0) (Int.le_refl _) (by omega))
   rw [NK.out.2] at r1 C1 ⊢
   have s3:=b1.size
   have R1:=Lib.hid r1;clear r1 o1
   replace A0:=Lib.hid (A0.out.keep b1 A0.out.lt)
   replace A1:=Lib.hid (A1.out.keep b1 A1.out.lt)
   replace B1:=Lib.hid (B1.out.trans (b1.mono B1.out.size))
   replace AL:=Lib.hid (AL.out.keep b1 AL.out.lt)
   go_wp2_with fail
   have hHeld2:=hHeld.later b1 (by omega);clear b1 hHeld
   refine hK.out _ _ hHeld2 (fun hHeld=>?_)
   clear hK K hHeld2
   refine wpAnyH_ready (rs:=[3]) (by kernel_rfl) (by simp) (AllReadyH.cons rfl (fun K hK=>?_) AllReadyH.nil)
   go_simp
   refine (dx _ r u P1 m1 c1 (nm r u 0) m1 hi _ _ (HX.out.keep (B1.out.mono ht) (Nat.le_refl _)) R1.out.rd HS.out NK.out.1 NK.out.2).mono ?_
   rintro e w4 ⟨g,rfl,sg,b1⟩
   obtain ⟨P2,c2,Q2,d2,rfl⟩:=sg.lens (xk _ _ _ _) (xk _ _ _ _)
   have s4:=b1.size
   have SG:=Lib.hid sg;clear sg R1
   replace A0:=Lib.hid (A0.out.keep b1 A0.out.lt)
   replace A1:=Lib.hid (A1.out.keep b1 A1.out.lt)
   replace B1:=Lib.hid (B1.out.trans (b1.mono B1.out.size))
   replace AL:=Lib.hid (AL.out.keep b1 AL.out.lt)
   go_wp2_with fail
   have hHeld2:=hHeld.later b1 (by omega);clear b1 hHeld
   refine hK.out _ _ hHeld2 (fun hHeld=>?_)
   clear hK K hHeld2
   refine wpAnyH_ready (rs:=[5]) (by kernel_rfl) (by simp) (AllReadyH.cons rfl (fun K hK=>?_) AllReadyH.nil)
   refine ql rfl 32 _ _ rfl (w2.heap.size) #[.slice P2 m1 c2,.slice Q2 m1 d2] rfl rfl 32 #[.slice none 0 0,.slice none 0 0] AL.out yj rfl (by simp [Value.oneCell']) ?_
   change K (Act.put _ none _) _
   simp only [Act.put]
   refine hK.out _ _ (hHeld.other (by omega) (by simp;omega) _) (fun hHeld2=>?_)
   clear hK K hHeld2
   refine wpAnyH_done (by kernel_rfl) ?_ _
   go_wp2_with fail
   go_meet
   refine ⟨_,rfl,A0.out.qh (by omega),A1.out.qh (by omega),⟨P2,c2,Q2,d2,w4.heap.size,AL.out.row,?_⟩,by omega,below_setRow B1.out (by omega) _⟩
   exact (SG.out.out ((Out.refl (w2.heap.size) (w2.heap.size + 1) _).qvr (Nat.le_refl _) (Nat.lt_succ_self _) _) (by omega)).later (by omega)
 case rest =>
  obtain ⟨B3,rfl,hcs⟩:=hcut
  have HC:=Lib.hid hcs;clear hcs A0 A1 B1 s1
  go_wp2_with fail
  go_loopw [4] (fun i wr=>∃ k:Nat,k + 1<=m1/\i = .int .i64 ((k:Int) + 1)/\Cs w wr (.slice P m1 c) (.slice Q m1 d) m1 B3 (Fc r u m1 k)) (fun i _=>m1 - (intOf i).toNat)
  case atStart=>exact ⟨0,hpos,rfl,HC.out⟩
  case round =>
   obtain ⟨k,hk,rfl,hcs⟩:=hrel
   have HR:=Lib.hid hcs;clear hcs HC
   have c0:=HR.out.g.cell (k:=0) rfl
   by_cases hlt:(k:Int) + 1 < m1
   ·go_wp2_with fail
    go_cut [5] from 10 to 25 (fun p wx=>∃ B5 lo,p = .pointer (some ⟨B5,0,none⟩)/\Cs w wx (.slice P m1 c) (.slice Q m1 d) m1 B3 (Fc r u m1 k)/\Bs wx B5 lo m1 (Fm r u m1 ((k:Int) + 1))/\B3 < lo)
    case first =>
     have hB:=HR.out.hB
     have hBl:B3 < wr.heap.size:=by obtain ⟨_,_,_,_,_,a,_⟩:=HR.out.best.ex;exact a.lt
     clear c0
     refine wp_region_held_drew (S:=Hld wr.heap.size wr.heap.size wr [(w.heap.size,[.slice P m1 c,.slice Q m1 d])]) (by kernel_rfl) (Hld.qa6 HR.out.g) (fun hHeld=>?_)
     have b1:Below wr.heap.size wr wr.drew:=⟨rfl,rfl,rfl,Nat.le_refl _,fun _ _=>rfl⟩
     generalize wr.drew = w2 at *
     have s2:=b1.size
     have BW:=Lib.hid b1
     clear b1
     refine wpAnyH_take (i:=0) (v:=.agg #[.slice P m1 c,.slice Q m1 d]) rfl (by kernel_rfl) (by kernel_rfl) (by kernel_rfl) (fun _ _ _ h=>h) (yieldsIf_load_mid (by rfl) _ _ rfl (w.heap.size) 0 rfl [.slice P m1 c,.slice Q m1 d] _ (fun w h=>h.fst) sqp.underlying32 rfl (qpo _ _)) hHeld ?_
     refine wpAnyH_take (i:=1) (v:=.agg #[.slice P m1 c,.slice Q m1 d]) rfl (by kernel_rfl) (by kernel_rfl) (by kernel_rfl) (fun _ _ _ h=>h) (yieldsIf_load_mid (by rfl) _ _ rfl (w.heap.size) 0 rfl [.slice P m1 c,.slice Q m1 d] _ (fun w h=>h.fst) sqp.underlying32 rfl (qpo _ _)) hHeld ?_
     refine wpAnyH_take (i:=2) (v:=.int .i64 ((k:Int) + 1)) rfl (by kernel_rfl) (by kernel_rfl) (by kernel_rfl) (fun _ _ _ h=>h) (Or.inl ⟨by rfl,fun w hSw=>by go_simp⟩) hHeld ?_
     refine wpAnyH_ready (rs:=[3,5]) (by kernel_rfl) (by simp) (AllReadyH.cons rfl (fun K hK=>?_) (AllReadyH.cons rfl (fun K hK=>?_) AllReadyH.nil))
     ·go_simp
      refine (qc0 _ r u m1 ((k:Int) + 1) hi _ (HX.out.keep ((HR.out.below.trans (BW.out.mono HR.out.below.size)).mono ht) (Nat.le_refl _)) HS.out (by omega) hlt).mono ?_
      rintro e w3 ⟨v1,rfl,o1,b1⟩
      obtain ⟨P1,c1,rfl,r1,C1⟩:=dw o1
      have NK:=Lib.hid (HS.out.nok (f:=(k:Int) + 1) (by omega) hlt)
      rw [NK.out.2] at r1 C1 ⊢
      have s3:=b1.size
      have R1:=Lib.hid r1;clear r1 o1
      replace BW:=Lib.hid (BW.out.trans (b1.mono BW.out.size))
      go_wp2_with fail
      have hHeld2:=hHeld.later b1 (by omega);clear b1 hHeld
      refine hK.out _ _ hHeld2 (fun hHeld=>?_)
      clear hK K hHeld2
      refine wpAnyH_ready (rs:=[4,5]) (by kernel_rfl) (by simp) (AllReadyH.cons rfl (fun K hK=>?_) (AllReadyH.cons rfl (fun K hK=>?_) AllReadyH.nil))
      ·go_simp
       refine (dx _ r u P1 m1 c1 (nm r u ((k:Int) + 1)) m1 hi _ _ (HX.out.keep ((HR.out.below.trans (BW.out.mono HR.out.below.size)).mono ht) (Nat.le_refl _)) R1.out.rd HS.out NK.out.1 NK.out.2).mono ?_
       rintro e w4 ⟨g,rfl,sg,b1⟩
       obtain ⟨P2,c2,Q2,d2,rfl⟩:=sg.lens (xk _ _ _ _) (xk _ _ _ _)
       have s4:=b1.size
       have SG:=Lib.hid sg;clear sg R1
       replace BW:=Lib.hid (BW.out.trans (b1.mono BW.out.size))
       go_wp2_with fail
       have hHeld2:=hHeld.later b1 (by omega);clear b1 hHeld
       refine hK.out _ _ hHeld2 (fun hHeld=>?_)
       clear hK K hHeld2
       refine wpAnyH_ready (rs:=[5]) (by kernel_rfl) (by simp) (AllReadyH.cons rfl (fun K hK=>?_) AllReadyH.nil)
       go_simp
       generalize hwa:w4.alloc (.cells #[.slice none 0 0,.slice none 0 0] 32) = wa
       have b1:Below w4.heap.size w4 wa:=by rw [<-hwa];exact (Below.refl _ _).alloc (Nat.le_refl _) _
       have AL:Hid (Arr wa w4.heap.size [.slice none 0 0,.slice none 0 0] 32):=Lib.hid (by rw [<-hwa];exact Arr.new _ _ _ rfl)
       have sa:w4.heap.size + 1<=wa.heap.size:=by rw [<-hwa];simp
       clear hwa
       replace BW:=Lib.hid (BW.out.trans (b1.mono BW.out.size))
       replace SG:=Lib.hid (SG.out.keep b1 SG.out.top)
       have hHeld2:=hHeld.later b1 (by omega);clear b1 hHeld
       refine hK.out _ _ hHeld2 (fun hHeld=>?_)
       clear hK K hHeld2
       refine wpAnyH_ready (rs:=[6]) (by kernel_rfl) (by simp) (AllReadyH.cons rfl (fun K hK=>?_) AllReadyH.nil)
       refine ql rfl 32 _ _ rfl (w4.heap.size) #[.slice P2 m1 c2,.slice Q2 m1 d2] rfl rfl 32 #[.slice none 0 0,.slice none 0 0] AL.out yj rfl (by simp [Value.oneCell']) ?_
       change K (Act.put _ none _) _
       simp only [Act.put]
       refine hK.out _ _ (hHeld.other (by omega) (by simp;omega) _) (fun hHeld2=>?_)
       clear hK K hHeld2
       refine wpAnyH_done (by kernel_rfl) ?_ _
       go_wp2_with fail
       go_meet
       have hc:=HR.out.keep (below_setRow BW.out (show wr.heap.size<=w4.heap.size by omega) #[.slice P2 m1 c2,.slice Q2 m1 d2])
       refine ⟨_,w3.heap.size,rfl,hc,⟨P2,c2,Q2,d2,w4.heap.size,AL.out.row,?_⟩,by omega⟩
       exact (SG.out.out ((Out.refl (w4.heap.size) (w4.heap.size + 1) _).qvr (Nat.le_refl _) (Nat.lt_succ_self _) _) (by omega)).later (by omega)
      ·go_simp
       generalize hwa:w3.alloc (.cells #[.slice none 0 0,.slice none 0 0] 32) = wa
       have b1:Below w3.heap.size w3 wa:=by rw [<-hwa];exact (Below.refl _ _).alloc (Nat.le_refl _) _
       have AL:Hid (Arr wa w3.heap.size [.slice none 0 0,.slice none 0 0] 32):=Lib.hid (by rw [<-hwa];exact Arr.new _ _ _ rfl)
       have sa:w3.heap.size + 1<=wa.heap.size:=by rw [<-hwa];simp
       clear hwa
       replace BW:=Lib.hid (BW.out.trans (b1.mono BW.out.size))
       replace R1:=Lib.hid (R1.out.keep b1 R1.out.2.1)
       have hHeld2:=hHeld.later b1 (by omega);clear b1 hHeld
       refine hK.out _ _ hHeld2 (fun hHeld=>?_)
       clear hK K hHeld2
       refine wpAnyH_ready (rs:=[4]) (by kernel_rfl) (by simp) (AllReadyH.cons rfl (fun K hK=>?_) AllReadyH.nil)
       go_simp
       refine (dx _ r u P1 m1 c1 (nm r u ((k:Int) + 1)) m1 hi _ _ (HX.out.keep ((HR.out.below.trans (BW.out.mono HR.out.below.size)).mono ht) (Nat.le_refl _)) R1.out.rd HS.out NK.out.1 NK.out.2).mono ?_
       rintro e w4 ⟨g,rfl,sg,b1⟩
       obtain ⟨P2,c2,Q2,d2,rfl⟩:=sg.lens (xk _ _ _ _) (xk _ _ _ _)
       have s4:=b1.size
       have SG:=Lib.hid sg;clear sg R1
       replace BW:=Lib.hid (BW.out.trans (b1.mono BW.out.size))
       replace AL:=Lib.hid (AL.out.keep b1 AL.out.lt)
       go_wp2_with fail
       have hHeld2:=hHeld.later b1 (by omega);clear b1 hHeld
       refine hK.out _ _ hHeld2 (fun hHeld=>?_)
       clear hK K hHeld2
       refine wpAnyH_ready (rs:=[6]) (by kernel_rfl) (by simp) (AllReadyH.cons rfl (fun K hK=>?_) AllReadyH.nil)
       refine ql rfl 32 _ _ rfl (w3.heap.size) #[.slice P2 m1 c2,.slice Q2 m1 d2] rfl rfl 32 #[.slice none 0 0,.slice none 0 0] AL.out yj rfl (by simp [Value.oneCell']) ?_
       change K (Act.put _ none _) _
       simp only [Act.put]
       refine hK.out _ _ (hHeld.other (by omega) (by simp;omega) _) (fun hHeld2=>?_)
       clear hK K hHeld2
       refine wpAnyH_done (by kernel_rfl) ?_ _
       go_wp2_with fail
       go_meet
       have hc:=HR.out.keep (below_setRow BW.out (show wr.heap.size<=w3.heap.size by omega) #[.slice P2 m1 c2,.slice Q2 m1 d2])
       refine ⟨_,wa.heap.size,rfl,hc,⟨P2,c2,Q2,d2,w4.heap.size,AL.out.row,?_⟩,by omega⟩
       exact (SG.out.out ((Out.refl (w3.heap.size) (w3.heap.size + 1) _).qvr (Nat.le_refl _) (Nat.lt_succ_self _) _) (by omega)).later (by omega)
     ·go_simp
      generalize hwa:w2.alloc (.cells #[.slice none 0 0,.slice none 0 0] 32) = wa
      have b1:Below w2.heap.size w2 wa:=by rw [<-hwa];exact (Below.refl _ _).alloc (Nat.le_refl _) _
      have AL:Hid (Arr wa w2.heap.size [.slice none 0 0,.slice none 0 0] 32):=Lib.hid (by rw [<-hwa];exact Arr.new _ _ _ rfl)
      have sa:w2.heap.size + 1<=wa.heap.size:=by rw [<-hwa];simp
      clear hwa
      replace BW:=Lib.hid (BW.out.trans (b1.mono BW.out.size))
      have hHeld2:=hHeld.later b1 (by omega);clear b1 hHeld
      refine hK.out _ _ hHeld2 (fun hHeld=>?_)
      clear hK K hHeld2
      refine wpAnyH_ready (rs:=[3]) (by kernel_rfl) (by simp) (AllReadyH.cons rfl (fun K hK=>?_) AllReadyH.nil)
      go_simp
      refine (qc0 _ r u m1 ((k:Int) + 1) hi _ (HX.out.keep ((HR.out.below.trans (BW.out.mono HR.out.below.size)).mono ht) (Nat.le_refl _)) HS.out (by omega) hlt).mono ?_
      rintro e w3 ⟨v1,rfl,o1,b1⟩
      obtain ⟨P1,c1,rfl,r1,C1⟩:=dw o1
      have NK:=Lib.hid (HS.out.nok (f:=(k:Int) + 1) (by omega) hlt)
      rw [NK.out.2] at r1 C1 ⊢
      have s3:=b1.size
      have R1:=Lib.hid r1;clear r1 o1
      replace BW:=Lib.hid (BW.out.trans (b1.mono BW.out.size))
      replace AL:=Lib.hid (AL.out.keep b1 AL.out.lt)
      go_wp2_with fail
      have hHeld2:=hHeld.later b1 (by omega);clear b1 hHeld
      refine hK.out _ _ hHeld2 (fun hHeld=>?_)
      clear hK K hHeld2
      refine wpAnyH_ready (rs:=[4]) (by kernel_rfl) (by simp) (AllReadyH.cons rfl (fun K hK=>?_) AllReadyH.nil)
      go_simp
      refine (dx _ r u P1 m1 c1 (nm r u ((k:Int) + 1)) m1 hi _ _ (HX.out.keep ((HR.out.below.trans (BW.out.mono HR.out.below.size)).mono ht) (Nat.le_refl _)) R1.out.rd HS.out NK.out.1 NK.out.2).mono ?_
      rintro e w4 ⟨g,rfl,sg,b1⟩
      obtain ⟨P2,c2,Q2,d2,rfl⟩:=sg.lens (xk _ _ _ _) (xk _ _ _ _)
      have s4:=b1.size
      have SG:=Lib.hid sg;clear sg R1
      replace BW:=Lib.hid (BW.out.trans (b1.mono BW.out.size))
      replace AL:=Lib.hid (AL.out.keep b1 AL.out.lt)
      go_wp2_with fail
      have hHeld2:=hHeld.later b1 (by omega);clear b1 hHeld
      refine hK.out _ _ hHeld2 (fun hHeld=>?_)
      clear hK K hHeld2
      refine wpAnyH_ready (rs:=[6]) (by kernel_rfl) (by simp) (AllReadyH.cons rfl (fun K hK=>?_) AllReadyH.nil)
      refine ql rfl 32 _ _ rfl (w2.heap.size) #[.slice P2 m1 c2,.slice Q2 m1 d2] rfl rfl 32 #[.slice none 0 0,.slice none 0 0] AL.out yj rfl (by simp [Value.oneCell']) ?_
      change K (Act.put _ none _) _
      simp only [Act.put]
      refine hK.out _ _ (hHeld.other (by omega) (by simp;omega) _) (fun hHeld2=>?_)
      clear hK K hHeld2
      refine wpAnyH_done (by kernel_rfl) ?_ _
      go_wp2_with fail
      go_meet
      have hc:=HR.out.keep (below_setRow BW.out (show wr.heap.size<=w2.heap.size by omega) #[.slice P2 m1 c2,.slice Q2 m1 d2])
      refine ⟨_,w3.heap.size,rfl,hc,⟨P2,c2,Q2,d2,w4.heap.size,AL.out.row,?_⟩,by omega⟩
      exact (SG.out.out ((Out.refl (w2.heap.size) (w2.heap.size + 1) _).qvr (Nat.le_refl _) (Nat.lt_succ_self _) _) (by omega)).later (by omega)
    case rest =>
     obtain ⟨B5,lo,rfl,hc5,hb5,hlo⟩:=hcut
     have H5:=Lib.hid hc5;have HB5:=Lib.hid hb5;clear hc5 hb5 HR c0
     obtain ⟨P5,c5,Q5,d5,hi5,a5,s5⟩:=HB5.out.ex
     obtain ⟨P3,c3,Q3,d3,hi3,a3,s3⟩:=H5.out.best.ex
     have c50:=a5.cell (k:=0) rfl
     have c51:=a5.cell (k:=1) rfl
     have c30:=a3.cell (k:=0) rfl
     have c31:=a3.cell (k:=1) rfl
     have A5:=Lib.hid a5;have S5:=Lib.hid s5;have A3:=Lib.hid a3;have S3:=Lib.hid s3
     clear a5 s5 a3 s3
     have l5:=qd6 r u m1 ((k:Int) + 1)
     have l3:=q1a r u m1 k
     have LL:=Lib.hid (And.intro l5 l3);clear l5 l3
     go_wp2_with fail
     refine (qfy _ _ (Fm r u m1 ((k:Int) + 1)).1 (Fm r u m1 ((k:Int) + 1)).2 (Fc r u m1 k).1 (Fc r u m1 k).2 _ _ _ S5.out.rd S3.out.rd (by have:=LL.out.1.1;omega) (by rw [LL.out.1.1,LL.out.2.1]) (by rw [LL.out.1.2,LL.out.2.2]) (by have:=LL.out.1.2;omega)).mono ?_
     rintro e w6 ⟨rfl,b1⟩
     have hs6:=b1.size
     have H6:=Lib.hid (H5.out.keep b1)
     replace A5:=Lib.hid (A5.out.keep b1 A5.out.lt)
     replace A3:=Lib.hid (A3.out.keep b1 A3.out.lt)
     replace S5:=Lib.hid (S5.out.keep b1 S5.out.top)
     clear b1 H5 S3 HB5 c50 c51 c30 c31
     by_cases hb:bef (Fm r u m1 ((k:Int) + 1)) (Fc r u m1 k) = true
     ·have HF:Hid (Fc r u m1 (k + 1) = Fm r u m1 ((k:Int) + 1)):=Lib.hid (by unfold Fc at hb ⊢;rw [qhe,if_pos hb])
      rw [show ((Fm r u m1 ((k:Int) + 1)).1,(Fm r u m1 ((k:Int) + 1)).2) = Fm r u m1 ((k:Int) + 1) from rfl,show ((Fc r u m1 k).1,(Fc r u m1 k).2) = Fc r u m1 k from rfl,hb]
      clear hb
      go_wp2_with (first | (refine wpList_load_row rfl 32 (.tmp 5) rfl B5 rfl 32 #[.slice P5 m1 c5,.slice Q5 m1 d5] (0,0) _ A5.out sqp.underlying32 rfl yj ?_) | (refine wpList_store_row rfl 32 _ _ rfl B3 #[.slice P5 m1 c5,.slice Q5 m1 d5] rfl rfl 32 #[.slice P3 m1 c3,.slice Q3 m1 d3] A3.out yj rfl (by simp [Value.oneCell']) ?_) | fail)
      go_roundw
      case rel=>exact ⟨k + 1,by omega,by go_num,by rw [HF.out];exact H6.out.new S5.out hlo⟩
      case measure=>simp [intOf];omega
     ·have hb':bef (Fm r u m1 ((k:Int) + 1)) (Fc r u m1 k) = false:=by simpa using hb
      have HF:Hid (Fc r u m1 (k + 1) = Fc r u m1 k):=Lib.hid (by unfold Fc at hb ⊢;rw [qhe,if_neg hb])
      rw [show ((Fm r u m1 ((k:Int) + 1)).1,(Fm r u m1 ((k:Int) + 1)).2) = Fm r u m1 ((k:Int) + 1) from rfl,show ((Fc r u m1 k).1,(Fc r u m1 k).2) = Fc r u m1 k from rfl,hb']
      clear hb hb'
      go_wp2_with fail
      go_roundw
      case rel=>exact ⟨k + 1,by omega,by go_num,by rw [HF.out];exact H6.out⟩
      case measure=>simp [intOf];omega
   ·obtain rfl:m1 = k + 1:=by omega
    have HF:Hid (Fc r u (k + 1) k = can r u (k + 1)):=Lib.hid rfl
    obtain ⟨P3,c3,Q3,d3,hi3,a3,s3⟩:=HR.out.best.ex
    have hB:=HR.out.hB
    have A3:=Lib.hid a3;have S3:=Lib.hid s3;clear a3 s3
    go_wp2_with (first | (refine wpList_load_row rfl 32 _ rfl B3 rfl 32 #[.slice P3 (k + 1) c3,.slice Q3 (k + 1) d3] (0,0) _ A3.out sqp.underlying32 rfl yj ?_) | (refine wpList_store_row rfl 32 _ _ rfl (w.heap.size + 1) #[.slice P3 (k + 1) c3,.slice Q3 (k + 1) d3] rfl rfl 32 #[.slice none 0 0,.slice none 0 0] HR.out.res yj rfl (by simp [Value.oneCell']) ?_) | fail)
    exact bodyPost_ret (v:=.agg #[.slice P3 (k + 1) c3,.slice Q3 (k + 1) d3]) (results_cell_row rfl _ _ (w.heap.size + 1) 32 #[.slice P3 (k + 1) c3,.slice Q3 (k + 1) d3] (0,0) _ rfl HR.out.res.row sqp.underlying32 rfl yj) rfl (by
     rw [HF.out] at S3
     have:=Svl.row S3.out (g:=w.heap.size + 1) (by omega) #[.slice P3 (k + 1) c3,.slice Q3 (k + 1) d3]
     exact ⟨_,rfl,(this.later (by omega)).wide,below_setRow HR.out.below (by omega) _⟩)
end Go.Proofs.Ytcdclihinmdgiaa.gl

namespace Go.Proofs.Ytcdclihinmdgiaa.lst
open Go.ChangeShapes Go.WideShapes Go.ChangeAt Go.RowKit
open mem ints arr pm sf orb
set_option linter.unusedVariables false
set_option maxRecDepth 100000
theorem qx2:(sqp.prog.info? 32).map (fun i=>(i.zero,i.size,i.bytes)) = some (some (.agg #[.slice none 0 0,.slice none 0 0]),2,48):=by kernel_rfl
structure Io (w wr:World) (vo:Value) (Y:List Item):Prop where
 own:wr.ownsRow w.heap.size 32 2 vo Y.length (qbs Y)
 bel:Below w.heap.size w wr
theorem Io.keep {w wr w':World} {vo:Value} {Y:List Item} (h:Io w wr vo Y) (hb:Below wr.heap.size wr w'):Io w w' vo Y :=
 ⟨qg h.own (fun b e=>hb.block b (h.own.lt b e).2),h.bel.trans (hb.mono h.bel.size)⟩
theorem Io.push {w wr W w':World} {vo:Value} {Y:List Item} {z:Item} {g cap k:Nat} (h:Io w wr vo Y) (hW:Below wr.heap.size wr W) (hk:k = Y.length)
  (ho:w'.ownsRow w.heap.size 32 2 (.slice (some ⟨g,0,none⟩) (k + 1) cap) (k + 1) (qbs Y ++ [z.2.1.1,z.2.1.2])) (hg:W.grownBy w' vo.ownBlock):Io w w' (.slice (some ⟨g,0,none⟩) (k + 1) cap) (Y ++ [z]):=by
 subst hk
 have hl:=h.bel.size;have t2:=hW.size;have t3:=hg.size
 refine ⟨?_,h.bel.trans ⟨hg.os.trans hW.os,hg.tape.trans hW.tape,hg.output.trans hW.output,by omega,fun b hb=>(hg.block b (by omega) (fun e=>?_)).trans (hW.block b (by omega))⟩⟩
 ·rw [qwz,List.length_append,List.length_singleton]
  exact ho
 ·have:=(h.own.lt b e.symm).1
  omega
structure Bx (wr:World) (vo:Value) (b:Nat) (x:Value × Value):Prop where
 box:Arr wr b [x.1,x.2] 32
 nb:¬ vo.ownBlock = some b
theorem Bx.keep {wr w':World} {vo:Value} {b:Nat} {x:Value × Value} (h:Bx wr vo b x) (hb:Below wr.heap.size wr w'):Bx w' vo b x:=⟨h.box.keep hb h.box.lt,h.nb⟩
theorem Bx.push {wr W w':World} {vo:Value} {b g n cap:Nat} {x:Value × Value} (h:Bx wr vo b x) (hW:Below wr.heap.size wr W) (hg:W.grownBy w' vo.ownBlock) (hb:vo.ownBlock = some g\/g = W.heap.size):Bx w' (.slice (some ⟨g,0,none⟩) n cap) b x:=by
 have hlt:=h.box.lt;have hs:=hW.size
 refine ⟨((hg.block b (by omega) (fun e=>h.nb e.symm)).trans (hW.block b hlt)).trans h.box,fun e=>?_⟩
 have e2:g = b:=by simpa [Value.ownBlock] using e
 rcases hb with q | q
 ·exact h.nb (by rw [q,e2])
 ·omega
theorem qm9 {w:World} {base n c k:Nat} {A:Option Addr} {Z:List Item} {z:Item} (ho:w.ownsRow base 32 2 (.slice A n c) n (qbs Z)) (hn:Z.length = n) (hz:Z[k]? = some z) :
  ∃ g off,A = some ⟨g,off,none⟩/\g < w.heap.size/\w.cell? ⟨g,off + k * 2,none⟩ = some z.2.1.1/\w.cell? ⟨g,off + k * 2 + 1,none⟩ = some z.2.1.2:=by
 have hkl:=(List.getElem?_eq_some_iff.1 hz).1
 rcases ho.2 with ⟨q,q0⟩ | ⟨g,cap,cur,q,hb,hh,hc,_,hzz,ht⟩
 ·injection q with q1 q2 q3
  omega
 ·have hlt:g < w.heap.size:=by
   rcases Nat.lt_or_ge g w.heap.size with hl | hl
   ·exact hl
   ·rw [Array.getElem?_eq_none hl] at hh;cases hh
  injection q with q1 q2 q3
  subst q1;subst q3
  obtain ⟨e1,e2⟩:=qx1 hz
  have cell:∀ (j:Nat) (u:Value),(qbs Z)[j]? = some u->w.cell? ⟨g,0 + j,none⟩ = some u:=fun j u hu=>by
   have:=ho.cells (g:=g) rfl j u hu
   rwa [add0] at this
  exact ⟨g,0,rfl,hlt,cell _ _ e1,by rw [Nat.add_assoc];exact cell _ _ e2⟩
theorem Pk.srd {w:World} {lo hi:Nat} {ex:Nat->Prop} {Z:List Item} {z:Item} (h:Pk w lo hi ex Z) (hz:z ∈ Z) :
  ∃ P c Q d,z.2.1 = (.slice P (sOf z).1.length c,.slice Q (sOf z).2.length d)/\Srd w hi (.agg #[.slice P (sOf z).1.length c,.slice Q (sOf z).2.length d]) (sOf z).1 (sOf z).2:=by
 obtain ⟨r1,r2⟩:=h.each z hz
 obtain ⟨P,c,e1,c1,p1,w1⟩:=r1.row
 obtain ⟨Q,d,e2,c2,p2,w2⟩:=r2.row
 have q1:=r1.hi_;have q2:=r2.hi_;have q3:=h.top
 exact ⟨P,c,Q,d,Prod.ext e1 e2,P,_,c,Q,_,d,rfl,sf.Rd.wider w1.rd (by omega) q3,sf.Rd.wider w2.rd (by omega) q3,c1,c2⟩
end Go.Proofs.Ytcdclihinmdgiaa.lst

namespace Go.Proofs.Ytcdclihinmdgiaa.lst
open Go.ChangeShapes Go.WideShapes Go.ChangeAt Go.RowKit
open mem ints arr pm sf orb
set_option linter.unusedVariables false
set_option maxRecDepth 100000
theorem Pk.lt {w:World} {lo hi b:Nat} {ex:Nat->Prop} {Z:List Item} (h:Pk w lo hi ex Z) (hb:b ∈ qo0 Z):b < hi:=by
 unfold qo0 at hb
 obtain ⟨z,hz,q⟩:=List.mem_flatMap.1 hb
 obtain ⟨r1,r2⟩:=h.each z hz
 have e:b = z.1.1\/b = z.1.2:=by simpa using q
 rcases e with rfl | rfl
 ·exact r1.hi_
 ·exact r2.hi_
theorem Pk.cons {w:World} {lo hi hi' n c m d:Nat} {ex:Nat->Prop} {Z:List Item} {P Q:Option Addr} {s:Sur} (h:Pk w lo hi ex Z) (hx:Svl w hi hi' (.agg #[.slice P n c,.slice Q m d]) s.1 s.2) (hn:0 < n) (hm:0 < m)
  (hlo:lo<=hi) (hh:hi<=hi') (ht:hi'<=w.heap.size) (he:∀ b,hi<=b->b < hi'->¬ ex b):∃ zb:Nat × Nat,Pk w lo hi' ex ((zb,(.slice P n c,.slice Q m d),s) :: Z):=by
 obtain ⟨g1,g2,r1,r2,hne⟩:=Svl.two hx hn hm ex he
 refine ⟨(g1,g2),ht,fun z hz=>?_,qek.2 ⟨hne,fun q=>?_,fun q=>?_,h.nd⟩⟩
 ·rcases List.mem_cons.1 hz with rfl | q
  ·exact ⟨r1.to hlo (Nat.le_refl _) r1.ex_,r2.to hlo (Nat.le_refl _) r2.ex_⟩
  ·obtain ⟨a,b⟩:=h.each z q
   exact ⟨a.to (Nat.le_refl _) hh a.ex_,b.to (Nat.le_refl _) hh b.ex_⟩
 ·have:=h.lt q;have:=r1.lo_;dsimp only at *;omega
 ·have:=h.lt q;have:=r2.lo_;dsimp only at *;omega
end Go.Proofs.Ytcdclihinmdgiaa.lst

namespace Go.Proofs.Ytcdclihinmdgiaa.fns
open Go.ChangeShapes Go.WideShapes Go.ChangeAt Go.RowKit
open mem ints arr pm permOk permOf inv mat
set_option linter.unusedVariables false
set_option maxRecDepth 100000
end Go.Proofs.Ytcdclihinmdgiaa.fns

namespace Go.Proofs.Ytcdclihinmdgiaa.lst
open Go.ChangeShapes Go.WideShapes Go.ChangeAt Go.RowKit
open mem ints arr pm mat
set_option linter.unusedVariables false
set_option maxRecDepth 100000
def qhi (n:Nat) (p:List Int) (j:Nat):List (List Int):=(((rng n).take j).filter fun x=>!decide (x ∈ p)).map fun x=>p ++ [x]
theorem qqp {n j:Nat} (h:j < n):(rng n)[j]? = some (j:Int):=by simp [rng,h]
theorem qjm {n j:Nat} {p:List Int} (h:j < n):qhi n p (j + 1) = if (j:Int) ∈ p then qhi n p j else qhi n p j ++ [p ++ [(j:Int)]]:=by
 unfold qhi
 rw [List.take_add_one,qqp h]
 by_cases q:(j:Int) ∈ p
 ·rw [if_pos q];simp [q]
 ·rw [if_neg q];simp [q]
theorem qnb (n:Nat) (p:List Int):qhi n p n = ((rng n).filter fun x=>!decide (x ∈ p)).map fun x=>p ++ [x]:=by
 unfold qhi
 rw [List.take_of_length_le (by simp [rng])]
theorem qnc (n:Nat) (p:List Int) (j:Nat):(qhi n p j).length<=j:=by
 unfold qhi
 rw [List.length_map]
 refine Nat.le_trans (List.length_filter_le _ _) ?_
 rw [List.length_take];omega
theorem qjn {n a:Nat} {L:List (List Int)} {p:List Int} (h:L[a]? = some p):dn n (L.take (a + 1)) = dn n (L.take a) ++ qhi n p n:=by
 rw [List.take_add_one,h,qnb]
 unfold dn
 simp
theorem qfu (n:Nat):∀ L:List (List Int),(dn n L).length<=n * L.length
 | []=>by simp [dn]
 | p :: t=>by
  have ih:=qfu n t
  unfold dn at ih ⊢
  rw [List.flatMap_cons,List.length_append]
  have h1:=qnc n p n
  rw [qnb] at h1
  rw [List.length_cons,Nat.mul_succ]
  omega
theorem qx3:∀ n:Fin 5,∀ i:Fin 5,(qfr n.val i.val).length<=24/\((qfr n.val i.val).all fun p=>decide (p.length = i.val)) = true:=by decide +kernel
theorem qw1 {n i:Nat} (hn:n<=4) (hi:i<=4):(qfr n i).length<=24/\∀ p ∈ qfr n i,p.length = i:=by
 obtain ⟨a,b⟩:=qx3 ⟨n,by omega⟩ ⟨i,by omega⟩
 exact ⟨a,fun p hp=>by simpa using List.all_eq_true.1 b p hp⟩
def Rl (w:World) (B:Nat) (A:Option Addr) (L:List (List Int)):Prop :=
 B<=w.heap.size/\∀ (a:Nat) (p:List Int),L[a]? = some p->∃ G off g o c,A = some ⟨G,off,none⟩/\G < B/\w.cell? ⟨G,off + a,none⟩ = some (.slice (some ⟨g,o,none⟩) p.length c)/\p.length<=c/\Rd w B (some ⟨g,o,none⟩) p.length (V p)
structure Gq (wr:World) (base:Nat) (vo:Value) (L:List (List Int)):Prop where
 ex:∃ hs,wr.ownsRow base 30 1 vo L.length hs/\∀ (a:Nat) (p:List Int),L[a]? = some p->∃ g o c,hs[a]? = some (.slice (some ⟨g,o,none⟩) p.length c)/\p.length<=c/\Rd wr wr.heap.size (some ⟨g,o,none⟩) p.length (V p)/\¬ vo.ownBlock = some g/\g < wr.heap.size
theorem qqq {w w':World} {g o n:Nat} {xs:List Value} (h:Rd w w.heap.size (some ⟨g,o,none⟩) n xs) (hz:w.heap.size<=w'.heap.size) (hb:w'.heap[g]? = w.heap[g]?):Rd w' w'.heap.size (some ⟨g,o,none⟩) n xs:=by
 refine ⟨h.1,Nat.le_refl _,fun hn=>?_⟩
 obtain ⟨g',off,e,hlt,hc⟩:=h.2.2 hn
 injection e with e;injection e with e1 e2
 subst e1;subst e2
 exact ⟨g,o,rfl,by omega,fun j hj=>by rw [World.cell?_of_block (w:=w) (a:=⟨g,o + j,none⟩) hb];exact hc j hj⟩
theorem Gq.qfv {w w':World} {base:Nat} {e:TypeId} {size n:Nat} {v:Value} {xs:List Value} (h:w.ownsRow base e size v n xs) (hb:∀ b,v.ownBlock = some b->w'.heap[b]? = w.heap[b]?):w'.ownsRow base e size v n xs:=by
 refine ⟨h.1,?_⟩
 rcases h.2 with h0 | ⟨g,cap,cur,h1,h2,h3,h4⟩
 ·exact .inl h0
 ·refine .inr ⟨g,cap,cur,h1,h2,?_,h4⟩
  rw [hb g (by subst h1;rfl)]
  exact h3
theorem Gq.push {wr w4 w6:World} {base g o c n:Nat} {vo v6:Value} {L:List (List Int)} {p:List Int} {hs:List Value} (hs0:wr.ownsRow base 30 1 vo L.length hs)
  (rows:∀ (a:Nat) (p:List Int),L[a]? = some p->∃ g o c,hs[a]? = some (.slice (some ⟨g,o,none⟩) p.length c)/\p.length<=c/\Rd wr wr.heap.size (some ⟨g,o,none⟩) p.length (V p)/\¬ vo.ownBlock = some g/\g < wr.heap.size)
  (hW:Below wr.heap.size wr w4) (hp:Rd w4 w4.heap.size (some ⟨g,o,none⟩) p.length (V p)) (hc:p.length<=c) (hg1:wr.heap.size<=g) (hg2:g < w4.heap.size) (hn:n = L.length)
  (ho:w6.ownsRow base 30 1 v6 (n + 1) (hs ++ [.slice (some ⟨g,o,none⟩) p.length c])) (hg:w4.grownBy w6 vo.ownBlock) (hb:v6.ownBlock = vo.ownBlock\/∃ k,v6.ownBlock = some k/\w4.heap.size + 1<=k):Gq w6 base v6 (L ++ [p]):=by
 subst hn
 have hl:hs.length = L.length:=by simpa using hs0.1
 have z1:=hW.size;have z2:=hg.size
 have hne:∀ b,b < w4.heap.size->¬ vo.ownBlock = some b->¬ v6.ownBlock = some b:=fun b b1 b2 e=>by
  rcases hb with q | ⟨k,q1,q2⟩
  ·exact b2 (by rw [<-q,e])
  ·rw [q1] at e;injection e with e;omega
 have hvo:¬ vo.ownBlock = some g:=fun e=>by have:=(hs0.lt g e).2;omega
 refine ⟨_,by simpa using ho,fun a q hq=>?_⟩
 by_cases ha:a < L.length
 ·rw [List.getElem?_append_left ha] at hq
  obtain ⟨g',o',c',e1,e2,e3,e4,e5⟩:=rows a q hq
  have h1:=qqq e3 z1 (hW.block g' e5)
  exact ⟨g',o',c',by rw [List.getElem?_append_left (by omega)];exact e1,e2,qqq h1 z2 (hg.block g' (by omega) (fun e=>e4 e.symm)),hne g' (by omega) e4,by omega⟩
 ·have e0:a = L.length:=by
   have:=(List.getElem?_eq_some_iff.1 hq).1
   simp at this;omega
  subst e0
  simp at hq
  subst hq
  exact ⟨g,o,c,by rw [<-hl];simp,hc,qqq hp z2 (hg.block g hg2 (fun e=>hvo e.symm)),hne g hg2 hvo,by omega⟩
theorem Gq.rl {wr:World} {base:Nat} {A:Option Addr} {c:Nat} {L:List (List Int)} (h:Gq wr base (.slice A L.length c) L):Rl wr wr.heap.size A L:=by
 obtain ⟨hs,own,rows⟩:=h.ex
 have rw_:=Row.yu own
 refine ⟨Nat.le_refl _,fun a p hp=>?_⟩
 obtain ⟨g,o,c',e1,e2,e3,e4,e5⟩:=rows a p hp
 have ha:=(List.getElem?_eq_some_iff.1 hp).1
 obtain ⟨G,off,u,eA,_,h2,h3,h4,_⟩:=rw_.at_ ha
 rw [e1] at h3
 obtain rfl:=Option.some.inj h3
 exact ⟨G,off,g,o,c',eA,h2,h4,e2,e3⟩
end Go.Proofs.Ytcdclihinmdgiaa.lst
