import Derived.Test.YtgcnemkhppkkcaaV04
import Derived.Test.YtgcnemkhppkkcaaV08
import Derived.Test.YtgcnemkhppkkcaaV06
import Derived.Lib.Slices
import Derived.Test.YtgcnemkhppkkcaaV07
import Derived.Deep.AppendLies
import Derived.Outline
import Derived.Test.YtgcnemkhppkkcaaV05
import Derived.RegionTactic
import Derived.BigRegion
namespace Go.Proofs.Ytgcnemkhppkkcaa.gl
open Go.ChangeShapes Go.WideShapes Go.ChangeAt Go.RowKit
open mem ints arr pm permOk permOf inv fns sf
set_option linter.unusedVariables false
set_option maxRecDepth 100000
theorem own_at {W:World} {lo:Nat} {v:Value} {n:Nat} {xs:List Value} (h:W.ownsRow lo 3 1 v n xs) (hn:0 < n):∃ g c,v = .slice (some ⟨g,0,none⟩) n c:=by
 rcases h.2 with h0 | ⟨g,c,cur,q,_⟩
 ·exact absurd h0.2 (by omega)
 ·exact ⟨g,c,q⟩
theorem own_below {W W':World} {lo base g n c:Nat} {e:TypeId} {xs:List Value} (h:W.ownsRow base e 1 (.slice (some ⟨g,0,none⟩) n c) n xs) (hb:Below lo W W') (hg:g < lo):W'.ownsRow base e 1 (.slice (some ⟨g,0,none⟩) n c) n xs:=by
 refine ⟨h.1,?_⟩
 rcases h.2 with h0 | ⟨g',cap,cur,q1,q2,q3,q4⟩
 ·exact .inl h0
 ·obtain rfl:g = g':=by injection q1 with q1;injection q1 with q1;injection q1
  exact .inr ⟨g,cap,cur,q1,q2,(hb.block g hg).trans q3,q4⟩
theorem own_lo {W:World} {base base' n:Nat} {v:Value} {e:TypeId} {xs:List Value} (h:W.ownsRow base e 1 v n xs) (hb:base'<=base):W.ownsRow base' e 1 v n xs:=by
 refine ⟨h.1,?_⟩
 rcases h.2 with h0 | ⟨g',cap,cur,q1,q2,q⟩
 ·exact .inl h0
 ·exact .inr ⟨g',cap,cur,q1,by omega,q⟩
theorem Eg.start {w w1 w2:World} {g1 g2 n c1 c2:Nat} {l m:List Int} (hr:Arr (w.alloc (.cells #[.slice none 0 0,.slice none 0 0] 25)) w.heap.size [.slice none 0 0,.slice none 0 0] 25)
  (b1:Below (w.alloc (.cells #[.slice none 0 0,.slice none 0 0] 25)).heap.size (w.alloc (.cells #[.slice none 0 0,.slice none 0 0] 25)) w1)
  (o1:w1.ownsRow (w.alloc (.cells #[.slice none 0 0,.slice none 0 0] 25)).heap.size 3 1 (.slice (some ⟨g1,0,none⟩) n c1) n (V l))
  (b2:Below w1.heap.size w1 w2) (o2:w2.ownsRow w1.heap.size 3 1 (.slice (some ⟨g2,0,none⟩) n c2) n (V m)) :
  Eg w (w2.alloc (.cells #[.slice (some ⟨g1,0,none⟩) n c1,.slice (some ⟨g2,0,none⟩) n c2] 25)) w2.heap.size g1 g2 n c1 c2 l m:=by
 have a1:=o1.lt g1 rfl;have a2:=o2.lt g2 rfl
 have s1:=b1.size;have s2:=b2.size
 have e:(w.alloc (.cells #[.slice none 0 0,.slice none 0 0] 25)).heap.size = w.heap.size + 1:=by simp
 rw [e] at a1 s1 b1
 refine ⟨?_,Arr.new w2 _ _ (by rfl),?_,?_,by omega,by omega,by omega,?_⟩
 ·exact Arr.alloc ((b2.block _ (by omega)).trans ((b1.block _ (by omega)).trans hr)) _
 ·have:=(own_below o1 b2 a1.2).alloc (.cells #[.slice (some ⟨g1,0,none⟩) n c1,.slice (some ⟨g2,0,none⟩) n c2] 25)
  rw [e] at this;exact this
 ·exact (own_lo o2 (by omega)).alloc _
 ·exact (((Below.refl w.heap.size w).alloc (Nat.le_refl _) _).trans ((b1.mono (by omega)).trans (b2.mono (by omega)))).alloc (by omega) _
set_option maxHeartbeats 4000000 in
theorem el_spec0 (a h:Int) (w:World) (lo1:-9223372036854775808<=a) (hi1:a<=9223372036854775807) (lo2:-9223372036854775808<=h) (hi2:h<=9223372036854775807) :
  Calls sqp.prog 65 #[.int .i64 a,.int .i64 h] w (SB (elFR a h) (elFU a h) (elB a h) w):=by
 have RES:=Lib.hid (Arr.new w [.slice none 0 0,.slice none 0 0] 25 rfl)
 by_cases ha:1<=a/\a<=24
 ·by_cases hh:1<=h/\h<=24
  ·obtain ⟨A,rfl⟩:=Int.eq_ofNat_of_zero_le (show 0<=a by omega)
   obtain ⟨H,rfl⟩:=Int.eq_ofNat_of_zero_le (show 0<=h by omega)
   obtain ⟨S,hS⟩:∃ S,S = A + H:=⟨_,rfl⟩
   obtain ⟨n,hn⟩:∃ n,n + 1 = A + H:=⟨A + H - 1,by omega⟩
   have hS1:(A:Int) + (H:Int) = (S:Int):=by omega
   have hS2:IntKind.i64.wrap (S:Int) = (S:Int):=w_in (by omega)
   have hn1:(S:Int) - 1 = (n:Int):=by omega
   have hn2:IntKind.i64.wrap (n:Int) = (n:Int):=w_in (by omega)
   have hA1:1<=(A:Int):=ha.1
   have hA2:(A:Int)<=24:=ha.2
   have hH1:1<=(H:Int):=hh.1
   have hH2:(H:Int)<=24:=hh.2
   clear ha hh hS
   by_cases hp:n<=24
   ·have hd:decide ((24:Int) < (n:Int)) = false:=by simp;omega
    obtain ⟨y1,y2,y3⟩:=el_yes (A:=A) (H:=H) (n:=n) (by omega) (by omega) hn hp
    have Y1:=Lib.hid y1;have Y2:=Lib.hid y2;have Y3:=Lib.hid y3;clear y1 y2 y3
    go_enter sqp.func65,sqp.ntmps65
    go_wp2_with (first | (go_at_call 92;refine (permOk.in_yes _ _ _ _ (by omega) (by omega)).mono ?_;rintro e w' ⟨rfl,rfl⟩))
    refine (fns.l02id_any n _ hp).mono ?_
    rintro e w1 ⟨v1,rfl,ho1,b1⟩
    rw [<-lst_id n] at ho1
    have l1:=lst_len n (fun i=>i)
    rw [l1] at ho1
    obtain ⟨g1,c1,rfl⟩:=own_at ho1 (by omega)
    have HO1:=Lib.hid ho1;have B1:=Lib.hid b1;clear ho1 b1
    go_wp2_with fail
    refine (fns.l02id_any n _ hp).mono ?_
    rintro e w2 ⟨v2,rfl,ho2,b2⟩
    rw [<-lst_id n,l1] at ho2
    obtain ⟨g2,c2,rfl⟩:=own_at ho2 (by omega)
    have HO2:=Lib.hid ho2;have B2:=Lib.hid b2;clear ho2 b2
    clear l1
    go_wp2_with (refine wpList_build rfl 25 _ rfl [] rfl #[.slice (some ⟨g1,0,none⟩) n c1,.slice (some ⟨g2,0,none⟩) n c2] ?_ ?_)
    have EG:Hid (Eg w (w2.alloc (.cells #[.slice (some ⟨g1,0,none⟩) n c1,.slice (some ⟨g2,0,none⟩) n c2] 25)) w2.heap.size g1 g2 n c1 c2 (elR A n 0) (lst n fun i=>i)):=Lib.hid (by
     rw [elR_zero]
     exact Eg.start RES.out B1.out HO1.out B2.out HO2.out)
    clear RES HO1 B1 HO2 B2
    obtain ⟨b,hb⟩:∃ b,b = w2.heap.size:=⟨_,rfl⟩
    rw [<-hb] at EG ⊢
    generalize (w2.alloc (.cells #[.slice (some ⟨g1,0,none⟩) n c1,.slice (some ⟨g2,0,none⟩) n c2] 25)) = w3 at EG ⊢
    clear hb w1 w2
    go_loopw [8] (fun i wr=>∃ k:Nat,k<=A/\i = .int .i64 k/\Eg w wr b g1 g2 n c1 c2 (elR A n k) (lst n fun i=>i)) (fun i _=>A - (intOf i).toNat)
    case atStart=>exact ⟨0,Nat.zero_le _,rfl,EG.out⟩
    case round =>
     obtain ⟨k,hk,rfl,ht⟩:=hrel
     have HT:=Lib.hid ht;clear ht EG
     by_cases hlt:k < A
     ·obtain ⟨k1,z,⟨f1,f2⟩,f3,f4⟩:=elf (A:=A) (k:=k) (by omega) (by omega) (by omega)
      have hkn:k < n:=by omega
      have NL:Hid ((elR A n k).set k (z:Int) = elR A n (k + 1)):=Lib.hid (by rw [f4];exact elR_succ hkn)
      clear f4
      have hc:=HT.out.box.cell (k:=0) rfl
      have hcx:=HT.out.cell1 hkn
      have hfx:=HT.out.own1.frozenAt k
      have hA0:¬ A = 0:=by omega
      clear hS1 hS2 hn1 hn2
      go_wp2
      go_region
      go_wp2
      go_roundw
      case rel =>
       refine ⟨k + 1,by omega,by go_num,?_⟩
       have:=(HT.out.set1 k z).drew
       rw [NL.out] at this
       exact this
      case measure=>simp [intOf];omega
     ·obtain rfl:k = A:=by omega
      clear hS1 hS2 hn1 hn2 hlt
      by_cases hH:1 < H
      ·have hdl:decide (1 < (H:Int)) = true:=by simp;omega
       have hc1:=HT.out.box.cell (k:=1) rfl
       have hcx:=HT.out.cell2 (k:=0) (by omega)
       have hfx:=HT.out.own2.frozenAt 0
       have hn0:0 < n:=by omega
       have NS:Hid ((lst n (fun i=>i)).set 0 (k:Int) = elS k n k):=Lib.hid (elS_start (by omega) (by omega))
       go_wp2
       go_loopw [9] (fun i wr=>∃ j:Nat,k<=j/\j<=n/\i = .int .i64 j/\Eg w wr b g1 g2 n c1 c2 (elR k n k) (elS k n j)) (fun i _=>n - (intOf i).toNat)
       case atStart =>
        refine ⟨k,Nat.le_refl _,by omega,rfl,?_⟩
        have:=HT.out.set2 0 (k:Int)
        rw [NS.out] at this
        exact this
       case round =>
        obtain ⟨j,hkj,hj,rfl,ht⟩:=hrel
        clear hcx hfx hc1 HT
        have HT:=Lib.hid ht;clear ht
        by_cases hlt:j < n
        ·obtain ⟨k1,z,⟨f1,f2⟩,f3,f4⟩:=elf (A:=n) (k:=j) (by omega) (by omega) (by omega)
         have NL:Hid ((elS k n j).set j (z:Int) = elS k n (j + 1)):=Lib.hid (by rw [f4];exact elS_succ (by omega) hkj)
         clear f4
         have hc:=HT.out.box.cell (k:=1) rfl
         have hcx:=HT.out.cell2 hlt
         have hfx:=HT.out.own2.frozenAt j
         have hA0:¬ n = 0:=by omega
         go_wp2
         go_region
         go_wp2
         go_roundw
         case rel =>
          refine ⟨j + 1,by omega,by omega,by go_num,?_⟩
          have:=(HT.out.set2 j z).drew
          rw [NL.out] at this
          exact this
         case measure=>simp [intOf];omega
        ·obtain rfl:j = n:=by omega
         have Y4:Hid (elU k H j = elS k j j):=Lib.hid (by unfold elU;rw [if_neg (show ¬ H<=1 by omega)])
         have SV:=Lib.hid (HT.out.svl (by omega))
         have hc:=HT.out.box.cell (k:=0) rfl
         have hc1:=HT.out.box.cell (k:=1) rfl
         have hsz:=HT.out.below.size
         go_wp2_with (refine wpList_store_row rfl 25 _ _ rfl w.heap.size #[.slice (some ⟨g1,0,none⟩) j c1,.slice (some ⟨g2,0,none⟩) j c2] rfl rfl 25 #[.slice none 0 0,.slice none 0 0] HT.out.res size2 rfl (by simp [Value.oneCell']) ?_)
         exact bodyPost_ret (v:=.tuple #[.agg #[.slice (some ⟨g1,0,none⟩) j c1,.slice (some ⟨g2,0,none⟩) j c2],.bool true]) (permOf.results_cell_tmp rfl _ _ w.heap.size 25 #[.slice (some ⟨g1,0,none⟩) j c1,.slice (some ⟨g2,0,none⟩) j c2] (0,0) _ _ rfl rfl HT.out.res.row sqp.underlying25 rfl size2) rfl (by
          rw [Y1.out,Y2.out,Y3.out,Y4.out]
          have:=Svl.row SV.out (g:=w.heap.size) (by omega) #[.slice (some ⟨g1,0,none⟩) j c1,.slice (some ⟨g2,0,none⟩) j c2]
          exact ⟨_,rfl,(by simpa using this.later (by omega)),below_setRow HT.out.below (Nat.le_refl _) _⟩)
      ·have hdl:decide (1 < (H:Int)) = false:=by simp;omega
       have Y4:Hid (elU k H n = lst n (fun i=>i)):=Lib.hid (by unfold elU;rw [if_pos (show H<=1 by omega)])
       have SV:=Lib.hid (HT.out.svl (by omega))
       have hc:=HT.out.box.cell (k:=0) rfl
       have hc1:=HT.out.box.cell (k:=1) rfl
       have hsz:=HT.out.below.size
       go_wp2_with (refine wpList_store_row rfl 25 _ _ rfl w.heap.size #[.slice (some ⟨g1,0,none⟩) n c1,.slice (some ⟨g2,0,none⟩) n c2] rfl rfl 25 #[.slice none 0 0,.slice none 0 0] HT.out.res size2 rfl (by simp [Value.oneCell']) ?_)
       exact bodyPost_ret (v:=.tuple #[.agg #[.slice (some ⟨g1,0,none⟩) n c1,.slice (some ⟨g2,0,none⟩) n c2],.bool true]) (permOf.results_cell_tmp rfl _ _ w.heap.size 25 #[.slice (some ⟨g1,0,none⟩) n c1,.slice (some ⟨g2,0,none⟩) n c2] (0,0) _ _ rfl rfl HT.out.res.row sqp.underlying25 rfl size2) rfl (by
        rw [Y1.out,Y2.out,Y3.out,Y4.out]
        have:=Svl.row SV.out (g:=w.heap.size) (by omega) #[.slice (some ⟨g1,0,none⟩) n c1,.slice (some ⟨g2,0,none⟩) n c2]
        exact ⟨_,rfl,(by simpa using this.later (by omega)),below_setRow HT.out.below (Nat.le_refl _) _⟩)
   ·obtain ⟨n1,n2,n3⟩:=el_no (a:=A) (h:=H) (fun q=>by have:=q.2.2;omega)
    have N1:=Lib.hid n1;have N2:=Lib.hid n2;have N3:=Lib.hid n3;clear n1 n2 n3
    have hd:decide ((24:Int) < (n:Int)) = true:=by simp;omega
    go_enter sqp.func65,sqp.ntmps65
    go_wp2_with (first | (go_at_call 92;refine (permOk.in_yes _ _ _ _ (by omega) (by omega)).mono ?_;rintro e w' ⟨rfl,rfl⟩) | (refine wpList_build rfl 25 _ rfl [] rfl #[.slice none 0 0,.slice none 0 0] built2 ?_) | (refine wpList_store_row rfl 25 _ _ rfl w.heap.size #[.slice none 0 0,.slice none 0 0] rfl rfl 25 #[.slice none 0 0,.slice none 0 0] RES.out size2 rfl (by simp [Value.oneCell']) ?_))
    exact bodyPost_ret (v:=.tuple #[.agg #[.slice none 0 0,.slice none 0 0],.bool false]) (permOf.results_cell_tmp rfl _ _ w.heap.size 25 #[.slice none 0 0,.slice none 0 0] (0,0) _ _ rfl rfl RES.out.row sqp.underlying25 rfl size2) rfl (sb_nil N2.out N3.out N1.out (below_setRow ((Below.refl _ _).alloc (Nat.le_refl _) _) (Nat.le_refl _) _))
  ·obtain ⟨n1,n2,n3⟩:=el_no (a:=a) (h:=h) (fun q=>by omega)
   have N1:=Lib.hid n1;have N2:=Lib.hid n2;have N3:=Lib.hid n3;clear n1 n2 n3
   have hh':h < 1\/24 < h:=by omega
   clear hh
   go_enter sqp.func65,sqp.ntmps65
   go_wp2_with fail
   refine (permOk.in_yes _ _ _ _ (by omega) (by omega)).mono ?_
   rintro e w' ⟨rfl,rfl⟩
   go_wp2_with fail
   refine (permOk.in_no _ _ _ _ hh').mono ?_
   rintro e w' ⟨rfl,rfl⟩
   go_wp2_with (first | (refine wpList_build rfl 25 _ rfl [] rfl #[.slice none 0 0,.slice none 0 0] built2 ?_) | (refine wpList_store_row rfl 25 _ _ rfl w.heap.size #[.slice none 0 0,.slice none 0 0] rfl rfl 25 #[.slice none 0 0,.slice none 0 0] RES.out size2 rfl (by simp [Value.oneCell']) ?_))
   exact bodyPost_ret (v:=.tuple #[.agg #[.slice none 0 0,.slice none 0 0],.bool false]) (permOf.results_cell_tmp rfl _ _ w.heap.size 25 #[.slice none 0 0,.slice none 0 0] (0,0) _ _ rfl rfl RES.out.row sqp.underlying25 rfl size2) rfl (sb_nil N2.out N3.out N1.out (below_setRow ((Below.refl _ _).alloc (Nat.le_refl _) _) (Nat.le_refl _) _))
 ·obtain ⟨n1,n2,n3⟩:=el_no (a:=a) (h:=h) (fun q=>by omega)
  have N1:=Lib.hid n1;have N2:=Lib.hid n2;have N3:=Lib.hid n3;clear n1 n2 n3
  have ha':a < 1\/24 < a:=by omega
  clear ha
  go_enter sqp.func65,sqp.ntmps65
  go_wp2_with fail
  refine (permOk.in_no _ _ _ _ ha').mono ?_
  rintro e w' ⟨rfl,rfl⟩
  go_wp2_with (first | (refine wpList_build rfl 25 _ rfl [] rfl #[.slice none 0 0,.slice none 0 0] built2 ?_) | (refine wpList_store_row rfl 25 _ _ rfl w.heap.size #[.slice none 0 0,.slice none 0 0] rfl rfl 25 #[.slice none 0 0,.slice none 0 0] RES.out size2 rfl (by simp [Value.oneCell']) ?_))
  exact bodyPost_ret (v:=.tuple #[.agg #[.slice none 0 0,.slice none 0 0],.bool false]) (permOf.results_cell_tmp rfl _ _ w.heap.size 25 #[.slice none 0 0,.slice none 0 0] (0,0) _ _ rfl rfl RES.out.row sqp.underlying25 rfl size2) rfl (sb_nil N2.out N3.out N1.out (below_setRow ((Below.refl _ _).alloc (Nat.le_refl _) _) (Nat.le_refl _) _))
end Go.Proofs.Ytgcnemkhppkkcaa.gl

namespace Go.Proofs.Ytgcnemkhppkkcaa.gl
open Go.ChangeShapes Go.WideShapes Go.ChangeAt Go.RowKit
open mem ints arr pm permOk permOf inv fns sf
set_option linter.unusedVariables false
set_option maxRecDepth 100000
theorem el_spec (a h:Int) (w:World) (lo1:-9223372036854775808<=a) (hi1:a<=9223372036854775807) (lo2:-9223372036854775808<=h) (hi2:h<=9223372036854775807) :
  Calls sqp.prog 65 #[.int .i64 a,.int .i64 h] w fun e w'=>∃ g,e = .returned (.tuple #[g,.bool (elB a h)])/\Svl w' w.heap.size w'.heap.size g (elFR a h) (elFU a h)/\Below w.heap.size w w':=el_spec0 a h w lo1 hi1 lo2 hi2
end Go.Proofs.Ytgcnemkhppkkcaa.gl

namespace Go.Proofs.Ytgcnemkhppkkcaa.pm
open arr inv permOf
set_option linter.unusedVariables false
set_option maxRecDepth 100000
section
variable {n:Nat} {ps:List Int} (hb:Bij n ps)
include hb
theorem cyc_self {f:Int} (f0:0<=f) (f1:f < n):f ∈ cyc ps n f:=by
 have hw:=cyc_way hb f0 f1
 have:=getD_mem (l:=cyc ps n f) (i:=0) hw.pos
 rw [hw.head] at this;exact this
end
end Go.Proofs.Ytgcnemkhppkkcaa.pm

namespace Go.Proofs.Ytgcnemkhppkkcaa.pm
open arr inv permOf
set_option linter.unusedVariables false
set_option maxRecDepth 100000
def sg (a b i:Nat):Nat:=if i = a then b else if i = b then a else i
theorem Ok.bij' {n:Nat} {q:List Int} (h:Ok q) (l:q.length = n):Bij n q:=by subst l;exact h.bij
def comm (R U:List Int):List Int:=thn (thn R U) (thn (Inv R) (Inv U))
theorem comm_ok {n:Nat} {R U:List Int} (r:Ok R) (u:Ok U) (lr:R.length = n) (lu:U.length = n):Ok (comm R U)/\(comm R U).length = n :=
 ⟨thn_ok (thn_ok r u (by omega)) (thn_ok (Inv_ok r) (Inv_ok u) (by rw [Inv_len,Inv_len];omega)) (by rw [thn_len,thn_len,Inv_len]),by unfold comm;rw [thn_len,thn_len];exact lr⟩
end Go.Proofs.Ytgcnemkhppkkcaa.pm

namespace Go.Proofs.Ytgcnemkhppkkcaa.pm
open arr inv permOf
set_option linter.unusedVariables false
set_option maxRecDepth 100000
theorem ok_ext {xs:List Int} (h:Ok xs):Ok (ext xs):=by
 have hl:=h.len
 refine ⟨by rw [ext_len];omega,fun i hi=>h.sq.lo i (by rwa [ext_len] at hi),fun i hi=>by rw [ext_len] at *;exact h.sq.hi i hi,fun i j hi hj e=>?_⟩
 rw [ext_len] at hi hj
 rw [ext_at hi,ext_at hj] at e
 split at e <;> split at e
 ·exact h.inj i j (by assumption) (by assumption) e
 ·have:=h.hi i (by assumption);omega
 ·have:=h.hi j (by assumption);omega
 ·omega
theorem thn_ext {xs ys:List Int} (h:Ok xs) (h':Ok ys) (e:xs.length = ys.length):thenL (ext xs) (ext ys) = ext (thn xs ys):=by
 have hl:=h.len
 refine list_eq 24 (by unfold thenL;exact tab_len _) (ext_len _) fun i hi=>?_
 rw [thenL_at _ _ hi,ext_at hi,ext_at hi,thn_len]
 by_cases q:i < xs.length
 ·have a:=h.lo i q;have b:=h.hi i q
  rw [if_pos q,if_pos q,thn_at q,ext_at (by omega),if_pos (by omega)]
 ·rw [if_neg q,if_neg q,Int.toNat_natCast,ext_at hi,if_neg (by omega)]
theorem inv_ext {xs:List Int} (h:Ok xs):invTo 24 (ext xs) 24 = ext (Inv xs):=by
 have hl:=h.len
 refine list_eq 24 (invTo_len _ _ _) (ext_len _) fun i hi=>?_
 rw [ext_at hi,Inv_len]
 by_cases q:i < xs.length
 ·rw [if_pos q]
  obtain ⟨k,hk,e1,e2⟩:=at_Inv h q
  have a:=inv_at (ok_ext h) (k:=k) (by rw [ext_len];omega)
  rw [ext_at (by omega),if_pos hk,e2,ext_len,Int.toNat_natCast] at a
  rw [a,e1]
 ·rw [if_neg q]
  have a:=inv_at (ok_ext h) (k:=i) (by rw [ext_len];omega)
  rw [ext_at hi,if_neg q,ext_len,Int.toNat_natCast] at a
  exact a
def ar24 (p q:List Int):List Int:=thenL (thenL (thenL p q) (invTo 24 p 24)) (invTo 24 q 24)
theorem ar24_len (p q:List Int):(ar24 p q).length = 24:=by unfold ar24 thenL;exact tab_len _
section
variable {n:Nat} {R U:List Int} (s:Sf n R U)
include s
theorem Sf.small:n<=24:=by have:=s.r.len;have:=s.lr;omega
theorem Sf.comm:Ok (comm R U)/\(comm R U).length = n:=comm_ok s.r s.u s.lr s.lu
theorem Sf.commB:Bij n (pm.comm R U):=s.comm.1.bij' s.comm.2
theorem ar24_ext:ar24 (ext R) (ext U) = ext (comm R U):=by
 have l1:R.length = U.length:=by rw [s.lr,s.lu]
 have o1:=thn_ok s.r s.u l1
 have l2:(thn R U).length = (Inv R).length:=by rw [thn_len,Inv_len]
 have o2:=thn_ok o1 (Inv_ok s.r) l2
 have l3:(thn (thn R U) (Inv R)).length = (Inv U).length:=by rw [thn_len,thn_len,Inv_len,l1]
 unfold ar24
 rw [thn_ext s.r s.u l1,inv_ext s.r,inv_ext s.u,thn_ext o1 (Inv_ok s.r) l2,thn_ext o2 (Inv_ok s.u) l3,thn_assoc o1 l2]
 rfl
end
end Go.Proofs.Ytgcnemkhppkkcaa.pm

namespace Go.Proofs.Ytgcnemkhppkkcaa.gl
open Go.ChangeShapes Go.WideShapes Go.ChangeAt Go.RowKit
open mem ints arr pm permOk permOf inv fns sf
set_option linter.unusedVariables false
set_option maxRecDepth 100000
set_option maxHeartbeats 8000000 in
theorem around_any (p q:List Int) (n:Nat) (w:World) (hp:Sq p) (hq:Sq q) :
  Calls sqp.prog 126 #[.agg (V (gl p q n)).toArray] w fun e w'=>e = .returned (.agg (V (ar24 p q)).toArray)/\Below w.heap.size w w':=by
 have HP:=Lib.hid hp;have HQ:=Lib.hid hq;clear hp hq
 go_enter sqp.func126,sqp.ntmps126
 go_wp2_with fail
 generalize hw1:(w.alloc (.cells (V (gl p q n)).toArray 62)).alloc (.cells #[.int .i64 0,.int .i64 0,.int .i64 0,.int .i64 0,.int .i64 0,.int .i64 0,.int .i64 0,.int .i64 0,.int .i64 0,.int .i64 0,.int .i64 0,.int .i64 0,.int .i64 0,.int .i64 0,.int .i64 0,.int .i64 0,.int .i64 0,.int .i64 0,.int .i64 0,.int .i64 0,.int .i64 0,.int .i64 0,.int .i64 0,.int .i64 0] 60) = w1
 have A2:Hid (Arr w1 w.heap.size (V (gl p q n)) 62):=Lib.hid (by rw [<-hw1];exact (Arr.new w _ _ rfl).alloc _)
 have A4:Hid (Arr w1 (w.heap.size + 1) (V zeros) 60):=Lib.hid (by rw [<-hw1];exact Arr.new _ (V zeros) _ (by simp))
 have B1:Hid (Below w.heap.size w w1):=Lib.hid (by rw [<-hw1];exact ((Below.refl _ _).alloc (Nat.le_refl _) _).alloc (by simp) _)
 have s1:w1.heap.size = w.heap.size + 2:=by rw [<-hw1];simp
 clear hw1
 refine wp_region_held_drew (S:=Hld w.heap.size w1.heap.size w1 [(w.heap.size,V (gl p q n))]) (by kernel_rfl) ((Hld.start1 A2.out).lower (by omega)) (fun hHeld=>?_)
 have b1:Below w1.heap.size w1 w1.drew:=⟨rfl,rfl,rfl,Nat.le_refl _,fun _ _=>rfl⟩
 generalize w1.drew = w4 at *
 have s4:=b1.size
 replace A4:=Lib.hid (A4.out.keep b1 A4.out.lt)
 replace B1:=Lib.hid (B1.out.trans (b1.mono B1.out.size))
 clear b1 A2
 refine wpAnyH_take (i:=0) (v:=.pointer (some ⟨w.heap.size,0,none⟩)) rfl (by kernel_rfl) (by kernel_rfl) (by kernel_rfl) (fun _ _ _ h=>h) (Or.inl ⟨by rfl,fun w hSw=>by go_simp⟩) hHeld ?_
 refine wpAnyH_take (i:=2) (v:=.pointer (some ⟨w.heap.size,24,none⟩)) rfl (by kernel_rfl) (by kernel_rfl) (by kernel_rfl) (fun _ _ _ h=>h) (Or.inl ⟨by rfl,fun w hSw=>by go_simp⟩) hHeld ?_
 refine wpAnyH_take (i:=5) (v:=.pointer (some ⟨w.heap.size,0,none⟩)) rfl (by kernel_rfl) (by kernel_rfl) (by kernel_rfl) (fun _ _ _ h=>h) (Or.inl ⟨by rfl,fun w hSw=>by go_simp⟩) hHeld ?_
 refine wpAnyH_take (i:=9) (v:=.pointer (some ⟨w.heap.size,24,none⟩)) rfl (by kernel_rfl) (by kernel_rfl) (by kernel_rfl) (fun _ _ _ h=>h) (Or.inl ⟨by rfl,fun w hSw=>by go_simp⟩) hHeld ?_
 refine wpAnyH_take (i:=1) (v:=.agg (V p).toArray) rfl (by kernel_rfl) (by kernel_rfl) (by kernel_rfl) (fun _ _ _ h=>h) (yieldsIf_load_mid (by rfl) _ _ rfl (w.heap.size) 0 rfl (V p) _ (fun w h=>rg_right HP.out.len h.fst) sqp.underlying60 rfl (hi24 HP.out.len)) hHeld ?_
 refine wpAnyH_take (i:=3) (v:=.agg (V q).toArray) rfl (by kernel_rfl) (by kernel_rfl) (by kernel_rfl) (fun _ _ _ h=>h) (yieldsIf_load_mid (by rfl) _ _ rfl (w.heap.size) 24 rfl (V q) _ (fun w h=>rg_up HP.out.len HQ.out.len h.fst) sqp.underlying60 rfl (hi24 HQ.out.len)) hHeld ?_
 refine wpAnyH_take (i:=6) (v:=.agg (V p).toArray) rfl (by kernel_rfl) (by kernel_rfl) (by kernel_rfl) (fun _ _ _ h=>h) (yieldsIf_load_mid (by rfl) _ _ rfl (w.heap.size) 0 rfl (V p) _ (fun w h=>rg_right HP.out.len h.fst) sqp.underlying60 rfl (hi24 HP.out.len)) hHeld ?_
 refine wpAnyH_take (i:=10) (v:=.agg (V q).toArray) rfl (by kernel_rfl) (by kernel_rfl) (by kernel_rfl) (fun _ _ _ h=>h) (yieldsIf_load_mid (by rfl) _ _ rfl (w.heap.size) 24 rfl (V q) _ (fun w h=>rg_up HP.out.len HQ.out.len h.fst) sqp.underlying60 rfl (hi24 HQ.out.len)) hHeld ?_
 refine wpAnyH_ready (rs:=[4]) (by kernel_rfl) (by simp) (AllReadyH.cons rfl (fun K hK=>?_) AllReadyH.nil)
 go_simp
 refine (inv.then_any p q _ HP.out HQ.out).mono ?_
 rintro e w' ⟨rfl,b1⟩
 replace A4:=Lib.hid (A4.out.keep b1 A4.out.lt)
 replace B1:=Lib.hid (B1.out.trans (b1.mono B1.out.size))
 go_wp2_with fail
 have hHeld2:=hHeld.later b1 (by omega);clear b1 hHeld
 refine hK.out _ _ hHeld2 (fun hHeld=>?_)
 clear hK K hHeld2
 refine wpAnyH_ready (rs:=[7]) (by kernel_rfl) (by simp) (AllReadyH.cons rfl (fun K hK=>?_) AllReadyH.nil)
 go_simp
 refine (inverse_any p _ HP.out).mono ?_
 rintro e w' ⟨rfl,b1⟩
 replace A4:=Lib.hid (A4.out.keep b1 A4.out.lt)
 replace B1:=Lib.hid (B1.out.trans (b1.mono B1.out.size))
 go_wp2_with fail
 have hHeld2:=hHeld.later b1 (by omega);clear b1 hHeld
 refine hK.out _ _ hHeld2 (fun hHeld=>?_)
 clear hK K hHeld2
 refine wpAnyH_ready (rs:=[8]) (by kernel_rfl) (by simp) (AllReadyH.cons rfl (fun K hK=>?_) AllReadyH.nil)
 go_simp
 refine (inv.then_any (thenL p q) (invTo 24 p 24) _ (then_sq HP.out HQ.out) (inv_sq _)).mono ?_
 rintro e w' ⟨rfl,b1⟩
 replace A4:=Lib.hid (A4.out.keep b1 A4.out.lt)
 replace B1:=Lib.hid (B1.out.trans (b1.mono B1.out.size))
 go_wp2_with fail
 have hHeld2:=hHeld.later b1 (by omega);clear b1 hHeld
 refine hK.out _ _ hHeld2 (fun hHeld=>?_)
 clear hK K hHeld2
 refine wpAnyH_ready (rs:=[11]) (by kernel_rfl) (by simp) (AllReadyH.cons rfl (fun K hK=>?_) AllReadyH.nil)
 go_simp
 refine (inverse_any q _ HQ.out).mono ?_
 rintro e w' ⟨rfl,b1⟩
 replace A4:=Lib.hid (A4.out.keep b1 A4.out.lt)
 replace B1:=Lib.hid (B1.out.trans (b1.mono B1.out.size))
 go_wp2_with fail
 have hHeld2:=hHeld.later b1 (by omega);clear b1 hHeld
 refine hK.out _ _ hHeld2 (fun hHeld=>?_)
 clear hK K hHeld2
 refine wpAnyH_ready (rs:=[12]) (by kernel_rfl) (by simp) (AllReadyH.cons rfl (fun K hK=>?_) AllReadyH.nil)
 go_simp
 refine (inv.then_any (thenL (thenL p q) (invTo 24 p 24)) (invTo 24 q 24) _ (then_sq (then_sq HP.out HQ.out) (inv_sq _)) (inv_sq _)).mono ?_
 rintro e w' ⟨rfl,b1⟩
 replace A4:=Lib.hid (A4.out.keep b1 A4.out.lt)
 replace B1:=Lib.hid (B1.out.trans (b1.mono B1.out.size))
 go_wp2_with fail
 have hHeld2:=hHeld.later b1 (by omega);clear b1 hHeld
 refine hK.out _ _ hHeld2 (fun hHeld=>?_)
 clear hK K hHeld2
 have HA:Hid (thenL (thenL (thenL p q) (invTo 24 p 24)) (invTo 24 q 24) = ar24 p q):=Lib.hid rfl
 rw [HA.out]
 have HL:=Lib.hid (ar24_len p q)
 generalize haa:ar24 p q = a at *
 have HAA:=Lib.hid haa;clear haa
 clear HA
 refine wpAnyH_ready (rs:=[13]) (by kernel_rfl) (by simp) (AllReadyH.cons rfl (fun K hK=>?_) AllReadyH.nil)
 refine step_store_row rfl 60 _ _ rfl (w.heap.size + 1) (V a).toArray rfl rfl 60 (V zeros).toArray A4.out (size_V HL.out) (by simp [V_len,HL.out,zeros]) (one_V _) ?_
 refine hK.out _ _ (hHeld.other (by omega) (by simp) _) (fun hHeld2=>?_)
 clear hK K hHeld2
 refine wpAnyH_done (by kernel_rfl) ?_ _
 go_wp2_with fail
 exact bodyPost_ret (v:=.agg (V a).toArray) (results_cell_row rfl _ _ (w.heap.size + 1) 60 (V a).toArray (0,0) _ rfl A4.out.row sqp.underlying60 rfl (size_V HL.out)) rfl ⟨by rw [HAA.out],below_setRow B1.out (by omega) _⟩
theorem _root_.Go.Proofs.Ytgcnemkhppkkcaa.sf.Hld.c0 {base top a:Nat} {w W:World} {x y:Value} {l:List (Nat × List Value)} (h:Hld base top w ((a,[x,y]) :: l) W):W.cell? ⟨a,0,none⟩ = some x:=by simpa using h.fst 0 x rfl
theorem _root_.Go.Proofs.Ytgcnemkhppkkcaa.sf.Hld.c1 {base top a:Nat} {w W:World} {x y:Value} {l:List (Nat × List Value)} (h:Hld base top w ((a,[x,y]) :: l) W):W.cell? ⟨a,1,none⟩ = some y:=by simpa using h.fst 1 y rfl
end Go.Proofs.Ytgcnemkhppkkcaa.gl

namespace Go.Proofs.Ytgcnemkhppkkcaa.mk
open Go.ChangeShapes Go.WideShapes Go.ChangeAt Go.RowKit
open mem ints arr pm permOk permOf inv fns sf gl
set_option linter.unusedVariables false
set_option maxRecDepth 100000
end Go.Proofs.Ytgcnemkhppkkcaa.mk

namespace Go.Proofs.Ytgcnemkhppkkcaa.cur
open Go.ChangeShapes Go.WideShapes Go.ChangeAt Go.RowKit
open mem
set_option linter.unusedVariables false
set_option maxRecDepth 100000
def U (l:List Int):List Value:=l.map (Value.int .u8)
def Bytes (l:List Int):Prop:=∀ z ∈ l,0<=z/\z<=255
theorem U_at {l:List Int} {k:Nat} {u:Value} (h:(U l)[k]? = some u) (hb:Bytes l):∃ z,u = .int .u8 z/\0<=z/\z<=255:=by
 simp only [U,List.getElem?_map,Option.map_eq_some_iff] at h
 obtain ⟨s,h1,h2⟩:=h
 have:=hb s (List.mem_of_getElem? h1)
 exact ⟨s,h2.symm,this.1,this.2⟩
structure Code (w:World) (hi:Nat) (A:Option Addr) (n:Nat) (l:List Int):Prop where
 rd:Rd w hi A n (U l)
 byt:Bytes l
 small:n<=1048576
structure Cur (w:World) (g:Nat) (A:Option Addr) (n c:Nat) (l:List Int):Prop where
 blk:∃ i h:Int,w.heap[g]? = some (.cells #[.slice A n c,.int .i64 i,.int .i64 h] 102 (0,0))/\0<=i/\i<=n/\-9223372036854775808<=h/\h<=9223372036854775807
 code:Code w g A n l
theorem Code.out {w w':World} {hi lo' hi':Nat} {A:Option Addr} {n:Nat} {l:List Int} (h:Code w hi A n l) (ho:Out lo' hi' w w') (hd:hi<=lo'\/hi'<=0):Code w' hi A n l :=
 ⟨h.rd.out ho hd,h.byt,h.small⟩
theorem Code.keep {w w':World} {hi B:Nat} {A:Option Addr} {n:Nat} {l:List Int} (h:Code w hi A n l) (hb:Below B w w') (hB:hi<=B):Code w' hi A n l :=
 ⟨h.rd.keep hb hB,h.byt,h.small⟩
theorem Code.wider {w:World} {hi hi':Nat} {A:Option Addr} {n:Nat} {l:List Int} (h:Code w hi A n l) (h1:hi<=hi') (h2:hi'<=w.heap.size):Code w hi' A n l :=
 ⟨⟨h.rd.1,h2,fun hn=>by
  obtain ⟨g,off,e,hlt,hc⟩:=h.rd.2.2 hn
  exact ⟨g,off,e,by omega,hc⟩⟩,h.byt,h.small⟩
theorem and255 (n:Int):0<=bits .and .i64 n 255/\bits .and .i64 n 255<=255:=by
 have e:bits .and .i64 n 255 = n % 256:=by
  have h127:(BitVec.ofInt 64 255).toNat = 2 ^ 8 - 1:=by decide
  have key:(BitVec.ofInt 64 n &&& BitVec.ofInt 64 255).toNat = (n % ((2 ^ 64:Nat):Int)).toNat % 2 ^ 8:=by
   rw [BitVec.toNat_and,BitVec.toNat_ofInt,h127,Nat.and_two_pow_sub_one_eq_mod]
  show IntKind.i64.wrap ((BitVec.ofInt 64 n &&& BitVec.ofInt 64 255).toNat:Nat) = n % 256
  rw [key,IntKind.wrap_i64]
  omega
 rw [e];omega
set_option maxHeartbeats 400000 in
theorem byte_any (w:World) (g:Nat) (A:Option Addr) (n c:Nat) (l:List Int) (hc:Cur w g A n c l) :
  Calls sqp.prog 40 #[.pointer (some ⟨g,0,none⟩)] w fun e w'=>∃ x:Int,0<=x/\x<=255/\e = .returned (.int .i64 x)/\Cur w' g A n c l/\Out g (g + 1) w w':=by
 obtain ⟨⟨i',h,hb,i0',i1',h0,h1⟩,hcode⟩:=hc
 obtain ⟨i,rfl⟩:=Int.eq_ofNat_of_zero_le i0'
 have i1:i<=n:=by omega
 clear i0' i1'
 have hsm:=hcode.small
 have c2:w.cell? ⟨g,2,none⟩ = some (.int .i64 h):=by simp [World.cell?,hb]
 have f2:w.frozen? ⟨g,2,none⟩ = false:=by simp [World.frozen?,hb]
 have HB:=Lib.hid hb;have HC:=Lib.hid hcode;clear hb hcode
 go_enter sqp.func40,sqp.ntmps40
 go_wp2
 generalize HH:wrap64 (wrap64 (h * 6364136223846793005) + 1442695040888963407) = h' at *
 have hh':-9223372036854775808<=h'/\h'<=9223372036854775807:=by rw [<-HH];unfold wrap64;omega
 clear HH
 obtain ⟨h2,h3⟩:=hh'
 have hw1:=Out.set_ (off:=2) (Out.refl g (g + 1) w) (Nat.le_refl _) (Nat.lt_succ_self _) (.int .i64 h')
 have hb1:(w.setCell ⟨g,2,none⟩ (.int .i64 h')).heap[g]? = some (.cells #[.slice A n c,.int .i64 i,.int .i64 h'] 102 (0,0)):=by
  have hb:=HB.out
  simp [World.setCell,Array.getElem?_modify,hb]
 generalize HW:w.setCell ⟨g,2,none⟩ (.int .i64 h') = w1 at *
 clear HW c2 f2
 have c0:w1.cell? ⟨g,0,none⟩ = some (.slice A n c):=by simp [World.cell?,hb1]
 have c1:w1.cell? ⟨g,1,none⟩ = some (.int .i64 i):=by simp [World.cell?,hb1]
 have c2:w1.cell? ⟨g,2,none⟩ = some (.int .i64 h'):=by simp [World.cell?,hb1]
 have f1:w1.frozen? ⟨g,1,none⟩ = false:=by simp [World.frozen?,hb1]
 have HC1:=Lib.hid (Code.out HC.out hw1 (.inl (Nat.le_refl _)))
 have HB1:=Lib.hid hb1;have HW1:=Lib.hid hw1;clear hb1 hw1
 go_quiet (fail)
 obtain ⟨x0,x1⟩:=and255 (bits BinOp.xor IntKind.i64 (h' / 8589934592) (h' / 35184372088832))
 go_wp2
 generalize bits BinOp.and IntKind.i64 (bits BinOp.xor IntKind.i64 (h' / 8589934592) (h' / 35184372088832)) 255 = x at *
 by_cases hin:i < n
 ·obtain ⟨g',off,u,rfl,hgl,hxu,hcx⟩:=HC1.out.rd.at_ hin
  obtain ⟨z,rfl,z0,z1⟩:=U_at hxu HC1.out.byt
  have HXU:=Lib.hid hxu;clear hxu
  go_quiet (fail)
  go_wp2
  go_quiet (fail)
  go_wp2
  go_ret
  have hq:=and255 (x + z)
  refine ⟨_,hq.1,hq.2,rfl,⟨⟨i + 1,h',?_,by omega,by omega,h2,h3⟩,?_⟩,?_⟩
  ·have hb:=HB1.out
   simp [World.setCell,Array.getElem?_modify,hb]
  ·exact HC1.out.out (((Out.refl g (g + 1) w1).drewN _).set_ (Nat.le_refl _) (Nat.lt_succ_self _) _) (.inl (Nat.le_refl _))
  ·exact (HW1.out.drewN _).set_ (Nat.le_refl _) (Nat.lt_succ_self _) _
 ·go_quiet (fail)
  go_wp2
  go_ret
  exact ⟨x,x0,x1,rfl,⟨⟨i,h',HB1.out,by omega,by omega,h2,h3⟩,HC1.out.out (((Out.refl g (g + 1) w1).drewN _).drewN _) (.inl (Nat.le_refl _))⟩,(HW1.out.drewN _).drewN _⟩
def Gives (lo hi:Int) (g:Nat) (A:Option Addr) (n c:Nat) (l:List Int) (w:World) (e:Ending) (w':World):Prop :=
 ∃ x:Int,lo<=x/\x<=hi/\e = .returned (.int .i64 x)/\Cur w' g A n c l/\Out g (g + 1) w w'
theorem and_small (m:Int):0<=bits .and .i64 m 1073741823/\bits .and .i64 m 1073741823<=1073741823:=by
 have e:bits .and .i64 m 1073741823 = m % 1073741824:=by
  have h127:(BitVec.ofInt 64 1073741823).toNat = 2 ^ 30 - 1:=by decide
  have key:(BitVec.ofInt 64 m &&& BitVec.ofInt 64 1073741823).toNat = (m % ((2 ^ 64:Nat):Int)).toNat % 2 ^ 30:=by
   rw [BitVec.toNat_and,BitVec.toNat_ofInt,h127,Nat.and_two_pow_sub_one_eq_mod]
  show IntKind.i64.wrap ((BitVec.ofInt 64 m &&& BitVec.ofInt 64 1073741823).toNat:Nat) = m % 1073741824
  rw [key,IntKind.wrap_i64]
  omega
 rw [e];omega
def Made (A:Option Addr) (n c:Nat) (l:List Int) (w:World) (e:Ending) (w':World):Prop :=
 ∃ g,w.heap.size<=g/\g < w'.heap.size/\e = .returned (.pointer (some ⟨g,0,none⟩))/\Cur w' g A n c l/\Below w.heap.size w w'
set_option maxRecDepth 100000 in
set_option maxHeartbeats 400000 in
theorem new_any (w:World) (hi:Nat) (A:Option Addr) (n c:Nat) (l:List Int) (hc:Code w hi A n l) :
  Calls sqp.prog 36 #[.slice A n c] w (Made A n c l w):=by
 have hsm:=hc.small
 have HC:=Lib.hid hc;clear hc
 go_enter sqp.func36,sqp.ntmps36
 go_wp2
 go_loop [3,4] (fun v i=>∃ (k:Nat) (h:Int),k<=n/\i = .int .i64 k/\v = .int .i64 h/\0<=h/\h<=1073741823) (fun _ i=>n - (intOf i).toNat)
 case atStart=>exact ⟨0,_,Nat.zero_le _,rfl,rfl,by omega,by omega⟩
 case round =>
  obtain ⟨k,h,hk,rfl,rfl,h0,h1⟩:=hrel
  by_cases hlt:k < n
  ·by_cases h4:k < 4000
   ·obtain ⟨g',off,u,rfl,hgl,hxu,hcx⟩:=HC.out.rd.at_ hlt
    obtain ⟨z,rfl,z0,z1⟩:=U_at hxu HC.out.byt
    have HXU:=Lib.hid hxu;clear hxu
    go_wp2
    go_round
    case rel =>
     have hq:=and_small (h * 109 + z + 7)
     exact ⟨k + 1,_,by omega,by go_num,rfl,hq.1,hq.2⟩
    case measure=>simp [intOf];omega
   ·go_wp2
    go_ret
    refine ⟨w.heap.size,Nat.le_refl _,by simp,rfl,⟨⟨0,h,heap_alloc_new _ _,by omega,by omega,by omega,by omega⟩,?_⟩,(Below.refl _ _).alloc (Nat.le_refl _) _⟩
    exact (HC.out.keep ((Below.refl w.heap.size w).alloc (Nat.le_refl _) _) HC.out.rd.2.1).wider HC.out.rd.2.1 (by simp)
  ·go_wp2
   go_ret
   refine ⟨w.heap.size,Nat.le_refl _,by simp,rfl,⟨⟨0,h,heap_alloc_new _ _,by omega,by omega,by omega,by omega⟩,?_⟩,(Below.refl _ _).alloc (Nat.le_refl _) _⟩
   exact (HC.out.keep ((Below.refl w.heap.size w).alloc (Nat.le_refl _) _) HC.out.rd.2.1).wider HC.out.rd.2.1 (by simp)
end Go.Proofs.Ytgcnemkhppkkcaa.cur

namespace Go.Proofs.Ytgcnemkhppkkcaa.cur
open Go.ChangeShapes Go.WideShapes Go.ChangeAt Go.RowKit
open mem
set_option linter.unusedVariables false
set_option maxRecDepth 100000
theorem Cur.lt {w:World} {g:Nat} {A:Option Addr} {n c:Nat} {l:List Int} (h:Cur w g A n c l):g < w.heap.size:=by
 obtain ⟨⟨i,q,hb,_⟩,_⟩:=h
 rcases Nat.lt_or_ge g w.heap.size with hlt | hge
 ·exact hlt
 ·rw [Array.getElem?_eq_none hge] at hb;cases hb
theorem Cur.keep {w w':World} {g B:Nat} {A:Option Addr} {n c:Nat} {l:List Int} (h:Cur w g A n c l) (hb:Below B w w') (hB:g < B):Cur w' g A n c l:=by
 obtain ⟨⟨i,q,hk,r⟩,hc⟩:=h
 exact ⟨⟨i,q,by rw [hb.block g hB];exact hk,r⟩,hc.keep hb (by omega)⟩
set_option maxHeartbeats 400000 in
theorem skip_any (w:World) (hi:Nat) (A:Option Addr) (n c:Nat) (l:List Int) (m:Nat) (hm:m<=1000) (hc:Code w hi A n l) :
  Calls sqp.prog 39 #[.slice A n c,.int .i64 m] w (Made A n c l w):=by
 have HC:=Lib.hid hc;clear hc
 go_enter sqp.func39,sqp.ntmps39
 go_wp2_with fail
 refine (new_any w hi A n c l HC.out).mono ?_
 rintro e w1 ⟨g,hg,hlt,rfl,hcur,hb⟩
 have HCU:=Lib.hid hcur;have HB:=Lib.hid hb;clear hcur hb
 go_wp2_with fail
 go_loopw [6] (fun i wr=>∃ k:Nat,k<=m/\i = .int .i64 k/\Cur wr g A n c l/\Below w.heap.size w wr) (fun i _=>m - (intOf i).toNat)
 case atStart=>exact ⟨0,Nat.zero_le _,rfl,HCU.out,HB.out⟩
 case round =>
  obtain ⟨k,hk,rfl,hcur,hb⟩:=hrel
  have HCR:=Lib.hid hcur;have HBR:=Lib.hid hb;clear hcur hb
  by_cases hkm:k < m
  ·go_wp2_with fail
   refine (byte_any _ g A n c l HCR.out).mono ?_
   rintro e w2 ⟨x,x0,x1,rfl,hcur,ho⟩
   have HC2:=Lib.hid hcur;have HO:=Lib.hid ho;clear hcur ho
   go_wp2_with fail
   go_roundw
   case rel=>exact ⟨k + 1,by omega,by go_num,HC2.out,HBR.out.trans (HO.out.below hg HBR.out.size)⟩
   case measure=>simp [intOf];omega
  ·go_wp2_with fail
   go_ret
   exact ⟨g,hg,HCR.out.lt,rfl,HCR.out,HBR.out⟩
set_option maxHeartbeats 400000 in
theorem below_any (w:World) (g:Nat) (A:Option Addr) (n c:Nat) (l:List Int) (k:Int) (h1:1<=k) (h2:k<=2147483648) (hc:Cur w g A n c l) :
  Calls sqp.prog 63 #[.pointer (some ⟨g,0,none⟩),.int .i64 k] w (Gives 0 (k - 1) g A n c l w):=by
 have HC:=Lib.hid hc;clear hc
 by_cases hk:k<=256
 ·go_enter sqp.func63,sqp.ntmps63
  go_wp2_with fail
  refine (byte_any _ g A n c l HC.out).mono ?_
  rintro e w2 ⟨x,x0,x1,rfl,hcur,ho⟩
  have HC2:=Lib.hid hcur;have HO:=Lib.hid ho;clear hcur ho
  have hne:(k == 0) = false:=by rw [beq_eq_false_iff_ne];omega
  go_wp2_with fail
  go_ret
  have q1:=Int.emod_nonneg x (show k ≠ 0 by omega)
  have q2:=Int.emod_lt_of_pos x (show 0 < k by omega)
  exact ⟨x % k,q1,by omega,rfl,HC2.out,HO.out⟩
 ·go_enter sqp.func63,sqp.ntmps63
  go_wp2_with fail
  refine (byte_any _ g A n c l HC.out).mono ?_
  rintro e w2 ⟨x,x0,x1,rfl,hcur,ho⟩
  have HC2:=Lib.hid hcur;have HO:=Lib.hid ho;clear hcur ho
  go_wp2_with fail
  refine (byte_any _ g A n c l HC2.out).mono ?_
  rintro e w3 ⟨y,y0,y1,rfl,hcur,ho⟩
  have HC3:=Lib.hid hcur;have HO3:=Lib.hid (HO.out.trans ho);clear hcur ho
  go_wp2_with fail
  refine (byte_any _ g A n c l HC3.out).mono ?_
  rintro e w4 ⟨z,z0,z1,rfl,hcur,ho⟩
  have HC4:=Lib.hid hcur;have HO4:=Lib.hid (HO3.out.trans ho);clear hcur ho
  go_wp2_with fail
  refine (byte_any _ g A n c l HC4.out).mono ?_
  rintro e w5 ⟨u,u0,u1,rfl,hcur,ho⟩
  have HC5:=Lib.hid hcur;have HO5:=Lib.hid (HO4.out.trans ho);clear hcur ho
  have hne:(k == 0) = false:=by rw [beq_eq_false_iff_ne];omega
  go_wp2_with fail
  go_ret
  have q1:=Int.emod_nonneg (x * 16777216 + y * 65536 + z * 256 + u) (show k ≠ 0 by omega)
  have q2:=Int.emod_lt_of_pos (x * 16777216 + y * 65536 + z * 256 + u) (show 0 < k by omega)
  exact ⟨_,q1,by omega,rfl,HC5.out,HO5.out⟩
end Go.Proofs.Ytgcnemkhppkkcaa.cur

namespace Go.Proofs.Ytgcnemkhppkkcaa.cur
open Go.ChangeShapes Go.WideShapes Go.ChangeAt Go.RowKit
open mem ints arr pm permOk fns
set_option linter.unusedVariables false
set_option maxRecDepth 100000
def put (xs:List Int) (a:Nat):List Int:=((xs ++ [(xs.length:Int)]).set xs.length ((xs ++ [(xs.length:Int)]).getD a 0)).set a (xs.length:Int)
theorem put_len (xs:List Int) (a:Nat):(put xs a).length = xs.length + 1:=by simp [put]
theorem put_at {xs:List Int} {a i:Nat} (ha:a<=xs.length) (hi:i<=xs.length):(put xs a).getD i 0 = if i = a then (xs.length:Int) else if i = xs.length then xs.getD a 0 else xs.getD i 0:=by
 unfold put
 rw [getD_set]
 by_cases e:i = a
 ·subst e;rw [if_pos rfl,if_pos ⟨rfl,by simp;omega⟩]
 ·rw [if_neg (by omega),if_neg e,getD_set]
  by_cases e2:i = xs.length
  ·rw [if_pos ⟨e2.symm,by simp;omega⟩,if_pos e2]
   simp only [List.getD,List.getElem?_append]
   rw [if_pos (by omega)]
  ·rw [if_neg (by omega),if_neg e2]
   simp only [List.getD,List.getElem?_append]
   rw [if_pos (by omega)]
theorem put_ok {xs:List Int} {a:Nat} (h:Ok xs) (hl:xs.length < 24) (ha:a<=xs.length):Ok (put xs a):=by
 have key:∀ i,i<=xs.length->(i = a/\(put xs a).getD i 0 = xs.length)\/(i ≠ a/\∃ j,j < xs.length/\(put xs a).getD i 0 = xs.getD j 0/\(i = xs.length->j = a)/\(i ≠ xs.length->j = i)):=by
  intro i hi
  rw [put_at ha hi]
  by_cases e:i = a
  ·left;exact ⟨e,if_pos e⟩
  ·right
   refine ⟨e,?_⟩
   rw [if_neg e]
   by_cases e2:i = xs.length
   ·exact ⟨a,by omega,if_pos e2,fun _=>rfl,fun q=>absurd e2 q⟩
   ·exact ⟨i,by omega,if_neg e2,fun q=>absurd q e2,fun _=>rfl⟩
 refine ⟨by rw [put_len];omega,fun i hi=>?_,fun i hi=>?_,fun i j hi hj e=>?_⟩
 ·rw [put_len] at hi
  rcases key i (by omega) with ⟨_,q⟩ | ⟨_,j,hj,q,_⟩
  ·omega
  ·have:=h.lo j hj;omega
 ·rw [put_len] at hi ⊢
  rcases key i (by omega) with ⟨_,q⟩ | ⟨_,j,hj,q,_⟩
  ·omega
  ·have:=h.hi j hj;omega
 ·rw [put_len] at hi hj
  rcases key i (by omega) with ⟨a1,q1⟩ | ⟨a1,i',b1,q1,c1,d1⟩ <;> rcases key j (by omega) with ⟨a2,q2⟩ | ⟨a2,j',b2,q2,c2,d2⟩
  ·omega
  ·have:=h.hi j' b2;omega
  ·have:=h.hi i' b1;omega
  ·have:=h.inj i' j' b1 b2 (by omega)
   by_cases e1:i = xs.length
   ·by_cases e2:j = xs.length
    ·omega
    ·have:=c1 e1;have:=d2 e2;omega
   ·by_cases e2:j = xs.length
    ·have:=c2 e2;have:=d1 e1;omega
    ·have:=d1 e1;have:=d2 e2;omega
theorem ok_nil:Ok []:=⟨by simp,fun i hi=>by simp at hi,fun i hi=>by simp at hi,fun i j hi=>by simp at hi⟩
def DrawsP (m:Nat) (g:Nat) (A:Option Addr) (n c:Nat) (l:List Int) (w:World) (e:Ending) (w':World):Prop :=
 ∃ v xs,Ok xs/\xs.length = m/\e = .returned v/\w'.ownsRow w.heap.size 3 1 v m (V xs)/\Cur w' g A n c l/\Out g (g + 1) w w'
structure Dr (w wr:World) (g:Nat) (A:Option Addr) (n c:Nat) (l:List Int) (v:Value) (xs:List Int):Prop where
 own:wr.ownsRow w.heap.size 3 1 v xs.length (V xs)
 cur:Cur wr g A n c l
 out:Out g (g + 1) w wr
 lt:g < w.heap.size
theorem Dr.later {w wr w':World} {g n c:Nat} {A:Option Addr} {l xs:List Int} {v:Value} (h:Dr w wr g A n c l v xs) (hc:Cur w' g A n c l) (ho:Out g (g + 1) wr w'):Dr w w' g A n c l v xs:=by
 refine ⟨⟨h.own.1,?_⟩,hc,h.out.trans ho,h.lt⟩
 rcases h.own.2 with h0 | ⟨b,cap,cur,q1,q2,q3,q4⟩
 ·exact .inl h0
 ·exact .inr ⟨b,cap,cur,q1,q2,(ho.block b (Array.getElem?_eq_some_iff.1 q3).1 (.inr (by have:=h.lt;omega))).trans q3,q4⟩
theorem Dr.push {w wr w':World} {g n c k:Nat} {A:Option Addr} {l xs:List Int} {v v':Value} {z:Int} (h:Dr w wr g A n c l v xs) (ho:w'.ownsRow w.heap.size 3 1 v' (k + 1) (V xs ++ [.int .i64 z])) (hk:k = xs.length) (hg:wr.grownBy w' v.ownBlock):Dr w w' g A n c l v' (xs ++ [z]):=by
 subst hk
 have e:V (xs ++ [z]) = V xs ++ [.int .i64 z]:=by simp [V]
 have hb:Below w.heap.size wr w':=(Below.refl _ _).grown hg h.out.size (fun b hb=>(h.own.lt b hb).1)
 exact ⟨by rw [e];simpa using ho,h.cur.keep hb h.lt,⟨hb.os.trans h.out.os,hb.tape.trans h.out.tape,hb.output.trans h.out.output,Nat.le_trans h.out.size hb.size,fun b q r=>(hb.block b q).trans (h.out.block b q r)⟩,h.lt⟩
theorem Dr.set_ {w wr:World} {g n c b cc:Nat} {A:Option Addr} {l xs:List Int} (h:Dr w wr g A n c l (.slice (some ⟨b,0,none⟩) xs.length cc) xs) (k:Nat) (z:Int):Dr w (wr.setCell ⟨b,k,none⟩ (.int .i64 z)) g A n c l (.slice (some ⟨b,0,none⟩) (xs.set k z).length cc) (xs.set k z):=by
 have hb:=h.own.lt b rfl
 have B:Below w.heap.size wr (wr.setCell ⟨b,k,none⟩ (.int .i64 z)):=(Below.refl _ _).setCell hb.1 _
 have:=(h.own.stored k (.int .i64 z)).1
 rw [V_set] at this
 refine ⟨by simpa using this,h.cur.keep B h.lt,⟨h.out.os,h.out.tape,h.out.output,Nat.le_trans h.out.size B.size,fun q r s=>(B.block q r).trans (h.out.block q r s)⟩,h.lt⟩
set_option maxHeartbeats 1000000 in
theorem drawP_any (w:World) (g:Nat) (A:Option Addr) (n c:Nat) (l:List Int) (m:Nat) (hm:m<=24) (hc:Cur w g A n c l) :
  Calls sqp.prog 64 #[.pointer (some ⟨g,0,none⟩),.int .i64 m] w (DrawsP m g A n c l w):=by
 obtain ⟨i0,hi0,hz0,hz1,hz2⟩:=info_parts infoI
 have hlt0:=hc.lt
 have HC:=Lib.hid hc;clear hc
 go_enter sqp.func64,sqp.ntmps64
 go_wp2
 go_loopw [5,6] (fun v i wr=>∃ (k:Nat) (xs:List Int),k<=m/\i = .int .i64 k/\xs.length = k/\Ok xs/\Dr w wr g A n c l v xs) (fun _ i _=>m - (intOf i).toNat)
 case atStart =>
  have B:=(Below.refl w.heap.size w).alloc (Nat.le_refl _) (.cells #[] 3)
  exact ⟨0,[],Nat.zero_le _,rfl,rfl,ok_nil,⟨rfl,.inr ⟨w.heap.size,0,#[],rfl,Nat.le_refl _,heap_alloc_last w _,Nat.le_refl _,by simp,rfl,rfl⟩⟩,HC.out.keep B hlt0,Out.of_below B,hlt0⟩
 case round =>
  obtain ⟨k,xs,hk,rfl,hl,ok,hdr⟩:=hrel
  obtain ⟨C,cc,rfl⟩:=own_form hdr.own
  subst hl
  have OK:=Lib.hid ok;have DR:=Lib.hid hdr;clear ok hdr
  have hsz:=DR.out.out.size
  by_cases hlt:xs.length < m
  ·go_wp2_with fail
   refine (below_any _ g A n c l ((xs.length:Int) + 1) (by omega) (by omega) DR.out.cur).mono ?_
   rintro e w2 ⟨a0,h0,h1,rfl,hcur,ho⟩
   obtain ⟨a,rfl⟩:=Int.eq_ofNat_of_zero_le h0
   have ha:a<=xs.length:=by omega
   clear h0 h1
   have D2:=Lib.hid (DR.out.later hcur ho)
   have hsz2:=D2.out.out.size
   clear hcur ho DR
   go_wp2_with (at_builtin;refine wpList_append_one w2 _ _ rfl _ _ 23 rfl w.heap.size 3 i0 _ 8 sqp.underlying23 hi0 hz0 hz1 hz2 rfl _ _ _ rfl D2.out.own rfl rfl ?c4 (by decide) hsz2 ?_)
   case c4=>omega
   intro v' w' ho hg
   have D3:=D2.out.push ho rfl hg
   clear ho hg D2
   obtain ⟨C',cc',rfl⟩:=own_form D3.own
   have hl1:(xs ++ [(xs.length:Int)]).length = xs.length + 1:=by simp
   have hown:=D3.own
   rw [hl1] at hown
   obtain ⟨b,rfl⟩:∃ b,C' = some ⟨b,0,none⟩:=by
    rcases D3.own.2 with ⟨h0,hn0⟩ | ⟨b,cap,cur,q1,_⟩
    ·simp at hn0
    ·injection q1 with q1;exact ⟨b,q1⟩
   have hca:w'.cell? ⟨b,a,none⟩ = some (.int .i64 ((xs ++ [(xs.length:Int)]).getD a 0)):=by rw [D3.own.cellAt a (by simp;omega)];exact V_getD (by simp;omega)
   have hck:w'.cell? ⟨b,xs.length,none⟩ = some (.int .i64 ((xs ++ [(xs.length:Int)]).getD xs.length 0)):=by rw [D3.own.cellAt xs.length (by simp)];exact V_getD (by simp)
   have fa:=D3.own.frozenAt a;have fk:=D3.own.frozenAt xs.length
   generalize hq:(xs ++ [(xs.length:Int)]).getD a 0 = qa at *
   have D4:=D3.set_ xs.length qa
   have hca2:(w'.setCell ⟨b,xs.length,none⟩ (.int .i64 qa)).cell? ⟨b,a,none⟩ = some (.int .i64 (((xs ++ [(xs.length:Int)]).set xs.length qa).getD a 0)):=by rw [D4.own.cellAt a (by simp;omega)];exact V_getD (by simp;omega)
   have fa2:=D4.own.frozenAt a
   have D5:=D4.set_ a (xs.length:Int)
   have e5:((xs ++ [(xs.length:Int)]).set xs.length qa).set a (xs.length:Int) = put xs a:=by unfold put;rw [hq]
   rw [e5] at D5
   have PL:Hid ((put xs a).length = xs.length + 1):=Lib.hid (put_len _ _)
   rw [PL.out] at D5
   rw [hl1]
   have D6:=Lib.hid D5
   have POK:=Lib.hid (put_ok OK.out (by omega) ha)
   clear D3 D4 D5 hown hl1 hq e5
   go_wp2
   go_roundw
   case rel=>exact ⟨xs.length + 1,put xs a,by omega,by go_num,PL.out,POK.out,D6.out⟩
   case measure=>simp [intOf];omega
  ·obtain rfl:xs.length = m:=by omega
   go_wp2
   go_ret
   exact ⟨_,xs,OK.out,rfl,rfl,DR.out.own,DR.out.cur,DR.out.out⟩
end Go.Proofs.Ytgcnemkhppkkcaa.cur

namespace Go.Proofs.Ytgcnemkhppkkcaa.mk
open Go.ChangeShapes Go.WideShapes Go.ChangeAt Go.RowKit
open mem ints arr pm permOk permOf inv sf gl cur
set_option linter.unusedVariables false
set_option maxRecDepth 100000
theorem el_ok4:∀ a:Fin 6,∀ h:Fin 5,1<=a.1->1<=h.1->transB (elFR a.1 h.1) (elFU a.1 h.1) = true/\(elFR a.1 h.1).length = a.1 + h.1 - 1:=by decide +kernel
theorem el_sf1 {m:Nat} (m1:1<=m) (m5:m<=5):∃ N,N = m/\Sf N (elFR (m:Int) 1) (elFU (m:Int) 1):=by
 have:=el_ok4 ⟨m,by omega⟩ ⟨1,by omega⟩ m1 (Nat.le_refl _)
 have e:(elFR (m:Int) 1).length = m:=by have:=this.2;simp only [Nat.add_sub_cancel] at this;exact this
 have t:=transB_iff.1 this.1
 exact ⟨_,e,t⟩
def Drawn (M g:Nat) (A:Option Addr) (n c:Nat) (l:List Int) (w:World) (e:Ending) (w':World):Prop :=
 ∃ v r u N,N<=M/\Sf N r u/\e = .returned v/\Svl w' w.heap.size w'.heap.size v r u/\Cur w' g A n c l/\Out g (g + 1) w w'
structure Dw (w wr:World) (g:Nat) (A:Option Addr) (n c:Nat) (l:List Int):Prop where
 res:Arr wr w.heap.size [.slice none 0 0,.slice none 0 0] 25
 cur:Cur wr g A n c l
 out:Out g (g + 1) w wr
 lt:g < w.heap.size
theorem Dw.later {w wr w':World} {g n c:Nat} {A:Option Addr} {l:List Int} (h:Dw w wr g A n c l) (hc:Cur w' g A n c l) (ho:Out g (g + 1) wr w'):Dw w w' g A n c l :=
 ⟨h.res.out ho (.inr h.lt),hc,h.out.trans ho,h.lt⟩
theorem Dw.below {w wr w':World} {g n c:Nat} {A:Option Addr} {l:List Int} (h:Dw w wr g A n c l) (hb:Below wr.heap.size wr w'):Dw w w' g A n c l :=
 h.later (h.cur.keep hb h.cur.lt) (Out.of_below hb)
theorem Dw.size {w wr:World} {g n c:Nat} {A:Option Addr} {l:List Int} (h:Dw w wr g A n c l):w.heap.size < wr.heap.size:=h.res.lt
theorem _root_.Go.Proofs.Ytgcnemkhppkkcaa.mem.Out.trans_below {g:Nat} {w a b:World} {B:Nat} (h:Out g (g + 1) w a) (hb:Below B a b) (hB:w.heap.size<=B):Out g (g + 1) w b :=
 ⟨hb.os.trans h.os,hb.tape.trans h.tape,hb.output.trans h.output,Nat.le_trans h.size hb.size,fun k hk hne=>(hb.block k (by omega)).trans (h.block k hk hne)⟩
set_option maxHeartbeats 4000000 in
theorem drawM_any (mo:Nat) (mo1:1<=mo) (mo5:mo<=5) (w:World) (g:Nat) (A:Option Addr) (n c:Nat) (l:List Int) (hc:Cur w g A n c l) :
  Calls sqp.prog 35 #[.pointer (some ⟨g,0,none⟩),.int .i64 (mo:Int)] w (Drawn mo g A n c l w):=by
 have hlt0:=hc.lt
 have DW0:Hid (Dw w (w.alloc (.cells #[.slice none 0 0,.slice none 0 0] 25)) g A n c l):=Lib.hid ⟨Arr.new w [.slice none 0 0,.slice none 0 0] _ rfl,hc.keep ((Below.refl _ _).alloc (Nat.le_refl _) _) hlt0,Out.of_below ((Below.refl _ _).alloc (Nat.le_refl _) _),hlt0⟩
 clear hc
 go_enter sqp.func35,sqp.ntmps35
 go_wp2_with fail
 refine (below_any _ g A n c l (mo:Int) (by omega) (by omega) DW0.out.cur).mono ?_
 rintro e w1 ⟨x,x0,x1,rfl,hc1,o1⟩
 have DW:=Lib.hid (DW0.out.later hc1 o1)
 clear hc1 o1 DW0
 obtain ⟨m,hm⟩:=Int.eq_ofNat_of_zero_le (show 0<=1 + x by omega)
 have hm1:1<=m:=by omega
 have hm5:m<=mo:=by omega
 have hmw:IntKind.i64.wrap (m:Int) = (m:Int):=w_in (by omega)
 clear x0 x1
 go_wp2_with fail
 clear hmw hm
 go_loopw [6] (fun i wr=>∃ k:Nat,k<=8/\i = .int .i64 k/\Dw w wr g A n c l) (fun i _=>8 - (intOf i).toNat)
 case atStart=>exact ⟨0,Nat.zero_le _,rfl,DW.out⟩
 case round =>
  obtain ⟨k,hk,rfl,ht⟩:=hrel
  clear DW
  have DW:=Lib.hid ht;clear ht
  by_cases hlt:k < 8
  ·go_wp2_with fail
   refine (drawP_any _ g A n c l m (by omega) DW.out.cur).mono ?_
   rintro e w2 ⟨v1,r,okr,lr,rfl,ow1,hc1,o1⟩
   have sz:=DW.out.size
   have s1:=o1.size
   replace DW:=Lib.hid (DW.out.later hc1 o1);clear hc1 o1
   obtain ⟨P1,d1,rfl⟩:=own_form ow1
   have hd1:=(own_cap ow1).2
   have OKR:=Lib.hid okr;have LR:=Lib.hid lr;have R1:=Lib.hid (Row.of_own ow1);clear okr lr ow1
   go_wp2_with fail
   refine (drawP_any _ g A n c l m (by omega) DW.out.cur).mono ?_
   rintro e w3 ⟨v2,u,oku,lu,rfl,ow2,hc1,o1⟩
   have sz2:=DW.out.lt
   have s2:=o1.size
   replace R1:=Lib.hid (R1.out.out o1 (.inr (by omega)))
   replace DW:=Lib.hid (DW.out.later hc1 o1);clear hc1 o1
   obtain ⟨P2,d2,rfl⟩:=own_form ow2
   have hd2:=(own_cap ow2).2
   have OKU:=Lib.hid oku;have LU:=Lib.hid lu;have R2:=Lib.hid (Row.of_own ow2);clear oku lu ow2
   have SV:Hid (Svl w3 (w.heap.size + 1) w3.heap.size (.agg #[.slice P1 m d1,.slice P2 m d2]) r u):=Lib.hid (Svl.later (Svl.mk2 R1.out R2.out s1 hd1 hd2) (by omega))
   clear R1 R2
   go_wp2_with (refine wpList_store_row rfl 25 _ _ rfl w3.heap.size #[.slice P1 m d1,.slice P2 m d2] rfl rfl 25 #[.slice none 0 0,.slice none 0 0] (Arr.new w3 [.slice none 0 0,.slice none 0 0] _ rfl) size2 rfl (by simp [Value.oneCell']) ?_;generalize hw:(w3.alloc (.cells #[.slice none 0 0,.slice none 0 0] 25)).setRow w3.heap.size #[.slice P1 m d1,.slice P2 m d2] = w4;have NB:Hid (Arr w4 w3.heap.size [.slice P1 m d1,.slice P2 m d2] 25):=Lib.hid (by rw [<-hw];exact (Arr.new w3 [.slice none 0 0,.slice none 0 0] _ rfl).row);have bb:Below w3.heap.size w3 w4:=(by rw [<-hw];exact below_setRow ((Below.refl _ _).alloc (Nat.le_refl _) _) (Nat.le_refl _) _);have tt:w3.heap.size + 1<=w4.heap.size:=(by rw [<-hw];simp);clear hw;replace SV:=Lib.hid (SV.out.keep bb (Nat.le_refl _));replace DW:=Lib.hid (DW.out.below bb);have hc0:=NB.out.cell (k:=0) rfl;have hc1:=NB.out.cell (k:=1) rfl)
   have LM:Hid (r.length = m):=LR
   go_wp2_with fail
   refine (sf.ok_spec (.agg #[.slice P1 m d1,.slice P2 m d2]) r u _ w4 SV.out.rd (by rw [LR.out];omega) (by rw [LU.out];omega)).mono ?_
   rintro e w5 ⟨rfl,b5⟩
   have sb:=b5.size
   replace SV:=Lib.hid (SV.out.keep b5 SV.out.top)
   have NB2:=Lib.hid (NB.out.keep b5 NB.out.lt)
   replace DW:=Lib.hid (DW.out.below b5)
   clear b5 NB hc0 hc1 bb
   have hc0:=NB2.out.cell (k:=0) rfl
   have hc1:=NB2.out.cell (k:=1) rfl
   cases ht:transB r u
   ·go_wp2
    go_roundw
    case rel=>exact ⟨k + 1,by omega,by go_num,DW.out⟩
    case measure=>simp [intOf];omega
   ·have SF:=Lib.hid (transB_iff.1 ht)
    have LE:Hid (r.length<=mo):=Lib.hid (by rw [LR.out];omega)
    clear ht
    go_wp2_with (first | (fail) | (refine wpList_store_row rfl 25 _ _ rfl w.heap.size #[.slice P1 m d1,.slice P2 m d2] rfl rfl 25 #[.slice none 0 0,.slice none 0 0] DW.out.res size2 rfl (by simp [Value.oneCell']) ?_))
    exact bodyPost_ret (v:=.agg #[.slice P1 m d1,.slice P2 m d2]) (results_cell_row rfl _ _ w.heap.size 25 #[.slice P1 m d1,.slice P2 m d2] (0,0) _ rfl DW.out.res.row sqp.underlying25 rfl size2) rfl (by
     have sz:=DW.out.size
     have b_:=below_setRow (Below.refl w.heap.size w5) (Nat.le_refl _) #[.slice P1 m d1,.slice P2 m d2]
     have sv:=Svl.row SV.out (g:=w.heap.size) (by omega) #[.slice P1 m d1,.slice P2 m d2]
     exact ⟨_,_,_,_,LE.out,SF.out,rfl,(by simpa using Svl.later (lo':=w.heap.size) (Svl.wide sv) (by omega)),DW.out.cur.keep b_ DW.out.lt,DW.out.out.trans_below b_ (Nat.le_refl _)⟩)
  ·obtain rfl:k = 8:=by omega
   obtain ⟨N,hN0,sf⟩:=el_sf1 (m:=m) hm1 (by omega)
   have hN:N<=mo:=by omega
   clear hN0
   have SF:=Lib.hid sf;have LE:=Lib.hid hN;clear sf hN
   go_wp2_with fail
   refine (el_spec (m:Int) 1 _ (by omega) (by omega) (by omega) (by omega)).mono ?_
   rintro e w2 ⟨v1,rfl,sv,b2⟩
   obtain ⟨P1,d1,P2,d2,rfl⟩:=sv.lens SF.out.lr SF.out.lu
   have sz:=DW.out.size
   replace DW:=Lib.hid (DW.out.below b2)
   have SV:Hid (Svl w2 (w.heap.size + 1) w2.heap.size _ _ _):=Lib.hid (sv.later (by omega))
   clear sv b2
   go_wp2_with (first | (refine wpList_store_row rfl 25 _ _ rfl w2.heap.size #[.slice P1 N d1,.slice P2 N d2] rfl rfl 25 #[.slice none 0 0,.slice none 0 0] (Arr.new w2 [.slice none 0 0,.slice none 0 0] _ rfl) size2 rfl (by simp [Value.oneCell']) ?_;generalize hw:(w2.alloc (.cells #[.slice none 0 0,.slice none 0 0] 25)).setRow w2.heap.size #[.slice P1 N d1,.slice P2 N d2] = w4;have NB:Hid (Arr w4 w2.heap.size [.slice P1 N d1,.slice P2 N d2] 25):=Lib.hid (by rw [<-hw];exact (Arr.new w2 [.slice none 0 0,.slice none 0 0] _ rfl).row);have bb:Below w2.heap.size w2 w4:=(by rw [<-hw];exact below_setRow ((Below.refl _ _).alloc (Nat.le_refl _) _) (Nat.le_refl _) _);have tt:w2.heap.size + 1<=w4.heap.size:=(by rw [<-hw];simp);clear hw;replace SV:=Lib.hid (SV.out.keep bb (Nat.le_refl _));replace DW:=Lib.hid (DW.out.below bb);have hc0:=NB.out.cell (k:=0) rfl;have hc1:=NB.out.cell (k:=1) rfl) | (refine wpList_store_row rfl 25 _ _ rfl w.heap.size #[.slice P1 N d1,.slice P2 N d2] rfl rfl 25 #[.slice none 0 0,.slice none 0 0] DW.out.res size2 rfl (by simp [Value.oneCell']) ?_))
   exact bodyPost_ret (v:=.agg #[.slice P1 N d1,.slice P2 N d2]) (results_cell_row rfl _ _ w.heap.size 25 #[.slice P1 N d1,.slice P2 N d2] (0,0) _ rfl DW.out.res.row sqp.underlying25 rfl size2) rfl (by
    have sz:=DW.out.size
    have b_:=below_setRow (Below.refl w.heap.size w4) (Nat.le_refl _) #[.slice P1 N d1,.slice P2 N d2]
    have sv:=Svl.row SV.out (g:=w.heap.size) (by omega) #[.slice P1 N d1,.slice P2 N d2]
    exact ⟨_,_,_,_,LE.out,SF.out,rfl,(by simpa using Svl.later (lo':=w.heap.size) (Svl.wide sv) (by omega)),DW.out.cur.keep b_ DW.out.lt,DW.out.out.trans_below b_ (Nat.le_refl _)⟩)
end Go.Proofs.Ytgcnemkhppkkcaa.mk

namespace Go.Proofs.Ytgcnemkhppkkcaa.mk
open Go.ChangeShapes Go.WideShapes Go.ChangeAt Go.RowKit
open mem ints arr pm permOk permOf inv sf gl cur
set_option linter.unusedVariables false
set_option maxRecDepth 100000
def Fews (w:World) (e:Ending) (w':World):Prop :=
 ∃ v r u N,N<=4/\Sf N r u/\e = .returned v/\Svl w' w.heap.size w'.heap.size v r u/\Below w.heap.size w w'
set_option maxHeartbeats 1000000 in
theorem few_any (w:World) (hi:Nat) (A:Option Addr) (n c:Nat) (l:List Int) (hc:cur.Code w hi A n l) :
  Calls sqp.prog 8 #[.slice A n c] w (Fews w):=by
 have HC:=Lib.hid hc;clear hc
 go_enter sqp.func8,sqp.ntmps8
 go_wp2_with fail
 refine (new_any _ hi A n c l (HC.out.keep ((Below.refl w.heap.size w).alloc (Nat.le_refl _) _) HC.out.rd.2.1)).mono ?_
 rintro e w1 ⟨g,hg,hlt,rfl,hcur,hb⟩
 have gt:w.heap.size < g:=by simp at hg;omega
 have RES:=Lib.hid ((Arr.new w [.slice none 0 0,.slice none 0 0] 25 rfl).keep hb (by simp))
 have B1:=Lib.hid (((Below.refl w.heap.size w).alloc (Nat.le_refl _) (.cells #[.slice none 0 0,.slice none 0 0] 25)).trans (hb.mono (by simp)))
 have CU:=Lib.hid hcur
 clear hg hb hcur
 go_wp2_with fail
 refine (drawM_any 4 (by decide) (by decide) _ g A n c l CU.out).mono ?_
 rintro e w2 ⟨v,r,u,N,hN,sf,rfl,sv,hc1,o1⟩
 have SF:=Lib.hid sf;have LE:=Lib.hid hN
 obtain ⟨P1,d1,P2,d2,rfl⟩:=sv.lens sf.lr sf.lu
 have hs1:=B1.out.size
 have RES2:=Lib.hid (RES.out.out o1 (.inl gt))
 have B2:=Lib.hid (B1.out.trans (o1.below (Nat.le_of_lt gt) hs1))
 have lt1:=RES.out.lt
 have SV:Hid (Svl w2 (w.heap.size + 1) w2.heap.size _ _ _):=Lib.hid (sv.later (by omega))
 clear sf sv hc1 o1 hN
 go_wp2_with (refine wpList_store_row rfl 25 _ _ rfl w.heap.size #[.slice P1 N d1,.slice P2 N d2] rfl rfl 25 #[.slice none 0 0,.slice none 0 0] RES2.out size2 rfl (by simp [Value.oneCell']) ?_)
 exact bodyPost_ret (v:=.agg #[.slice P1 N d1,.slice P2 N d2]) (results_cell_row rfl _ _ w.heap.size 25 #[.slice P1 N d1,.slice P2 N d2] (0,0) _ rfl RES2.out.row sqp.underlying25 rfl size2) rfl
  ⟨_,_,_,_,LE.out,SF.out,rfl,Svl.wide (Svl.later (Svl.row SV.out (g:=w.heap.size) (by omega) _) (by omega)),below_setRow B2.out (Nat.le_refl _) _⟩
end Go.Proofs.Ytgcnemkhppkkcaa.mk
