import Derived.Test.YtcdclihinmdgiaaZ04
import Derived.Test.YtcdclihinmdgiaaZ15
import Derived.Test.YtcdclihinmdgiaaZ14
import Derived.Test.YtcdclihinmdgiaaZ08
import Derived.Test.YtcdclihinmdgiaaZ13
import Derived.Test.YtcdclihinmdgiaaZ05
import Derived.Deep.RegionLaw
import Derived.IntWalk
import Derived.Test.YtcdclihinmdgiaaZ07
import Derived.Lib.Slices
import Derived.Test.YtcdclihinmdgiaaZ11
import Derived.Deep.AppendLies
namespace Go.Proofs.Ytcdclihinmdgiaa.lst
open Go.ChangeShapes Go.WideShapes Go.ChangeAt Go.RowKit
open mem ints arr pm sf orb
set_option linter.unusedVariables false
set_option maxRecDepth 100000
theorem qqu {n:Nat} {acc:List Sur} {r u:List Int} (h:zh r u = false):qm4 n acc r u = acc:=by unfold qm4;rw [h];rfl
theorem qx7:∀ n:Fin 5,0 < (qfr n.val n.val).length:=by decide +kernel
set_option maxHeartbeats 4000000 in
theorem qx8 (n:Int) (w:World):Calls sqp.prog 10 #[.int .i64 n] w (qqr n (swF n) w):=by
 by_cases hr:1<=n/\n<=4
 ·obtain ⟨N,rfl⟩:∃ N:Nat,n = (N:Int):=⟨n.toNat,by omega⟩
  have h1:1<=N:=by omega
  have h4:N<=4:=by omega
  have EF:=Lib.hid (qqt h1 h4)
  obtain ⟨l24,lrow⟩:=qw1 (n:=N) (i:=N) h4 h4
  have LR:=Lib.hid lrow;clear lrow
  have LP:=Lib.hid (qx7 ⟨N,by omega⟩)
  go_enter sqp.func10,sqp.ntmps10
  go_wp2_with (go_at_call 9;refine (permOk.qn0 _ _ _ _ (by omega) (by omega)).mono ?_;rintro e w' ⟨rfl,rfl⟩)
  have SX0:=Lib.hid (Sx.start w N)
  obtain ⟨w0,eW⟩:∃ W,W = w.alloc (.cells #[] 32):=⟨_,rfl⟩
  rw [<-eW] at SX0 ⊢
  clear eW
  refine (qo3 N h4 _).mono ?_
  rintro e w1 ⟨A,c,rfl,rl,b1⟩
  have hlp:0 < (qfr N N).length:=LP.out
  obtain ⟨G,off,rfl,hG,rows⟩:=rl.at_ hlp
  have ROWS:=Lib.hid rows
  have SX1:=Lib.hid (SX0.out.keep b1)
  clear rows rl b1 SX0 LP
  generalize qfr N N = L at *
  go_wp2_with fail
  go_loopw [3,18] (fun vo i wr=>∃ a:Nat,a<=L.length/\i = .int .i64 a/\Sx w wr vo N (qjj N [] (L.take a) L)/\(qjj N [] (L.take a) L).length<=a * 24/\Below w1.heap.size w1 wr) (fun _ i _=>L.length - (intOf i).toNat)
  case atStart=>exact ⟨0,Nat.zero_le _,rfl,SX1.out,Nat.zero_le _,Below.refl _ _⟩
  case round =>
   obtain ⟨a,ha,rfl,sx,qji,bx⟩:=hrel
   have SX:=Lib.hid sx;have BX:=Lib.hid bx;clear sx bx SX1
   by_cases hal:a < L.length
   ·obtain ⟨p,hp⟩:∃ p,L[a]? = some p:=⟨_,List.getElem?_eq_getElem hal⟩
    have EA:=Lib.hid (qjr (n:=N) (acc:=[]) (U:=L) hp)
    obtain ⟨g,o,cp,hco,hpc,rp⟩:=ROWS.out a p hp
    have RP:=Lib.hid rp;clear rp
    have hc:wr.cell? ⟨G,off + a,none⟩ = some (.slice (some ⟨g,o,none⟩) p.length cp):=by rw [BX.out.cell (p:=⟨G,off + a,none⟩) hG];exact hco
    have plen:p.length<=4:=by have:=LR.out p (List.mem_of_getElem? hp);omega
    have PL:=Lib.hid (LR.out p (List.mem_of_getElem? hp))
    generalize hM:qjj N [] (L.take a) L = M at *
    clear hM hco hp
    go_wp2_with fail
    obtain ⟨wq,rfl⟩:∃ wq:World,wq = wr:=⟨_,rfl⟩
    clear hc
    go_loopw [3,24] (fun vo i wr=>∃ b:Nat,b<=L.length/\i = .int .i64 b/\Sx w wr vo N (rowP N M p (L.take b))/\(rowP N M p (L.take b)).length<=a * 24 + b/\Below w1.heap.size w1 wr) (fun _ i _=>L.length - (intOf i).toNat)
    case atStart=>exact ⟨0,Nat.zero_le _,rfl,SX.out,qji,BX.out⟩
    case round =>
     obtain ⟨b,hb,rfl,sx,qji,bx⟩:=hrel
     have SY:=Lib.hid sx;have BY:=Lib.hid bx;clear sx bx SX BX
     by_cases hbl:b < L.length
     ·obtain ⟨q,hq⟩:∃ q,L[b]? = some q:=⟨_,List.getElem?_eq_getElem hbl⟩
      have EB:=Lib.hid (qjq (n:=N) (acc:=M) (r:=p) hq)
      obtain ⟨g2,o2,cq,hco2,hqc,rq⟩:=ROWS.out b q hq
      have RQ:=Lib.hid rq;clear rq
      have hc2:wr.cell? ⟨G,off + b,none⟩ = some (.slice (some ⟨g2,o2,none⟩) q.length cq):=by rw [BY.out.cell (p:=⟨G,off + b,none⟩) hG];exact hco2
      have qlen:q.length<=4:=by have:=LR.out q (List.mem_of_getElem? hq);omega
      generalize hM:rowP N M p (L.take b) = K at *
      clear hM hco2 hq
      have SD:Hid (Srd wr w1.heap.size (.agg #[.slice (some ⟨g,o,none⟩) p.length cp,.slice (some ⟨g2,o2,none⟩) q.length cq]) p q):=Lib.hid
       ⟨_,_,cp,_,_,cq,rfl,RP.out.keep BY.out (Nat.le_refl _),RQ.out.keep BY.out (Nat.le_refl _),hpc,hqc⟩
      have ST1:Hid (∃ W,W = wr.alloc (.cells #[.slice (some ⟨g,o,none⟩) p.length cp,.slice (some ⟨g2,o2,none⟩) q.length cq] 32)/\Below wr.heap.size wr W/\Arr W wr.heap.size [.slice (some ⟨g,o,none⟩) p.length cp,.slice (some ⟨g2,o2,none⟩) q.length cq] 32):=Lib.hid
       ⟨_,rfl,(Below.refl _ _).alloc (Nat.le_refl _) _,Arr.new wr _ _ rfl⟩
      go_wp2_with fail
      obtain ⟨w2,eW,b2,ar⟩:=ST1.out
      rw [<-eW]
      have AR:=Lib.hid ar;have B2:=Lib.hid b2
      clear ar eW ST1 hc2 b2
      have s2:=B2.out.size
      have SD2:=Lib.hid (SD.out.keep (B2.out.mono BY.out.size) (Nat.le_refl _))
      clear SD
      refine (qrd _ p q _ _ SD2.out (by omega) (by omega)).mono ?_
      rintro e w3 ⟨rfl,b3⟩
      have B3:=Lib.hid (B2.out.trans (b3.mono s2))
      have s3:=b3.size
      have AR3:=Lib.hid (AR.out.keep b3 AR.out.lt)
      have SD3:=Lib.hid (SD2.out.keep (b3.mono (Nat.le_trans BY.out.size s2)) (Nat.le_refl _))
      clear b3 AR B2 SD2
      have c0:=AR3.out.cell (k:=0) rfl;have c1:=AR3.out.cell (k:=1) rfl
      have hlt:=AR3.out.lt
      generalize hbx:wr.heap.size = bx at *
      cases ht:zh p q
      ·have PN:=Lib.hid (qqu (n:=N) (acc:=K) ht)
       go_wp2_with fail
       go_roundw
       case rel=>exact ⟨b + 1,by omega,by go_num,by rw [EB.out,PN.out];exact SY.out.keep (by rw [hbx];exact B3.out),by rw [EB.out,PN.out];omega,BY.out.trans (B3.out.mono (by rw [<-hbx];exact BY.out.size))⟩
       case measure=>simp [intOf];omega
      ·have HS:Hid (Sf N p q):=Lib.hid (by have:=ku.1 ht;rwa [PL.out] at this)
       have HT:=Lib.hid ht;clear ht
       obtain ⟨A',c',rfl⟩:=SY.out.form
       go_wp2_with fail
       refine (gl.qem _ p q N _ _ SD3.out HS.out).mono ?_
       rintro e w4 ⟨gv,rfl,sv,b4⟩
       obtain ⟨_,_,hcs⟩:=HS.out.qmd
       obtain ⟨P',d1,Q',d2,rfl⟩:=Svl.q0x sv hcs.lr hcs.lu
       obtain ⟨Z,zb,zm,zl,zo,zp,zs⟩:=SY.out.join (by rw [hbx];exact B3.out) b4 sv (by omega)
       have zlen:K.length<=1000:=by omega
       have HZ:=Lib.hid (And.intro zm zl)
       have B4:Hid (Below bx w0 w0/\Below bx wr w4):=Lib.hid ⟨Below.refl _ _,B3.out.trans (b4.mono (by omega))⟩
       have HP:=Lib.hid zp;have HSZ:=Lib.hid zs;have HO:=Lib.hid zo
       have s4:=b4.size
       clear zm zl zp zs zo sv b4
       have HC:=Lib.hid hcs;clear hcs
       go_wp2_with fail
       refine (qna _ _ _ Z zb P' Q' d1 d2 N _ _ _ (can p q N) _ _ HO.out HZ.out.2 zlen HP.out ⟨HC.out,HSZ.out⟩).mono ?_
       rintro e w5 ⟨v,rfl,io⟩
       have SN:Hid (Sx w w5 v N (qm4 N K p q)):=Lib.hid (SY.out.put (by rw [hbx];exact B4.out.2) HT.out PL.out HZ.out.1 HP.out io)
       have BN:Hid (Below w1.heap.size w1 w5):=Lib.hid ((BY.out.trans (B4.out.2.mono (by rw [<-hbx];exact BY.out.size))).trans (io.bel.mono (by have:=BY.out.size;omega)))
       have ln:=qnd N K p q
       clear io HO HP HSZ SY
       go_wp2_with fail
       go_roundw
       case rel=>exact ⟨b + 1,by omega,by go_num,by rw [EB.out];exact SN.out,by rw [EB.out];omega,BN.out⟩
       case measure=>simp [intOf];omega
     ·obtain rfl:b = L.length:=by omega
      have SE:Hid (Sx w wr u3 N (qjj N [] (L.take (a + 1)) L)):=Lib.hid (by have:=SY.out;rwa [List.take_of_length_le (Nat.le_refl _),<-EA.out] at this)
      have LE:(qjj N [] (L.take (a + 1)) L).length<=a * 24 + L.length:=by rw [List.take_of_length_le (Nat.le_refl _),<-EA.out] at qji;exact qji
      clear qji SY EA
      go_wp2_with fail
      go_roundw
      case rel=>exact ⟨a + 1,by omega,by go_num,SE.out,by omega,BY.out⟩
      case measure=>simp [intOf];omega
   ·obtain rfl:a = L.length:=by omega
    have SE:Hid (Sx w wr u3 N (swF (N:Int))):=Lib.hid (by have:=SX.out;rwa [List.take_of_length_le (Nat.le_refl _),<-EF.out] at this)
    clear SX qji EF
    go_wp2_with fail
    go_ret
    exact qx5 SE.out rfl
 ·have HF:=Lib.hid (qqs hr)
  go_enter sqp.func10,sqp.ntmps10
  go_wp2_with (go_at_call 9;refine (permOk.qzg _ _ _ _ (by omega)).mono ?_;rintro e w' ⟨rfl,rfl⟩)
  go_ret
  exact qx6 HF.out (Below.refl _ _)
end Go.Proofs.Ytcdclihinmdgiaa.lst

namespace Go.Proofs.Ytcdclihinmdgiaa.gl
open Go.ChangeShapes Go.WideShapes Go.ChangeAt Go.RowKit
open mem ints arr pm permOk permOf inv fns sf
set_option linter.unusedVariables false
set_option maxRecDepth 100000
structure Tg (w wr:World) (v u:Value) (l m:List Int):Prop where
 res:Arr wr w.heap.size [.slice none 0 0,.slice none 0 0] 32
 box:Arr wr (w.heap.size + 1) [v,u] 32
 own1:wr.ownsRow (w.heap.size + 2) 3 1 v l.length (V l)
 own2:wr.ownsRow (w.heap.size + 2) 3 1 u m.length (V m)
 ne:∀ b,v.ownBlock = some b->u.ownBlock ≠ some b
 below:Below w.heap.size w wr
end Go.Proofs.Ytcdclihinmdgiaa.gl

namespace Go.Proofs.Ytcdclihinmdgiaa.gl
open Go.ChangeShapes Go.WideShapes Go.ChangeAt Go.RowKit
open mem ints arr pm permOk permOf inv fns sf
set_option linter.unusedVariables false
set_option maxRecDepth 100000
def lst (n:Nat) (f:Nat->Nat):List Int:=(List.range n).map fun i=>(f i:Int)
end Go.Proofs.Ytcdclihinmdgiaa.gl

namespace Go.Proofs.Ytcdclihinmdgiaa.gl
open Go.ChangeShapes Go.WideShapes Go.ChangeAt Go.RowKit
open mem ints arr pm permOk permOf inv fns sf
set_option linter.unusedVariables false
set_option maxRecDepth 100000
theorem qm9 {W:World} {lo:Nat} {v:Value} {n:Nat} {xs:List Value} (h:W.ownsRow lo 3 1 v n xs) (hn:0 < n):∃ g c,v = .slice (some ⟨g,0,none⟩) n c:=by
 rcases h.2 with h0 | ⟨g,c,cur,q,_⟩
 ·exact absurd h0.2 (by omega)
 ·exact ⟨g,c,q⟩
theorem own_below {W W':World} {lo base g n c:Nat} {e:TypeId} {xs:List Value} (h:W.ownsRow base e 1 (.slice (some ⟨g,0,none⟩) n c) n xs) (hb:Below lo W W') (hg:g < lo):W'.ownsRow base e 1 (.slice (some ⟨g,0,none⟩) n c) n xs:=by
 refine ⟨h.1,?_⟩
 rcases h.2 with h0 | ⟨g',cap,cur,q1,q2,q3,q4⟩
 ·exact .inl h0
 ·obtain rfl:g = g':=by injection q1 with q1;injection q1 with q1;injection q1
  exact .inr ⟨g,cap,cur,q1,q2,(hb.block g hg).trans q3,q4⟩
end Go.Proofs.Ytcdclihinmdgiaa.gl

namespace Go.Proofs.Ytcdclihinmdgiaa.gl
open Go.ChangeShapes Go.WideShapes Go.ChangeAt Go.RowKit
open mem ints arr pm permOk permOf inv fns sf
set_option linter.unusedVariables false
set_option maxRecDepth 100000
end Go.Proofs.Ytcdclihinmdgiaa.gl

namespace Go.Proofs.Ytcdclihinmdgiaa.pm
open arr inv permOf
set_option linter.unusedVariables false
set_option maxRecDepth 100000
section
variable {n:Nat} {ps:List Int} (hb:Bij n ps)
include hb
end
end Go.Proofs.Ytcdclihinmdgiaa.pm

namespace Go.Proofs.Ytcdclihinmdgiaa.pm
open arr inv permOf
set_option linter.unusedVariables false
set_option maxRecDepth 100000
def sg (a b i:Nat):Nat:=if i = a then b else if i = b then a else i
def swp (q:List Int) (a b:Nat):List Int:=(q.set a (q.getD b 0)).set b (q.getD a 0)
theorem qq0 (q:List Int) (a b:Nat):(swp q a b).length = q.length:=by simp [swp]
def comm (R U:List Int):List Int:=thn (thn R U) (thn (Inv R) (Inv U))
end Go.Proofs.Ytcdclihinmdgiaa.pm

namespace Go.Proofs.Ytcdclihinmdgiaa.pm
open arr inv permOf
set_option linter.unusedVariables false
set_option maxRecDepth 100000
theorem qw9 {xs:List Int} (h:Ok xs):Ok (ext xs):=by
 have hl:=h.len
 refine ⟨by rw [qc];omega,fun i hi=>h.sq.lo i (by rwa [qc] at hi),fun i hi=>by rw [qc] at *;exact h.sq.hi i hi,fun i j hi hj e=>?_⟩
 rw [qc] at hi hj
 rw [j5 hi,j5 hj] at e
 split at e <;> split at e
 ·exact h.inj i j (by assumption) (by assumption) e
 ·have:=h.hi i (by assumption);omega
 ·have:=h.hi j (by assumption);omega
 ·omega
theorem qra {xs ys:List Int} (h:Ok xs) (h':Ok ys) (e:xs.length = ys.length):qbh (ext xs) (ext ys) = ext (thn xs ys):=by
 have hl:=h.len
 refine qao 24 (by unfold qbh;exact jy _) (qc _) fun i hi=>?_
 rw [qit _ _ hi,j5 hi,j5 hi,jo]
 by_cases q:i < xs.length
 ·have a:=h.lo i q;have b:=h.hi i q
  rw [if_pos q,if_pos q,qca q,j5 (by omega),if_pos (by omega)]
 ·rw [if_neg q,if_neg q,Int.toNat_natCast,j5 hi,if_neg (by omega)]
theorem qcl {xs:List Int} (h:Ok xs):x9 24 (ext xs) 24 = ext (Inv xs):=by
 have hl:=h.len
 refine qao 24 (uf _ _ _) (qc _) fun i hi=>?_
 rw [j5 hi,ze]
 by_cases q:i < xs.length
 ·rw [if_pos q]
  obtain ⟨k,hk,e1,e2⟩:=qf1 h q
  have a:=qki (qw9 h) (k:=k) (by rw [qc];omega)
  rw [j5 (by omega),if_pos hk,e2,qc,Int.toNat_natCast] at a
  rw [a,e1]
 ·rw [if_neg q]
  have a:=qki (qw9 h) (k:=i) (by rw [qc];omega)
  rw [j5 hi,if_neg q,qc,Int.toNat_natCast] at a
  exact a
section
variable {n:Nat} {R U:List Int} (s:Sf n R U)
include s
end
end Go.Proofs.Ytcdclihinmdgiaa.pm

namespace Go.Proofs.Ytcdclihinmdgiaa.gl
open Go.ChangeShapes Go.WideShapes Go.ChangeAt Go.RowKit
open mem ints arr pm permOk permOf inv fns sf
set_option linter.unusedVariables false
set_option maxRecDepth 100000
theorem qa4 (A:Option Addr) (n c:Nat) (xs:List Int) (hi:Nat) (w:World) (hx:Rd w hi A n (V xs)) (ok:Ok xs) (hn:xs.length = n) :
  Calls sqp.prog 67 #[.slice A n c] w (Gives (Inv xs) w):=by
 subst hn;exact qhn A _ c xs hi w hx ok
theorem _root_.Go.Proofs.Ytcdclihinmdgiaa.sf.Hld.c0 {base top a:Nat} {w W:World} {x y:Value} {l:List (Nat × List Value)} (h:Hld base top w ((a,[x,y]) :: l) W):W.cell? ⟨a,0,none⟩ = some x:=by simpa using h.fst 0 x rfl
theorem _root_.Go.Proofs.Ytcdclihinmdgiaa.sf.Hld.c1 {base top a:Nat} {w W:World} {x y:Value} {l:List (Nat × List Value)} (h:Hld base top w ((a,[x,y]) :: l) W):W.cell? ⟨a,1,none⟩ = some y:=by simpa using h.fst 1 y rfl
end Go.Proofs.Ytcdclihinmdgiaa.gl

namespace Go.Proofs.Ytcdclihinmdgiaa.mk
open Go.ChangeShapes Go.WideShapes Go.ChangeAt Go.RowKit
open mem ints arr pm permOk permOf inv fns sf gl
set_option linter.unusedVariables false
set_option maxRecDepth 100000
theorem Hld.qkr {base top B:Nat} {w W W':World} {bs:List (Nat × List Value)} (h:Hld base top w bs W) (hB:Below B W W') (hb:base<=B) (ht:top<=B):Hld base top w bs W' :=
 ⟨fun p hp=>⟨(h.at_ p hp).1,fun j v hv=>by rw [hB.cell (p:=⟨p.1,0 + j,none⟩) (show p.1 < _ from Nat.lt_of_lt_of_le (h.at_ p hp).1 ht)];exact (h.at_ p hp).2 j v hv⟩,
  h.below.trans (hB.mono hb),Nat.le_trans h.size hB.size⟩
theorem qcn (P Q:Option Addr) (n c m d:Nat):sqp.prog.built 32 [(0,.slice P n c),(1,.slice Q m d)] = some #[.slice P n c,.slice Q m d]:=by kernel_rfl
set_option maxHeartbeats 4000000 in
theorem qso (v:Value) (r u:List Int) (N hi:Nat) (w:World) (hx:Srd w hi v r u) (hs:Sf N r u) :
  Calls sqp.prog 49 #[v] w fun e w'=>∃ g,e = .returned g/\Svl w' w.heap.size w'.heap.size g r (thn (Inv r) u)/\Below w.heap.size w w':=by
 obtain ⟨i0,hi0,hz0,hz1,hz2⟩:=info_parts qeo
 have HX:=Lib.hid hx;clear hx
 have HS:=Lib.hid hs;clear hs
 obtain ⟨P,n,c,Q,m,d,rfl,q1,q2,e1,e2,ht,HR⟩:=HX.out.open
 have RU:Hid (r.length = u.length):=Lib.hid (by rw [HS.out.lr,HS.out.lu])
 obtain rfl:n = N:=by rw [<-q1];exact HS.out.lr
 have hN24:n<=24:=by have:=HS.out.r.len;rw [HS.out.lr] at this;omega
 have hN0:0 < n:=HS.out.pos
 have Q1:=Lib.hid q1;have Q2:=Lib.hid q2;clear q1 q2
 clear HR
 go_enter sqp.func49,sqp.ntmps49
 go_wp2_with fail
 have A0:=Lib.hid ((Arr.new w [.slice P n c,.slice Q m d] 32 rfl).alloc (.cells #[.slice none 0 0,.slice none 0 0] 32))
 have A1:=Lib.hid (Arr.new (w.alloc (.cells #[.slice P n c,.slice Q m d] 32)) [.slice none 0 0,.slice none 0 0] 32 rfl)
 have B1:=Lib.hid (((Below.refl w.heap.size w).alloc (Nat.le_refl _) (.cells #[.slice P n c,.slice Q m d] 32)).alloc (by simp) (.cells #[.slice none 0 0,.slice none 0 0] 32))
 have es:((w.alloc (.cells #[.slice P n c,.slice Q m d] 32)).alloc (.cells #[.slice none 0 0,.slice none 0 0] 32)).heap.size = w.heap.size + 2:=by simp
 rw [show (w.alloc (.cells #[.slice P n c,.slice Q m d] 32)).heap.size = w.heap.size + 1 by simp] at A1
 have X1:Hid (Srd ((w.alloc (.cells #[.slice P n c,.slice Q m d] 32)).alloc (.cells #[.slice none 0 0,.slice none 0 0] 32)) hi (.agg #[.slice P n c,.slice Q m d]) r u):=Lib.hid (HX.out.keep (B1.out.mono ht) (Nat.le_refl _))
 generalize (w.alloc (.cells #[.slice P n c,.slice Q m d] 32)).alloc (.cells #[.slice none 0 0,.slice none 0 0] 32) = w1 at *
 refine wp_region_held_drew (S:=Hld (w.heap.size + 1) w1.heap.size w1 [(w.heap.size,[.slice P n c,.slice Q m d])]) (by kernel_rfl) ((Hld.qa6 A0.out).lower (by omega)) (fun hHeld=>?_)
 have b1:Below w1.heap.size w1 w1.drew:=⟨rfl,rfl,rfl,Nat.le_refl _,fun _ _=>rfl⟩
 generalize w1.drew = w2 at *
 have s2:=b1.size;replace X1:=Lib.hid (X1.out.keep b1 X1.out.top);replace B1:=Lib.hid (B1.out.trans (b1.mono B1.out.size))
 replace A1:=Lib.hid (A1.out.keep b1 A1.out.lt);clear b1 A0
 refine wpAnyH_take (i:=1) (v:=.pointer (some ⟨w.heap.size,0,none⟩)) rfl (by kernel_rfl) (by kernel_rfl) (by kernel_rfl) (fun _ _ _ h=>h) (Or.inl ⟨by rfl,fun w hSw=>by go_simp⟩) hHeld ?_
 refine wpAnyH_take (i:=4) (v:=.pointer (some ⟨w.heap.size,0,none⟩)) rfl (by kernel_rfl) (by kernel_rfl) (by kernel_rfl) (fun _ _ _ h=>h) (Or.inl ⟨by rfl,fun w hSw=>by go_simp⟩) hHeld ?_
 refine wpAnyH_take (i:=7) (v:=.pointer (some ⟨w.heap.size,1,none⟩)) rfl (by kernel_rfl) (by kernel_rfl) (by kernel_rfl) (fun _ _ _ h=>h) (Or.inl ⟨by rfl,fun w hSw=>by go_simp⟩) hHeld ?_
 refine wpAnyH_take (i:=2) (v:=.slice P n c) rfl (by kernel_rfl) (by kernel_rfl) (by kernel_rfl) (fun _ _ _ h=>h) (Or.inl ⟨by rfl,fun w hSw=>by have:=hSw.c0;go_simp⟩) hHeld ?_
 refine wpAnyH_take (i:=5) (v:=.slice P n c) rfl (by kernel_rfl) (by kernel_rfl) (by kernel_rfl) (fun _ _ _ h=>h) (Or.inl ⟨by rfl,fun w hSw=>by have:=hSw.c0;go_simp⟩) hHeld ?_
 refine wpAnyH_take (i:=8) (v:=.slice Q m d) rfl (by kernel_rfl) (by kernel_rfl) (by kernel_rfl) (fun _ _ _ h=>h) (Or.inl ⟨by rfl,fun w hSw=>by have:=hSw.c1;go_simp⟩) hHeld ?_
 refine wpAnyH_ready (rs:=[0]) (by kernel_rfl) (by simp) (AllReadyH.cons rfl (fun K hK=>?_) AllReadyH.nil)
 go_simp
 have b1:Below w2.heap.size w2 (w2.alloc (.cells #[] 3)):=(Below.refl _ _).alloc (Nat.le_refl _) _
 have o3:=(gy.empty w2).own
 have hHeld2:=hHeld.later b1 (by omega);clear hHeld
 have s_:=b1.size;replace X1:=Lib.hid (X1.out.keep b1 X1.out.top);replace B1:=Lib.hid (B1.out.trans (b1.mono B1.out.size))
 replace A1:=Lib.hid (A1.out.keep b1 A1.out.lt);clear b1
 refine hK.out _ _ hHeld2 (fun hHeld=>?_)
 clear hK K hHeld2
 generalize w2.alloc (.cells #[] 3) = w3 at *
 have O3:=Lib.hid o3;clear o3
 refine wpAnyH_ready (rs:=[3]) (by kernel_rfl) (by simp) (AllReadyH.cons rfl (fun K hK=>?_) AllReadyH.nil)
 obtain ⟨P0,o0,rfl⟩:∃ g o,P = some ⟨g,o,none⟩:=by
  obtain ⟨g,off,q,_⟩:=(Srd.fst X1.out).2.2 hN0
  exact ⟨g,off,q⟩
 have hnews:∀ (j:Nat) (q:Value),(V r)[j]? = some q->w3.cell? ((⟨P0,o0,none⟩:Addr).add j) = some q:=fun j q hq=>by
  have hj:j < n:=by have:=(List.getElem?_eq_some_iff.1 hq).1;rw [q8,Q1.out] at this;exact this
  obtain ⟨g,off,u',e,_,h1,h2⟩:=(Srd.fst X1.out).at_ hj
  injection e with e;injection e with e1 e2 e3
  subst e1;subst e2
  rw [h1] at hq
  have:(⟨P0,o0,none⟩:Addr).add j = ⟨P0,o0 + j,none⟩:=by simp [Addr.add]
  rw [this,h2,<-hq]
 have hws:w2.heap.size<=w3.heap.size:=s_
 refine step_append_lies w3 rfl _ _ 30 rfl w2.heap.size 3 i0 _ 1 8 sqp.underlying30 hi0 hz0 hz1 hz2 rfl (by decide) _ 0 [] rfl O3.out ⟨P0,o0,none⟩ n c (V r) rfl (by rw [q8,Q1.out,Nat.mul_one]) hnews (fun q hq=>by obtain ⟨z,_,rfl⟩:=List.mem_map.1 hq;rfl) hN0 (by unfold maxLen;omega) (by omega) hws _ rfl ?_
 intro g3 c3 w4 ho hg hat hlt
 clear hnews
 have b1:Below w2.heap.size w3 w4:=own_below O3.out hg (Nat.le_refl _) hws
 have hw2:w.heap.size<=w2.heap.size:=by omega
 rw [Nat.zero_add,List.nil_append] at ho
 rw [Nat.zero_add]
 have hHeld2:=Hld.qkr hHeld b1 (by omega) (by omega);clear hHeld
 replace X1:=Lib.hid (X1.out.keep (b1.mono (by have:=X1.out.top;have:=HX.out.top;omega)) (Nat.le_refl _))
 replace B1:=Lib.hid (B1.out.trans (b1.mono hw2))
 replace A1:=Lib.hid (A1.out.keep b1 (by omega))
 have R4:=Lib.hid (Row.yu ho)
 have hc3:=(um ho).2
 have s4:=b1.size
 clear ho hg hat hlt b1 O3 s_
 refine hK.out _ _ hHeld2 (fun hHeld=>?_)
 clear hK K hHeld2
 refine wpAnyH_ready (rs:=[6]) (by kernel_rfl) (by simp) (AllReadyH.cons rfl (fun K hK=>?_) AllReadyH.nil)
 go_simp
 refine (qa4 (some ⟨P0,o0,none⟩) n c r hi _ (Srd.fst X1.out) HS.out.r Q1.out).mono ?_
 rintro e w5 ⟨v5,rfl,o5,b1⟩
 obtain ⟨P5,c5,rfl⟩:=za o5
 have s_:=b1.size;replace X1:=Lib.hid (X1.out.keep b1 X1.out.top);replace B1:=Lib.hid (B1.out.trans (b1.mono B1.out.size))
 replace A1:=Lib.hid (A1.out.keep b1 A1.out.lt)
 replace R4:=Lib.hid (R4.out.keep b1 R4.out.2.1)
 have R5:=Lib.hid (Row.yu o5);clear o5
 go_wp2_with fail
 have hHeld2:=hHeld.later b1 (by omega);clear b1 hHeld
 refine hK.out _ _ hHeld2 (fun hHeld=>?_)
 clear hK K hHeld2
 refine wpAnyH_ready (rs:=[9]) (by kernel_rfl) (by simp) (AllReadyH.cons rfl (fun K hK=>?_) AllReadyH.nil)
 go_simp
 refine (qfz P5 _ c5 Q m d (Inv r) u _ _ _ R5.out.rd (Srd.snd X1.out) (cu HS.out.r) (by rw [ze,<-Q2.out];exact RU.out)).mono ?_
 rintro e w6 ⟨v6,rfl,o6,b1⟩
 obtain ⟨P6,c6,rfl⟩:=za o6
 have hc6:=(um o6).2
 replace B1:=Lib.hid (B1.out.trans (b1.mono B1.out.size))
 replace A1:=Lib.hid (A1.out.keep b1 A1.out.lt)
 replace R4:=Lib.hid (R4.out.keep b1 R4.out.2.1)
 have s6:=b1.size
 have R6:=Lib.hid (Row.yu o6);clear o6
 go_wp2_with fail
 have hHeld2:=hHeld.later b1 (by omega);clear b1 hHeld R5 X1
 refine hK.out _ _ hHeld2 (fun hHeld=>?_)
 clear hK K hHeld2
 have hl:(thn (Inv r) u).length = n:=by rw [jo,ze,Q1.out]
 rw [hl] at hc6 ⊢
 replace R6:Hid (Row w6 w5.heap.size w6.heap.size P6 n (V (thn (Inv r) u))):=Lib.hid (by have:=R6.out;rw [hl] at this;exact this)
 clear hl
 refine wpAnyH_ready (rs:=[10]) (by kernel_rfl) (by simp) (AllReadyH.cons rfl (fun K hK=>?_) AllReadyH.nil)
 refine kr rfl 32 _ rfl [(0,.slice (some ⟨g3,0,none⟩) n c3),(1,.slice P6 n c6)] rfl #[.slice (some ⟨g3,0,none⟩) n c3,.slice P6 n c6] (qcn _ _ _ _ _ _) ?_
 refine hK.out _ _ hHeld (fun hHeld2=>?_)
 clear hK K hHeld
 refine wpAnyH_ready (rs:=[11]) (by kernel_rfl) (by simp) (AllReadyH.cons rfl (fun K hK=>?_) AllReadyH.nil)
 refine ql rfl 32 _ _ rfl (w.heap.size + 1) #[.slice (some ⟨g3,0,none⟩) n c3,.slice P6 n c6] rfl rfl 32 #[.slice none 0 0,.slice none 0 0] A1.out yj rfl (by simp [Value.oneCell']) ?_
 refine hK.out _ _ (hHeld2.other (Nat.le_refl _) (by simp) _) (fun hHeld=>?_)
 clear hK K hHeld2 hHeld
 refine wpAnyH_done (by kernel_rfl) ?_ _
 go_wp2_with fail
 exact bodyPost_ret (v:=.agg #[.slice (some ⟨g3,0,none⟩) n c3,.slice P6 n c6]) (results_cell_row rfl _ _ (w.heap.size + 1) 32 #[.slice (some ⟨g3,0,none⟩) n c3,.slice P6 n c6] (0,0) _ rfl A1.out.row sqp.underlying32 rfl yj) rfl (by
  have m2:Svl w6 (w.heap.size + 2) w6.heap.size (.agg #[.slice (some ⟨g3,0,none⟩) n c3,.slice P6 n c6]) r (thn (Inv r) u) :=
   Svl.mk2 (l2:=w5.heap.size) (R4.out.wider (by omega) (by omega) (by omega)) R6.out (by omega) hc3 hc6
  have:=Svl.row m2 (g:=w.heap.size + 1) (by omega) #[.slice (some ⟨g3,0,none⟩) n c3,.slice P6 n c6]
  exact ⟨_,rfl,(by simpa using this.later (by omega)),below_setRow B1.out (by omega) _⟩)
end Go.Proofs.Ytcdclihinmdgiaa.mk
