import Derived.Test.YtcdclihinmdgiaaZ04
import Derived.Test.YtcdclihinmdgiaaZ09
import Derived.Test.YtcdclihinmdgiaaZ14
import Derived.Test.YtcdclihinmdgiaaZ18
import Derived.Test.YtcdclihinmdgiaaZ11
import Derived.OwnWalk
namespace Go.Proofs.Ytcdclihinmdgiaa.orb
open Go.ChangeShapes Go.WideShapes Go.ChangeAt Go.RowKit
open mem ints arr pm sf
set_option linter.unusedVariables false
set_option maxRecDepth 100000
theorem q1q {n:Nat} {c:UInt8} {s:Sur} (h:Sf n s.1 s.2):stp c s = can (qa2 c s).1 (qa2 c s).2 n:=by
 have:=(qep h c).lr
 unfold stp cn
 rw [this]
theorem qr3 {f k:Nat} {q:LW} (hk:k < q.1.length) (h:¬ 120 < (two k q).1.length):qlj (f + 1) k q = qlj f (k + 1) (two k q):=by
 rw [qlj,if_pos hk,if_neg h]
theorem qu3 {f k:Nat} {q:LW} (hk:k < q.1.length) (h:120 < (two k q).1.length):qlj (f + 1) k q = none:=by
 rw [qlj,if_pos hk,if_pos h]
theorem qr4 {f k:Nat} {q:LW} (hk:¬ k < q.1.length):qlj (f + 1) k q = some q:=by
 rw [qlj,if_neg hk]
def qu4 (s:Sur) (w:World) (e:Ending) (w':World):Prop :=
 match orb s with
 | some q=>∃ v u,e = .returned (.tuple #[v,u,.bool true])/\Os w w' w.heap.size w'.heap.size v u q
 | none=>e = .returned (.tuple #[.slice none 0 0,.slice none 0 0,.bool false])/\Below w.heap.size w w'
structure Og (s:Sur) (N:Nat) (w wr:World) (v u:Value) (k:Nat) (q:LW):Prop where
 os:Os w wr w.heap.size wr.heap.size v u q
 oi:Oi N q
 run:qlj (122 - k) k q = orb s
 le:k<=q.1.length
 small:q.1.length<=120
structure Oh (w:World) (hi:Nat) (wr:World) (b:Nat) (v u:Value) (q:LW):Prop where
 os:Os w wr w.heap.size hi v u q
 box:Arr wr b [.int .u8 84,.int .u8 83] 5
 nv:¬ v.ownBlock = some b
 nu:¬ u.ownBlock = some b
theorem Oh.keep {w wr w':World} {hi b:Nat} {v u:Value} {q:LW} (h:Oh w hi wr b v u q) (hb:Below wr.heap.size wr w'):Oh w hi w' b v u q :=
 ⟨h.os.keep hb h.os.top,h.box.keep hb h.box.lt,h.nv,h.nu⟩
theorem q1r:(sqp.prog.info? 32).map (fun i=>(i.zero,i.size,i.bytes)) = some (some (.agg #[.slice none 0 0,.slice none 0 0]),2,48):=by kernel_rfl
theorem infoSt:(sqp.prog.info? 9).map (fun i=>(i.zero,i.size,i.bytes)) = some (some (.string ⟨#[]⟩),1,16):=by kernel_rfl
theorem qzc {k:Nat} {c:UInt8} {q:LW} {x:Sur} (hx:q.1.getD k ([],[]) = x) (h:stp c x ∈ q.1):qli k c q = q:=by unfold qli;rw [hx,if_pos h]
theorem qu5 {k:Nat} {c:UInt8} {q:LW} {x:Sur} {w:List UInt8} (hx:q.1.getD k ([],[]) = x) (hw:q.2.getD k [] = w) (h:stp c x ∉ q.1):qli k c q = (q.1 ++ [stp c x],q.2 ++ [w ++ [c]]):=by unfold qli;rw [hx,hw,if_neg h]
theorem Os.start {w0 w:World} {base lo:Nat} {s:Sur} {P Q:Option Addr} {n c m d:Nat} (hx:Svl w lo w.heap.size (.agg #[.slice P n c,.slice Q m d]) s.1 s.2) (hn:0 < n) (hm:0 < m) (hlo:base<=lo) (hl:lo<=w.heap.size) (hb:Below base w0 w) :
  Os w0 ((w.alloc (.cells #[.slice P n c,.slice Q m d] 32)).alloc (.cells #[.string ⟨#[]⟩] 9)) base ((w.alloc (.cells #[.slice P n c,.slice Q m d] 32)).alloc (.cells #[.string ⟨#[]⟩] 9)).heap.size
   (.slice (some ⟨w.heap.size,0,none⟩) 1 1) (.slice (some ⟨w.heap.size + 1,0,none⟩) 1 1) ([s],[[]]):=by
 have B1:Below w.heap.size w ((w.alloc (.cells #[.slice P n c,.slice Q m d] 32)).alloc (.cells #[.string ⟨#[]⟩] 9)):=((Below.refl _ _).alloc (Nat.le_refl _) _).alloc (by simp) _
 have A1:Arr ((w.alloc (.cells #[.slice P n c,.slice Q m d] 32)).alloc (.cells #[.string ⟨#[]⟩] 9)) w.heap.size [.slice P n c,.slice Q m d] 32:=(Arr.new w _ _ rfl).alloc _
 have A2:Arr ((w.alloc (.cells #[.slice P n c,.slice Q m d] 32)).alloc (.cells #[.string ⟨#[]⟩] 9)) (w.heap.size + 1) [.string ⟨#[]⟩] 9:=Arr.new _ _ _ (by simp)
 have es:((w.alloc (.cells #[.slice P n c,.slice Q m d] 32)).alloc (.cells #[.string ⟨#[]⟩] 9)).heap.size = w.heap.size + 2:=by simp
 generalize (w.alloc (.cells #[.slice P n c,.slice Q m d] 32)).alloc (.cells #[.string ⟨#[]⟩] 9) = W at *
 obtain ⟨g1,g2,r1,r2,hne⟩:=Svl.two hx hn hm (fun b=>b = w.heap.size\/b = w.heap.size + 1) (fun b b1 b2 e=>by omega)
 have R1:=r1.keep (B1.block _ r1.hi_) B1.size
 have R2:=r2.keep (B1.block _ r2.hi_) B1.size
 have L:=(Ls.nil W lo lo (fun b=>b = w.heap.size\/b = w.heap.size + 1) (fun _=>(0,0)) (by omega)).snoc R1 R2 hne (Nat.le_refl _) hl (by omega)
 refine ⟨⟨_,_,⟨rfl,.inr ⟨w.heap.size,1,_,rfl,by omega,A1,Nat.le_refl _,by unfold maxLen;omega,rfl,rfl⟩⟩,L.to hlo (by omega) (Nat.le_refl _) (fun b b1 b2 e e'=>?_)⟩,⟨rfl,.inr ⟨w.heap.size + 1,1,_,rfl,by omega,A2,Nat.le_refl _,by unfold maxLen;omega,rfl,rfl⟩⟩,fun b e e'=>?_,fun b e=>?_,fun b e=>?_,hb.trans (B1.mono (by omega)),by omega,Nat.le_refl _⟩
 ·rcases e' with e' | e'
  ·have:w.heap.size = b:=by simpa [Value.ownBlock] using e'
   omega
  ·have:w.heap.size + 1 = b:=by simpa [Value.ownBlock] using e'
   omega
 ·have h1:w.heap.size = b:=by simpa [Value.ownBlock] using e
  have h2:w.heap.size + 1 = b:=by simpa [Value.ownBlock] using e'
  omega
 ·have h1:w.heap.size = b:=by simpa [Value.ownBlock] using e
  omega
 ·have h1:w.heap.size + 1 = b:=by simpa [Value.ownBlock] using e
  omega
def mid (k i:Nat) (q:LW):LW:=if i = 0 then q else if i = 1 then qli k 84 q else two k q
def ltr (i:Nat):UInt8:=if i = 0 then 84 else 83
theorem qu6 {k i:Nat} {q:LW} (h:i < 2):mid k (i + 1) q = qli k (ltr i) (mid k i q):=by
 match i,h with
 | 0,_=>rfl
 | 1,_=>rfl
theorem q1s {i:Nat}:isL (ltr i) = true:=by unfold ltr;split <;> decide
theorem qzd (k i:Nat) (q:LW):∃ r,(mid k i q).1 = q.1 ++ r/\r.length<=2:=by
 unfold mid
 obtain ⟨r1,e1,l1⟩:=qio k 84 q
 obtain ⟨r2,e2,l2⟩:=qio k 83 (qli k 84 q)
 split
 ·exact ⟨[],by simp⟩
 ·split
  ·exact ⟨r1,e1,by omega⟩
  ·exact ⟨r1 ++ r2,by unfold two;rw [e2,e1,List.append_assoc],by simp;omega⟩
theorem qxk {N k i:Nat} {q:LW} (h:Oi N q) (hk:k < q.1.length):Oi N (mid k i q):=by
 have h1:=h.add hk 84
 have h2:=h1.add (k:=k) (by obtain ⟨r,e,_⟩:=qio k 84 q;rw [e];simp;omega) 83
 unfold mid two
 split
 ·exact h
 ·split
  ·exact h1
  ·exact h2
theorem qim {P:Program} (W:World) (src dst e t:TypeId) (n:Int)
  (hs:P.underlying src = some (.slice e)) (he:P.underlying e = some (.int .u8)) (hd:P.underlying dst = some .string) :
  (convert src dst (.slice (some ⟨W.heap.size,0,none⟩) 1 1)).run P (W.alloc (.cells #[.int .u8 n] t)).drew = .ok (.string ⟨#[UInt8.ofNat n.toNat]⟩) (W.alloc (.cells #[.int .u8 n] t)).drew :=
 qik _ _ _ _ _ _ hs he hd (by show (W.alloc (.cells #[.int .u8 n] t)).cell? _ = _;simp)
set_option maxHeartbeats 4000000 in
theorem qpe (v:Value) (r u:List Int) (N hi:Nat) (w:World) (hx:Srd w hi v r u) (hs:Sf N r u) :
  Calls sqp.prog 12 #[v] w (qu4 (r,u) w):=by
 have HX:=Lib.hid hx;have HS:=Lib.hid hs;clear hx hs
 obtain ⟨P,n,c,Q,m,d,rfl,q1,q2,e1,e2,ht,HR⟩:=HX.out.open
 clear HR q1 q2
 go_enter sqp.func12,sqp.ntmps12
 go_wp2_with fail
 refine (gl.qem _ r u N hi _ (HX.out.keep ((Below.refl hi w).alloc ht _) (Nat.le_refl _)) HS.out).mono ?_
 rintro e w1 ⟨g,rfl,sg,b1⟩
 have N24:N<=24:=by have:=HS.out.r.len;rw [HS.out.lr] at this;exact this
 have hpos:=HS.out.pos
 have CS:Hid (Sf N (can r u N).1 (can r u N).2):=Lib.hid (by have h:=qkf (s:=(r,u)) HS.out;unfold cn at h;rwa [HS.out.lr] at h)
 obtain ⟨P1,c1,Q1,d1,rfl⟩:=sg.lens CS.out.lr CS.out.lu
 have hs1:w.heap.size < w1.heap.size:=by have:=b1.size;simp at this;omega
 have B1:Hid (Below w.heap.size w w1):=Lib.hid (((Below.refl _ _).alloc (Nat.le_refl _) _).trans (b1.mono (by simp)))
 have SG:=Lib.hid (sg.later (lo':=w.heap.size) (by simp));clear sg b1
 have ST:Hid (∃ W,W = ((w1.alloc (.cells #[.slice P1 N c1,.slice Q1 N d1] 32)).alloc (.cells #[.string ⟨#[]⟩] 9))/\Os w W w.heap.size W.heap.size (.slice (some ⟨w1.heap.size,0,none⟩) 1 1) (.slice (some ⟨w1.heap.size + 1,0,none⟩) 1 1) ([cn (r,u)],[[]])) :=
  Lib.hid ⟨_,rfl,Os.start (s:=cn (r,u)) (by unfold cn;rw [HS.out.lr];exact SG.out) hpos hpos (Nat.le_refl _) (by omega) B1.out⟩
 have OI:=Lib.hid (Oi.start (s:=(r,u)) HS.out)
 go_wp2_with fail
 obtain ⟨W,eW,hos⟩:=ST.out
 rw [<-eW]
 have OS:=Lib.hid hos;clear hos eW ST SG B1
 go_loopw [5,6,7] (fun va vb i wr=>∃ (k:Nat) (q:LW),i = .int .i64 k/\Og (r,u) N w wr va vb k q) (fun _ _ i _=>122 - (intOf i).toNat)
 case atStart=>exact ⟨0,_,rfl,OS.out,OI.out,rfl,by simp,by simp⟩
 case round =>
  obtain ⟨k,q,rfl,hg⟩:=hrel
  obtain ⟨A,ca,B,db,rfl,rfl⟩:=hg.os.forms
  have HG:=Lib.hid hg;clear hg OS OI
  have hq120:=HG.out.small
  have hkq:=HG.out.le
  have hl2:=HG.out.oi.len
  by_cases hlt:k < q.1.length
  ·have hk120:k < 120:=by omega
   have hsub:∀ j,k < (mid k j q).1.length/\(mid k j q).1.length<=122:=fun j=>by obtain ⟨r,e,l⟩:=qzd k j q;rw [e];simp;omega
   have MO:=Lib.hid (fun j=>qxk (i:=j) HG.out.oi hlt)
   have ST2:Hid (∃ W,W = (wr.alloc (.cells #[.int .u8 84,.int .u8 83] 5))/\Oh w wr.heap.size W wr.heap.size (.slice A q.1.length ca) (.slice B q.2.length db) (mid k 0 q)) :=
    Lib.hid ⟨_,rfl,HG.out.os.keep ((Below.refl wr.heap.size wr).alloc (Nat.le_refl _) _) (Nat.le_refl _),Arr.new wr _ _ rfl,fun e=>by have:=HG.out.os.vlt _ e;omega,fun e=>by have:=HG.out.os.ult _ e;omega⟩
   go_wp2_with fail
   obtain ⟨W2,eW,hoh⟩:=ST2.out
   rw [<-eW]
   have OH:=Lib.hid hoh;clear hoh eW ST2
   obtain ⟨wo,rfl⟩:∃ wo:World,wo = wr:=⟨_,rfl⟩
   have hws:w.heap.size<=wo.heap.size:=HG.out.os.low
   go_loopw [5,6,23] (fun va vb i wr=>∃ j:Nat,j<=2/\i = .int .i64 j/\∃ hi2,Oh w hi2 wr wo.heap.size va vb (mid k j q)) (fun _ _ i _=>2 - (intOf i).toNat)
   case atStart=>exact ⟨0,by omega,rfl,_,OH.out⟩
   case round =>
    obtain ⟨j,hj,rfl,hi2,hoh⟩:=hrel
    have OJ:=Lib.hid hoh;clear hoh OH
    by_cases hj2:j < 2
    ·obtain ⟨hk1,hk2⟩:=hsub j
     have MQ:=Lib.hid (qu6 (k:=k) (q:=q) hj2)
     have OJ2:=Lib.hid (MO.out j)
     generalize mid k j q = q' at *
     obtain ⟨A',ca',B',db',rfl,rfl⟩:=OJ.out.os.forms
     obtain ⟨gx,off,x,P',p',cp',Q',q2',cq',eA,hgx,hxk,c0,c1,xs⟩:=(Os.lrd OJ.out.os).at_ hk1
     subst eA
     obtain ⟨x',wd,h1,h2,h3,h4,h5,h6⟩:=OJ2.out.at hk1
     obtain rfl:x = x':=by rw [hxk] at h1;exact Option.some.inj h1
     have XS:=Lib.hid xs;have OX:=Lib.hid h3;have EX:=Lib.hid h2;have HW:=Lib.hid h4;have EW:=Lib.hid h5
     clear xs h1 h2 h3 h4 h5 hxk
     have hcl:wr.cell? ⟨wo.heap.size,j,none⟩ = some (.int .u8 ((ltr j).toNat:Int)):=OJ.out.box.cell (by
      match j,hj2 with
      | 0,_=>rfl
      | 1,_=>rfl)
     have hisL:=q1s (i:=j)
     have ltb:=(ltr j).toNat_lt
     have HL:=Lib.hid hisL;clear hisL
     generalize ltr j = lt at *
     go_wp2_with fail
     refine (rw.qma _ x.1 x.2 N _ _ XS.out OX.out lt HL.out).mono ?_
     rintro e w3 ⟨g3,rfl,sg3,b3⟩
     have LS:=Lib.hid (qep OX.out lt)
     obtain ⟨P3,c3,Q3,d3,rfl⟩:=sg3.lens LS.out.lr LS.out.lu
     have SG3:=Lib.hid sg3;clear sg3
     have s3:=b3.size
     have OH3:=Lib.hid (OJ.out.keep b3);clear b3 c0 c1 hcl XS
     go_wp2_with fail
     refine (gl.qem _ _ _ N _ _ SG3.out.rd LS.out).mono ?_
     rintro e w4 ⟨g4,rfl,sg4,b4⟩
     have CS4:Hid (Sf N (stp lt x).1 (stp lt x).2):=Lib.hid (qkf (s:=qa2 lt x) LS.out)
     rw [<-q1q OX.out] at sg4
     obtain ⟨P4,c4,Q4,d4,rfl⟩:=sg4.lens CS4.out.lr CS4.out.lu
     have s4:=b4.size
     have OH4:=Lib.hid (OH3.out.keep b4)
     have SG4:=Lib.hid (sg4.later (lo':=wr.heap.size) (by omega));clear sg4 b4 SG3 OH3
     go_wp2_with (refine wpList_store_row rfl 32 _ _ rfl w4.heap.size #[.slice P4 N c4,.slice Q4 N d4] rfl rfl 32 #[.slice none 0 0,.slice none 0 0] (Arr.new w4 [.slice none 0 0,.slice none 0 0] _ rfl) yj rfl (by simp [Value.oneCell']) ?_;generalize hw:(w4.alloc (.cells #[.slice none 0 0,.slice none 0 0] 32)).setRow w4.heap.size #[.slice P4 N c4,.slice Q4 N d4] = w5;have NB:Hid (Arr w5 w4.heap.size [.slice P4 N c4,.slice Q4 N d4] 32):=Lib.hid (by rw [<-hw];exact (Arr.new w4 [.slice none 0 0,.slice none 0 0] _ rfl).row);have b5:Below w4.heap.size w4 w5:=(by rw [<-hw];exact below_setRow ((Below.refl _ _).alloc (Nat.le_refl _) _) (Nat.le_refl _) _);have s5:w4.heap.size + 1<=w5.heap.size:=(by rw [<-hw];simp);clear hw;have OH5:=Lib.hid (OH4.out.keep b5);have SG5:=Lib.hid (SG4.out.keep b5 (Nat.le_refl _));clear b5 OH4 SG4;have n0:=NB.out.cell (k:=0) rfl;have n1:=NB.out.cell (k:=1) rfl)
     have HB:=Lib.hid (fun y hy=>by have:=OJ2.out.sf y hy;have h1:=this.lr;have h2:=this.lu;exact (⟨by omega,by omega⟩:y.1.length<=1048576/\y.2.length<=1048576))
     have l1:(stp lt x).1.length<=1048576:=by rw [CS4.out.lr];omega
     have l2:(stp lt x).2.length<=1048576:=by rw [CS4.out.lu];omega
     refine (find_spec (some ⟨gx,off,none⟩) q'.1.length ca' q'.1 _ (stp lt x) _ _ _ (Os.lrd OH5.out.os) SG5.out.rd (by omega) HB.out l1 l2).mono ?_
     rintro e w6 ⟨rfl,b6⟩
     have OH6:=Lib.hid (OH5.out.keep b6)
     have SG6:=Lib.hid (SG5.out.keep b6 SG5.out.top)
     replace NB:=Lib.hid (NB.out.keep b6 NB.out.lt)
     have s6:=b6.size
     clear b6 OH5 SG5 n0 n1
     have n0:=NB.out.cell (k:=0) rfl
     have n1:=NB.out.cell (k:=1) rfl
     by_cases hm:stp lt x ∈ q'.1
     ·have EQ:=Lib.hid (qzc (k:=k) EX.out hm)
      have hF:¬ fnd q'.1 (stp lt x) < 0:=fun h=>(qze.1 h) hm
      clear hm
      generalize fnd q'.1 (stp lt x) = F at *
      go_wp2_with fail
      go_roundw
      case rel=>exact ⟨j + 1,by omega,by go_num,_,by rw [MQ.out,EQ.out];exact OH6.out⟩
      case measure=>simp [intOf];omega
     ·have EQ:=Lib.hid (qu5 (k:=k) EX.out EW.out hm)
      have hF:fnd q'.1 (stp lt x) = -1:=qr6.2 hm
      rw [hF]
      clear hF hm
      obtain ⟨hs,bl,o1,r1⟩:=OH6.out.os.ex
      have O1:=Lib.hid o1;have R1:=Lib.hid r1;clear o1 r1
      obtain ⟨i0,hi0,hz0,hz1,hz2⟩:=info_parts q1r
      have hbase:w.heap.size<=w6.heap.size:=Nat.le_trans OH6.out.os.low OH6.out.os.top
      go_wp2_with (at_builtin;refine wpList_append_lies (w6.alloc (.cells #[.slice P4 N c4,.slice Q4 N d4] 32)) rfl _ _ 28 rfl w.heap.size 32 i0 _ 2 48 sqp.underlying28 hi0 hz0 hz1 hz2 rfl (by decide) _ q'.1.length hs rfl (O1.out.alloc _) ⟨w6.heap.size,0,none⟩ 1 1 [.slice P4 N c4,.slice Q4 N d4] rfl rfl ?hn ?h1 (by decide) ?c4 ?c5 ?c6 _ rfl ?_)
      case hn=>exact World.news_of_block (Arr.new w6 _ _ rfl)
      case h1=>intro q hq;simp at hq;rcases hq with rfl | rfl <;> rfl
      case c4=>unfold maxLen;omega
      case c5=>omega
      case c6=>simp;omega
      intro g7 cap7 w7 ho hg hb hlt7
      have OS7:=Lib.hid (Os.push OH6.out.os R1.out SG6.out.wide hpos hpos OJ.out.os.top ((Below.refl w6.heap.size w6).alloc (Nat.le_refl _) _) rfl ho hg (by simpa using hb) hlt7)
      have hwo:wo.heap.size < w6.heap.size:=OH6.out.box.lt
      have BX7:Hid (Arr w7 wo.heap.size [.int .u8 84,.int .u8 83] 5):=Lib.hid ((hg.block _ (by simp;omega) (fun e=>OH6.out.nv e.symm)).trans (OH6.out.box.alloc _))
      have NV7:Hid (¬ g7 = wo.heap.size):=Lib.hid (fun e=>by
       rcases hb with q | q
       ·exact OH6.out.nv (by rw [q,e])
       ·omega)
      have NU7:=Lib.hid OH6.out.nu
      obtain ⟨gb,eB,hcw,hgb⟩:=Os.word (k:=k) OS7.out HW.out
      subst eB
      have hk2:k < q'.2.length:=(List.getElem?_eq_some_iff.1 HW.out).1
      have hl7:=OJ2.out.len
      have hwl:wd.length<=122:=by omega
      have hwz:(⟨wd.toArray⟩:ByteArray).size<=122:=by show wd.toArray.size<=122;simpa using hwl
      have hca:∀ o,(w7.alloc o).cell? ⟨gb,0 + k,none⟩ = some (.string ⟨wd.toArray⟩):=fun o=>by rw [World.cell?_alloc_lt _ _ _ hgb];exact hcw
      rw [Nat.zero_add] at hcw
      simp only [Nat.zero_add] at hca
      clear ho hg hb O1 R1 OH6 SG6 NB n0 n1
      obtain ⟨j0,hj0,hy0,hy1,hy2⟩:=info_parts infoSt
      have hbase7:w.heap.size<=w7.heap.size:=OS7.out.low
      have O7:Hid (w7.ownsRow w.heap.size 9 1 (.slice (some ⟨gb,0,none⟩) q'.2.length db') q'.2.length (q'.2.map fun x=>Value.string ⟨x.toArray⟩)):=Lib.hid OS7.out.own
      have hk22:q'.2.length<=122:=by omega
      have EWD:Hid ((⟨wd.toArray⟩:ByteArray) ++ ⟨#[lt]⟩ = ⟨(wd ++ [lt]).toArray⟩):=Lib.hid (ByteArray.mk_append_mk wd [lt])
      have WB:Hid (Below w7.heap.size w7 ((w7.alloc (.cells #[.int .u8 (lt.toNat:Int)] 5)).alloc (.cells #[.string (⟨wd.toArray⟩ ++ ⟨#[lt]⟩)] 9)).drew):=Lib.hid (((Below.refl _ _).alloc (Nat.le_refl _) _).alloc (by simp) _).drew
      have O8:Hid (((w7.alloc (.cells #[.int .u8 (lt.toNat:Int)] 5)).alloc (.cells #[.string (⟨wd.toArray⟩ ++ ⟨#[lt]⟩)] 9)).drew.ownsRow w.heap.size 9 1 (.slice (some ⟨gb,0,none⟩) q'.2.length db') q'.2.length (q'.2.map fun x=>Value.string ⟨x.toArray⟩)):=Lib.hid ((O7.out.alloc _).alloc _)
      have N8:Hid (∀ (j:Nat) (u:Value),[Value.string ((⟨wd.toArray⟩:ByteArray) ++ ⟨#[lt]⟩)][j]? = some u->((w7.alloc (.cells #[.int .u8 (lt.toNat:Int)] 5)).alloc (.cells #[.string (⟨wd.toArray⟩ ++ ⟨#[lt]⟩)] 9)).drew.cell? ((⟨w7.heap.size + 1,0,none⟩:Addr).add j) = some u):=Lib.hid (by
       have:=World.news_of_block (Arr.new (w7.alloc (.cells #[.int .u8 (lt.toNat:Int)] 5)) [.string ((⟨wd.toArray⟩:ByteArray) ++ ⟨#[lt]⟩)] 9 (g:=w7.heap.size + 1) (by simp))
       exact this)
      have T8:Hid (w.heap.size<=((w7.alloc (.cells #[.int .u8 (lt.toNat:Int)] 5)).alloc (.cells #[.string (⟨wd.toArray⟩ ++ ⟨#[lt]⟩)] 9)).drew.heap.size):=Lib.hid (Nat.le_trans hbase7 WB.out.size)
      have Z8:Hid (((w7.alloc (.cells #[.int .u8 (lt.toNat:Int)] 5)).alloc (.cells #[.string (⟨wd.toArray⟩ ++ ⟨#[lt]⟩)] 9)).drew.heap.size = w7.heap.size + 2):=Lib.hid (by show ((w7.alloc _).alloc _).heap.size = _;simp)
      have U8:Hid (∀ q ∈ [Value.string ((⟨wd.toArray⟩:ByteArray) ++ ⟨#[lt]⟩)],q.oneCell' = true):=Lib.hid (by intro q hq;simp at hq;subst hq;rfl)
      have m8:q'.2.length + 1<=maxLen:=by unfold maxLen;omega
      have HL7:=Lib.hid hl7;clear hl7
      have kc:=fun (W:World) (n:Int)=>qf6 (P:=sqp.prog) W 67 9 5 5 n sqp.underlying67 sqp.underlying5 sqp.underlying9
      have kd:=fun (W:World) (n:Int)=>qim (P:=sqp.prog) W 67 9 5 5 n sqp.underlying67 sqp.underlying5 sqp.underlying9
      have hwn:¬ 9223372036854775807 < wd.length + 1:=by omega
      go_wp2_with fail
      go_region_law (refine step_append_lies ((w7.alloc (.cells #[.int .u8 (lt.toNat:Int)] 5)).alloc (.cells #[.string (⟨wd.toArray⟩ ++ ⟨#[lt]⟩)] 9)).drew rfl _ _ 34 rfl w.heap.size 9 j0 (.string ⟨#[]⟩) 1 16 sqp.underlying34 hj0 hy0 hy1 hy2 rfl (by decide) (.slice (some ⟨gb,0,none⟩) q'.2.length db') q'.2.length (q'.2.map fun x=>Value.string ⟨x.toArray⟩) rfl O8.out ⟨w7.heap.size + 1,0,none⟩ 1 1 [.string (⟨wd.toArray⟩ ++ ⟨#[lt]⟩)] rfl rfl N8.out U8.out (by decide) m8 (by omega) T8.out (w7.heap.size + 2) Z8.out ?_;intro g8 cap8 w8 ho hg hb hlt8)
      all_goals
       have OH8:Hid (Oh w w8.heap.size w8 wo.heap.size (.slice (some ⟨g7,0,none⟩) (q'.1.length + 1) cap7) (.slice (some ⟨g8,0,none⟩) (q'.2.length + 1) cap8) (qli k lt q')):=Lib.hid (by
        rw [EQ.out]
        rw [EWD.out] at ho
        have hw7:wo.heap.size < w7.heap.size:=BX7.out.lt
        refine ⟨Os.q3j OS7.out WB.out rfl ho hg (by rw [Z8.out];exact hb) hlt8,(hg.block _ (Nat.lt_of_lt_of_le hw7 WB.out.size) (fun e=>NU7.out e.symm)).trans (BX7.out.keep WB.out hw7),fun e=>NV7.out (by simpa [Value.ownBlock] using e),fun e=>?_⟩
        have e2:g8 = wo.heap.size:=by simpa [Value.ownBlock] using e
        rcases hb with q9 | q9
        ·exact NU7.out (by rw [q9,e2])
        ·omega)
       clear ho hg hb OS7 BX7 NV7 NU7 WB O8 N8 T8 Z8 U8 O7
       go_wp2_with fail
       go_roundw
       case rel=>exact ⟨j + 1,by omega,by go_num,_,by rw [MQ.out];exact OH8.out⟩
       case measure=>simp [intOf];omega
    ·obtain rfl:j = 2:=by omega
     obtain ⟨hk1,hk2⟩:=hsub 2
     have OI2:=Lib.hid (MO.out 2)
     have e2:mid k 2 q = two k q:=rfl
     rw [e2] at OJ hk1 hk2 OI2
     obtain ⟨A',ca',B',db',rfl,rfl⟩:=OJ.out.os.forms
     clear e2 MO hsub
     by_cases hbig:120 < (two k q).1.length
     ·have HR:Hid (orb (r,u) = none):=Lib.hid (by rw [<-HG.out.run,show 122 - k = (121 - k) + 1 by omega,qu3 hlt hbig])
      generalize two k q = q' at *
      go_wp2_with fail
      go_ret3
      unfold qu4
      rw [HR.out]
      exact ⟨rfl,OJ.out.os.bel⟩
     ·have HN:Hid (Og (r,u) N w wr (.slice A' (two k q).1.length ca') (.slice B' (two k q).2.length db') (k + 1) (two k q)) :=
       Lib.hid ⟨OJ.out.os.up,OI2.out,by rw [<-HG.out.run,show 122 - k = (122 - (k + 1)) + 1 by omega,qr3 hlt hbig],hk1,by omega⟩
      clear OJ OI2
      generalize two k q = q' at *
      go_wp2_with fail
      go_roundw
      case rel=>exact ⟨k + 1,q',by go_num,HN.out⟩
      case measure=>simp [intOf];omega
  ·obtain rfl:k = q.1.length:=by omega
   have HR:Hid (orb (r,u) = some q):=Lib.hid (by rw [<-HG.out.run,show 122 - q.1.length = (121 - q.1.length) + 1 by omega,qr4 hlt])
   go_wp2_with fail
   go_ret3
   unfold qu4
   rw [HR.out]
   exact ⟨_,_,rfl,HG.out.os⟩
end Go.Proofs.Ytcdclihinmdgiaa.orb

namespace Go.Proofs.Ytcdclihinmdgiaa.orb
open Go.ChangeShapes Go.WideShapes Go.ChangeAt Go.RowKit
open mem ints arr pm sf
set_option linter.unusedVariables false
set_option maxRecDepth 100000
def qd2 (r u:List Int):Option LW:=if zh r u then orb (r,u) else none
def q3k (r u:List Int):List Sur:=match qd2 r u with | some q=>q.1 | none=>[]
def q3l (r u:List Int):Bool:=(qd2 r u).isSome
theorem qr5 {r u:List Int} {q:LW} (h:qd2 r u = some q):q3k r u = q.1/\q3l r u = true:=by simp [q3k,q3l,h]
theorem qu7 {r u:List Int} (h:zh r u = true):qd2 r u = orb (r,u):=by simp [qd2,h]
theorem qin {N:Nat}:∀ (f k:Nat) (q q':LW),Oi N q->q.1.length<=120->qlj f k q = some q'->Oi N q'/\q'.1.length<=120
 | 0,k,q,q',_,_,h=>by simp [qlj] at h
 | f + 1,k,q,q',hq,hl,h=>by
  unfold qlj at h
  split at h
  ·rename_i hk
   split at h
   ·cases h
   ·rename_i hs
    exact qin f (k + 1) _ q' (by have:=qxk (i:=2) hq hk;exact this) (by omega) h
  ·injection h with h
   subst h
   exact ⟨hq,hl⟩
theorem qu8 {r u:List Int} {q:LW} (h:qd2 r u = some q):Sf r.length r u/\Oi r.length q/\q.1.length<=120:=by
 unfold qd2 at h
 split at h
 ·rename_i ht
  have s:=ku.1 ht
  exact ⟨s,qin 122 0 _ q (Oi.start s) (by simp) h⟩
 ·cases h
end Go.Proofs.Ytcdclihinmdgiaa.orb
