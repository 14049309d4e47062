import Derived.Test.YtcdclihinmdgiaaZ04
import Derived.Test.YtcdclihinmdgiaaZ10
import Derived.Test.YtcdclihinmdgiaaZ16
import Derived.Test.YtcdclihinmdgiaaZ19
import Derived.Test.YtcdclihinmdgiaaZ11
import Derived.Laws.CopyRow
import Derived.Lib.AppendZerosOnto
import Derived.Lib.Overlaps
import Derived.Laws.NewBlocks
import Derived.Deep.DeepAppendWide
namespace Go.Proofs.Ytcdclihinmdgiaa.lst
open Go.ChangeShapes Go.WideShapes Go.ChangeAt Go.RowKit
open mem ints arr pm sf gl orb
set_option linter.unusedVariables false
set_option maxRecDepth 100000
theorem qyt {w:World} {lo hi:Nat} {ex:Nat->Prop} {bl:Nat->Nat × Nat} {a b:Value} {hs:List Value} {s:Sur} {L:List Sur} (h:Ls w lo hi ex bl (a :: b :: hs) (s :: L)):Ls w lo hi ex (fun k=>bl (k + 1)) hs L:=by
 refine ⟨by have:=h.len;simp at this;omega,h.top,fun k t hk=>?_,fun i j hi hj hij=>?_⟩
 ·obtain ⟨x,y,q1,q2,q3⟩:=h.row (k + 1) t (by simpa using hk)
  refine ⟨x,y,?_,?_,q3⟩
  ·rw [show (k + 1) * 2 = k * 2 + 1 + 1 by omega] at q1;simpa using q1
  ·rw [show (k + 1) * 2 + 1 = k * 2 + 1 + 1 + 1 by omega] at q2;simpa using q2
 ·exact h.ne (i + 1) (j + 1) (by simpa using hi) (by simpa using hj) (by omega)
theorem Ls.pk {w:World} {lo hi:Nat} {ex:Nat->Prop}:∀ {L:List Sur} {bl:Nat->Nat × Nat} {hs:List Value},Ls w lo hi ex bl hs L->∃ Z:List Item,Z.map sOf = L/\qbs Z = hs/\Pk w lo hi ex Z/\∀ z ∈ Z,∃ k,k < L.length/\z.1 = bl k
 | [],bl,hs,h=>⟨[],rfl,(List.eq_nil_of_length_eq_zero (by simpa using h.len)).symm,Pk.nil _ _ _ _ h.top,fun z hz=>by simp at hz⟩
 | s :: L,bl,hs,h=>by
  match hs,h with
  | [],h=>have:=h.len;simp at this
  | [a],h=>have:=h.len;simp at this;omega
  | a :: b :: hs,h =>
   obtain ⟨Z,e1,e2,e3,e4⟩:=Ls.pk (qyt h)
   obtain ⟨x,y,q1,q2,q3,q4,q5⟩:=h.row 0 s rfl
   obtain rfl:a = x:=by simpa using q1
   obtain rfl:b = y:=by simpa using q2
   refine ⟨(bl 0,(a,b),s) :: Z,by simp [e1,sOf],by simp only [qbs,List.flatMap_cons] at e2 ⊢;rw [e2];rfl,⟨h.top,fun z hz=>?_,qek.2 ⟨q5,fun q=>?_,fun q=>?_,e3.nd⟩⟩,fun z hz=>?_⟩
   ·rcases List.mem_cons.1 hz with rfl | hz
    ·exact ⟨q3,q4⟩
    ·exact e3.each z hz
   ·obtain ⟨z,hz,hq⟩:=List.mem_flatMap.1 q
    obtain ⟨k,hk,ek⟩:=e4 z hz
    obtain ⟨n1,n2,n3⟩:=h.ne 0 (k + 1) (by simp) (by simpa using hk) (by omega)
    have:bl 0 = (bl 0):=rfl
    rcases List.mem_cons.1 hq with e | e
    ·exact n1 (by rw [<-ek];exact e)
    ·exact n2 (by rw [<-ek];simpa using e)
   ·obtain ⟨z,hz,hq⟩:=List.mem_flatMap.1 q
    obtain ⟨k,hk,ek⟩:=e4 z hz
    obtain ⟨n1,n2,n3⟩:=h.ne 0 (k + 1) (by simp) (by simpa using hk) (by omega)
    obtain ⟨m1,m2,m3⟩:=h.ne (k + 1) 0 (by simpa using hk) (by simp) (by omega)
    rcases List.mem_cons.1 hq with e | e
    ·exact m2 (by rw [<-ek];exact e.symm)
    ·exact n3 (by rw [<-ek];simpa using e)
   ·rcases List.mem_cons.1 hz with rfl | hz
    ·exact ⟨0,by simp,rfl⟩
    ·obtain ⟨k,hk,ek⟩:=e4 z hz
     exact ⟨k + 1,by simpa using hk,ek⟩
theorem Pk.q4j {w:World} {lo hi:Nat} {ex:Nat->Prop} {Y R:List Item} {z:Item} (h:Pk w lo hi ex (Y ++ z :: R)):Pk w lo hi ex (qm7 z Y ++ R):=by
 rcases qjl z Y with p | p
 ·have h1:Pk w lo hi ex ((Y ++ R) ++ [z]):=h.perm (by
   refine (List.perm_middle).trans ?_
   exact (List.perm_append_comm (l₁:=[z]) (l₂:=Y ++ R)))
  exact h1.sub.perm (p.symm.append_right R)
 ·exact h.perm (List.perm_middle.trans (p.symm.append_right R))
theorem Pk.q3i {w:World} {lo hi:Nat} {ex:Nat->Prop} {Y R:List Item} {z:Item} (h:Pk w lo hi ex (Y ++ z :: R)):Pk w lo hi ex (z :: Y) :=
 (Pk.sub (Y:=R) (h.perm (show (Y ++ z :: R).Perm ((z :: Y) ++ R) from List.perm_middle)))
theorem qxe:(sqp.prog.info? 28).map (fun i=>(i.zero,i.size,i.bytes)) = some (some (.slice none 0 0),1,24):=by kernel_rfl
def qxf (LL:List (List Sur)) (w:World) (e:Ending) (w':World):Prop:=∃ v,e = .returned v/\Slo w' w.heap.size w'.heap.size v LL/\Below w.heap.size w w'
theorem qrl {n:Int} (h:¬ (1<=n/\n<=4)):orF n = []:=if_neg h
theorem qyu {n:Nat} (h1:1<=n) (h4:n<=4):orF (n:Int) = (swL n).foldl y9 []:=by
 unfold orF;rw [if_pos ⟨by omega,by omega⟩,Int.toNat_natCast];rfl
theorem qrm {acc:List (List Sur)} {s:Sur} {k:Nat} {o:List Sur} (h:acc[k]? = some o):isIn (acc.take (k + 1)) s = (isIn (acc.take k) s || decide (0<=fnd o s)):=by
 unfold isIn;rw [List.take_add_one,h];simp
theorem qrn {n:Nat}:∀ (L:List Sur) (acc:List (List Sur)),(∀ s ∈ L,Or1 n s)->(∀ o ∈ acc,o.length<=26/\∀ x ∈ o,Sf n x.1 x.2)->∀ o ∈ L.foldl y9 acc,o.length<=26/\∀ x ∈ o,Sf n x.1 x.2
 | [],acc,_,h=>h
 | s :: L,acc,hs,h=>by
  rw [List.foldl_cons]
  refine qrn L _ (fun x hx=>hs x (List.mem_cons_of_mem _ hx)) fun o ho=>?_
  unfold y9 at ho
  split at ho
  ·exact h o ho
  ·rcases List.mem_append.1 ho with q | q
   ·exact h o q
   ·obtain rfl:=List.mem_singleton.1 q
    have:=hs s (by simp)
    exact ⟨this.le,this.sf⟩
theorem qnq (L:List Sur):∀ a:List Sur,(qhp a L).length<=a.length + L.length:=by
 induction L with
 | nil=>intro a;simp [qhp]
 | cons x L ih =>
  intro a
  have h1:=ih (qbe a x false);have h2:=qfe a x false
  show (qhp (qbe a x false) L).length<=_
  simp at h2 ⊢;omega
theorem qyv {n:Nat} (L:List Sur):∀ a:List Sur,(∀ y ∈ a,Sf n y.1 y.2)->(∀ y ∈ L,Sf n y.1 y.2)->∀ y ∈ qhp a L,Sf n y.1 y.2:=by
 induction L with
 | nil=>intro a h _;exact h
 | cons x L ih =>
  intro a h hL
  refine ih (qbe a x false) (fun y hy=>?_) fun y hy=>hL y (List.mem_cons_of_mem _ hy)
  rcases qcw a x false y hy with q | rfl
  ·exact h y q
  ·exact hL _ (by simp)
theorem q1j {g n c b h k:Nat} (e:(Value.slice (some ⟨g,0,none⟩) n c).ownBlock = some b) (hk:k<=h) (hg:g < k:=by omega):b < h:=by
 have:g = b:=by simpa [Value.ownBlock] using e
 omega
set_option maxHeartbeats 8000000 in
theorem qyw (n:Int) (w:World):Calls sqp.prog 4 #[.int .i64 n] w (qxf (orF n) w):=by
 by_cases hr:1<=n/\n<=4
 ·obtain ⟨N,rfl⟩:∃ N:Nat,n = (N:Int):=⟨n.toNat,by omega⟩
  have h1:1<=N:=by omega
  have h4:N<=4:=by omega
  have EF:=Lib.hid (qyu h1 h4)
  obtain ⟨_,hor⟩:=q1i h1 h4
  have OR1:=Lib.hid hor;clear hor
  obtain ⟨i0,hi0,hz0,hz1,hz2⟩:=info_parts qxe
  have zc:((Value.slice none 0 0).cells).size = 1:=by kernel_rfl
  have ST:Hid (∃ W,W = w.alloc (.cells #[] 28)/\Below w.heap.size w W/\W.heap.size = w.heap.size + 1/\W.heap[w.heap.size]? = some (.cells #[] 28 (0,0))):=Lib.hid ⟨_,rfl,(Below.refl _ _).alloc (Nat.le_refl _) _,by simp,heap_alloc_last w _⟩
  go_enter sqp.func4,sqp.ntmps4
  go_wp2_with (go_at_call 9;refine (permOk.qn0 _ _ _ _ (by omega) (by omega)).mono ?_;rintro e w' ⟨rfl,rfl⟩)
  obtain ⟨w1,eW,b1,s1,hh⟩:=ST.out
  rw [<-eW]
  clear eW ST
  refine (qx8 (N:Int) w1).mono ?_
  rintro e w2 ⟨v2,rfl,sx⟩
  have EN:swF (N:Int) = swL N:=by unfold swF;rw [if_pos ⟨by omega,by omega⟩,Int.toNat_natCast]
  rw [EN] at sx
  rw [Int.toNat_natCast] at sx
  obtain ⟨Z,ez,oz,pz⟩:=sx.ex
  obtain ⟨A2,c2,rfl⟩:=mem.za oz
  have b2:=sx.bel
  have s2:=b2.size
  have SF:Hid (∀ z ∈ Z,Sf N (sOf z).1 (sOf z).2/\Or1 N (sOf z)):=Lib.hid (fun z hz=>by
   have:sOf z ∈ swL N:=by rw [<-ez];exact List.mem_map_of_mem hz
   exact ⟨sx.sf _ this,OR1.out _ this⟩)
  have EZ:Hid ((Z.map sOf).foldl y9 [] = orF (N:Int)):=Lib.hid (by rw [ez,EF.out])
  have NL:Z.length<=26:=by
   have e1:Z.length = (swL N).length:=by rw [<-ez,List.length_map]
   have:=(qt7 h1 h4).num
   omega
  have PZ:=Lib.hid pz;have OZ:=Lib.hid oz;have B2:=Lib.hid (b1.trans (b2.mono (by omega)))
  have S0:Hid (Sv w2 w.heap.size w2.heap.size (.slice (some ⟨w.heap.size,0,none⟩) 0 0) 0 [] (fun _=>(0,0)) (RL w2 [])):=Lib.hid ⟨⟨rfl,.inr ⟨w.heap.size,0,#[],rfl,Nat.le_refl _,(b2.block _ (by omega)).trans hh,Nat.le_refl _,by unfold maxLen;omega,rfl,rfl⟩⟩,rfl,Nat.le_refl _,fun b e=>q1j e s2,fun j hj=>absurd hj (Nat.not_lt_zero _),fun i j _ hj=>absurd hj (Nat.not_lt_zero _)⟩
  have OB:=EF;clear ez oz pz b1 b2 hh sx EF OR1 OB EN
  go_wp2_with fail
  go_loopw [3,22] (fun vo i wr=>∃ (k:Nat) (hs:List Value) (iv:Nat->Nat × Nat),k<=Z.length/\i = .int .i64 k/\Sv wr w.heap.size wr.heap.size vo (((Z.take k).map sOf).foldl y9 []).length hs iv (RL wr (((Z.take k).map sOf).foldl y9 []))/\(((Z.take k).map sOf).foldl y9 []).length<=k/\(∀ b,vo.ownBlock = some b->b = w.heap.size\/w2.heap.size<=b)/\Out w.heap.size (w.heap.size + 1) w2 wr) (fun _ i _=>Z.length - (intOf i).toNat)
  case atStart=>exact ⟨0,[],fun _=>(0,0),Nat.zero_le _,rfl,S0.out,Nat.le_refl _,fun b e=>.inl (by simpa [Value.ownBlock] using e.symm),Out.refl _ _ _⟩
  case round =>
   obtain ⟨k,hs,iv,hk,rfl,sv,al,vb,ho⟩:=hrel
   have SV:=Lib.hid sv;have VB:=Lib.hid vb;have HO:=Lib.hid ho;clear sv vb ho S0
   have swr:=HO.out.size
   obtain ⟨Ao,co,rfl⟩:=mem.za SV.out.own
   by_cases hlt:k < Z.length
   ·obtain ⟨z,hz⟩:∃ z,Z[k]? = some z:=⟨_,List.getElem?_eq_getElem hlt⟩
    obtain ⟨g2,off2,rfl,hg2,q0,q1⟩:=qm9 OZ.out rfl hz
    have hg2w:w.heap.size + 1<=g2:=by have:=(OZ.out.lt g2 rfl).1;omega
    have KP:∀ b,w.heap.size + 1<=b->b < w2.heap.size->wr.heap[b]? = w2.heap[b]?:=fun b x y=>HO.out.block b y (.inr x)
    have PR:Hid (Pk wr w1.heap.size w2.heap.size (fun b=>(Value.slice (some ⟨g2,off2,none⟩) Z.length c2).ownBlock = some b) Z):=Lib.hid (PZ.out.keep swr (fun b l h _=>KP b (by omega) h))
    obtain ⟨P,c',Q,d',ep,srd⟩:=PR.out.srd (List.mem_of_getElem? hz)
    obtain ⟨SS,S1⟩:=SF.out z (List.mem_of_getElem? hz)
    have ET:Hid (((Z.take (k + 1)).map sOf).foldl y9 [] = y9 (((Z.take k).map sOf).foldl y9 []) (sOf z)):=Lib.hid (by
     rw [List.take_add_one,hz,List.map_append,List.foldl_append]
     rfl)
    have AO:Hid (∀ o ∈ ((Z.take k).map sOf).foldl y9 [],o.length<=26/\∀ x ∈ o,Sf N x.1 x.2):=Lib.hid (qrn _ _ (fun s hs=>by
     obtain ⟨y,hy,rfl⟩:=List.mem_map.1 hs
     exact (SF.out y (List.mem_of_mem_take hy)).2) (fun o ho=>by simp at ho))
    have hc0:wr.cell? ⟨g2,off2 + k * 2,none⟩ = some (.slice P (sOf z).1.length c'):=by
     rw [World.cell?_of_block (w:=w2) (a:=⟨g2,off2 + k * 2,none⟩) (KP g2 hg2w hg2),q0,ep]
    have hc1:wr.cell? ⟨g2,off2 + k * 2 + 1,none⟩ = some (.slice Q (sOf z).2.length d'):=by
     rw [World.cell?_of_block (w:=w2) (a:=⟨g2,off2 + k * 2 + 1,none⟩) (KP g2 hg2w hg2),q1,ep]
    have SRD:=Lib.hid srd;have HS:=Lib.hid SS;have H1:=Lib.hid S1
    have n24:N<=24:=by have:=SS.r.len;rw [SS.lr] at this;exact this
    have r24:(sOf z).1.length = N:=SS.lr
    have u24:(sOf z).2.length = N:=SS.lu
    generalize ((Z.take k).map sOf).foldl y9 [] = acc at *
    generalize sOf z = s at *
    rw [r24] at hc0 SRD;rw [u24] at hc1 SRD
    clear ep srd q0 q1 hz PR SS S1 KP
    have ST1:Hid (∃ W,W = wr.alloc (.cells #[.slice P N c',.slice Q N d'] 32)/\Below wr.heap.size wr W/\Arr W wr.heap.size [.slice P N c',.slice Q N d'] 32):=Lib.hid ⟨_,rfl,(Below.refl _ _).alloc (Nat.le_refl _) _,Arr.new wr _ _ rfl⟩
    go_wp2_with fail
    obtain ⟨w3,eW,b3,ar⟩:=ST1.out
    rw [<-eW]
    have AR:=Lib.hid ar;have SR3:=Lib.hid (SRD.out.keep (b3.mono swr) (Nat.le_refl _));have SV3:Hid (Sv w3 w.heap.size wr.heap.size (.slice Ao acc.length co) acc.length hs iv (RL w3 acc)):=Lib.hid (SV.out.keep b3 (Nat.le_refl _) (fun _ _ _ _ _ _ q r=>r.keep b3 q))
    have B3:=Lib.hid b3
    have s3:=b3.size
    have hbx:=ar.lt
    clear eW b3 ar ST1 SRD SV hc0 hc1
    generalize hwrs:wr.heap.size = bx at *
    have c30:=AR.out.cell (k:=0) rfl;have c31:=AR.out.cell (k:=1) rfl
    go_wp2_with fail
    obtain ⟨wq,rfl⟩:∃ wq:World,wq = wr:=⟨_,rfl⟩
    go_loopw [6,28] (fun fv i wi=>∃ m:Nat,m<=acc.length/\i = .int .i64 m/\fv = .bool (isIn (acc.take m) s)/\Below w3.heap.size w3 wi) (fun _ i _=>acc.length - (intOf i).toNat)
    case atStart=>exact ⟨0,Nat.zero_le _,rfl,rfl,Below.refl _ _⟩
    case round =>
     obtain ⟨m,hm,rfl,rfl,bi⟩:=hrel
     have BI:=Lib.hid bi;clear bi c30 c31
     have si:=BI.out.size
     have ARi:=Lib.hid (AR.out.keep BI.out hbx)
     have ci0:=ARi.out.cell (k:=0) rfl;have ci1:=ARi.out.cell (k:=1) rfl
     have SRi:=Lib.hid (SR3.out.keep (BI.out.mono (by omega)) (Nat.le_refl _))
     have SVi:Hid (Sv wr w.heap.size bx (.slice Ao acc.length co) acc.length hs iv (RL wr acc)):=Lib.hid (SV3.out.keep BI.out (by omega) (fun _ _ _ _ _ _ q r=>r.keep BI.out (by omega)))
     by_cases hml:m < acc.length
     ·obtain ⟨g3,A3,n3,c3,c03,eA,hg3,hc3,_,_,_,Lm,hLm,rfl,lom⟩:=SVi.out.at_ hml
      simp at eA
      obtain ⟨rfl,rfl⟩:=eA
      have LR:=Lib.hid lom.lrd
      have IT:=Lib.hid (qrm (s:=s) hLm)
      obtain ⟨l26,lsf⟩:=AO.out Lm (List.mem_of_getElem? hLm)
      have LSF:=Lib.hid lsf
      clear hLm lom lsf
      cases hz:isIn (acc.take m) s
      ·rw [hz] at IT
       clear hz
       go_wp2_with fail
       refine (find_spec A3 _ c3 Lm _ s _ _ _ LR.out SRi.out (by omega) (fun y hy=>by have:=LSF.out y hy;have:=this.lr;have:=(LSF.out y hy).lu;omega) (by omega) (by omega)).mono ?_
       rintro e w4 ⟨rfl,b4⟩
       have B4:=Lib.hid (BI.out.trans (b4.mono si))
       clear b4
       go_wp2_with fail
       go_roundw
       case rel=>exact ⟨m + 1,by omega,by go_num,by rw [IT.out];simp,B4.out⟩
       case measure=>simp [intOf];omega
      ·rw [hz] at IT
       clear hz
       go_wp2_with fail
       go_roundw
       case rel=>exact ⟨m + 1,by omega,by go_num,by rw [IT.out];simp,BI.out⟩
       case measure=>simp [intOf];omega
     ·obtain rfl:m = acc.length:=by omega
      have EI:acc.take acc.length = acc:=List.take_of_length_le (Nat.le_refl _)
      rw [EI]
      cases hz:isIn acc s
      ·have ES:Hid (y9 acc s = acc ++ [orI s]):=Lib.hid (by unfold y9;rw [hz];rfl)
       clear hz EI AO
       go_wp2_with fail
       refine (qpe _ s.1 s.2 N _ _ SRi.out HS.out).mono ?_
       intro e w5 hp
       unfold qu4 at hp
       obtain ⟨q,hq,ei⟩:=H1.out.orb
       rw [show (s.1,s.2) = s from rfl,hq] at hp
       obtain ⟨v',u',rfl,os⟩:=hp
       obtain ⟨A',ca,B',db,rfl,rfl⟩:=os.forms
       obtain ⟨hs5,bl5,o5,ls5⟩:=os.ex
       obtain ⟨Zq,e1,e2,pk5,_⟩:=Ls.pk ls5
       obtain ⟨oi5,q120⟩:=qin 122 0 _ q (Oi.start HS.out) (by simp) hq
       have hZq:Zq.length = q.1.length:=by rw [<-e1,List.length_map]
       rw [<-e2,<-hZq] at o5
       rw [<-hZq] at pk5
       have O5:=Lib.hid o5;have PK5:=Lib.hid pk5;have EQ:=Lib.hid e1;have EI:=Lib.hid ei
       have OI:=Lib.hid oi5.sf
       have B5:=Lib.hid os.bel
       have s5:=os.bel.size
       have SV5:Hid (Sv w5 w.heap.size bx (.slice Ao acc.length co) acc.length hs iv (RL w5 acc)):=Lib.hid (SVi.out.keep B5.out (by omega) (fun _ _ _ _ _ _ q r=>r.keep B5.out (by omega)))
       have B35:=Lib.hid (BI.out.trans (B5.out.mono si))
       rw [<-hZq]
       clear os ls5 o5 pk5 e1 e2 hq ei oi5 SVi SRi ARi ci0 ci1 BI AR SR3 SV3
       have ST5:Hid (∃ W,W = w5.alloc (.cells #[] 32)/\Below w5.heap.size w5 W/\W.heap.size = w5.heap.size + 1/\W.heap[w5.heap.size]? = some (.cells #[] 32 (0,0))):=Lib.hid ⟨_,rfl,(Below.refl _ _).alloc (Nat.le_refl _) _,by simp,heap_alloc_last w5 _⟩
       go_wp2_with fail
       obtain ⟨w6,eW,b6,s6,hh6⟩:=ST5.out
       rw [<-eW]
       have O6:Hid (w6.ownsRow w5.heap.size 32 2 (.slice (some ⟨w5.heap.size,0,none⟩) 0 0) 0 (qbs [])):=Lib.hid ⟨rfl,.inr ⟨w5.heap.size,0,#[],rfl,Nat.le_refl _,hh6,Nat.le_refl _,by unfold maxLen;omega,rfl,rfl⟩⟩
       have B6:=Lib.hid b6
       have P6:Hid (Pk w6 wr.heap.size w5.heap.size (fun b=>(Value.slice A' Zq.length ca).ownBlock = some b\/(Value.slice B' q.2.length db).ownBlock = some b) ([] ++ Zq.drop 0)):=Lib.hid (PK5.out.keep (by omega) (fun b _ h _=>b6.block b h))
       clear eW b6 hh6 ST5
       obtain ⟨wm,rfl⟩:∃ wm:World,wm = wr:=⟨_,rfl⟩
       go_loopw [12,50] (fun vo i wi=>∃ (j bo:Nat) (Y:List Item),j<=Zq.length/\i = .int .i64 j/\w5.heap.size<=bo/\wi.ownsRow bo 32 2 vo Y.length (qbs Y)/\Y.map sOf = qhp [] (q.1.take j)/\Pk wi wm.heap.size w5.heap.size (fun b=>(Value.slice A' Zq.length ca).ownBlock = some b\/(Value.slice B' q.2.length db).ownBlock = some b) (Y ++ Zq.drop j)/\Below w5.heap.size w5 wi) (fun _ i _=>Zq.length - (intOf i).toNat)
       case atStart=>exact ⟨0,w5.heap.size,[],Nat.zero_le _,rfl,Nat.le_refl _,O6.out,rfl,P6.out,B6.out⟩
       case round =>
        obtain ⟨j,bo,Y,hj,rfl,hbo,oy,ey,pk,bi⟩:=hrel
        have si6:=bi.size
        obtain ⟨Ay,cy,rfl⟩:=mem.za oy
        have yl:Y.length<=j:=by
         have e1:Y.length = (qhp [] (q.1.take j)).length:=by rw [<-ey,List.length_map]
         have e2:=qnq (q.1.take j) []
         rw [List.length_take] at e2;simp at e2;omega
        have YS:Hid (∀ y ∈ Y,Sf N (sOf y).1 (sOf y).2):=Lib.hid (fun y hy=>qyv (n:=N) (q.1.take j) [] (fun y hy=>by simp at hy) (fun x hx=>OI.out x (List.mem_of_mem_take hx)) _ (by rw [<-ey];exact List.mem_map_of_mem hy))
        have OY:=Lib.hid oy;have EY:=Lib.hid ey;have BI:=Lib.hid bi
        by_cases hjl:j < Zq.length
        ·obtain ⟨zq,hzq⟩:∃ zq,Zq[j]? = some zq:=⟨_,List.getElem?_eq_getElem hjl⟩
         obtain ⟨g7,off7,rfl,hg7,q0,q1⟩:=qm9 O5.out rfl hzq
         have DR:Zq.drop j = zq :: Zq.drop (j + 1):=by
          rw [List.drop_eq_getElem_cons hjl]
          rw [List.getElem?_eq_getElem hjl] at hzq
          rw [Option.some.inj hzq]
         rw [DR] at pk
         have PKw:Pk wr wm.heap.size w5.heap.size (fun b=>(Value.slice (some ⟨g7,off7,none⟩) Zq.length ca).ownBlock = some b\/(Value.slice B' q.2.length db).ownBlock = some b) Zq:=PK5.out.keep si6 (fun b _ h _=>bi.block b h)
         obtain ⟨P7,c7,Q7,d7,ep,srd⟩:=PKw.srd (List.mem_of_getElem? hzq)
         have hq1:q.1[j]? = some (sOf zq):=by rw [<-EQ.out,List.getElem?_map,hzq];rfl
         have TK:Hid (qhp [] (q.1.take (j + 1)) = qbe (Y.map sOf) (sOf zq) false):=Lib.hid (by rw [qj5 hq1,ey])
         have HS7:=Lib.hid (OI.out _ (List.mem_of_getElem? hq1))
         have hc0:wr.cell? ⟨g7,off7 + j * 2,none⟩ = some (.slice P7 (sOf zq).1.length c7):=by
          rw [World.cell?_of_block (w:=w5) (a:=⟨g7,off7 + j * 2,none⟩) (bi.block g7 hg7),q0,ep]
         have hc1:wr.cell? ⟨g7,off7 + j * 2 + 1,none⟩ = some (.slice Q7 (sOf zq).2.length d7):=by
          rw [World.cell?_of_block (w:=w5) (a:=⟨g7,off7 + j * 2 + 1,none⟩) (bi.block g7 hg7),q1,ep]
         obtain ⟨zb,hd7,sz⟩:=zq
         have ep':hd7 = (.slice P7 sz.1.length c7,.slice Q7 sz.2.length d7):=ep
         subst ep'
         have l1:sz.1.length = N:=HS7.out.lr
         have l2:sz.2.length = N:=HS7.out.lu
         have hc0':wr.cell? ⟨g7,off7 + j * 2,none⟩ = some (.slice P7 N c7):=by rw [hc0];show some (Value.slice P7 sz.1.length c7) = _;rw [l1]
         have hc1':wr.cell? ⟨g7,off7 + j * 2 + 1,none⟩ = some (.slice Q7 N d7):=by rw [hc1];show some (Value.slice Q7 sz.2.length d7) = _;rw [l2]
         rw [l1,l2] at pk
         have PR:=Lib.hid pk
         clear hc0 hc1 q0 q1 hzq hq1 ep srd PKw DR pk oy ey bi
         have ST7:Hid (∃ W,W = wr.alloc (.cells #[.slice P7 N c7,.slice Q7 N d7] 32)/\Below wr.heap.size wr W):=Lib.hid ⟨_,rfl,(Below.refl _ _).alloc (Nat.le_refl _) _⟩
         go_wp2_with fail
         obtain ⟨w7,eW,b7⟩:=ST7.out
         rw [<-eW]
         have s7:=b7.size
         have OY7:=Lib.hid (qg OY.out (fun b e=>b7.block b (OY.out.lt b e).2))
         have PR7:=Lib.hid (PR.out.keep (Nat.le_trans (Nat.le_refl _) s7) (fun b _ h _=>b7.block b (by omega)))
         have B7:=Lib.hid (BI.out.trans (b7.mono si6))
         clear eW b7 ST7 OY PR BI hc0' hc1'
         refine (qna _ _ _ Y zb P7 Q7 c7 d7 N _ _ _ sz _ _ OY7.out rfl (by omega) PR7.out.q3i ⟨HS7.out,YS.out⟩).mono ?_
         rintro e w8 ⟨v8,rfl,io⟩
         have IO:=Lib.hid io
         have PR8:=Lib.hid (PR7.out.q4j.keep io.bel.size (fun b _ h _=>io.bel.block b (by omega)))
         have B8:=Lib.hid (B7.out.trans (io.bel.mono (by omega)))
         clear io PR7 OY7 B7
         go_wp2_with fail
         go_roundw
         case rel=>exact ⟨j + 1,w7.heap.size,qm7 (zb,(.slice P7 N c7,.slice Q7 N d7),sz) Y,by omega,by go_num,by omega,IO.out.own,by rw [qm8,TK.out];rfl,PR8.out,B8.out⟩
         case measure=>simp [intOf];omega
        ·obtain rfl:j = Zq.length:=by omega
         have EY2:Y.map sOf = orI s:=by rw [EY.out,hZq,List.take_of_length_le (Nat.le_refl _),EI.out]
         have hyl:Y.length = (orI s).length:=by rw [<-EY2,List.length_map]
         have LO:Hid (Lo wr wm.heap.size wr.heap.size (.slice Ay (orI s).length cy) (orI s)):=Lib.hid (by
          rw [hyl] at oy
          refine ⟨qbs Y,qt9 Y,⟨oy.1,?_⟩,?_,fun b e=>(oy.lt b e).2⟩
          ·rcases oy.2 with z | ⟨g,cap,cur,z1,z2,z3⟩
           ·exact .inl z
           ·exact .inr ⟨g,cap,cur,z1,by omega,z3⟩
          ·have L:=(pk.sub.to (lo':=wm.heap.size) (hi':=wr.heap.size) (ex':=fun b=>(Value.slice Ay (orI s).length cy).ownBlock = some b) (Nat.le_refl _) si6 (Nat.le_refl _) (fun b _ hb _ e=>by have:=(oy.lt b e).1;omega)).ls
           rw [EY2] at L
           exact L)
         have SV6:Hid (Sv wr w.heap.size bx (.slice Ao acc.length co) acc.length hs iv (RL wr acc)):=Lib.hid (SV5.out.keep bi (by omega) (fun _ _ _ _ _ _ q r=>r.keep bi (by omega)))
         have OA:Hid ((wr.alloc (.cells #[.slice Ay (orI s).length cy] 28)).ownsRow w.heap.size 28 1 (.slice Ao acc.length co) acc.length hs):=Lib.hid (SV6.out.own.alloc _)
         have HN:Hid (∀ (j:Nat) u,[Value.slice Ay (orI s).length cy][j]? = some u->(wr.alloc (.cells #[.slice Ay (orI s).length cy] 28)).cell? ((⟨wr.heap.size,0,none⟩:Addr).add j) = some u):=Lib.hid (World.news_of_block (Arr.new wr _ _ rfl))
         have V1:Hid (∀ u ∈ [Value.slice Ay (orI s).length cy],u.oneCell' = true):=Lib.hid (by
          intro u hu
          simp at hu
          rw [hu];rfl)
         have h63:acc.length + 1<=maxLen:=by unfold maxLen;omega
         have hby:(acc.length + 1) * 24<=140737488355328:=by omega
         have hba:w.heap.size<=(wr.alloc (.cells #[.slice Ay (orI s).length cy] 28)).heap.size:=by simp;omega
         have BQ:Hid (Below bx wq wr):=Lib.hid (B3.out.trans ((B35.out.trans (bi.mono (by omega))).mono s3))
         rw [hyl]
         clear oy ey pk bi OY EY EY2 BI YS PK5 O5 EQ OI
         go_wp2_with (at_builtin;refine wpList_append_lies (wr.alloc (.cells #[.slice Ay (orI s).length cy] 28)) rfl _ _ 22 rfl w.heap.size 28 i0 _ 1 24 sqp.underlying22 hi0 hz0 hz1 hz2 zc (by decide) _ acc.length hs rfl OA.out ⟨wr.heap.size,0,none⟩ 1 1 [.slice Ay (orI s).length cy] rfl rfl HN.out V1.out (by decide) h63 hby hba (wr.heap.size + 1) (by simp) ?_)
         intro g8 cap8 w8 ho8 hg8 hb8 hl8
         have bA:Below wr.heap.size wr (wr.alloc (.cells #[.slice Ay (orI s).length cy] 28)):=(Below.refl _ _).alloc (Nat.le_refl _) _
         have zA:(wr.alloc (.cells #[.slice Ay (orI s).length cy] 28)).heap.size = wr.heap.size + 1:=by simp
         obtain ⟨iv',sv',_⟩:=SV6.out.push (l:=wm.heap.size) (u:=wr.heap.size) (by omega) (by omega) (by omega) (Nat.le_refl _) LO.out bA ho8 hg8 (by rw [zA];exact hb8)
         have SV8:=Lib.hid sv'
         have VB8:Hid (∀ b,(Value.slice (some ⟨g8,0,none⟩) (acc.length + 1) cap8).ownBlock = some b->b = w.heap.size\/w2.heap.size<=b):=Lib.hid (fun b e=>by
          have e':g8 = b:=by simpa [Value.ownBlock] using e
          rcases hb8 with z | z
          ·exact VB.out b (by rw [z,e'])
          ·exact .inr (by omega))
         have z8:=hg8.size
         have sQ:=BQ.out.size
         have HO8:Hid (Out w.heap.size (w.heap.size + 1) w2 w8):=Lib.hid ⟨hg8.os.trans (bA.os.trans (BQ.out.os.trans HO.out.os)),hg8.tape.trans (bA.tape.trans (BQ.out.tape.trans HO.out.tape)),hg8.output.trans (bA.output.trans (BQ.out.output.trans HO.out.output)),by omega,fun b q1 q2=>by
          by_cases hbv:(Value.slice Ao acc.length co).ownBlock = some b
          ·rcases VB.out b hbv with z | z <;> omega
          ·exact (hg8.block b (by omega) (fun e=>hbv e.symm)).trans ((bA.block b (by omega)).trans ((BQ.out.block b (by omega)).trans (HO.out.block b q1 q2)))⟩
         clear ho8 hg8 hb8 hl8 bA sv' OA HN V1 LO SV6 SV5
         go_wp2_with fail
         go_roundw
         case rel=>exact ⟨k + 1,hs ++ [.slice Ay (orI s).length cy],iv',by omega,by go_num,by rw [ET.out,ES.out];exact SV8.out,by rw [ET.out,ES.out];simp;omega,VB8.out,HO8.out⟩
         case measure=>simp [intOf];omega
      ·have ES:Hid (y9 acc s = acc):=Lib.hid (by unfold y9;rw [hz];rfl)
       clear hz EI
       go_wp2_with fail
       go_roundw
       case rel=>exact ⟨k + 1,hs,iv,by omega,by go_num,by rw [ET.out,ES.out];exact SVi.out.wider (by omega) (Nat.le_refl _),by rw [ET.out,ES.out];omega,VB.out,HO.out.trans (Out.of_below (by rw [hwrs];exact B3.out.trans (BI.out.mono (by omega))))⟩
       case measure=>simp [intOf];omega
   ·obtain rfl:k = Z.length:=by omega
    have HE:Hid ((Z.take Z.length).map sOf = Z.map sOf):=Lib.hid (by rw [List.take_of_length_le (Nat.le_refl _)])
    rw [HE.out,EZ.out] at SV ⊢
    go_wp2_with fail
    go_ret
    have hb:=B2.out.trans (HO.out.below (Nat.le_refl _) (by have:=B2.out.size;omega))
    refine ⟨_,rfl,⟨hs,iv,SV.out⟩,hb⟩
 ·have HF:=Lib.hid (qrl hr)
  go_enter sqp.func4,sqp.ntmps4
  go_wp2_with (go_at_call 9;refine (permOk.qzg _ _ _ _ (by omega)).mono ?_;rintro e w' ⟨rfl,rfl⟩)
  go_ret
  exact ⟨_,rfl,by rw [HF.out];exact Slo.nil _ _ _ (Nat.le_refl _),Below.refl _ _⟩
end Go.Proofs.Ytcdclihinmdgiaa.lst

namespace Go.Proofs.Ytcdclihinmdgiaa.lp
open Go.ChangeShapes Go.WideShapes Go.ChangeAt Go.RowKit
open mem ints arr pm sf gl
set_option linter.unusedVariables false
set_option maxRecDepth 100000
section
variable {P:Program}
theorem qan (w:World) (g off:Nat) (ty:TypeId) (cs:List Value) (d:TypeDesc) (hc:∀ (j:Nat) v,cs[j]? = some v->w.cell? ⟨g,off + j,none⟩ = some v)
  (hu:P.underlying ty = some d) (hd:(match d with | .struct _ | .array _ _=>true | _=>false) = true) (hi:(P.info? ty).map (·.size) = some cs.length) :
  (loadVar ty ⟨g,off,none⟩).run P w = .ok (.agg cs.toArray) w:=by
 have hl:(loadCells ⟨g,off,none⟩ cs.length).run P w = .ok cs.toArray w :=
  run_loadCells_list (P:=P) w ⟨g,off,none⟩ cs (fun j v hv=>by
   have hadd:(⟨g,off,none⟩:Addr).add j = ⟨g,off + j,none⟩:=by unfold Addr.add;split <;> simp_all
   rw [hadd]
   exact hc j v hv)
 cases hq:P.info? ty with
 | none=>simp [hq] at hi
 | some i =>
  have hs:i.size = cs.length:=by simpa [hq] using hi
  have hagg:(isAgg ty).run P w = .ok true w:=by
   unfold isAgg
   rw [Sem.run_bind,run_underlying hu w]
   cases d <;> simp_all
  simp [loadVar,Sem.run_bind,hagg,sizeOf,typeInfo,hq,hs,hl]
theorem qz {ops:Array Oper} {rest:List Oper} {o:Oper} {a:Act} {w:World} {Q:Exit->Act->World->Prop} (hgd:o.guard = none) (ty:TypeId) (x:Operand) (ho:o.op = .load ty x)
  (g off:Nat) (hx:a.eval x = .pointer (some ⟨g,off,none⟩)) (cs:List Value) (d:TypeDesc) (hc:∀ (j:Nat) v,cs[j]? = some v->w.cell? ⟨g,off + j,none⟩ = some v)
  (hu:P.underlying ty = some d) (hd:(match d with | .struct _ | .array _ _=>true | _=>false) = true) (hi:(P.info? ty).map (·.size) = some cs.length)
  (h:wpList P ops Q rest (a.put o.dst (.agg cs.toArray)) w):wpList P ops Q (o :: rest) a w:=by
 refine wpList_plain hgd fun _ hK=>?_
 unfold Oper.wp execOp
 simp only [ho,hx,Instr.loadAt,Instr.sureAddr,Sem.run_bind,Sem.run_pure,Result.andThen_ok,qan w g off ty cs d hc hu hd hi]
 exact hK _ _ h
end
end Go.Proofs.Ytcdclihinmdgiaa.lp

namespace Go.Proofs.Ytcdclihinmdgiaa.wd
open Go.ChangeShapes Go.WideShapes Go.ChangeAt Go.RowKit
open mem
set_option linter.unusedVariables false
set_option maxRecDepth 100000
section
variable {P:Program}
theorem qcv (w:World) (dT sT ty elem:TypeId) (sz g o dLen dCap:Nat) (a:Addr) (sLen sCap k:Nat) (cur:Array Value) (t:TypeId) (cs:List Value)
  (hu:P.underlying dT = some (.slice elem)) (hs:(P.info? elem).map (·.size) = some sz)
  (hg:w.heap[g]? = some (.cells cur t (0,0))) (hk:Nat.min sLen dLen = k) (hn:cs.length = k * sz)
  (hsrc:∀ (j:Nat) v,cs[j]? = some v->w.cell? (a.add j) = some v) (hfit:o + cs.length<=cur.size) (h1:∀ v ∈ cs,v.oneCell' = true) :
  (Builtin.copy_ #[dT,sT] ty #[.slice (some ⟨g,o,none⟩) dLen dCap,.slice (some a) sLen sCap]).run P w =
   .ok (goInt k) (w.setRow g (cur.toList.take o ++ cs ++ cur.toList.drop (o + cs.length)).toArray):=by
 have hl:=run_loadCells_list (P:=P) w a cs hsrc
 have hst:=run_storeCells_at P g o t cs 0 cur w hg (by simpa using hfit) h1
 cases hq:P.info? elem with
 | none=>simp [hq] at hs
 | some i =>
  have hi:i.size = sz:=by simpa [hq] using hs
  simp [Builtin.copy_,run_underlying hu,Builtin.lenOf,Builtin.firstCells,sizeOf,typeInfo,hq,hi,hk,<-hn,hl,hst]
theorem qbb (w:World) {ops:Array Oper} {rest:List Oper} {o:Oper} {a:Act} {Q:Exit->Act->World->Prop} (hgd:o.guard = none) (d s:Operand) (t t':TypeId)
  (ho:o.op = .call { callee:=.builtin .copy,args:=#[d,s],argTypes:=#[t,t'] }) (v u:Value) (hd:a.eval d = v) (hs:a.eval s = u) {v':Value} {w':World}
  (hr:(Builtin.copy_ #[t,t'] o.type #[v,u]).run P w = .ok v' w') (h:wpList P ops Q rest (a.put o.dst v') w'):wpList P ops Q (o :: rest) a w:=by
 refine wpList_plain hgd fun _ hK=>?_
 unfold Oper.wp execOp
 simp only [ho,resolve,invoke,builtin,Sem.run_bind,Sem.run_pure,Result.andThen_ok,List.map_toArray,List.map_cons,List.map_nil,hd,hs,hr]
 exact hK _ _ h
theorem qe2 {ops:Array Oper} {o:Oper} {a:Act} {w:World} {K:Act->World->Prop} {Q:Exit->Act->World->Prop} {E:Prop}
  (hg:o.guard = none) (d x:Operand) (dT sT:TypeId) (hop:o.op = Op.call { callee:=Callee.builtin Builtin.copy,args:=#[d,x],argTypes:=#[dT,sT] })
  (v u:Value) (hd:a.eval d = v) (hx:a.eval x = u) {v':Value} {w':World} (hr:(Builtin.copy_ #[dT,sT] o.type #[v,u]).run P w = .ok v' w') (hK:K (a.put o.dst v') w') :
  if Region.wanted o (yielded ops a.tmps) = true then Oper.wp P o a w K Q else E:=by
 have hw:Region.wanted o (yielded ops a.tmps) = true:=by simp [Region.wanted,hg]
 rw [if_pos hw]
 unfold Oper.wp
 simp [execOp,hop,resolve,invoke,builtin,hd,hx,hr,Result.andThen]
 exact hK
theorem y8 (zs:Array Value) (n:Nat):(Builtin.zeroCells zs n).size = n * zs.size:=by simp [Builtin.zeroCells]
theorem qh8 {zs:Array Value} (h1:∀ v ∈ zs,v.oneCell' = true) (n:Nat):∀ v ∈ (Builtin.zeroCells zs n).toList,v.oneCell' = true:=by
 intro v hv
 unfold Builtin.zeroCells at hv
 simp only [Array.toList_map,List.mem_map] at hv
 obtain ⟨i,hi,rfl⟩:=hv
 have hi':i < n * zs.size:=by simpa using hi
 have hz:0 < zs.size:=by
  rcases Nat.eq_zero_or_pos zs.size with q | q
  ·rw [q] at hi';omega
  ·exact q
 have hm:i % zs.size < zs.size:=Nat.mod_lt _ hz
 rw [getElem!_pos zs (i % zs.size) hm]
 exact h1 _ (Array.getElem_mem hm)
theorem qln (w:World) (t e ty:TypeId) (z:Value) (ht:P.underlying t = some (.slice e)) (hz:(P.info? e).map (·.zero) = some (some z)) (h1:∀ v ∈ z.cells,v.oneCell' = true)
  (g o n c:Nat) (hn:0 < n) (cur:Array Value) (ct:TypeId) (hg:w.heap[g]? = some (.cells cur ct (0,0))) (hfit:o + n * z.cells.size<=cur.size) :
  (Builtin.clear_ #[t] ty #[.slice (some ⟨g,o,none⟩) n c]).run P w = .ok (.tuple #[]) (w.setRow g (cur.toList.take o ++ (Builtin.zeroCells z.cells n).toList ++ cur.toList.drop (o + n * z.cells.size)).toArray):=by
 have hst:=run_storeCells_at P g o ct (Builtin.zeroCells z.cells n).toList 0 cur w hg (by simp [y8];exact hfit) (qh8 h1 n)
 simp only [Array.length_toList,y8,Nat.add_zero] at hst
 have hv:(zeroValue e).run P w = .ok z w:=by
  cases hq:P.info? e with
  | none=>simp [hq] at hz
  | some i =>
   have:i.zero = some z:=by simpa [hq] using hz
   simp [zeroValue,typeInfo,hq,this]
 obtain ⟨m,rfl⟩:∃ m,n = m + 1:=⟨n - 1,by omega⟩
 simp [Builtin.clear_,run_underlying ht,hv,hst]
theorem qdh (w:World) (t e ty:TypeId) (ht:P.underlying t = some (.slice e)) (a:Option Addr) (c:Nat):(Builtin.clear_ #[t] ty #[.slice a 0 c]).run P w = .ok (.tuple #[]) w:=by
 cases a <;> simp [Builtin.clear_,run_underlying ht]
theorem qci (w:World) {ops:Array Oper} {rest:List Oper} {o:Oper} {a:Act} {Q:Exit->Act->World->Prop} (hgd:o.guard = none) (s:Operand) (t:TypeId)
  (ho:o.op = .call { callee:=.builtin .clear,args:=#[s],argTypes:=#[t] }) (v:Value) (hs:a.eval s = v) {v':Value} {w':World}
  (hr:(Builtin.clear_ #[t] o.type #[v]).run P w = .ok v' w') (h:wpList P ops Q rest (a.put o.dst v') w'):wpList P ops Q (o :: rest) a w:=by
 refine wpList_plain hgd fun _ hK=>?_
 unfold Oper.wp execOp
 simp only [ho,resolve,invoke,builtin,Sem.run_bind,Sem.run_pure,Result.andThen_ok,List.map_toArray,List.map_cons,List.map_nil,hs,hr]
 exact hK _ _ h
end
end Go.Proofs.Ytcdclihinmdgiaa.wd
