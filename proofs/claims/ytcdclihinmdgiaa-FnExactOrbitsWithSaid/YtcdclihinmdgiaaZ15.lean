import Derived.Test.YtcdclihinmdgiaaZ14
import Derived.Test.YtcdclihinmdgiaaZ09
import Derived.Test.YtcdclihinmdgiaaZ04
namespace Go.Proofs.Ytcdclihinmdgiaa.lst
open Go.ChangeShapes Go.WideShapes Go.ChangeAt Go.RowKit
open mem ints arr pm sf orb
set_option linter.unusedVariables false
set_option maxRecDepth 100000
theorem qcw:∀ (L:List Sur) (s:Sur) (d:Bool) (y:Sur),y ∈ qbe L s d->y ∈ L\/y = s
 | [],s,d,y,h=>by
  cases d
  ·exact .inr (by simpa [qbe] using h)
  ·simp [qbe] at h
 | x :: t,s,d,y,h=>by
  rw [qbe] at h
  split at h
  ·rcases List.mem_cons.1 h with q | q
   ·exact .inr q
   rcases List.mem_cons.1 q with q | q
   ·exact .inl (q ▸ List.mem_cons_self ..)
   ·rcases qcw t s _ y q with q | q
    ·exact .inl (List.mem_cons_of_mem _ q)
    ·exact .inr q
  ·rcases List.mem_cons.1 h with q | q
   ·exact .inl (q ▸ List.mem_cons_self ..)
   ·rcases qcw t s _ y q with q | q
    ·exact .inl (List.mem_cons_of_mem _ q)
    ·exact .inr q
theorem qfe:∀ (L:List Sur) (s:Sur) (d:Bool),(qbe L s d).length<=L.length + (if d then 0 else 1)
 | [],s,d=>by cases d <;> simp [qbe]
 | x :: t,s,d=>by
  rw [qbe]
  split
  ·rename_i h
   have hd:d = false:=by cases d <;> simp_all
   subst hd
   have:=qfe t s true
   simp at this ⊢
   omega
  ·have:=qfe t s (d || decide (x = s))
   cases d
   ·simp at this ⊢
    split at this <;> omega
   ·simp at this ⊢
    omega
theorem qnd (n:Nat) (acc:List Sur) (r u:List Int):(qm4 n acc r u).length<=acc.length + 1:=by
 unfold qm4
 split
 ·have:=qfe acc (can r u n) false
  simpa using this
 ·omega
theorem qx4 {n:Nat} {acc:List Sur} {r u:List Int} (hr:r.length = n) (h:∀ y ∈ acc,Sf n y.1 y.2):∀ y ∈ qm4 n acc r u,Sf n y.1 y.2:=by
 unfold qm4
 split
 ·rename_i ht
  have s:=ku.1 ht
  rw [hr] at s
  obtain ⟨_,_,q⟩:=s.qmd
  intro y hy
  rcases qcw _ _ _ _ hy with e | rfl
  ·exact h y e
  ·exact q
 ·exact h
theorem qjq {n a:Nat} {acc:List Sur} {r u:List Int} {U:List (List Int)} (h:U[a]? = some u):rowP n acc r (U.take (a + 1)) = qm4 n (rowP n acc r (U.take a)) r u:=by
 rw [List.take_add_one,h]
 simp [rowP]
theorem qjr {n a:Nat} {acc:List Sur} {r:List Int} {R U:List (List Int)} (h:R[a]? = some r):qjj n acc (R.take (a + 1)) U = rowP n (qjj n acc (R.take a) U) r U:=by
 rw [List.take_add_one,h]
 simp [qjj]
structure Sx (w wr:World) (vo:Value) (n:Nat) (acc:List Sur):Prop where
 ex:∃ Z:List Item,Z.map sOf = acc/\wr.ownsRow w.heap.size 32 2 vo Z.length (qbs Z)/\Pk wr w.heap.size wr.heap.size (fun b=>vo.ownBlock = some b) Z
 sf:∀ y ∈ acc,Sf n y.1 y.2
 bel:Below w.heap.size w wr
theorem Sx.keep {w wr w':World} {vo:Value} {n:Nat} {acc:List Sur} (h:Sx w wr vo n acc) (hb:Below wr.heap.size wr w'):Sx w w' vo n acc:=by
 obtain ⟨Z,e,o,p⟩:=h.ex
 exact ⟨⟨Z,e,qg o (fun b q=>hb.block b (o.lt b q).2),(p.keep hb.size (fun b _ q _=>hb.block b q)).to (Nat.le_refl _) hb.size (Nat.le_refl _) (fun _ _ _ q=>q)⟩,h.sf,h.bel.trans (hb.mono h.bel.size)⟩
theorem Sx.form {w wr:World} {vo:Value} {n:Nat} {acc:List Sur} (h:Sx w wr vo n acc):∃ A c,vo = .slice A acc.length c:=by
 obtain ⟨Z,e,o,p⟩:=h.ex
 obtain ⟨A,c,q⟩:=mem.za o
 exact ⟨A,c,by rw [q,<-e,List.length_map]⟩
theorem Sx.lo {w wr:World} {vo:Value} {n:Nat} {acc:List Sur} (h:Sx w wr vo n acc):Lo wr w.heap.size wr.heap.size vo acc:=by
 obtain ⟨Z,e,o,p⟩:=h.ex
 subst e
 exact ⟨qbs Z,qt9 Z,by rw [List.length_map];exact o,p.ls,fun b q=>(o.lt b q).2⟩
theorem Svl.q0x {w:World} {lo hi N:Nat} {v:Value} {r u:List Int} (h:Svl w lo hi v r u) (e1:r.length = N) (e2:u.length = N):∃ P c Q d,v = .agg #[.slice P N c,.slice Q N d]:=by
 obtain ⟨P,n,c,Q,m,d,l1,h1,l2,h2,e,a,b,_⟩:=h
 have q1:r.length = n:=by simpa [V] using a.1
 have q2:u.length = m:=by simpa [V] using b.1
 subst e1
 subst q1
 have q3:m = r.length:=by omega
 subst q3
 exact ⟨P,c,Q,d,e⟩
theorem Sx.join {w wr w2 w3:World} {vo:Value} {n c d:Nat} {acc:List Sur} {P Q:Option Addr} {s:Sur} (h:Sx w wr vo n acc) (b2:Below wr.heap.size wr w2) (b3:Below w2.heap.size w2 w3)
  (hx:Svl w3 w2.heap.size w3.heap.size (.agg #[.slice P n c,.slice Q n d]) s.1 s.2) (hn:0 < n) :
  ∃ (Z:List Item) (zb:Nat × Nat),Z.map sOf = acc/\Z.length = acc.length/\w3.ownsRow w.heap.size 32 2 vo acc.length (qbs Z)/\Pk w3 w.heap.size w3.heap.size (fun b=>vo.ownBlock = some b) ((zb,(.slice P n c,.slice Q n d),s) :: Z)/\∀ y ∈ Z,Sf n (sOf y).1 (sOf y).2:=by
 obtain ⟨Z,e,o,p⟩:=h.ex
 have s2:=b2.size;have s3:=b3.size;have s0:=h.bel.size
 have b13:Below wr.heap.size wr w3:=b2.trans (b3.mono s2)
 have p3:Pk w3 w.heap.size w2.heap.size (fun b=>vo.ownBlock = some b) Z:=(p.keep (by omega) (fun b _ q _=>b13.block b q)).to (Nat.le_refl _) s2 s3 (fun _ _ _ q=>q)
 obtain ⟨zb,pz⟩:=p3.cons (lo:=w.heap.size) (hi':=w3.heap.size) hx hn hn (by omega) s3 (Nat.le_refl _) (fun b q _ e=>by have:=(o.lt b e).2;omega)
 have el:Z.length = acc.length:=by rw [<-e,List.length_map]
 refine ⟨Z,zb,e,el,?_,pz,fun y hy=>h.sf _ (by rw [<-e];exact List.mem_map_of_mem hy)⟩
 rw [<-el]
 exact qg o (fun b q=>b13.block b (o.lt b q).2)
theorem Sx.put {w wr w1 w2:World} {vo v:Value} {n:Nat} {acc:List Sur} {hd:Value × Value} {r u:List Int} (h:Sx w wr vo n acc) (hb:Below wr.heap.size wr w1)
  (ht:zh r u = true) (hr:r.length = n) {Z:List Item} (hZ:Z.map sOf = acc) {zb:Nat × Nat} (hp:Pk w1 w.heap.size w1.heap.size (fun b=>vo.ownBlock = some b) ((zb,hd,can r u n) :: Z))
  (io:Io w1 w2 v (qm7 (zb,hd,can r u n) Z)):Sx w w2 v n (qm4 n acc r u):=by
 have e1:qm4 n acc r u = qbe acc (can r u n) false:=by unfold qm4;rw [if_pos ht]
 have ho:w.heap.size<=w1.heap.size:=Nat.le_trans h.bel.size hb.size
 have b2:Below w.heap.size w w2:=(h.bel.trans (hb.mono h.bel.size)).trans (io.bel.mono ho)
 refine ⟨⟨qm7 (zb,hd,can r u n) Z,by rw [qm8,e1,hZ];rfl,?_,?_⟩,qx4 hr h.sf,b2⟩
 ·have:=io.own
  refine ⟨this.1,?_⟩
  rcases this.2 with q | ⟨g,cap,cur,q1,q2,q3⟩
  ·exact .inl q
  ·exact .inr ⟨g,cap,cur,q1,Nat.le_trans ho q2,q3⟩
 ·have p1:=(hp.keep io.bel.size (fun b _ q _=>io.bel.block b q)).ins
  exact p1.to (Nat.le_refl _) io.bel.size (Nat.le_refl _) (fun b _ q _ e=>by have:=(io.own.lt b e).1;omega)
theorem Sx.start (w:World) (n:Nat):Sx w (w.alloc (.cells #[] 32)) (.slice (some ⟨w.heap.size,0,none⟩) 0 0) n []:=by
 refine ⟨⟨[],rfl,⟨rfl,.inr ⟨w.heap.size,0,#[],rfl,Nat.le_refl _,heap_alloc_last w _,Nat.le_refl _,by unfold maxLen;omega,rfl,rfl⟩⟩,Pk.nil _ _ _ _ (Nat.le_refl _)⟩,fun y hy=>by simp at hy,(Below.refl _ _).alloc (Nat.le_refl _) _⟩
theorem Rl.at_ {w:World} {B:Nat} {A:Option Addr} {L:List (List Int)} (h:Rl w B A L) (hl:0 < L.length) :
  ∃ G off,A = some ⟨G,off,none⟩/\G < B/\∀ (a:Nat) (p:List Int),L[a]? = some p->∃ g o c,w.cell? ⟨G,off + a,none⟩ = some (.slice (some ⟨g,o,none⟩) p.length c)/\p.length<=c/\Rd w B (some ⟨g,o,none⟩) p.length (V p):=by
 obtain ⟨G,off,g,o,c,e,hG,_⟩:=h.2 0 _ (List.getElem?_eq_getElem hl)
 refine ⟨G,off,e,hG,fun a p hp=>?_⟩
 obtain ⟨G',off',g',o',c',e',_,h1,h2,h3⟩:=h.2 a p hp
 rw [e] at e'
 injection e' with e'
 injection e' with q1 q2
 subst q1;subst q2
 exact ⟨g',o',c',h1,h2,h3⟩
def qqr (n:Int) (L:List Sur) (w:World) (e:Ending) (w':World):Prop:=∃ v,e = .returned v/\Sx w w' v n.toNat L
theorem Sx.nil {w w':World} (n:Nat) (hb:Below w.heap.size w w'):Sx w w' (.slice none 0 0) n [] :=
 ⟨⟨[],rfl,⟨rfl,.inl ⟨rfl,rfl⟩⟩,Pk.nil _ _ _ _ (Nat.le_refl _)⟩,fun y hy=>by simp at hy,hb⟩
theorem qqs {n:Int} (h:¬ (1<=n/\n<=4)):swF n = []:=if_neg h
theorem qqt {n:Nat} (h1:1<=n) (h2:n<=4):swF (n:Int) = qjj n [] (qfr n n) (qfr n n):=by
 unfold swF swL
 rw [if_pos (by omega)]
 rfl
theorem qx5 {w wr:World} {vo:Value} {n:Nat} {acc L:List Sur} (h:Sx w wr vo n acc) (e:acc = L):qqr (n:Int) L w (.returned vo) wr:=by
 subst e
 exact ⟨vo,rfl,h⟩
theorem qx6 {n:Int} {L:List Sur} {w w':World} (h:L = []) (hb:Below w.heap.size w w'):qqr n L w (.returned (.slice none 0 0)) w':=by
 subst h
 exact ⟨_,rfl,Sx.nil _ hb⟩
theorem Sx.push {w wr w1 w6:World} {vo:Value} {n c d g cap:Nat} {acc:List Sur} {P Q:Option Addr} {s:Sur} {Z:List Item} {zb:Nat × Nat} (h:Sx w wr vo n acc) (hb:Below wr.heap.size wr w1) (hs:Sf n s.1 s.2) (hZ:Z.map sOf = acc) (hl:Z.length = acc.length)
  (hp:Pk w1 w.heap.size w1.heap.size (fun b=>vo.ownBlock = some b) ((zb,(.slice P n c,.slice Q n d),s) :: Z))
  (ho:w6.ownsRow w.heap.size 32 2 (.slice (some ⟨g,0,none⟩) (acc.length + 1) cap) (acc.length + 1) (qbs Z ++ [.slice P n c,.slice Q n d])) (hg:(w1.alloc (.cells #[.slice P n c,.slice Q n d] 32)).grownBy w6 vo.ownBlock)
  (hv:∀ b,vo.ownBlock = some b->b < wr.heap.size) (hbg:vo.ownBlock = some g\/g = w1.heap.size + 1):Sx w w6 (.slice (some ⟨g,0,none⟩) (acc.length + 1) cap) n (acc ++ [s]):=by
 have s0:=h.bel.size;have s1:=hb.size
 have bA:Below w1.heap.size w1 (w1.alloc (.cells #[.slice P n c,.slice Q n d] 32)):=(Below.refl _ _).alloc (Nat.le_refl _) _
 have sA:=bA.size;have s6:=hg.size
 have hk:∀ b,w.heap.size<=b->b < w1.heap.size->¬ vo.ownBlock = some b->w6.heap[b]? = w1.heap[b]?:=fun b _ q e=>(hg.block b (by omega) (fun x=>e x.symm)).trans (bA.block b q)
 have p6:=(hp.keep (by omega) hk).perm (show ((zb,(Value.slice P n c,Value.slice Q n d),s) :: Z).Perm (Z ++ [(zb,(Value.slice P n c,Value.slice Q n d),s)]) from List.perm_append_comm (l₁:=[(zb,(Value.slice P n c,Value.slice Q n d),s)]) (l₂:=Z))
 refine ⟨⟨Z ++ [(zb,(.slice P n c,.slice Q n d),s)],by rw [List.map_append,hZ];rfl,?_,?_⟩,fun y hy=>?_,?_⟩
 ·rw [qwz,List.length_append,List.length_singleton,hl]
  exact ho
 ·refine p6.to (Nat.le_refl _) (by omega) (Nat.le_refl _) (fun b b1 b2 e e'=>?_)
  have e2:g = b:=by simpa [Value.ownBlock] using e'
  rcases hbg with q | q
  ·exact e (by rw [q,e2])
  ·omega
 ·rcases List.mem_append.1 hy with q | q
  ·exact h.sf y q
  ·obtain rfl:y = s:=by simpa using q
   exact hs
 ·have b1:=h.bel.trans (hb.mono s0)
  have b2:=b1.trans (bA.mono (by omega))
  exact b2.trans ⟨hg.os,hg.tape,hg.output,hg.size,fun k hk'=>hg.block k (by omega) (fun e=>by have:=hv k e.symm;obtain ⟨Z',_,o,_⟩:=h.ex;have:=(o.lt k e.symm).1;omega)⟩
end Go.Proofs.Ytcdclihinmdgiaa.lst

namespace Go.Proofs.Ytcdclihinmdgiaa.lst
open Go.ChangeShapes Go.WideShapes Go.ChangeAt Go.RowKit
open mem ints arr pm sf orb
set_option linter.unusedVariables false
set_option maxRecDepth 100000
theorem qft (z:Item):∀ (Z acc:List Item) (d:Bool),(Z.foldl (xg z) (acc,d)).1.length<=acc.length + Z.length + (if d then 0 else 1)
 | [],acc,d=>by simp
 | x :: t,acc,d=>by
  rw [List.foldl_cons]
  by_cases h:(!(d || decide (sOf x = sOf z)) && bef (sOf z) (sOf x)) = true
  ·have e:xg z (acc,d) x = (acc ++ [z,x],true):=by simp only [xg,h,if_true]
   have hd:d = false:=by cases d <;> simp_all
   rw [e]
   have:=qft z t (acc ++ [z,x]) true
   subst hd
   simp at this ⊢
   omega
  ·have e:xg z (acc,d) x = (acc ++ [x],d || decide (sOf x = sOf z)):=by
    simp only [xg]
    rw [if_neg h]
   rw [e]
   have:=qft z t (acc ++ [x]) (d || decide (sOf x = sOf z))
   cases d <;> simp at this ⊢
   ·split at this <;> omega
   ·omega
set_option maxHeartbeats 2000000 in
theorem qna (A:Option Addr) (n cL:Nat) (Z:List Item) (zb:Nat × Nat) (P Q:Option Addr) (c d N lo hi b0:Nat) (s:Sur) (ex:Nat->Prop) (w:World) (hl:w.ownsRow b0 32 2 (.slice A n cL) n (qbs Z)) (hn:Z.length = n) (hn2:n<=1000)
  (hp:Pk w lo hi ex ((zb,(.slice P N c,.slice Q N d),s) :: Z)) (hsf:Sf N s.1 s.2/\∀ y ∈ Z,Sf N (sOf y).1 (sOf y).2) :
  Calls sqp.prog 13 #[.slice A n cL,.agg #[.slice P N c,.slice Q N d]] w fun e w'=>∃ v,e = .returned v/\Io w w' v (qm7 (zb,(.slice P N c,.slice Q N d),s) Z):=by
 have HP:=Lib.hid hp;have HS:=Lib.hid hsf.1;have HZ:=Lib.hid hsf.2;have HL:=Lib.hid hl;clear hp hsf hl
 have LZ:=Lib.hid hn;clear hn
 have N24:N<=24:=by have:=HS.out.r.len;rw [HS.out.lr] at this;exact this
 have SS:Hid (Srd w hi (.agg #[.slice P N c,.slice Q N d]) s.1 s.2):=Lib.hid (by
  obtain ⟨P',c',Q',d',e,h⟩:=HP.out.srd (List.mem_cons_self ..)
  have e1:(Value.slice P N c,Value.slice Q N d) = (Value.slice P' s.1.length c',Value.slice Q' s.2.length d'):=e
  rw [Prod.mk.injEq] at e1
  rw [e1.1,e1.2];exact h)
 generalize hz:((zb,(Value.slice P N c,Value.slice Q N d),s):Item) = z at *
 have ZS:Hid (sOf z = s/\z.2.1.1 = .slice P N c/\z.2.1.2 = .slice Q N d):=Lib.hid (by subst hz;exact ⟨rfl,rfl,rfl⟩)
 clear hz
 go_enter sqp.func13,sqp.ntmps13
 go_wp2_with fail
 have ST0:Hid (∃ W,W = ((w.alloc (.cells #[.slice P N c,.slice Q N d] 32)).alloc (.cells #[] 32))/\Io w W (.slice (some ⟨w.heap.size + 1,0,none⟩) 0 0) []/\Bx W (.slice (some ⟨w.heap.size + 1,0,none⟩) 0 0) w.heap.size (.slice P N c,.slice Q N d)):=Lib.hid (by
  refine ⟨_,rfl,⟨⟨rfl,.inr ⟨w.heap.size + 1,0,#[],rfl,by omega,?_,Nat.le_refl _,by unfold maxLen;omega,rfl,rfl⟩⟩,((Below.refl _ _).alloc (Nat.le_refl _) _).alloc (by simp) _⟩,(Arr.new w [.slice P N c,.slice Q N d] 32 rfl).alloc _,?_⟩
  ·have:=heap_alloc_last (w.alloc (.cells #[.slice P N c,.slice Q N d] 32)) (.cells #[] 32)
   simpa using this
  ·simp [Value.ownBlock])
 obtain ⟨w0,eW,bi0,bs0⟩:=ST0.out
 rw [<-eW]
 have BI0:=Lib.hid bi0;have BS0:=Lib.hid bs0;clear bi0 bs0 eW ST0
 go_loopw [5,6,12] (fun vo vd i wr=>∃ k:Nat,k<=n/\i = .int .i64 k/\vd = .bool (qa1 z (Z.take k)).2/\Io w wr vo (qa1 z (Z.take k)).1/\Bx wr vo w.heap.size (.slice P N c,.slice Q N d)) (fun _ _ i _=>n - (intOf i).toNat)
 case atStart=>exact ⟨0,Nat.zero_le _,rfl,rfl,BI0.out,BS0.out⟩
 case round =>
  obtain ⟨k,hk,rfl,rfl,io,bx⟩:=hrel
  have IO:=Lib.hid io;have BS:=Lib.hid bx;clear io bx BI0 BS0
  have YL:(qa1 z (Z.take k)).1.length<=n + 1:=by have:=qft z (Z.take k) [] false;have:=LZ.out;simp [qa1] at *;omega
  obtain ⟨i0,hi0,hz0,hz1,hz2⟩:=info_parts qx2
  have szw:w.heap.size<=wr.heap.size:=IO.out.bel.size
  have bs0:=BS.out.box.lt
  have Bs_0:=BS.out.box.cell (k:=0) rfl;have Bs_1:=BS.out.box.cell (k:=1) rfl
  by_cases hlt:k < n
  ·obtain ⟨x,hx⟩:∃ x,Z[k]? = some x:=⟨_,List.getElem?_eq_getElem (by rw [LZ.out];exact hlt)⟩
   obtain ⟨g,off,rfl,hg,c0,c1⟩:=qm9 HL.out LZ.out hx
   have nx:qa1 z (Z.take (k + 1)) = xg z ((qa1 z (Z.take k)).1,(qa1 z (Z.take k)).2) x:=qo2 hx
   obtain ⟨P',c',Q',d',ex',sx⟩:=HP.out.srd (List.mem_cons_of_mem _ (List.mem_of_getElem? hx))
   have SX:=Lib.hid (sx.keep IO.out.bel HP.out.top)
   have SFx:=Lib.hid (HZ.out x (List.mem_of_getElem? hx))
   have SSr:=Lib.hid (SS.out.keep IO.out.bel HP.out.top)
   rw [SFx.out.lr,SFx.out.lu] at ex' SX
   have hxw:wr.cell? ⟨g,off + k * 2,none⟩ = some (.slice P' N c'):=by rw [IO.out.bel.cell (p:=⟨g,off + k * 2,none⟩) hg,c0,ex']
   have hyw:wr.cell? ⟨g,off + k * 2 + 1,none⟩ = some (.slice Q' N d'):=by rw [IO.out.bel.cell (p:=⟨g,off + k * 2 + 1,none⟩) hg,c1,ex']
   have EX:=Lib.hid ex'
   clear c0 c1 hx sx ex'
   generalize hY:(qa1 z (Z.take k)).1 = Y at *;generalize hD:(qa1 z (Z.take k)).2 = D at *
   clear hY hD
   have NX:=Lib.hid nx;clear nx
   have ST1:Hid (∃ W,W = wr.alloc (.cells #[.slice P' N c',.slice Q' N d'] 32)/\Below wr.heap.size wr W/\Bx W u5 wr.heap.size (.slice P' N c',.slice Q' N d')):=Lib.hid ⟨_,rfl,(Below.refl _ _).alloc (Nat.le_refl _) _,Arr.new wr [.slice P' N c',.slice Q' N d'] 32 rfl,fun e=>by have:=(IO.out.own.lt _ e).2;omega⟩
   go_wp2_with fail
   obtain ⟨w1,eW,b1,xx⟩:=ST1.out
   rw [<-eW]
   have XX:=Lib.hid xx;clear xx eW ST1
   have s1:=b1.size
   replace IO:=Lib.hid (IO.out.keep b1);replace BS:=Lib.hid (BS.out.keep b1);replace SX:=Lib.hid (SX.out.keep b1 SX.out.top);replace SSr:=Lib.hid (SSr.out.keep b1 SSr.out.top)
   clear b1 Bs_0 Bs_1 hxw hyw
   have Bs_0:=BS.out.box.cell (k:=0) rfl;have Bs_1:=BS.out.box.cell (k:=1) rfl;have Bx_0:=XX.out.box.cell (k:=0) rfl;have Bx_1:=XX.out.box.cell (k:=1) rfl
   have hbx:wr.heap.size < w1.heap.size:=XX.out.box.lt
   generalize wr.heap.size = bx at *
   refine (qkq _ (sOf x).1 (sOf x).2 _ s.1 s.2 _ _ _ SX.out SSr.out (by rw [SFx.out.lr];omega) (by rw [SFx.out.lu];omega) (by rw [HS.out.lr];omega) (by rw [HS.out.lu];omega)).mono ?_
   rintro e w2 ⟨rfl,b1⟩
   have s_w2:=b1.size
   replace IO:=Lib.hid (IO.out.keep b1)
   replace BS:=Lib.hid (BS.out.keep b1)
   replace XX:=Lib.hid (XX.out.keep b1)
   replace SX:=Lib.hid (SX.out.keep b1 SX.out.top)
   replace SSr:=Lib.hid (SSr.out.keep b1 SSr.out.top)
   clear b1 Bs_0 Bs_1 Bx_0 Bx_1
   have Bs_0:=BS.out.box.cell (k:=0) rfl;have Bs_1:=BS.out.box.cell (k:=1) rfl;have Bx_0:=XX.out.box.cell (k:=0) rfl;have Bx_1:=XX.out.box.cell (k:=1) rfl
   rw [same_eq]
   cases he:decide (((sOf x).1,(sOf x).2) = (s.1,s.2))
   ·have HE:sOf x ≠ sOf z:=by rw [ZS.out.1];intro e;rw [e] at he;simp at he
    clear he
    cases D
    ·go_wp2_with fail
     refine (gl.qfy _ _ s.1 s.2 (sOf x).1 (sOf x).2 _ _ _ SSr.out SX.out (by rw [HS.out.lr];omega) (by rw [HS.out.lr,SFx.out.lr]) (by rw [HS.out.lu,SFx.out.lu]) (by rw [HS.out.lu];omega)).mono ?_
     rintro e w3 ⟨rfl,b1⟩
     have s_w3:=b1.size
     replace IO:=Lib.hid (IO.out.keep b1)
     replace BS:=Lib.hid (BS.out.keep b1)
     replace XX:=Lib.hid (XX.out.keep b1)
     replace SX:=Lib.hid (SX.out.keep b1 SX.out.top)
     replace SSr:=Lib.hid (SSr.out.keep b1 SSr.out.top)
     clear b1 Bs_0 Bs_1 Bx_0 Bx_1
     have Bs_0:=BS.out.box.cell (k:=0) rfl;have Bs_1:=BS.out.box.cell (k:=1) rfl;have Bx_0:=XX.out.box.cell (k:=0) rfl;have Bx_1:=XX.out.box.cell (k:=1) rfl
     cases hb4:bef (s.1,s.2) ((sOf x).1,(sOf x).2)
     ·have HB:bef (sOf z) (sOf x) = false:=by rw [ZS.out.1];exact hb4
      have yl_wz:Y.length<=1002:=by omega
      have OW:Hid (w3.ownsRow w.heap.size 32 2 _ (Y.length) (qbs (Y))):=Lib.hid (by have:=IO.out.own;simpa using this)
      go_wp2_with (at_builtin;refine wpList_append_lies (w3.alloc (.cells #[.slice P' N c',.slice Q' N d'] 32)) rfl _ _ 28 rfl w.heap.size 32 i0 _ 2 48 sqp.underlying28 hi0 hz0 hz1 hz2 rfl (by decide) _ (Y.length) (qbs (Y)) rfl (OW.out.alloc _) ⟨w3.heap.size,0,none⟩ 1 1 [.slice P' N c',.slice Q' N d'] rfl rfl (World.news_of_block (Arr.new w3 _ _ rfl)) ?h1 (by decide) ?c4 ?c5 ?c6 _ rfl ?_)
      case h1=>first | (intro q hq;simp at hq;rcases hq with rfl | rfl <;> rfl) | exact ⟨rfl,rfl⟩
      case c4=>unfold maxLen;omega
      case c5=>omega
      case c6=>have:=IO.out.bel.size;simp;omega
      intro g_wz cap_wz wz ho hg_wz hb hlt_wz
      have bA:Below w3.heap.size w3 (w3.alloc (.cells #[.slice P' N c',.slice Q' N d'] 32)):=(Below.refl _ _).alloc (Nat.le_refl _) _
      have BS':=Lib.hid (BS.out.push (n:=Y.length + 1) (cap:=cap_wz) bA hg_wz (by simpa using hb))
      have XX':=Lib.hid (XX.out.push (n:=Y.length + 1) (cap:=cap_wz) bA hg_wz (by simpa using hb))
      have IO':=Lib.hid (IO.out.push (z:=x) (k:=Y.length) bA (by first | rfl | simp) (by rw [EX.out];exact ho) hg_wz)
      clear ho hb bA
      go_wp2_with fail
      go_roundw
      case rel=>exact ⟨k + 1,by omega,by go_num,by rw [NX.out];simp [xg,HB,HE],by rw [NX.out];simpa [xg,HB,HE] using IO'.out,BS'.out⟩
      case measure=>simp [intOf];omega
     ·have HB:bef (sOf z) (sOf x) = true:=by rw [ZS.out.1];exact hb4
      have yl_w4:Y.length<=1002:=by omega
      have OW:Hid (w3.ownsRow w.heap.size 32 2 _ (Y.length) (qbs (Y))):=Lib.hid (by have:=IO.out.own;simpa using this)
      go_wp2_with (at_builtin;refine wpList_append_lies (w3.alloc (.cells #[.slice P N c,.slice Q N d] 32)) rfl _ _ 28 rfl w.heap.size 32 i0 _ 2 48 sqp.underlying28 hi0 hz0 hz1 hz2 rfl (by decide) _ (Y.length) (qbs (Y)) rfl (OW.out.alloc _) ⟨w3.heap.size,0,none⟩ 1 1 [.slice P N c,.slice Q N d] rfl rfl (World.news_of_block (Arr.new w3 _ _ rfl)) ?h1 (by decide) ?c4 ?c5 ?c6 _ rfl ?_)
      case h1=>first | (intro q hq;simp at hq;rcases hq with rfl | rfl <;> rfl) | exact ⟨rfl,rfl⟩
      case c4=>unfold maxLen;omega
      case c5=>omega
      case c6=>have:=IO.out.bel.size;simp;omega
      intro g_w4 cap_w4 w4 ho hg_w4 hb hlt_w4
      have bA:Below w3.heap.size w3 (w3.alloc (.cells #[.slice P N c,.slice Q N d] 32)):=(Below.refl _ _).alloc (Nat.le_refl _) _
      have BS':=Lib.hid (BS.out.push (n:=Y.length + 1) (cap:=cap_w4) bA hg_w4 (by simpa using hb))
      have XX':=Lib.hid (XX.out.push (n:=Y.length + 1) (cap:=cap_w4) bA hg_w4 (by simpa using hb))
      have IO':=Lib.hid (IO.out.push (z:=z) (k:=Y.length) bA (by first | rfl | simp) (by rw [ZS.out.2.1,ZS.out.2.2];exact ho) hg_w4)
      have s_w4:=hg_w4.size;simp at s_w4
      clear ho hb bA IO BS XX Bs_0 Bs_1 Bx_0 Bx_1
      have IO:=IO';have BS:=BS';have XX:=XX';clear IO' BS' XX'
      have Bx_0:=XX.out.box.cell (k:=0) rfl;have Bx_1:=XX.out.box.cell (k:=1) rfl
      have yl_wz:Y.length + 1<=1002:=by omega
      have OW:Hid (w4.ownsRow w.heap.size 32 2 _ (Y.length + 1) (qbs (Y ++ [z]))):=Lib.hid (by have:=IO.out.own;simpa using this)
      go_wp2_with (at_builtin;refine wpList_append_lies (w4.alloc (.cells #[.slice P' N c',.slice Q' N d'] 32)) rfl _ _ 28 rfl w.heap.size 32 i0 _ 2 48 sqp.underlying28 hi0 hz0 hz1 hz2 rfl (by decide) _ (Y.length + 1) (qbs (Y ++ [z])) rfl (OW.out.alloc _) ⟨w4.heap.size,0,none⟩ 1 1 [.slice P' N c',.slice Q' N d'] rfl rfl (World.news_of_block (Arr.new w4 _ _ rfl)) ?h1 (by decide) ?c4 ?c5 ?c6 _ rfl ?_)
      case h1=>first | (intro q hq;simp at hq;rcases hq with rfl | rfl <;> rfl) | exact ⟨rfl,rfl⟩
      case c4=>unfold maxLen;omega
      case c5=>omega
      case c6=>have:=IO.out.bel.size;simp;omega
      intro g_wz cap_wz wz ho hg_wz hb hlt_wz
      have bA:Below w4.heap.size w4 (w4.alloc (.cells #[.slice P' N c',.slice Q' N d'] 32)):=(Below.refl _ _).alloc (Nat.le_refl _) _
      have BS':=Lib.hid (BS.out.push (n:=Y.length + 1 + 1) (cap:=cap_wz) bA hg_wz (by simpa using hb))
      have XX':=Lib.hid (XX.out.push (n:=Y.length + 1 + 1) (cap:=cap_wz) bA hg_wz (by simpa using hb))
      have IO':=Lib.hid (IO.out.push (z:=x) (k:=Y.length + 1) bA (by first | rfl | simp) (by rw [EX.out];exact ho) hg_wz)
      clear ho hb bA
      go_wp2_with fail
      go_roundw
      case rel=>exact ⟨k + 1,by omega,by go_num,by rw [NX.out];simp [xg,HB,HE],by rw [NX.out];simpa [xg,HB,HE] using IO'.out,BS'.out⟩
      case measure=>simp [intOf];omega
    ·skip
     have yl_wz:Y.length<=1002:=by omega
     have OW:Hid (w2.ownsRow w.heap.size 32 2 _ (Y.length) (qbs (Y))):=Lib.hid (by have:=IO.out.own;simpa using this)
     go_wp2_with (at_builtin;refine wpList_append_lies (w2.alloc (.cells #[.slice P' N c',.slice Q' N d'] 32)) rfl _ _ 28 rfl w.heap.size 32 i0 _ 2 48 sqp.underlying28 hi0 hz0 hz1 hz2 rfl (by decide) _ (Y.length) (qbs (Y)) rfl (OW.out.alloc _) ⟨w2.heap.size,0,none⟩ 1 1 [.slice P' N c',.slice Q' N d'] rfl rfl (World.news_of_block (Arr.new w2 _ _ rfl)) ?h1 (by decide) ?c4 ?c5 ?c6 _ rfl ?_)
     case h1=>first | (intro q hq;simp at hq;rcases hq with rfl | rfl <;> rfl) | exact ⟨rfl,rfl⟩
     case c4=>unfold maxLen;omega
     case c5=>omega
     case c6=>have:=IO.out.bel.size;simp;omega
     intro g_wz cap_wz wz ho hg_wz hb hlt_wz
     have bA:Below w2.heap.size w2 (w2.alloc (.cells #[.slice P' N c',.slice Q' N d'] 32)):=(Below.refl _ _).alloc (Nat.le_refl _) _
     have BS':=Lib.hid (BS.out.push (n:=Y.length + 1) (cap:=cap_wz) bA hg_wz (by simpa using hb))
     have XX':=Lib.hid (XX.out.push (n:=Y.length + 1) (cap:=cap_wz) bA hg_wz (by simpa using hb))
     have IO':=Lib.hid (IO.out.push (z:=x) (k:=Y.length) bA (by first | rfl | simp) (by rw [EX.out];exact ho) hg_wz)
     clear ho hb bA
     go_wp2_with fail
     go_roundw
     case rel=>exact ⟨k + 1,by omega,by go_num,by rw [NX.out];simp [xg,HE],by rw [NX.out];simpa [xg,HE] using IO'.out,BS'.out⟩
     case measure=>simp [intOf];omega
   ·have HE:sOf x = sOf z:=by rw [ZS.out.1];have:=of_decide_eq_true he;rw [Prod.mk.injEq] at this;exact Prod.ext this.1 this.2
    clear he
    have yl_wz:Y.length<=1002:=by omega
    have OW:Hid (w2.ownsRow w.heap.size 32 2 _ (Y.length) (qbs (Y))):=Lib.hid (by have:=IO.out.own;simpa using this)
    go_wp2_with (at_builtin;refine wpList_append_lies (w2.alloc (.cells #[.slice P' N c',.slice Q' N d'] 32)) rfl _ _ 28 rfl w.heap.size 32 i0 _ 2 48 sqp.underlying28 hi0 hz0 hz1 hz2 rfl (by decide) _ (Y.length) (qbs (Y)) rfl (OW.out.alloc _) ⟨w2.heap.size,0,none⟩ 1 1 [.slice P' N c',.slice Q' N d'] rfl rfl (World.news_of_block (Arr.new w2 _ _ rfl)) ?h1 (by decide) ?c4 ?c5 ?c6 _ rfl ?_)
    case h1=>first | (intro q hq;simp at hq;rcases hq with rfl | rfl <;> rfl) | exact ⟨rfl,rfl⟩
    case c4=>unfold maxLen;omega
    case c5=>omega
    case c6=>have:=IO.out.bel.size;simp;omega
    intro g_wz cap_wz wz ho hg_wz hb hlt_wz
    have bA:Below w2.heap.size w2 (w2.alloc (.cells #[.slice P' N c',.slice Q' N d'] 32)):=(Below.refl _ _).alloc (Nat.le_refl _) _
    have BS':=Lib.hid (BS.out.push (n:=Y.length + 1) (cap:=cap_wz) bA hg_wz (by simpa using hb))
    have XX':=Lib.hid (XX.out.push (n:=Y.length + 1) (cap:=cap_wz) bA hg_wz (by simpa using hb))
    have IO':=Lib.hid (IO.out.push (z:=x) (k:=Y.length) bA (by first | rfl | simp) (by rw [EX.out];exact ho) hg_wz)
    clear ho hb bA
    go_wp2_with fail
    go_roundw
    case rel=>exact ⟨k + 1,by omega,by go_num,by rw [NX.out];simp [xg,HE],by rw [NX.out];simpa [xg,HE] using IO'.out,BS'.out⟩
    case measure=>simp [intOf];omega
  ·obtain rfl:k = n:=by omega
   have eT:Z.take k = Z:=List.take_of_length_le (by rw [LZ.out];exact Nat.le_refl _)
   rw [eT] at IO YL
   simp only [eT]
   cases hD:(qa1 z Z).2
   ·have EZ:Hid (qm7 z Z = (qa1 z Z).1 ++ [z]):=Lib.hid (by unfold qm7;rw [hD];rfl)
    generalize (qa1 z Z).1 = Y at *
    clear hD
    have yl_wz:Y.length<=1002:=by omega
    have OW:Hid (wr.ownsRow w.heap.size 32 2 _ (Y.length) (qbs (Y))):=Lib.hid (by have:=IO.out.own;simpa using this)
    go_wp2_with (at_builtin;refine wpList_append_lies (wr.alloc (.cells #[.slice P N c,.slice Q N d] 32)) rfl _ _ 28 rfl w.heap.size 32 i0 _ 2 48 sqp.underlying28 hi0 hz0 hz1 hz2 rfl (by decide) _ (Y.length) (qbs (Y)) rfl (OW.out.alloc _) ⟨wr.heap.size,0,none⟩ 1 1 [.slice P N c,.slice Q N d] rfl rfl (World.news_of_block (Arr.new wr _ _ rfl)) ?h1 (by decide) ?c4 ?c5 ?c6 _ rfl ?_)
    case h1=>first | (intro q hq;simp at hq;rcases hq with rfl | rfl <;> rfl) | exact ⟨rfl,rfl⟩
    case c4=>unfold maxLen;omega
    case c5=>omega
    case c6=>have:=IO.out.bel.size;simp;omega
    intro g_wz cap_wz wz ho hg_wz hb hlt_wz
    have bA:Below wr.heap.size wr (wr.alloc (.cells #[.slice P N c,.slice Q N d] 32)):=(Below.refl _ _).alloc (Nat.le_refl _) _
    have BS':=Lib.hid (BS.out.push (n:=Y.length + 1) (cap:=cap_wz) bA hg_wz (by simpa using hb))
    have IO':=Lib.hid (IO.out.push (z:=z) (k:=Y.length) bA (by first | rfl | simp) (by rw [ZS.out.2.1,ZS.out.2.2];exact ho) hg_wz)
    clear ho hb bA
    go_wp2_with fail
    go_ret
    exact ⟨_,rfl,by rw [EZ.out];exact IO'.out⟩
   ·have EZ:Hid (qm7 z Z = (qa1 z Z).1):=Lib.hid (by unfold qm7;rw [hD];rfl)
    go_wp2_with fail
    go_ret
    exact ⟨_,rfl,by rw [EZ.out];exact IO.out⟩
end Go.Proofs.Ytcdclihinmdgiaa.lst

namespace Go.Proofs.Ytcdclihinmdgiaa.fns
open Go.ChangeShapes Go.WideShapes Go.ChangeAt Go.RowKit
open mem ints arr pm permOk permOf inv mat
set_option linter.unusedVariables false
set_option maxRecDepth 100000
theorem q1b:(sqp.prog.info? 30).map (fun i=>(i.zero,i.size,i.bytes)) = some (some (.slice none 0 0),1,24):=by kernel_rfl
end Go.Proofs.Ytcdclihinmdgiaa.fns

namespace Go.Proofs.Ytcdclihinmdgiaa.lst
open Go.ChangeShapes Go.WideShapes Go.ChangeAt Go.RowKit
open mem ints arr pm mat
set_option linter.unusedVariables false
set_option maxRecDepth 100000
theorem um {w:World} {base n c:Nat} {e:TypeId} {A:Option Addr} {xs:List Value} (h:w.ownsRow base e 1 (.slice A n c) n xs):n<=c:=by
 rcases h.2 with ⟨e,q⟩ | ⟨g,cap,cur,e,_,_,h3,_⟩
 ·injection e;omega
 ·injection e with e1 e2 e3;subst e3;exact h3
theorem q4f (xs:List Int):∀ u ∈ V xs,u.oneCell' = true:=by
 intro u hu
 unfold V at hu
 obtain ⟨x,_,rfl⟩:=List.mem_map.1 hu
 rfl
set_option maxHeartbeats 8000000 in
theorem qo3 (n:Nat) (hn:n<=4) (w:World) :
  Calls sqp.prog 24 #[.int .i64 (n:Int)] w fun e w'=>∃ A c,e = .returned (.slice A (qfr n n).length c)/\Rl w' w'.heap.size A (qfr n n)/\Below w.heap.size w w':=by
 obtain ⟨i0,hi0,hz0,hz1,hz2⟩:=info_parts fns.q1b
 obtain ⟨q0,hq0,hq1,hq2,hq3⟩:=info_parts qeo
 have ST0:Hid (∃ W,W = ((w.alloc (.cells #[] 3)).alloc (.cells #[.slice (some ⟨w.heap.size,0,none⟩) 0 0] 30))/\Rl W W.heap.size (some ⟨w.heap.size + 1,0,none⟩) (qfr n 0)/\Below w.heap.size w W):=Lib.hid (by
  refine ⟨_,rfl,⟨Nat.le_refl _,fun a p hp=>?_⟩,((Below.refl _ _).alloc (Nat.le_refl _) _).alloc (by simp) _⟩
  have ha:a = 0:=by have:=(List.getElem?_eq_some_iff.1 hp).1;simp [qfr] at this;exact this
  subst ha
  have hp0:p = []:=by simpa [qfr] using hp.symm
  subst hp0
  refine ⟨w.heap.size + 1,0,w.heap.size,0,0,rfl,by simp,?_,Nat.le_refl _,rfl,Nat.le_refl _,fun h=>by simp at h⟩
  exact (Arr.new (w.alloc (.cells #[] 3)) [.slice (some ⟨w.heap.size,0,none⟩) 0 0] 30 (g:=w.heap.size + 1) (by simp)).cell (k:=0) rfl)
 go_enter sqp.func24,sqp.ntmps24
 go_wp2_with fail
 obtain ⟨w0,eW,rl0,bl0⟩:=ST0.out
 rw [<-eW]
 have RL0:=Lib.hid rl0;have BL0:=Lib.hid bl0;clear rl0 bl0 eW ST0
 go_loopw [3,4] (fun vo i wr=>∃ (k:Nat) (A:Option Addr) (c:Nat),k<=n/\i = .int .i64 k/\vo = .slice A (qfr n k).length c/\Rl wr wr.heap.size A (qfr n k)/\Below w.heap.size w wr) (fun _ i _=>n - (intOf i).toNat)
 case atStart=>exact ⟨0,_,1,Nat.zero_le _,rfl,rfl,RL0.out,BL0.out⟩
 case round =>
  obtain ⟨k,A,c,hk,rfl,rfl,rl,bl⟩:=hrel
  have RL:=Lib.hid rl;have BL:=Lib.hid bl;clear rl bl RL0 BL0
  have szw:=BL.out.size
  by_cases hlt:k < n
  ·obtain ⟨l24,lrow⟩:=qw1 (n:=n) (i:=k) hn (by omega)
   have LR:=Lib.hid lrow;clear lrow
   have EN:Hid (qfr n (k + 1) = dn n (qfr n k)):=Lib.hid rfl
   generalize hL:qfr n k = L at *
   clear hL
   have hNL:(L.length:Nat)<=24:=l24
   have ST1:Hid (∃ W,W = wr.alloc (.cells #[] 30)/\Gq W wr.heap.size (.slice (some ⟨wr.heap.size,0,none⟩) 0 0) (dn n (L.take 0))/\Below wr.heap.size wr W):=Lib.hid (by
    refine ⟨_,rfl,⟨[],⟨rfl,.inr ⟨wr.heap.size,0,#[],rfl,Nat.le_refl _,heap_alloc_last wr _,Nat.le_refl _,by unfold maxLen;omega,rfl,rfl⟩⟩,fun a p hp=>by simp [dn] at hp⟩,(Below.refl _ _).alloc (Nat.le_refl _) _⟩)
   go_wp2_with fail
   obtain ⟨w1,eW,gq0,b0⟩:=ST1.out
   rw [<-eW]
   have GQ0:=Lib.hid gq0;have B0:=Lib.hid b0;clear gq0 b0 eW ST1
   obtain ⟨wo,rfl⟩:∃ wo:World,wo = wr:=⟨_,rfl⟩
   go_loopw [5,19] (fun vo i wx=>∃ a:Nat,a<=L.length/\i = .int .i64 a/\Gq wx wo.heap.size vo (dn n (L.take a))/\Below wo.heap.size wo wx) (fun _ i _=>L.length - (intOf i).toNat)
   case atStart=>exact ⟨0,Nat.zero_le _,rfl,GQ0.out,B0.out⟩
   case round =>
    obtain ⟨a,ha,rfl,gq,bx⟩:=hrel
    have GQ:=Lib.hid gq;have BX:=Lib.hid bx;clear gq bx GQ0 B0
    by_cases hal:a < L.length
    ·obtain ⟨p,hp⟩:∃ p,L[a]? = some p:=⟨_,List.getElem?_eq_getElem hal⟩
     obtain ⟨G,off,g,o,cp,rfl,hG,hco,hpc,rp⟩:=RL.out.2 a p hp
     have RP:=Lib.hid rp;clear rp
     have hc:wr.cell? ⟨G,off + a,none⟩ = some (.slice (some ⟨g,o,none⟩) p.length cp):=by rw [BX.out.cell (p:=⟨G,off + a,none⟩) hG];exact hco
     clear hco
     have plen:p.length<=4:=by have:=LR.out p (List.mem_of_getElem? hp);omega
     have PN:=Lib.hid (qjn (n:=n) hp)
     have ML:(dn n (L.take a)).length<=96:=by
      have h1:=qfu n (L.take a)
      have h2:(L.take a).length<=24:=by rw [List.length_take];omega
      have h3:n * (L.take a).length<=4 * 24:=Nat.mul_le_mul hn h2
      omega
     generalize hM:dn n (L.take a) = M at *
     clear hM hp
     go_wp2_with fail
     obtain ⟨wq,rfl⟩:∃ wq:World,wq = wr:=⟨_,rfl⟩
     have e0:qhi n p 0 = []:=by simp [qhi]
     have G1:Hid (Gq wq wo.heap.size u5 (M ++ qhi n p 0)):=Lib.hid (by rw [e0,List.append_nil];exact GQ.out)
     clear e0 hc
     go_loopw [5,8] (fun vo i wy=>∃ j:Nat,j<=n/\i = .int .i64 j/\Gq wy wo.heap.size vo (M ++ qhi n p j)/\Below wo.heap.size wo wy) (fun _ i _=>n - (intOf i).toNat)
     case atStart=>exact ⟨0,Nat.zero_le _,rfl,G1.out,BX.out⟩
     case round =>
      obtain ⟨j,hj,rfl,gq,bq⟩:=hrel
      have GJ:=Lib.hid gq;have BY:=Lib.hid bq;clear gq bq G1 GQ BX
      obtain ⟨wy,rfl⟩:∃ wy:World,wy = wr:=⟨_,rfl⟩
      have RY:=Lib.hid (RP.out.keep BY.out (Nat.le_refl _))
      by_cases hjl:j < n
      ·by_cases hin:(j:Int) ∈ p
       ·have hb:permOk.hasB p (j:Int) = true:=by unfold permOk.hasB;exact decide_eq_true hin
        have EX:Hid (qhi n p (j + 1) = qhi n p j):=Lib.hid (by rw [qjm hjl,if_pos hin])
        go_wp2_with fail
        refine (permOk.qer _ _ _ p _ (j:Int) _ RY.out (by omega)).mono ?_
        rintro e wz ⟨rfl,ew⟩
        rw [<-ew,hb]
        clear ew
        go_wp2_with fail
        go_roundw
        case rel=>exact ⟨j + 1,by omega,by go_num,by rw [EX.out];exact GJ.out,BY.out⟩
        case measure=>simp [intOf];omega
       ·have hb:permOk.hasB p (j:Int) = false:=by unfold permOk.hasB;exact decide_eq_false hin
        have EX:Hid (qhi n p (j + 1) = qhi n p j ++ [p ++ [(j:Int)]]):=Lib.hid (by rw [qjm hjl,if_neg hin])
        have xl:=qnc n p j
        obtain ⟨hs,q0k,rows⟩:=GJ.out.ex
        have OW:=Lib.hid q0k;have RW:=Lib.hid rows;clear q0k rows
        have hl1:(M ++ qhi n p j).length<=104:=by rw [List.length_append];omega
        generalize hX:M ++ qhi n p j = X at *
        have HX:Hid (M ++ qhi n p (j + 1) = X ++ [p ++ [(j:Int)]]):=Lib.hid (by rw [EX.out,<-List.append_assoc,hX])
        clear hX EX xl
        have hlow:wo.heap.size<=wy.heap.size:=BY.out.size
        have OW1:Hid ((wy.alloc (.cells #[] 3)).ownsRow wy.heap.size 3 1 (.slice (some ⟨wy.heap.size,0,none⟩) 0 0) 0 []):=Lib.hid ⟨rfl,.inr ⟨wy.heap.size,0,#[],rfl,Nat.le_refl _,heap_alloc_last wy _,Nat.le_refl _,by unfold maxLen;omega,rfl,rfl⟩⟩
        have HN:Hid (∀ (t:Nat) (u:Value),(V p)[t]? = some u->(wy.alloc (.cells #[] 3)).cell? ((⟨g,o,none⟩:Addr).add t) = some u):=Lib.hid (fun t u hu=>by
         have ht:t < p.length:=by have:=(List.getElem?_eq_some_iff.1 hu).1;simpa [V] using this
         obtain ⟨g',off',u',e1,e2,e3,e4⟩:=(RY.out.keep ((Below.refl wy.heap.size wy).alloc (Nat.le_refl _) (.cells #[] 3)) RY.out.2.1).at_ ht
         injection e1 with e1;injection e1 with e5 e6
         subst e5;subst e6
         rw [hu] at e3
         obtain rfl:=Option.some.inj e3
         rw [Addr.add_lit];exact e4)
        go_wp2_with fail
        refine (permOk.qer _ _ _ p _ (j:Int) _ RY.out (by omega)).mono ?_
        rintro e wz ⟨rfl,ew⟩
        rw [<-ew,hb]
        clear ew
        go_wp2_with (at_builtin;refine wpList_append_own_wide (wy.alloc (.cells #[] 3)) rfl _ _ 30 rfl wy.heap.size 3 q0 _ 1 8 sqp.underlying30 hq0 hq1 hq2 hq3 rfl (by decide) _ 0 [] rfl OW1.out ⟨g,o,none⟩ p.length cp (V p) rfl (by simp [V]) HN.out (q4f p) ?c1 ?c2 ?c3 ?_)
        case c1=>unfold maxLen;omega
        case c2=>omega
        case c3=>simp
        intro v2 w2 ho2 hg2 _
        have B2:Hid (Below wy.heap.size wy w2):=Lib.hid (((Below.refl wy.heap.size wy).alloc (Nat.le_refl _) (.cells #[] 3)).trans (own_below OW1.out hg2 (Nat.le_refl _) (by simp)))
        have OW2:=Lib.hid ho2;clear ho2 hg2 OW1 HN
        have s2:=B2.out.size
        go_wp2_with (at_builtin;refine yh w2 (.int .i64 (j:Int)) 3 rfl _ _ 30 rfl wy.heap.size 3 q0 _ 8 sqp.underlying30 hq0 hq1 hq2 hq3 rfl _ p.length (V p) rfl OW2.out rfl rfl ?c4 (by decide) s2 ?_)
        case c4=>omega
        intro v3 w3 ho3 hg3
        have B3:Hid (Below wy.heap.size wy w3):=Lib.hid (B2.out.trans (own_below OW2.out hg3 (Nat.le_refl _) s2))
        obtain ⟨A3,c3,rfl⟩:=za ho3
        have e3:V p ++ [Value.int .i64 (j:Int)] = V (p ++ [(j:Int)]):=by simp [V]
        have pl1:(p ++ [(j:Int)]).length = p.length + 1:=by simp
        rw [e3] at ho3
        have hcap:=um ho3
        obtain ⟨g3,o3,u3,rfl,hg31,hg32,_,_,_⟩:=(Row.yu ho3).at_ (show 0 < p.length + 1 by omega)
        have R3:Hid (Rd w3 w3.heap.size (some ⟨g3,o3,none⟩) (p ++ [(j:Int)]).length (V (p ++ [(j:Int)]))):=Lib.hid (by rw [pl1];exact (Row.yu ho3).rd)
        clear ho3 hg3 OW2 B2 e3 s2
        have s3:=B3.out.size
        have OW3:Hid (w3.ownsRow wo.heap.size 30 1 u5 X.length hs):=Lib.hid (Gq.qfv OW.out (fun b e=>B3.out.block b (OW.out.lt b e).2))
        go_wp2_with (at_builtin;refine qa5 w3 (.slice (some ⟨g3,o3,none⟩) (p.length + 1) c3) _ rfl _ _ 62 rfl wo.heap.size 30 i0 _ 24 1 sqp.underlying62 hi0 hz0 hz1 rfl hz2 rfl _ X.length hs rfl OW3.out rfl rfl ?c5 (by decide) (by omega) ?_)
        case c5=>omega
        intro v6 w6 ho6 hg6 hb6
        rw [<-pl1] at ho6
        have GN:=Lib.hid (Gq.push OW.out RW.out B3.out R3.out (by rw [pl1];exact hcap) hg31 hg32 rfl ho6 hg6 hb6)
        have BN:Hid (Below wo.heap.size wo w6):=Lib.hid (BY.out.trans ((B3.out.mono hlow).trans (own_below OW3.out hg6 (Nat.le_refl _) (by omega))))
        clear ho6 hg6 hb6 OW3 R3 B3 OW RW
        go_wp2_with fail
        go_roundw
        case rel=>exact ⟨j + 1,by omega,by go_num,by rw [HX.out];exact GN.out,BN.out⟩
        case measure=>simp [intOf];omega
      ·obtain rfl:j = n:=by omega
       go_wp2_with fail
       go_roundw
       case rel=>exact ⟨a + 1,by omega,by go_num,by rw [PN.out];exact GJ.out,BY.out⟩
       case measure=>simp [intOf];omega
    ·obtain rfl:a = L.length:=by omega
     have GE:Hid (Gq wr wo.heap.size u5 (qfr n (k + 1))):=Lib.hid (by have:=GQ.out;rwa [List.take_of_length_le (Nat.le_refl _),<-EN.out] at this)
     clear GQ EN
     obtain ⟨hs,q0k,_⟩:=GE.out.ex
     obtain ⟨A',c',rfl⟩:=za q0k
     have RLn:=Lib.hid GE.out.rl
     have BLn:=Lib.hid (BL.out.trans (BX.out.mono szw))
     clear q0k GE
     go_wp2_with fail
     go_roundw
     case rel=>exact ⟨k + 1,A',c',by omega,by go_num,rfl,RLn.out,BLn.out⟩
     case measure=>simp [intOf];omega
  ·obtain rfl:k = n:=by omega
   go_wp2_with fail
   go_ret
   exact ⟨_,_,rfl,RL.out,BL.out⟩
end Go.Proofs.Ytcdclihinmdgiaa.lst
