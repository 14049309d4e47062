import Derived.Test.YtcdclihinmdgiaaZ02
import Derived.Conc.Beside
import Derived.Conc.EntryLaws
set_option linter.unusedSectionVars false
set_option linter.unusedSimpArgs false
set_option linter.unusedVariables false
set_option linter.unnecessarySimpa false
namespace Go.Proofs.Ytcdclihinmdgiaa.sq
open Go Go.Conc
open Go.ConcN (sumTo upd sumTo_upd upd_ne upd_same)
set_option linter.unusedVariables false
def Ends (P:Program) (Q:Machine->Outcome->World->Trace->Prop) (m:Machine) (t:Trace):Prop :=
 ∃ n last o w t',runNT P (n + 1) m t = (.ended o w,t')/\runN P n m = .next last/\step P last = .ended o w/\Q last o w t'
def Lvs (P:Program) (gs:Array Goroutine) (k:Nat) (q:Nat->Nat):Prop:=∀ i g,0 < i->i ≠ k->gs[i]? = some g->QuitsIn P (q i) g
section
variable {P:Program} {Q:Machine->Outcome->World->Trace->Prop} {m m':Machine} {t:Trace} {ops:Array MemOp}
theorem Ends.next (h:stepT P m = (.next m',ops)) (e:Ends P Q m' (t ++ ops)):Ends P Q m t:=by
 obtain ⟨n,last,o,w,t',h1,h2,h3,h4⟩:=e
 exact ⟨n + 1,last,o,w,t',by rw [runNT_succ_next h];exact h1,by rw [runN_succ_next h];exact h2,h3,h4⟩
theorem Ends.stop {o:Outcome} {w:World} (h:stepT P m = (.ended o w,ops)) (q:Q m o w (t ++ ops)):Ends P Q m t:=⟨0,m,o,w,t ++ ops,by simp [runNT,h],rfl,by simp [step,h],q⟩
end
section
variable {P:Program} {gs:Array Goroutine} {k:Nat} {q:Nat->Nat} {W W':World} {sl:Option (Nat × Nat)} {i:Nat} {g g':Goroutine} {es:Array Event}
theorem qb8 (hL:Lvs P gs k q) (sl:Option (Nat × Nat)) (hi:gs[i]? = some g) (h:stepG P (i == 0) g W = .go g' W' es) (hik:i = 0\/i = k) :
  ∃ gs',runT P (crowd gs W sl) i = (.next (crowd gs' W' sl),MemOp.ofEvents i g.frame.fn g.frame.place es)/\gs'.size = gs.size/\gs'[i]? = some g'/\(∀ j x,j ≠ i->gs[j]? = some x->gs'[j]? = some (woken P g g' W' x))/\Lvs P gs' k q:=by
 have hlt:i < gs.size:=(Array.getElem?_eq_some_iff.1 hi).1
 refine ⟨_,runT_crowd_go hi h,by simp,by simp [hlt],fun j x hj hx=>?_,fun j x hj hjk hx=>?_⟩
 ·rw [Array.getElem?_setIfInBounds_ne (Ne.symm hj),Array.getElem?_map,hx];rfl
 ·have hne:i ≠ j:=by rcases hik with rfl | rfl <;> omega
  rw [Array.getElem?_setIfInBounds_ne hne,Array.getElem?_map] at hx
  obtain ⟨y,hy,rfl⟩:=Option.map_eq_some_iff.1 hx
  have hq:=hL j y hj hjk hy
  rw [woken_quits hq]
  exact hq
theorem qb9 {o:Goroutine} (h:o.again W = o):woken P g g' W o = o:=by
 unfold Go.Conc.woken
 split
 ·exact h
 ·rfl
theorem slip (hL:Lvs P gs k q) (W:World) (sl:Option (Nat × Nat)) (hi:gs[i]? = some g) (hpos:0 < i) (hik:i ≠ k) (hrun:g.status = .running) (keep:∀ j x,(j = 0\/j = k)->gs[j]? = some x->x.again W = x) :
  ∃ gs' q',runT P (crowd gs W sl) i = (.next (crowd gs' W sl),#[])/\gs'.size = gs.size/\(∀ j,(j = 0\/j = k)->gs'[j]? = gs[j]?)/\Lvs P gs' k q'/\sumTo gs'.size q' < sumTo gs.size q:=by
 have hlt:i < gs.size:=(Array.getElem?_eq_some_iff.1 hi).1
 have hq:=hL i g hpos hik hi
 have hi0:(i == 0) = false:=by simp;omega
 cases hqi:q i with
 | zero =>
  rw [hqi] at hq
  rw [show g.status = .finished from hq] at hrun
  cases hrun
 | succ n =>
  rw [hqi] at hq
  rcases hq with hf | ⟨_,g',hstp,hq'⟩
  ·rw [hf] at hrun;cases hrun
  have hrunT:=runT_crowd_go (P:=P) (sl:=sl) (i:=i) hi (by rw [hi0];exact hstp W)
  have hsum:sumTo gs.size (upd q i n) + (n + 1) = sumTo gs.size q + n:=by
   have:=sumTo_upd q n id hlt
   simpa [hqi] using this
  refine ⟨_,upd q i n,by rw [hrunT,ofEvents_none],by simp,fun j hj=>?_,fun j x hj hjk hx=>?_,?_⟩
  ·have hne:i ≠ j:=by rcases hj with rfl | rfl <;> omega
   rw [Array.getElem?_setIfInBounds_ne hne,Array.getElem?_map]
   cases e:gs[j]? with
   | none=>rfl
   | some x=>rw [Option.map_some,qb9 (keep j x hj e)]
  ·by_cases hji:i = j
   ·subst hji
    rw [Array.getElem?_setIfInBounds_self_of_lt (by simpa using hlt)] at hx
    obtain rfl:=Option.some.inj hx
    rw [upd_same]
    exact hq'
   ·rw [Array.getElem?_setIfInBounds_ne hji,Array.getElem?_map] at hx
    obtain ⟨y,hy,rfl⟩:=Option.map_eq_some_iff.1 hx
    have hqj:=hL j y hj hjk hy
    rw [woken_quits hqj,upd_ne q n (Ne.symm hji)]
    exact hqj
  ·rw [show ((gs.map (woken P g g' W)).setIfInBounds i g').size = gs.size by simp]
   omega
theorem turn (hL:Lvs P gs k q) (W:World) (sl:Option (Nat × Nat)) (ha:∀ a,gs[0]? = some a->awake a) (hb:∀ b,gs[k]? = some b->awake b)
  (hr:∃ (i:Nat) (g:Goroutine),gs[i]? = some g/\g.status = .running):∃ (i:Nat) (g:Goroutine) (d:Nat) (sl':Option (Nat × Nat)),gs[i]? = some g/\g.status = .running/\stepT P (crowd gs W sl) = runT P (crowd gs (W.at d) sl') i:=by
 refine crowd_pick (fun g hg=>?_) hr
 obtain ⟨i,hi,rfl⟩:=Array.mem_iff_getElem.1 hg
 have e:=Array.getElem?_eq_getElem hi
 rcases Nat.eq_zero_or_pos i with rfl | hpos
 ·exact ha _ e
 ·by_cases hk:i = k
  ·subst hk;exact hb _ e
  ·exact awake_of ((hL i _ hpos hk e).status.elim .inl fun x=>.inr (.inr x))
end
section
variable {t u:Trace} {B B':Nat} {H H' C:Nat->Prop} {c k:Nat}
theorem qlc {T:Nat->Prop} {e:Event} (h:EvT T H e) {a:Touch} (ha:(MemAct.ofEvent e).touch? = some a) (hm:a.loc.isMemory = true):T (blk a.loc)/\(¬ H (blk a.loc)\/look a):=by
 cases h with
 | cell o s wr h hn =>
  simp only [MemAct.ofEvent,MemAct.touch?,Option.some.injEq] at ha
  subst ha
  exact ⟨h,.inl hn⟩
 | @obj b wr h hn =>
  have:(MemAct.ofEvent ⟨.obj b,wr,false⟩) = .access ⟨.obj b,wr,false⟩:=by cases wr <;> rfl
  rw [this] at ha
  simp only [MemAct.touch?,Option.some.injEq] at ha
  subst ha
  exact ⟨h,.inl hn⟩
 | look h hh =>
  simp only [MemAct.ofEvent,MemAct.touch?,Option.some.injEq] at ha
  subst ha
  exact ⟨h,.inr ⟨rfl,rfl⟩⟩
 | mark m hm =>
  rcases hm with rfl | ⟨f,rfl⟩ <;> simp [MemAct.ofEvent,MemAct.touch?] at ha
theorem qld {T:Nat->Prop} {e:Event} (h:EvT T H e):MemAct.ofEvent e ≠ .mark .disable/\MemAct.ofEvent e ≠ .mark .enable:=by
 cases h with
 | cell o s wr h hn=>simp [MemAct.ofEvent]
 | obj wr h hn=>cases wr <;> simp [MemAct.ofEvent]
 | look h hh=>simp [MemAct.ofEvent]
 | mark m hm=>rcases hm with rfl | ⟨f,rfl⟩ <;> simp [MemAct.ofEvent]
theorem qwu {T:Nat->Prop} {es:Array Event} (fn:FuncId) (pos:String) (he:∀ e ∈ es,EvT T H e) (hT:∀ b,T b->b < B/\¬ C b):∀ op ∈ MemOp.ofEvents 0 fn pos es,Lm B H C op:=by
 intro op ho
 obtain ⟨e,hes,rfl⟩:=Go.Conc.mem_ofEvents ho
 refine ⟨rfl,qld (he e hes),fun a ha hm=>?_⟩
 obtain ⟨h1,h2⟩:=qlc (he e hes) ha hm
 exact ⟨(hT _ h1).1,(hT _ h1).2,fun hh=>h2.resolve_left fun x=>x hh⟩
theorem q33 {T:Nat->Prop} {es:Array Event} (fn:FuncId) (pos:String) (he:∀ e ∈ es,EvT T H e) (hT:∀ b,T b->b < B/\((C b/\¬ H b)\/(b = c/\H b))):∀ op ∈ MemOp.ofEvents k fn pos es,Lc B H C c k op:=by
 intro op ho
 obtain ⟨e,hes,rfl⟩:=Go.Conc.mem_ofEvents ho
 refine ⟨rfl,qld (he e hes),fun a ha hm=>?_⟩
 obtain ⟨h1,h2⟩:=qlc (he e hes) ha hm
 refine ⟨(hT _ h1).1,(hT _ h1).2.imp id fun x=>⟨x.1,?_⟩⟩
 exact h2.resolve_left fun y=>y x.2
theorem T0.chans (h:T0 t B H) (hH:∀ b,H' b->H b\/B<=b):T0 t B H':=⟨h.still,h.clean,h.low,h.known,fun i a ha hm hb=>by
 rcases hH _ hb with z | z
 ·exact h.chan i a ha hm z
 ·have:=h.low i a ha hm;omega⟩
theorem T0.mono (h:T0 t B H) (hB:B<=B'):T0 t B' H:=⟨h.still,h.clean,fun i a ha hm=>Nat.lt_of_lt_of_le (h.low i a ha hm) hB,h.known,h.chan⟩
theorem T0.step (h:T0 t B H) (hB:B<=B') (hu:∀ op ∈ u,Lm B' H (fun _=>False) op):T0 (t ++ u) B' H:=by
 refine ⟨h.still.app fun op ho=>(hu op ho).2.1,fun said=>noRace_append (h.clean said) (fun op ho=>(hu op ho).1) fun i a ha op ho b hb hcf=>h.known i a ha hcf.2.1,fun i a ha hm=>?_,fun i a ha hm=>?_,fun i a ha hm hH=>?_⟩
 ·rcases zx ha with ⟨_,z⟩ | ⟨_,op,ho,_,z⟩
  ·exact Nat.lt_of_lt_of_le (h.low i a z hm) hB
  ·exact ((hu op ho).2.2 a z hm).1
 ·rcases zx ha with ⟨hi,z⟩ | ⟨_,op,ho,e,z⟩
  ·exact (h.known i a z hm).app u
  ·have:=knows_own e
   rw [(hu op ho).1] at this
   exact this
 ·rcases zx ha with ⟨hi,z⟩ | ⟨_,op,ho,e,z⟩
  ·exact h.chan i a z hm hH
  ·exact ((hu op ho).2.2 a z hm).2.2 hH
theorem T0.mute (h:T0 t B H) (hu:∀ op ∈ u,op.act.touch? = none/\op.act ≠ .mark .disable/\op.act ≠ .mark .enable):T0 (t ++ u) B H:=by
 have no:∀ {i a},touchAt (t ++ u) i = some a->i < t.size/\touchAt t i = some a:=fun ha=>by
  rcases zx ha with z | ⟨_,op,ho,_,z⟩
  ·exact z
  ·rw [(hu op ho).1] at z;cases z
 exact ⟨h.still.app fun op ho=>(hu op ho).2,fun said=>qg2 (h.clean said) fun op ho=>(hu op ho).1,fun i a ha hm=>h.low i a (no ha).2 hm,fun i a ha hm=>(h.known i a (no ha).2 hm).app u,fun i a ha hm hH=>h.chan i a (no ha).2 hm hH⟩
end
section
variable [Cal] {K:FuncId->Prop} {P:Program} {H T Cb:Nat->Prop} {ex:Nat->Nat->Prop} {ac c:Nat} {bA bR:List Frame} {s:St} {fr:Frame} {csR:List Frame} {W W':World}
theorem MP.heap (h:MP K P H T ex s fr csR W) (e:W'.heap = W.heap):MP K P H T ex s fr csR W':=by
 obtain ⟨β,hr,hst,hb,hc,hl⟩:=h.ex
 refine ⟨β,⟨hr.inj,fun a b k hab=>by rw [e];exact hr.at_ a b k hab⟩,hst,hb,fun a b hab=>(hc a b hab).imp id ?_,hl⟩
 rintro ⟨cap,x,sn,en,tm,sn',en',tm',q1,q2⟩
 exact ⟨cap,x,sn,en,tm,sn',en',tm',q1,by rw [e];exact q2⟩
theorem CP.heap (h:CP K P H Cb ac c bA bR s fr csR W) (e:W'.heap = W.heap):CP K P H Cb ac c bA bR s fr csR W':=by
 obtain ⟨β,hr,hst,hb,hc⟩:=h.ex
 exact ⟨β,⟨hr.inj,fun a b k hab=>by rw [e];exact hr.at_ a b k hab⟩,hst,hb,hc⟩
end
end Go.Proofs.Ytcdclihinmdgiaa.sq
namespace Go.Proofs.Ytcdclihinmdgiaa.sq
open Go Go.Conc
open Go.ConcN (sumTo)
set_option linter.unusedVariables false
structure Cs where
 A:Cal
 C:Cal
structure Env [Cal] (X:Cs) (K:FuncId->Prop) (Pa Pr:Program) (D:ji) (id5:Nat):Prop where
 SM:je K Pa Pr SpM
 SP:@je X.C K Pa Pr SpP
 SC:@je X.C K Pa Pa (@SpC X.C)
 calm:@Calm X.C Pa
 txt:qwt D id5 Pa
 goT:GoT D
 lp:D.Ok
 q18:X.C.ent wh = true
 Ksr:K wh
 sA:∃ F c,Pa.funcs[wh]? = some F/\F.body = some c/\qez c = true
 sR:∃ F,Pr.funcs[wh]? = some F/\F.results = #[]/\F.body.isNone = false/\(F.name == "runtime.NumGoroutine") = false
 ini:∀ f,K f->Pr.inits.idxOf? f = none
 gA:∃ F,Pa.funcs[nfn + 1]? = some F/\F.results = #[]
abbrev TG (A:Cal) (P:Program) (a b:St):Prop:=Relation.TransGen (fun a b=>Rt A P b a) a b
theorem TG.head {A:Cal} {P:Program} {a b c:St} (h:Rt A P b a) (k:TG A P b c):TG A P a c:=Relation.TransGen.trans (.single h) k
structure Runs (a:Goroutine) (fr:Frame) (csR:List Frame):Prop where
 st:a.status = .running
 frm:a.frame = fr
 stp:∀ P m W,stepG P m a W = stepG P m (G fr csR) W
theorem Runs.self (fr:Frame) (csR:List Frame):Runs (G fr csR) fr csR:=⟨rfl,rfl,fun _ _ _=>rfl⟩
theorem Runs.tries (fr:Frame) (csR:List Frame) (cs:Array CommCase) (sh:CommShape):Runs { parked (G fr csR) cs sh with status:=.running } fr csR:=⟨rfl,rfl,fun P m W=>stepG_tries m cs W⟩
theorem Runs.again {a:Goroutine} {fr:Frame} {csR:List Frame} (h:Runs a fr csR) (W:World):a.again W = a:=again_running W (.inl h.st)
theorem Runs.awake {a:Goroutine} {fr:Frame} {csR:List Frame} (h:Runs a fr csR):awake a:=awake_of (.inl h.st)
structure Reg [Cal] (H T:Nat->Prop) (W0 W:World):Prop where
 hH:∀ b,H b->b < W.heap.size
 hold:∀ b,H b->Cal.old<=b
 hT:∀ b,T b->b < W.heap.size
 hO:Cal.old<=W.heap.size
 bel:RowKit.Below Cal.old W0 W
section
variable [Cal] {H T:Nat->Prop} {W0 W W':World}
theorem Reg.at (h:Reg H T W0 W) (d:Nat):Reg H T W0 (W.at d):=⟨h.hH,h.hold,h.hT,h.hO,⟨h.bel.os,h.bel.tape,h.bel.output,h.bel.size,h.bel.block⟩⟩
theorem Reg.mine (h:Reg H T W0 W) (m:Mine T H W W'):Reg H (grow T W W') W0 W' :=
 ⟨fun b hb=>Nat.lt_of_lt_of_le (h.hH b hb) m.sz,h.hold,fun b hb=>hb.elim (fun x=>Nat.lt_of_lt_of_le (h.hT b x) m.sz) fun x=>x.2,Nat.le_trans h.hO m.sz,h.bel.trans ⟨m.os,m.tape,m.out,m.sz,fun b hb=>m.old b (Nat.lt_of_lt_of_le hb h.hO) hb⟩⟩
theorem Reg.mono (h:Reg H T W0 W) (b:RowKit.Below Cal.old W W'):Reg H T W0 W' :=
 ⟨fun x hx=>Nat.lt_of_lt_of_le (h.hH x hx) b.size,h.hold,fun x hx=>Nat.lt_of_lt_of_le (h.hT x hx) b.size,Nat.le_trans h.hO b.size,h.bel.trans b⟩
end
section
variable {A:Cal} {P:Program} {s s':St} {τ:Tape}
theorem Tr.inv (h:@Tr A P (s.on τ) s'):(∃ es,(∀ o,opAt s.f = some o->@bn A P o.op = true)/\(s.f.mode = .returning->s.cs ≠ []) ∧
  stepG P true (G s.f (s.cs ++ [base P])) (qj τ s.w) = .go (G s'.f (s'.cs ++ [base P])) s'.w es/\(s'.f.mode = .run\/s'.f.mode = .returning))\/SpK P (s.on τ) s':=by
 generalize hu:s.on τ = u at h
 cases h with
 | go hord hne h hnp=>cases hu;exact .inl ⟨_,hord,hne,h,hnp⟩
 | sp k h hk=>exact .inr hk
theorem qbq (h:@Tr A P (s.on τ) s'):Rt A P s s':=⟨τ,h⟩
end
section
variable [Cal] {D:ji} {ch:Value} {f:Frame}
theorem Lp.q2t (hD:D.Ok) (h:Lp D ch f) {o o':Oper} (ho:opAt f = some o) (sp:SpM o o'):∃ t,o.op = .recv t (.tmp D.tx) true:=by
 obtain ⟨m,ops,i,l,k,ht,ho',hq,hf⟩:=h.split ho
 obtain ⟨t8,ty,pos,aft,ty2,pos2,aft2,e8⟩:=hD.o8
 obtain ⟨ty7,pos7,aft7,e7⟩:=hD.o7
 have nocalm:∀ {d:Tmp},fq d o = true->False:=fun hc=>by
  unfold fq at hc
  cases sp with
  | make h1=>rw [h1] at hc;simp at hc
  | go h1 h2=>rw [h1] at hc;simp [h2] at hc
  | recv h1=>rw [h1] at hc;simp at hc
 generalize htd:(Item.inRegion ops (i :: l) :: k) = q at hq
 cases hq with
 | p0 l' hl=>subst hl;simp at htd
 | p3 l' =>
  simp only [List.cons.injEq,Item.inRegion.injEq] at htd
  obtain ⟨⟨rfl,rfl⟩,rfl⟩:=htd
  exact (nocalm (Array.all_eq_true_iff_forall_mem.1 hD.o6 o (Array.mem_of_getElem? ho'))).elim
 | p7 =>
  simp only [List.cons.injEq,Item.inRegion.injEq] at htd
  obtain ⟨⟨rfl,rfl,rfl⟩,rfl⟩:=htd
  rw [e7] at ho'
  obtain rfl:_ = o:=by simpa using ho'
  cases sp with
  | make h1=>cases h1
  | go h1=>cases h1
  | recv h1=>cases h1
 | b2 =>
  simp only [List.cons.injEq,Item.inRegion.injEq] at htd
  obtain ⟨⟨rfl,rfl,rfl⟩,rfl⟩:=htd
  rw [e8] at ho'
  obtain rfl:_ = o:=by simpa using ho'
  exact ⟨t8,rfl⟩
 | b3 =>
  simp only [List.cons.injEq,Item.inRegion.injEq] at htd
  obtain ⟨⟨rfl,rfl,rfl⟩,rfl⟩:=htd
  rw [e8] at ho'
  obtain rfl:_ = o:=by simpa using ho'
  cases sp with
  | make h1=>cases h1
  | go h1=>cases h1
  | recv h1=>cases h1
 | q y hy =>
  cases y with
  | nil=>simp at htd
  | cons x y =>
   simp only [List.cons_append,List.cons.injEq] at htd
   obtain ⟨rfl,rfl⟩:=htd
   simp only [List.all_cons,Bool.and_eq_true] at hy
   exact (nocalm (Array.all_eq_true_iff_forall_mem.1 (show ops.all (fq D.tx) = true from hy.1) o (Array.mem_of_getElem? ho'))).elim
 | _=>simp at htd
end
section
variable [M:Cal] {K:FuncId->Prop} {Pa Pr:Program} {D:ji} {H T:Nat->Prop} {ex:Nat->Nat->Prop} {ac c:Nat} {s s':St} {fr:Frame} {csR:List Frame} {W:World} {τ:Tape}
structure Rcv (P:Program) (D:ji) (ac:Nat) (τ:Tape) (s s':St) (v:Value):Prop where
 ex:∃ o t cap buf cl sn en tm,opAt s.f = some o/\o.op = .recv t (.tmp D.tx) true/\s.f.eval (.tmp D.tx) = .chan (some ac)/\s.w.heap[ac]? = some (.chan cap buf cl sn en tm)/\buf[0]? = some v/\(∃ z,qcg P t z) ∧
  s' = ⟨s.f.finish (.tuple #[v,.bool true]),s.cs,{ (qj τ s.w) with heap:=s.w.heap.setIfInBounds ac (.chan cap (buf.extract 1 buf.size) cl sn (en + 1) tm) }⟩
structure Ovr (P:Program) (D:ji) (ac:Nat) (τ:Tape) (s s':St) (z:Value):Prop where
 ex:∃ o t cap sn en tm,opAt s.f = some o/\o.op = .recv t (.tmp D.tx) true/\s.f.eval (.tmp D.tx) = .chan (some ac)/\s.w.heap[ac]? = some (.chan cap #[] true sn en tm)/\clo 20 z = true/\qcg P t z ∧
  s' = ⟨s.f.finish (.tuple #[z,.bool false]),s.cs,qj τ s.w⟩
theorem Lp.spk (hD:D.Ok) (mp:MP K Pa H T ex s fr csR W) (lp:Lp D (.chan (some ac)) s.f) (h:SpK Pa (s.on τ) s'):(∃ v,Rcv Pa D ac τ s s' v)\/∃ z,Ovr Pa D ac τ s s' z:=by
 have at_:∀ {o:Oper},opAt s.f = some o->∃ t,o.op = .recv t (.tmp D.tx) true:=fun {o} ho=>by
  obtain ⟨o',_,sp,_⟩:=mp.qg5 ho (h.not o ho)
  exact lp.q2t hD ho sp
 have ev:∀ {o:Oper} {r:Nat} {t:TypeId} {x:Operand},opAt s.f = some o->o.op = .recv t x true->s.f.eval x = .chan (some r)->x = .tmp D.tx/\r = ac:=fun {o r t x} ho h1 h2=>by
  obtain ⟨e,_,hv,_⟩:=lp.rcv hD ho h1
  subst e
  rw [h2] at hv
  rcases hv with z | z
  ·exact ⟨rfl,by simpa using z⟩
  ·cases z
 generalize hu:s.on τ = u at h
 cases h with
 | make n h ho=>cases hu;obtain ⟨t,e⟩:=at_ h;rw [ho] at e;cases e
 | shut h ho=>cases hu;obtain ⟨t,e⟩:=at_ h;rw [ho] at e;cases e
 | go h ho=>cases hu;obtain ⟨t,e⟩:=at_ h;rw [ho] at e;cases e
 | wh h ho=>cases hu;obtain ⟨t,e⟩:=at_ h;rw [ho] at e;cases e
 | send h ho=>cases hu;obtain ⟨t,e⟩:=at_ h;rw [ho] at e;cases e
 | recv h ho hv hr hb hz =>
  cases hu
  obtain ⟨rfl,rfl⟩:=ev h ho hv
  exact .inl ⟨_,_,_,_,_,_,_,_,_,h,ho,hv,hr,hb,hz,rfl⟩
 | over h ho hv hr hz hzz =>
  cases hu
  obtain ⟨rfl,rfl⟩:=ev h ho hv
  exact .inr ⟨_,_,_,_,_,_,_,h,ho,hv,hr,hz,hzz,rfl⟩
theorem MP.evc (mp:MP K Pa H T (fun a b=>a = ac/\b = c) s fr csR W) {x:Tmp} (h:s.f.eval (.tmp x) = .chan (some ac)):fr.eval (.tmp x) = .chan (some c):=by
 obtain ⟨β,hr,hst,hb,hc,hl⟩:=mp.ex
 have:=hst.top.1.ρ (.tmp x) rfl
 rw [h] at this
 generalize fr.eval (.tmp x) = v at this
 cases this with
 | chan hb'=>rw [(hr.inj.fn (hl ac c ⟨rfl,rfl⟩) hb').1]
theorem MP.closed (mp:MP K Pa H T (fun a b=>a = ac/\b = c) s fr csR W) (h:CE s.w W ac c):MP K Pa H T (fun _ _=>False) s fr csR W:=by
 obtain ⟨β,hr,hst,hb,hc,hl⟩:=mp.ex
 refine ⟨β,hr,hst,hb,fun a b hab=>?_,fun _ _ x=>x.elim⟩
 rcases hc a b hab with ⟨rfl,rfl⟩ | z
 ·exact .inr h
 ·exact .inr z
theorem MP.buf (mp:MP K Pa H T (fun a b=>a = ac/\b = c) s fr csR W) {cap sn en:Nat} {buf:Array Value} {cl tm:Bool} (h:s.w.heap[ac]? = some (.chan cap buf cl sn en tm)):∀ u ∈ buf,clo 20 u = true:=by
 obtain ⟨β,hr,hst,hb,hc,hl⟩:=mp.ex
 obtain ⟨o,o',h1,h2,h3⟩:=hr.at_ ac c .chan (hl ac c ⟨rfl,rfl⟩)
 rw [h] at h1
 cases h1
 cases h3 with
 | chan _ _ _ _ _ _ _ _ _ _ _ _ hcl=>exact hcl
theorem MP.comm (S:je K Pa Pr SpM) (mp:MP K Pa H T (fun a b=>a = ac/\b = c) s fr csR W) {o:Oper} {t:TypeId} (ho:opAt s.f = some o) (hop:o.op = .recv t (.tmp D.tx) true) (hv:s.f.eval (.tmp D.tx) = .chan (some ac)) {z:Value} (hz:qcg Pa t z) :
  opAt fr = some o/\∀ W',stepG Pr true (G fr csR) W' = .comm (G fr csR) #[rcase c z] true (.recv true) W' #[]:=by
 obtain ⟨o',e,sp,_⟩:=mp.qg5 ho (by rw [hop];rfl)
 have hp:=mp.plain
 cases sp with
 | make h1=>rw [hop] at h1;cases h1
 | go h1=>rw [hop] at h1;cases h1
 | @recv t' a h1=>exact ⟨e,fun W'=>qg4 hp e hop (hz.real S.toAlike) (mp.evc hv)⟩
end
end Go.Proofs.Ytcdclihinmdgiaa.sq
namespace Go.Proofs.Ytcdclihinmdgiaa.sq
open Go Go.Conc
open Go.ConcN (sumTo)
set_option linter.unusedVariables false
structure Z0 [Cal] (K:FuncId->Prop) (Pa Pr:Program) (D:ji) (id5:Nat) (W0:World) (s:St) (gs:Array Goroutine) (W:World) (t:Trace):Prop where
 ex:∃ (a:Goroutine) (fr:Frame) (csR:List Frame) (T H:Nat->Prop) (q:Nat->Nat),gs[0]? = some a/\Runs a fr csR/\MP K Pa H T (fun _ _=>False) s fr csR W/\MG D id5 s/\T0 t W.heap.size H/\Reg H T W0 W/\Lvs Pr gs 0 q
theorem qag {gs:Array Goroutine} {i c:Nat} {b:Bool} (h:∀ j g,j ≠ i->gs[j]? = some g->offersAt g c b = []):partners (gs.setIfInBounds i ph) c b = []:=by
 refine partners_nil fun j g hg=>?_
 rcases getElem?_stand gs i j g hg with ⟨_,rfl⟩ | ⟨hj,e⟩
 ·exact offersAt_ph c b
 ·exact h j g hj e
theorem fu {P:Program} {n:Nat} {g:Goroutine} (h:QuitsIn P n g) (c:Nat) (b:Bool):offersAt g c b = [] :=
 offersAt_of_not_blocked (by rcases h.status with e | e <;> rw [e] <;> simp) c b
theorem qfo (g:Nat) (fn:FuncId) (pos:String) (u:Array MemOp):MemOp.ofEvents g fn pos #[] ++ u = u:=by rw [ofEvents_none];simp
theorem qg7 {A:Cal} {P:Program} {f:Frame} (hord:∀ o,opAt f = some o->@bn A P o.op = true):∀ o o',opAt f = some o->¬ SpM o o':=fun o o' ho sp=>by
 have h1:=hord o ho
 rw [@SpM.not P A o o' sp] at h1
 cases h1
theorem qfp {A:Cal} {P:Program} {f:Frame} (hord:∀ o,opAt f = some o->@bn A P o.op = true):∀ (o:Oper) (t:TypeId) (x:Operand) (b:Bool),opAt f = some o->o.op ≠ .recv t x b:=fun o t x b ho e=>by
 have h1:=hord o ho
 rw [e] at h1
 cases h1
section
variable [Cal] {X:Cs} {K:FuncId->Prop} {Pa Pr:Program} {D:ji} {id5:Nat} {Q:Machine->Outcome->World->Trace->Prop} {Qa:St->Prop} {W0:World} {s0:St}
theorem q2u (E:Env X K Pa Pr D id5) (next:∀ s',TG X.A Pa s' s0->qcf (@Tr X.A Pa) EnS Qa s'->∀ gs W sl t,Z0 K Pa Pr D id5 W0 s' gs W t->Ends Pr Q (crowd gs W sl) t) :
  ∀ {sm:St},qcf (@Tr X.A Pa) EnS Qa sm->TG X.A Pa sm s0->∀ (n:Nat) (gs:Array Goroutine) (a:Goroutine) (fr:Frame) (csR:List Frame) (T H:Nat->Prop) (q:Nat->Nat) (W:World) (sl:Option (Nat × Nat)) (t:Trace) (Cb:Nat->Prop) (ac c k pc:Nat),
   sumTo gs.size q = n->gs[0]? = some a->Runs a fr csR->MP K Pa H T (fun a b=>a = ac/\b = c) sm fr csR W->(∃ sn en tm,W.heap[c]? = some (.chan 0 #[] true sn en tm))->(∃ cap sn en tm,sm.w.heap[ac]? = some (.chan cap #[] true sn en tm)) ->
   Lp D (.chan (some ac)) sm.f->(∀ x ∈ sm.cs,GT D id5 x.todo)->TI t W.heap.size H Cb c k->(∀ b,T b->¬ Cb b)->(∀ b,Cb b->b < W.heap.size)->H c->k ≠ 0->Shut t c k pc->Reg H T W0 W->Lvs Pr gs 0 q->Ends Pr Q (crowd gs W sl) t:=by
 intro sm hf
 induction hf with
 | mk sm h0 h1 h2 ih =>
  intro hbel n
  induction n using Nat.strongRecOn with
  | _ n ihn =>
   intro gs a fr csR T H q W sl t Cb ac c k pc hn hg0 hr mp hW hS lp hcs ti hTC hCb hHc hk hsh reg hL
   obtain ⟨i,g,d,sl',hi,hg,hst⟩:=turn hL W sl (fun x hx=>by rw [hg0] at hx;cases hx;exact hr.awake) (fun x hx=>by rw [hg0] at hx;cases hx;exact hr.awake) ⟨0,a,hg0,hr.st⟩
   rcases Nat.eq_zero_or_pos i with rfl | hpos
   ·obtain rfl:a = g:=by rw [hg0] at hi;exact Option.some.inj hi
    have hne:¬ EnS sm:=fun e=>by have:=e.1;rw [lp.mode] at this;cases this
    have reg1:=reg.at d
    have mp1:MP K Pa H T (fun a b=>a = ac/\b = c) sm fr csR (W.at d):=mp.heap rfl
    obtain ⟨s',hs⟩:=h1 hne (jv sm.w (W.at d))
    rcases hs.inv with ⟨es,hord,hne',hstp,hnp⟩ | hsp
    ·have hom:=qg7 hord
     obtain ⟨fr',csR',W',es',e1,mp',mine,ev,hx⟩:=mp1.ord E.SM reg1.hH reg1.hO hom hne' hstp hnp
     obtain ⟨lp',hcs'⟩:=lp.step E.SM E.lp mp1 (w:=qj (jv sm.w (W.at d)) sm.w) rfl hom hstp hnp (qfp hord)
     obtain ⟨gs',r1,r2,r3,r4,r5⟩:=qb8 (i:=0) hL sl' hi (by rw [hr.stp];exact e1) (.inl rfl)
     obtain ⟨sn,en,tm,hW⟩:=hW
     obtain ⟨cap,sn',en',tm',hS⟩:=hS
     refine Ends.next (hst.trans r1) (ih _ s' hs (TG.head (qbq hs) hbel) _ gs' _ fr' csR' (grow T (W.at d) W') H q W' sl' _ Cb ac c k pc rfl r3 (.self _ _) mp' ⟨sn,en,tm,?_⟩ ⟨cap,sn',en',tm',?_⟩ lp' (by rw [hcs'];exact hcs) ?_ ?_ (fun b hb=>Nat.lt_of_lt_of_le (hCb b hb) mine.sz) hHc hk ?_ (reg1.mine mine) r5)
     ·rw [mine.off c (reg.hH c hHc) (.inr hHc)];exact hW
     ·rw [hx ac c ⟨rfl,rfl⟩];exact hS
     ·refine ti.qk9 hHc mine.sz (qwu _ _ ev fun b hb=>⟨(reg1.mine mine).hT b hb,fun hc=>?_⟩)
      rcases hb with z | ⟨z,_⟩
      ·exact hTC b z hc
      ·exact absurd (hCb b hc) (Nat.not_lt.2 z)
     ·intro b hb hc
      rcases hb with z | ⟨z,_⟩
      ·exact hTC b z hc
      ·exact absurd (hCb b hc) (Nat.not_lt.2 z)
     ·refine hsh.app fun op ho hg=>?_
      obtain ⟨e,_,rfl⟩:=Go.Conc.mem_ofEvents ho
      exact absurd hg.symm hk
    ·rcases lp.spk E.lp mp1 hsp with ⟨v,hv⟩ | ⟨z,hz⟩
     ·obtain ⟨o,t',cap,buf,cl,sn,en,tm,ho,hop,hev,hre,hb0,_⟩:=hv.ex
      obtain ⟨cap',sn',en',tm',hS⟩:=hS
      rw [hre] at hS
      cases hS
      simp at hb0
     ·obtain ⟨o,t',cap,sn,en,tm,ho,hop,hev,hre,hzc,hzz,rfl⟩:=hz.ex
      obtain ⟨ho',hcm⟩:=mp1.comm E.SM ho hop hev hzz
      obtain ⟨sn',en',tm',hW⟩:=hW
      have mpF:=mp1.closed ⟨cap,true,sn,en,tm,sn',en',tm',hre,hW⟩
      obtain ⟨c',_,_,_,_,_,_,_,mp2⟩:=mpF.over E.SM ho hop hev hre hzc hzz (jv sm.w (W.at d))
      have hrun:=crowd_recv_closed (P:=Pr) (sl:=sl') (w:=W.at d) (w₁:=W.at d) hi (by rw [hr.stp];exact hcm (W.at d)) hW (qag (i:=0) (b:=true) fun j g hj hg=>fu (hL j g (Nat.pos_of_ne_zero hj) hj hg) c true)
      have hlt:0 < gs.size:=(Array.getElem?_eq_some_iff.1 hi).1
      refine Ends.next (hst.trans hrun) (next _ (TG.head (qbq hs) hbel) (h2 _ _ hs) _ _ _ _ ⟨_,fr.finish (.tuple #[z,.bool false]),csR,T,H,q,Array.getElem?_setIfInBounds_self_of_lt hlt,⟨rfl,rfl,fun _ _ _=>rfl⟩,mp2,⟨lp.out E.lp E.goT ho hop _,hcs⟩,?_,reg1,fun j x hj hjk hx=>?_⟩)
      ·rw [qfo]
       exact ti.over hsh rfl rfl
      ·rw [Array.getElem?_setIfInBounds_ne (Ne.symm hjk)] at hx
       exact hL j x hj hjk hx
   ·obtain ⟨gs',q',r1,r2,r3,r4,r5⟩:=slip hL (W.at d) sl' hi hpos (by omega) hg (fun j x hj hx=>by
     obtain rfl:j = 0:=by rcases hj with h | h <;> exact h
     rw [hg0] at hx;cases hx;exact hr.again _)
    refine Ends.next (hst.trans r1) ?_
    rw [Array.append_empty]
    exact ihn _ (by omega) gs' a fr csR T H q' (W.at d) sl' t Cb ac c k pc rfl (by rw [r3 0 (.inl rfl)];exact hg0) hr (mp.heap rfl) hW hS lp hcs ti hTC hCb hHc hk hsh (reg.at d) r4
end
end Go.Proofs.Ytcdclihinmdgiaa.sq
namespace Go.Proofs.Ytcdclihinmdgiaa.sq
open Go Go.Conc
open Go.ConcN (sumTo)
set_option linter.unusedVariables false
theorem qtv (P:Program) (fn:FuncId) (es:Array Event) (h:∀ x ∈ es,x.sync = true/\∀ g,x.loc ≠ .mark (.extern g)):seen P fn es = es:=by
 obtain ⟨l⟩:=es
 rw [seen_def,seen_fold_sync _ l _ _ (fun x hx=>h x (by simpa using hx))]
 simp
structure qbd [Cal] (X:Cs) (K:FuncId->Prop) (Pa:Program) (D:ji) (id5:Nat) (Qa:St->Prop) (s0:St) (H T:Nat->Prop) (ac c n:Nat) (fr:Frame) (csR:List Frame) (W:World) (L sm:St):Prop where
 fine:qcf (@Tr X.A Pa) EnS Qa sm
 below:TG X.A Pa sm s0
 chan:∃ buf cl,ChanAt L.w ac buf cl/\ChanAt sm.w ac (buf.extract n buf.size) cl
 mp:MP K Pa H T (fun a b=>a = ac/\b = c) sm fr csR W
 lp:Lp D (.chan (some ac)) sm.f
 cs:∀ x ∈ sm.cs,GT D id5 x.todo
section
variable [Cal] {X:Cs} {K:FuncId->Prop} {Pa Pr:Program} {D:ji} {id5:Nat} {Qa:St->Prop} {s0:St} {H T:Nat->Prop} {ac c n:Nat} {fr:Frame} {csR:List Frame} {W:World} {L sm:St}
theorem qbd.ne (h:qbd X K Pa D id5 Qa s0 H T ac c n fr csR W L sm):¬ EnS sm:=fun e=>by have:=e.1;rw [h.lp.mode] at this;cases this
theorem qe1 {s:St} (h:qcf (@Tr X.A Pa) EnS Qa s) (hne:¬ EnS s) (τ:Tape):∃ s',@Tr X.A Pa (s.on τ) s':=by
 cases h with
 | mk _ h0 h1 h2=>exact h1 hne τ
theorem qbd.step (E:Env X K Pa Pr D id5) (h:qbd X K Pa D id5 Qa s0 H T ac c n fr csR W L sm) (hH:∀ b,H b->b < W.heap.size) (hO:Cal.old<=W.heap.size) :
  (∃ fr' csR' W' es' sm',stepG Pr true (G fr csR) W = .go (G fr' csR') W' es'/\Mine T H W W'/\(∀ e ∈ es',EvT (grow T W W') H e)/\Rt X.A Pa sm sm'/\qbd X K Pa D id5 Qa s0 H (grow T W W') ac c n fr' csR' W' L sm') ∨
  (∃ o t z,opAt fr = some o/\o.op = .recv t (.tmp D.tx) true/\∀ W',stepG Pr true (G fr csR) W' = .comm (G fr csR) #[rcase c z] true (.recv true) W' #[]):=by
 obtain ⟨s',hs⟩:=qe1 h.fine h.ne (jv sm.w W)
 rcases hs.inv with ⟨es,hord,hne',hstp,hnp⟩ | hsp
 ·have hom:=qg7 hord
  obtain ⟨fr',csR',W',es',e1,mp',mine,ev,hx⟩:=h.mp.ord E.SM hH hO hom hne' hstp hnp
  obtain ⟨lp',hcs'⟩:=h.lp.step E.SM E.lp h.mp (w:=qj (jv sm.w W) sm.w) rfl hom hstp hnp (qfp hord)
  refine .inl ⟨fr',csR',W',es',s',e1,mine,ev,qbq hs,⟨qbc h.fine (qbq hs),TG.head (qbq hs) h.below,?_,mp',lp',by rw [hcs'];exact h.cs⟩⟩
  obtain ⟨buf,cl,h1,h2⟩:=h.chan
  exact ⟨buf,cl,h1,@kg ‹Cal› ac _ _ _ _ h2 (hx ac c ⟨rfl,rfl⟩)⟩
 ·rcases h.lp.spk E.lp h.mp hsp with ⟨v,hv⟩ | ⟨z,hz⟩
  ·obtain ⟨o,t',cap,buf,cl,sn,en,tm,ho,hop,hev,hre,hb0,⟨z,hzz⟩,_⟩:=hv.ex
   obtain ⟨ho',hcm⟩:=h.mp.comm E.SM ho hop hev hzz
   exact .inr ⟨o,t',z,ho',hop,hcm⟩
  ·obtain ⟨o,t',cap,sn,en,tm,ho,hop,hev,hre,hzc,hzz,rfl⟩:=hz.ex
   obtain ⟨ho',hcm⟩:=h.mp.comm E.SM ho hop hev hzz
   exact .inr ⟨o,t',z,ho',hop,hcm⟩
theorem qbd.recv (E:Env X K Pa Pr D id5) (h:qbd X K Pa D id5 Qa s0 H T ac c n fr csR W L sm) {o:Oper} {t:TypeId} {x:Operand} {b:Bool} (ho:opAt fr = some o) (hop:o.op = .recv t x b) {bufL:Array Value} {cl:Bool} (hL:ChanAt L.w ac bufL cl) {v:Value} (hv:bufL[n]? = some v) :
  ∃ sm',Rt X.A Pa sm sm'/\qbd X K Pa D id5 Qa s0 H T ac c (n + 1) (fr.finish (.tuple #[v,.bool true])) csR W L sm':=by
 obtain ⟨s',hs⟩:=qe1 h.fine h.ne (jv sm.w W)
 have hf:∃ β,FrR Pa SpM β sm.f fr:=let ⟨β,_,hst,_⟩:=h.mp.ex;⟨β,hst.top.1⟩
 obtain ⟨β,hf⟩:=hf
 rcases hs.inv with ⟨es,hord,hne',hstp,hnp⟩ | hsp
 ·exfalso
  cases e:opAt sm.f with
  | none=>rw [qtq hf h.lp.mode e] at ho;cases ho
  | some o2 =>
   obtain ⟨o3,e3,r⟩:=qg3 hf e
   rw [ho] at e3
   cases e3
   rcases r.op with ⟨rfl,_⟩ | z
   ·exact qfp hord _ t x b e hop
   ·exact qg7 hord _ _ e z
 ·obtain ⟨buf,cl',h1,h2⟩:=h.chan
  obtain ⟨rfl,rfl⟩:=@bf ‹Cal› ac _ _ _ _ _ h1 hL
  obtain ⟨cap2,sn2,en2,tm2,h2⟩:=h2.ex
  have hlt:n < buf.size:=(Array.getElem?_eq_some_iff.1 hv).1
  rcases h.lp.spk E.lp h.mp hsp with ⟨v',hv'⟩ | ⟨z,hz⟩
  ·obtain ⟨o4,t',cap,buf4,cl4,sn,en,tm,ho4,hop4,hev,hre,hb0,hzz,rfl⟩:=hv'.ex
   rw [h2] at hre
   cases hre
   have e5:v' = v:=by
    rw [Array.getElem?_extract] at hb0
    rw [if_pos (by omega),Nat.add_zero,hv] at hb0
    exact (Option.some.inj hb0).symm
   subst e5
   obtain ⟨_,mp2⟩:=h.mp.recv E.SM ho4 hop4 hev h2 (by rw [Array.getElem?_extract,if_pos (by omega),Nat.add_zero];exact hv) hzz (h.mp.buf h2) (jv sm.w W)
   obtain ⟨_,_,_,hl⟩:=h.lp.rcv E.lp ho4 hop4
   refine ⟨_,qbq hs,⟨qbc h.fine (qbq hs),TG.head (qbq hs) h.below,⟨buf,cl',h1,⟨cap2,sn2,en2 + 1,tm2,?_⟩⟩,mp2,hl v',h.cs⟩⟩
   have hl2:ac < sm.w.heap.size:=(Array.getElem?_eq_some_iff.1 h2).1
   show (sm.w.heap.setIfInBounds ac _)[ac]? = _
   rw [Array.getElem?_setIfInBounds_self_of_lt hl2]
   congr 2
   rw [Array.extract_extract]
   congr 1
   simp only [Array.size_extract]
   omega
  ·obtain ⟨o4,t',cap,sn,en,tm,ho4,hop4,hev,hre,hzc,hzz,rfl⟩:=hz.ex
   exfalso
   rw [h2] at hre
   have:(buf.extract n buf.size).size = 0:=by
    have:=Option.some.inj hre
    injection this with _ e
    rw [e];rfl
   simp only [Array.size_extract] at this
   omega
theorem qbd.stuck (E:Env X K Pa Pr D id5):∀ {sm:St},qcf (@Tr X.A Pa) EnS Qa sm->∀ (T:Nat->Prop) (fr:Frame) (csR:List Frame) (W:World),qbd X K Pa D id5 Qa s0 H T ac c n fr csR W L sm->(∀ b,H b->b < W.heap.size)->Cal.old<=W.heap.size ->
  (∃ buf,ChanAt L.w ac buf false/\buf.size = n)->False:=by
 intro sm hf
 induction hf with
 | mk sm h0 h1 h2 ih =>
  intro T fr csR W h hH hO hb
  obtain ⟨s',hs⟩:=h1 h.ne (jv sm.w W)
  rcases hs.inv with ⟨es,hord,hne',hstp,hnp⟩ | hsp
  ·have hom:=qg7 hord
   obtain ⟨fr',csR',W',es',e1,mp',mine,ev,hx⟩:=h.mp.ord E.SM hH hO hom hne' hstp hnp
   obtain ⟨lp',hcs'⟩:=h.lp.step E.SM E.lp h.mp (w:=qj (jv sm.w W) sm.w) rfl hom hstp hnp (qfp hord)
   refine ih _ s' hs (grow T W W') fr' csR' W' ⟨qbc h.fine (qbq hs),TG.head (qbq hs) h.below,?_,mp',lp',by rw [hcs'];exact h.cs⟩ (fun b hb=>Nat.lt_of_lt_of_le (hH b hb) mine.sz) (Nat.le_trans hO mine.sz) hb
   obtain ⟨buf,cl,h1,h2⟩:=h.chan
   exact ⟨buf,cl,h1,@kg ‹Cal› ac _ _ _ _ h2 (hx ac c ⟨rfl,rfl⟩)⟩
  ·obtain ⟨buf,hb1,hb2⟩:=hb
   obtain ⟨buf',cl',h1,h2⟩:=h.chan
   obtain ⟨rfl,rfl⟩:=@bf ‹Cal› ac _ _ _ _ _ h1 hb1
   obtain ⟨cap2,sn2,en2,tm2,h2⟩:=h2.ex
   rcases h.lp.spk E.lp h.mp hsp with ⟨v',hv'⟩ | ⟨z,hz⟩
   ·obtain ⟨o4,t',cap,buf4,cl4,sn,en,tm,ho4,hop4,hev,hre,hb0,hzz,rfl⟩:=hv'.ex
    rw [h2] at hre
    cases hre
    rw [Array.getElem?_extract,if_neg (by omega)] at hb0
    cases hb0
   ·obtain ⟨o4,t',cap,sn,en,tm,ho4,hop4,hev,hre,hzc,hzz,rfl⟩:=hz.ex
    rw [h2] at hre
    injection Option.some.inj hre with _ _ e
    cases e
end
end Go.Proofs.Ytcdclihinmdgiaa.sq
namespace Go.Proofs.Ytcdclihinmdgiaa.sq
open Go Go.Conc
open Go.ConcN (sumTo)
set_option linter.unusedVariables false
structure qle (s:St) (v:Value):Prop where
 ex:∃ o cl x y u,opAt s.f = some o/\o.op = .call cl/\cl.callee = .value (.func nfn)/\cl.args = #[x,y,u,.const (.bool true),.const (.bool false)]/\s.f.eval y = v
section
variable {Y:Cs} [C:Cal] {K:FuncId->Prop} {P Pa Pr:Program} {N ac c:Nat} {g:Frame} {rest bR:List Frame} {Q:St->Prop} {H Cb:Nat->Prop} {s:St} {fr:Frame} {csR:List Frame} {W:World} {buf:Array Value}
theorem qlf (S:je K P P SpC) (hcalm:Calm P) {s L:St} (h:qe0 Y.A P (g :: rest).length s L):ChI K P N ac (g :: rest) s->ChanAt s.w ac buf true->ChanAt L.w ac buf true:=by
 induction h with
 | @done s s' h hlt =>
  intro hi hc
  obtain ⟨τ,h⟩:=h
  cases (hi.on τ).tr S hcalm h with
  | ord hi' off sz=>exact kg hc (off.old ac hi.ltN)
  | sp hi' off hsp=>have:=hi'.len;simp at this;simp at hlt;omega
  | out hm hcs hf hc' off sz=>exact kg hc (off.old ac hi.ltN)
 | @step s s' L h hge t ih =>
  intro hi hc
  obtain ⟨τ,h⟩:=h
  cases (hi.on τ).tr S hcalm h with
  | ord hi' off sz=>exact ih hi' (kg hc (off.old ac hi.ltN))
  | sp hi' off hsp =>
   exfalso
   obtain ⟨cap,sn,en,tm,hc⟩:=hc.ex
   generalize hu:s.on τ = u at hsp
   cases hsp with
   | send _ _ _ _ _ _ _ hr=>cases hu;rw [show (qj τ s.w).heap[ac]? = _ from hc] at hr;injection Option.some.inj hr with _ _ e;cases e
   | @shut f w o cl x cap buf2 sn2 en2 tm2 _ _ _ _ _ hr =>
    have e3:qj τ s.w = w:=congrArg St.w hu
    subst e3
    rw [show (qj τ s.w).heap[ac]? = _ from hc] at hr;injection Option.some.inj hr with _ _ e;cases e
  | out hm hcs hf hc' off sz=>rw [hc'] at hge;simp at hge;omega
theorem qje {o:Oper} (ho:opAt fr = some o) {cl:Call} {b:Builtin} (hop:o.op = .call cl) (hc:cl.callee = .builtin b):mayWake Pr (G fr csR) = true:=by
 obtain ⟨hm,ops,i,l,k,htd,hoi,_⟩:=zk ho
 obtain ⟨callee,args,tys⟩:=cl
 simp only at hc
 subst hc
 simp [mayWake,G,hm,htd,hoi,hop]
theorem CP.step (S:je K Pa Pr SpP) (SC:je K Pa Pa SpC) (hcalm:Calm Pa) (sR:∃ F,Pr.funcs[wh]? = some F/\F.results = #[]) (hf:qcf (@Tr Y.A Pa) EnS Q s) (hi:ChI K Pa N ac (g :: rest) s) (hch:ChanAt s.w ac buf false)
  (cp:CP K Pa H Cb ac c (g :: rest) [qap Pr] s fr csR W) (hH:∀ b,H b->b < W.heap.size) (hHc:H c) {sn en:Nat} {tm:Bool} (hW:W.heap[c]? = some (.chan 0 #[] false sn en tm)) :
  (∃ s' fr' csR' W' es',Rt Y.A Pa s s'/\stepG Pr false (G fr csR) W = .go (G fr' csR') W' es'/\ChI K Pa N ac (g :: rest) s'/\ChanAt s'.w ac buf false/\CP K Pa H (grow Cb W W') ac c (g :: rest) [qap Pr] s' fr' csR' W'/\Own Cb W W' ∧
   (∀ e ∈ es',EvT (fun b=>grow Cb W W' b\/b = c) H e)/\W'.heap[c]? = W.heap[c]?) ∨
  (∃ v,qle s v/\stepG Pr false (G fr csR) W = .comm (G fr csR) #[scase c v (.tuple #[])] true .send W #[]) ∨
  (∃ s',Rt Y.A Pa s s'/\ChI K Pa N ac (g :: rest) s'/\ChanAt s'.w ac buf true/\stepG Pr false (G fr csR) W = .go (G (fr.finish undef) csR) { W with heap:=W.heap.setIfInBounds c (.chan 0 #[] true sn en tm) } #[⟨.obj c,false,true⟩,⟨.obj c,true,true⟩] ∧
   QuitsIn Pr 4 (G (fr.finish undef) csR)/\mayWake Pr (G fr csR) = true) ∨
  (∃ L,qe0 Y.A Pa (g :: rest).length s L/\ChanAt L.w ac buf false):=by
 have hne:¬ EnS s:=fun he=>by have:=hi.len;rw [he.2] at this;simp at this
 obtain ⟨s',hs⟩:=qe1 hf hne (jv s.w W)
 obtain ⟨bufc,clc,hbc,hclo⟩:=hi.chan
 obtain ⟨rfl,rfl⟩:=bf hbc hch
 rcases hs.inv with ⟨es,hord,hne',hstp,hnp⟩ | hsp
 ·have hom:∀ o o',opAt s.f = some o->¬ SpP o o':=fun o o' ho sp=>by
   have h1:=hord o ho
   rw [@SpP.not Pa Y.A o o' sp] at h1
   cases h1
  by_cases hbot:s.f.mode = .returning/\s.cs = g :: rest
  ·right;right;right
   cases (hi.on _).tr SC hcalm hs with
   | ord hi' off sz=>exact absurd (hi'.len) (by
     have hl:=hi'.len
     exfalso
     obtain ⟨hm,hcs⟩:=hbot
     have hstp':stepG Pa true (G s.f (g :: (rest ++ [base Pa]))) (qj (jv s.w W) s.w) = .go (G s'.f (s'.cs ++ [base Pa])) s'.w es:=by rw [hcs] at hstp;exact hstp
     obtain ⟨δ,hr,ht,sh⟩:=hi.ex
     rcases qcr SC sh.top.1 hm sh.top.2 (ca:=g) (csA:=rest ++ [base Pa]) (main:=true) (w:=qj (jv s.w W) s.w) with ⟨v,w2,es2,e⟩ | ⟨x,w2,es2,e⟩
     ·rw [e] at hstp'
      obtain ⟨_,e2,_⟩:=qak hstp'
      have:=qee e2
      rw [<-this] at hl
      simp at hl
      omega
     ·rw [e] at hstp';cases hstp')
   | sp hi' off hsp2 =>
     exfalso
     obtain ⟨hm,_⟩:=hbot
     generalize hu:s.on (jv s.w W) = u at hsp2
     cases hsp2 with
     | send h=>cases hu;have:=(zk h).1;rw [hm] at this;cases this
     | @shut f w o cl x cap buf2 sn2 en2 tm2 h =>
      have e1:s.f = f:=congrArg St.f hu
      subst e1
      have:=(zk h).1;rw [hm] at this;cases this
   | out hm hcs hf' hc' off sz=>exact ⟨s',.done (qbq hs) (by rw [hc'];simp),kg hbc (off.old ac hi.ltN)⟩
  ·left
   have hb2:s.f.mode = .returning->s.cs ≠ g :: rest:=fun a b=>hbot ⟨a,b⟩
   obtain ⟨fr',csR',W',es',e1,cp',own,ev,hcc⟩:=cp.ord S hH hHc hom hb2 hstp hnp
   cases (hi.on _).tr SC hcalm hs with
   | ord hi' off sz=>exact ⟨s',fr',csR',W',es',qbq hs,e1,hi',kg hbc (off.old ac hi.ltN),cp',own,ev,hcc⟩
   | sp hi' off hsp2 =>
     exfalso
     generalize hu:s.on (jv s.w W) = u at hsp2
     cases hsp2 with
     | send h ho hc2=>cases hu;have:=hord _ h;rw [ho] at this;simp only [bn,yg,hc2,okA] at this;rw [@qco Y.A nfn (Nat.le_refl _)] at this;cases this
     | @shut f w o cl x cap buf2 sn2 en2 tm2 h ho hc2 =>
      have e1:s.f = f:=congrArg St.f hu
      subst e1
      have:=hord _ h;rw [ho] at this;simp only [bn,yg,hc2] at this;simp [okB] at this
   | out hm hcs hf' hc' off sz=>exact absurd ⟨hm,hcs⟩ hbot
 ·obtain ⟨hsp2,hi',off⟩:=(hi.on (jv s.w W)).sp hsp (fun o ho=>hsp.not o ho)
  obtain ⟨cap0,sn0,en0,tm0,hre0⟩:=hbc.ex
  generalize hu:s.on (jv s.w W) = u at hsp2
  cases hsp2 with
  | send h ho hc2 hx hv hy hclo2 hre =>
   cases hu
   right;left
   obtain ⟨e1,_⟩:=cp.send h ho hc2 hx hv hy hclo2 (show s.w.heap[ac]? = _ from hre) (by
    rw [show (qj (jv s.w W) s.w).heap[ac]? = _ from hre0] at hre;cases hre;exact hclo) (jv s.w W) (cells:=#[]) (el:=0)
   exact ⟨_,⟨_,_,_,_,_,h,ho,hc2,hx,hy⟩,e1⟩
  | @shut f w o cl x cap buf2 sn2 en2 tm2 h ho hc2 hx hv hre htd hfn =>
   right;right;left
   have e1:s.f = f:=congrArg St.f hu
   have e2:s.cs = g :: rest:=congrArg St.cs hu
   have e3:qj (jv s.w W) s.w = w:=congrArg St.w hu
   subst e1 e3
   obtain ⟨F,hF,hres⟩:=sR
   have cp':CP K Pa H Cb ac c (g :: rest) [qap Pr] ⟨s.f,g :: rest,s.w⟩ fr csR W:=by
    have e9:(⟨s.f,g :: rest,s.w⟩:St) = s:=by cases s;simp only at e2;rw [e2]
    rw [e9];exact cp
   obtain ⟨e4,e5⟩:=cp'.shut h ho hc2 hx hv hre htd hfn (Nat.le_refl _) hF hres hW
   obtain ⟨o',e6,sp,_⟩:=cp.qg5 h (by rw [ho];simp only [bn,yg,hc2];simp only [okB])
   rw [show s.w.heap[ac]? = _ from hre] at hre0
   cases hre0
   refine ⟨_,qbq hs,hi',⟨cap0,sn0,en0,tm0,?_⟩,?_,e5,?_⟩
   ·have hl:ac < s.w.heap.size:=(Array.getElem?_eq_some_iff.1 (show s.w.heap[ac]? = _ from hre)).1
    show (s.w.heap.setIfInBounds ac _)[ac]? = _
    exact Array.getElem?_setIfInBounds_self_of_lt hl
   ·rw [e4,qtv]
    intro x hx
    simp at hx
    rcases hx with rfl | rfl <;> exact ⟨rfl,by simp⟩
   ·cases sp with
    | send h1 h2=>rw [ho] at h1;cases h1;rw [hc2] at h2;cases h2
    | shut h1 h2=>exact qje e6 ho hc2
theorem CP.sent (hf:qcf (@Tr Y.A Pa) EnS Q s) (hi:ChI K Pa N ac (g :: rest) s) (hch:ChanAt s.w ac buf false) (cp:CP K Pa H Cb ac c (g :: rest) [qap Pr] s fr csR W) {v:Value} (hs:qle s v) :
  ∃ s',Rt Y.A Pa s s'/\ChI K Pa N ac (g :: rest) s'/\ChanAt s'.w ac (buf.push v) false/\CP K Pa H Cb ac c (g :: rest) [qap Pr] s' (fr.finish undef) csR W/\stepG Pr false (G fr csR) W = .comm (G fr csR) #[scase c v (.tuple #[])] true .send W #[]:=by
 have hne:¬ EnS s:=fun he=>by have:=hi.len;rw [he.2] at this;simp at this
 obtain ⟨s',ht⟩:=qe1 hf hne (jv s.w W)
 obtain ⟨bufc,clc,hbc,hclo⟩:=hi.chan
 obtain ⟨rfl,rfl⟩:=bf hbc hch
 obtain ⟨o0,cl0,x0,y0,u0,h0,ho0,hc0,hx0,hy0⟩:=hs.ex
 rcases ht.inv with ⟨es,hord,hne',hstp,hnp⟩ | hsp
 ·exfalso
  have:=hord _ h0
  rw [ho0] at this
  simp only [bn,yg,hc0,okA] at this
  rw [@qco Y.A nfn (Nat.le_refl _)] at this
  cases this
 ·obtain ⟨hsp2,hi',off⟩:=(hi.on (jv s.w W)).sp hsp (fun o ho=>hsp.not o ho)
  obtain ⟨cap0,sn0,en0,tm0,hre0⟩:=hbc.ex
  generalize hu:s.on (jv s.w W) = u at hsp2
  cases hsp2 with
  | @send f cs w o cl x y u v' cap buf2 sn2 en2 tm2 cells el h ho hc2 hx hv hy hclo2 hre =>
   have e1:s.f = f:=congrArg St.f hu
   have e2:s.cs = cs:=congrArg St.cs hu
   have e3:qj (jv s.w W) s.w = w:=congrArg St.w hu
   subst e1 e2 e3
   rw [h0] at h
   cases h
   rw [ho0] at ho
   cases ho
   rw [hx0] at hx
   have ey:y0 = y:=by simp at hx;exact hx.2.1
   subst ey
   have ev:v' = v:=hy.symm.trans hy0
   subst ev
   rw [show s.w.heap[ac]? = _ from hre] at hre0
   cases hre0
   obtain ⟨q1,q2⟩:=cp.send h0 ho0 hc2 hx0 (by rw [show x0 = x by simp at hx;exact hx.1];exact hv) hy hclo2 (show s.w.heap[ac]? = _ from hre) hclo (jv s.w W) (cells:=cells) (el:=el)
   refine ⟨_,qbq ht,hi',⟨cap0,sn0 + 1,en0,tm0,?_⟩,q2,q1⟩
   have hl:ac < s.w.heap.size:=(Array.getElem?_eq_some_iff.1 (show s.w.heap[ac]? = _ from hre)).1
   show ((s.w.heap.push _).setIfInBounds ac _)[ac]? = _
   exact Array.getElem?_setIfInBounds_self_of_lt (by rw [Array.size_push];exact Nat.lt_succ_of_lt hl)
  | @shut f w o cl x cap buf2 sn2 en2 tm2 h ho hc2 =>
   exfalso
   have e1:s.f = f:=congrArg St.f hu
   subst e1
   rw [h0] at h
   cases h
   rw [ho0] at ho
   cases ho
   rw [hc0] at hc2
   cases hc2
end
end Go.Proofs.Ytcdclihinmdgiaa.sq
namespace Go.Proofs.Ytcdclihinmdgiaa.sq
open Go Go.Conc
open Go.ConcN (sumTo)
set_option linter.unusedVariables false
inductive qqe (c:Nat) (fr:Frame) (csR:List Frame):Goroutine->Nat->Prop
 | run {a:Goroutine} (h:Runs a fr csR):qqe c fr csR a 1
 | wait (z:Value) {o:Oper} {t:TypeId} {x:Operand} {b:Bool} (ho:opAt fr = some o) (hop:o.op = .recv t x b):qqe c fr csR (parked (G fr csR) #[rcase c z] (.recv true)) 0
inductive qt6 (P:Program) (c:Nat) (fr:Frame) (csR:List Frame) (s:St):Goroutine->Nat->Prop
 | born {b:Goroutine} (hst:b.status = .running) (h:∀ W,stepG P false b W = .go (G fr csR) W #[]):qt6 P c fr csR s b 2
 | run:qt6 P c fr csR s (G fr csR) 1
 | wait {v:Value} (h:qle s v):qt6 P c fr csR s (parked (G fr csR) #[scase c v (.tuple #[])] .send) 0
section
variable {P:Program} {c:Nat} {fr:Frame} {csR:List Frame} {s:St} {a b x x':Goroutine} {m:Nat} {W:World}
theorem qqe.awake (h:qqe c fr csR a m):awake a:=by
 cases h with
 | run h=>exact h.awake
 | wait z=>exact awake_of (.inr (.inl rfl))
theorem qt6.awake (h:qt6 P c fr csR s b m):Go.Conc.awake b:=by
 cases h with
 | born h=>exact awake_of (.inl h)
 | run=>exact awake_of (.inl rfl)
 | wait z=>exact awake_of (.inr (.inl rfl))
theorem qqe.again (h:qqe c fr csR a m) {cap sn en:Nat} {buf:Array Value} {tm:Bool} (hc:W.heap[c]? = some (.chan cap buf false sn en tm)):a.again W = a:=by
 cases h with
 | run h=>exact h.again W
 | wait z=>exact again_recv_open hc
theorem qt6.again (h:qt6 P c fr csR s b m) {cap sn en:Nat} {buf:Array Value} {tm:Bool} (hc:W.heap[c]? = some (.chan cap buf false sn en tm)):b.again W = b:=by
 cases h with
 | born h=>exact again_running W (.inl h)
 | run=>exact again_running W (.inl rfl)
 | wait z=>exact again_send_open hc
theorem qqe.running (h:qqe c fr csR a m) (hr:a.status = .running):Runs a fr csR/\m = 1:=by
 cases h with
 | run h=>exact ⟨h,rfl⟩
 | wait z=>cases hr
theorem qqe.shut (h:qqe c fr csR a m) {cap sn en:Nat} {buf:Array Value} {tm:Bool} (hc:W.heap[c]? = some (.chan cap buf true sn en tm)):Runs (a.again W) fr csR:=by
 cases h with
 | run h=>rw [h.again W];exact h
 | wait z=>rw [again_recv_closed hc];exact .tries _ _ _ _
theorem qqe.offers (h:qqe c fr csR a m) (r:Nat):offersAt a r true = []/\(m = 1->offersAt a r false = []):=by
 cases h with
 | run h=>exact ⟨offersAt_of_not_blocked (by rw [h.st];simp) _ _,fun _=>offersAt_of_not_blocked (by rw [h.st];simp) _ _⟩
 | wait z=>exact ⟨offersAt_parked_recv' _ _ _ _ _,fun e=>by cases e⟩
theorem qt6.offers (h:qt6 P c fr csR s b m) (r:Nat):offersAt b r false = []/\(m ≠ 0->offersAt b r true = []):=by
 cases h with
 | born h=>exact ⟨offersAt_of_not_blocked (by rw [h];simp) _ _,fun _=>offersAt_of_not_blocked (by rw [h];simp) _ _⟩
 | run=>exact ⟨offersAt_of_not_blocked (by simp [G]) _ _,fun _=>offersAt_of_not_blocked (by simp [G]) _ _⟩
 | wait z=>exact ⟨offersAt_parked_send' _ _ _ _ _ _,fun e=>absurd rfl e⟩
end
structure Y1 [Cal] (X:Cs) (K:FuncId->Prop) (Pa Pr:Program) (D:ji) (id5:Nat) (Qa:St->Prop) (W0:World) (s0:St) (H:Nat->Prop) (N ac c k:Nat) (g:Frame) (rest:List Frame)
  (sc:St) (T Cb:Nat->Prop) (buf:Array Value) (fr:Frame) (csR:List Frame) (frc:Frame) (csRc:List Frame) (W:World) (t:Trace):Prop where
 hW:∃ sn en tm,W.heap[c]? = some (.chan 0 #[] false sn en tm)
 ci:@ChI X.C K Pa N ac (g :: rest) sc
 ch:ChanAt sc.w ac buf false
 cp:@CP X.C K Pa H Cb ac c (g :: rest) [qap Pr] sc frc csRc W
 lv:∀ L,qe0 X.A Pa (g :: rest).length sc L->∃ sm,qbd X K Pa D id5 Qa s0 H T ac c buf.size fr csR W L sm
 ti:TI t W.heap.size H Cb c k
 tc:∀ b,T b->¬ Cb b
 cb:∀ b,Cb b->b < W.heap.size/\¬ H b/\Cal.old<=b
 hHc:H c
 old:Cal.old<=c
 reg:Reg H T W0 W
structure Mc (Pr:Program) (c k:Nat) (sc:St) (fr:Frame) (csR:List Frame) (frc:Frame) (csRc:List Frame) (gs:Array Goroutine) (a b:Goroutine) (mM mC:Nat) (q:Nat->Nat):Prop where
 g0:gs[0]? = some a
 gk:gs[k]? = some b
 k0:k ≠ 0
 sm:qqe c fr csR a mM
 sc:qt6 Pr c frc csRc sc b mC
 run:mM = 1\/mC ≠ 0
 lvs:Lvs Pr gs k q
section
variable [Cal] {X:Cs} {K:FuncId->Prop} {Pa Pr:Program} {D:ji} {id5:Nat} {Qa:St->Prop} {W0:World} {s0:St} {H:Nat->Prop} {N ac c k n:Nat} {g:Frame} {rest:List Frame}
 {sc:St} {T Cb:Nat->Prop} {buf:Array Value} {fr:Frame} {csR:List Frame} {frc:Frame} {csRc:List Frame} {W W':World} {t u:Trace} {L sm:St}
theorem qbd.heap (h:qbd X K Pa D id5 Qa s0 H T ac c n fr csR W L sm) (e:W'.heap = W.heap):qbd X K Pa D id5 Qa s0 H T ac c n fr csR W' L sm:=⟨h.fine,h.below,h.chan,h.mp.heap e,h.lp,h.cs⟩
theorem qbd.moved (h:qbd X K Pa D id5 Qa s0 H T ac c n fr csR W L sm) (hT:∀ b,T b->b ≠ c->W'.heap[b]? = W.heap[b]?) (hH:H c) (hc:∃ cap buf x sn en tm,W'.heap[c]? = some (.chan cap buf x sn en tm)):qbd X K Pa D id5 Qa s0 H T ac c n fr csR W' L sm :=
 ⟨h.fine,h.below,h.chan,h.mp.rest hT hH hc,h.lp,h.cs⟩
theorem Y1.at (h:Y1 X K Pa Pr D id5 Qa W0 s0 H N ac c k g rest sc T Cb buf fr csR frc csRc W t) (d:Nat):Y1 X K Pa Pr D id5 Qa W0 s0 H N ac c k g rest sc T Cb buf fr csR frc csRc (W.at d) t :=
 ⟨h.hW,h.ci,h.ch,@CP.heap X.C _ _ _ _ _ _ _ _ _ _ _ _ _ h.cp rfl,fun L hL=>let ⟨sm,x⟩:=h.lv L hL;⟨sm,x.heap rfl⟩,h.ti,h.tc,h.cb,h.hHc,h.old,h.reg.at d⟩
omit [Cal] in
theorem qtw:∀ s,EnS s->s.cs = []:=fun s h=>h.2
theorem Y1.leaf (E:Env X K Pa Pr D id5) (h:Y1 X K Pa Pr D id5 Qa W0 s0 H N ac c k g rest sc T Cb buf fr csR frc csRc W t) (hf:qcf (@Tr X.A Pa) EnS Qa sc):∃ L sm,qe0 X.A Pa (g :: rest).length sc L/\qbd X K Pa D id5 Qa s0 H T ac c buf.size fr csR W L sm:=by
 obtain ⟨L,hL⟩:=@qow X.A X.C K Pa N ac g rest EnS Qa E.SC E.calm qtw sc hf h.ci
 obtain ⟨sm,x⟩:=h.lv L hL
 exact ⟨L,sm,hL,x⟩
theorem Y1.meet (E:Env X K Pa Pr D id5) (h:Y1 X K Pa Pr D id5 Qa W0 s0 H N ac c k g rest sc T Cb buf fr csR frc csRc W t) (hf:qcf (@Tr X.A Pa) EnS Qa sc) {v:Value} (hs:qle sc v) {o:Oper} {ty:TypeId} {x:Operand} {b:Bool} (ho:opAt fr = some o) (hop:o.op = .recv ty x b)
  {sn en:Nat} {tm:Bool} (hW':W'.heap = W.heap.setIfInBounds c (.chan 0 #[] false sn en tm)) (e1:W'.tape = W.tape) (e2:W'.os = W.os) (e3:W'.output = W.output) (hu:∀ op ∈ u,op.act.touch? = none/\op.act ≠ .mark .disable/\op.act ≠ .mark .enable) :
  ∃ sc',Rt X.A Pa sc sc'/\Y1 X K Pa Pr D id5 Qa W0 s0 H N ac c k g rest sc' T Cb (buf.push v) (fr.finish (.tuple #[v,.bool true])) csR (frc.finish undef) csRc W' (t ++ u):=by
 obtain ⟨sc',hrt,hci,hch,hcp,_⟩:=@CP.sent X X.C K Pa Pr N ac c g rest Qa H Cb sc frc csRc W buf hf h.ci h.ch h.cp v hs
 obtain ⟨sn0,en0,tm0,hW⟩:=h.hW
 have hlt:c < W.heap.size:=(Array.getElem?_eq_some_iff.1 hW).1
 have hc':W'.heap[c]? = some (.chan 0 #[] false sn en tm):=by rw [hW'];exact Array.getElem?_setIfInBounds_self_of_lt hlt
 have off:∀ b,b ≠ c->W'.heap[b]? = W.heap[b]?:=fun b hb=>by rw [hW'];exact Array.getElem?_setIfInBounds_ne (Ne.symm hb)
 have hsz:W'.heap.size = W.heap.size:=by rw [hW'];simp
 refine ⟨sc',hrt,⟨⟨sn,en,tm,hc'⟩,hci,hch,@CP.rest X.C _ _ _ _ _ _ _ _ _ _ _ _ _ hcp (fun b hb=>off b fun e=>?_) ⟨_,_,_,_,_,_,hc'⟩,fun L hL=>?_,?_,h.tc,fun b hb=>by rw [hsz];exact h.cb b hb,h.hHc,h.old,h.reg.mono ⟨e2,e1,e3,Nat.le_of_eq hsz.symm,fun b hb=>off b ?_⟩⟩⟩
 ·subst e;exact (h.cb _ hb).2.1 h.hHc
 ·obtain ⟨sm,lm⟩:=h.lv L (.step hrt (@ChI.len X.C _ _ _ _ _ _ hci) hL)
  obtain ⟨_,_,_,hl⟩:=@qg1 X.A X.C K Pa N ac g rest E.SC E.calm sc' L hL hci
  obtain ⟨more,cl',hcL⟩:=hl _ _ hch
  obtain ⟨sm',_,lm'⟩:=lm.recv E ho hop hcL (v:=v) (by
   rw [Array.getElem?_append,if_pos (by simp),Array.getElem?_push,if_pos rfl])
  refine ⟨sm',?_⟩
  rw [Array.size_push]
  exact lm'.moved (fun b _ hb=>off b hb) h.hHc ⟨_,_,_,_,_,_,hc'⟩
 ·rw [hsz];exact h.ti.mute hu
 ·have:=h.old;omega
theorem Y1.q0k (h:Y1 X K Pa Pr D id5 Qa W0 s0 H N ac c k g rest sc T Cb buf fr csR frc csRc W t) {fr':Frame} {csR':List Frame} {es:Array Event} {fn:FuncId} {pos:String} (mine:Mine T H W W') (ev:∀ e ∈ es,EvT (grow T W W') H e)
  (lv:∀ L,qe0 X.A Pa (g :: rest).length sc L->∃ sm,qbd X K Pa D id5 Qa s0 H (grow T W W') ac c buf.size fr' csR' W' L sm) :
  Y1 X K Pa Pr D id5 Qa W0 s0 H N ac c k g rest sc (grow T W W') Cb buf fr' csR' frc csRc W' (t ++ MemOp.ofEvents 0 fn pos es):=by
 have hc:W'.heap[c]? = W.heap[c]?:=mine.off c (h.reg.hH c h.hHc) (.inr h.hHc)
 have htc:∀ b,grow T W W' b->¬ Cb b:=fun b hb hcb=>by
  rcases hb with z | ⟨z,_⟩
  ·exact h.tc b z hcb
  ·exact absurd (h.cb b hcb).1 (Nat.not_lt.2 z)
 obtain ⟨sn,en,tm,hW⟩:=h.hW
 refine ⟨⟨sn,en,tm,by rw [hc];exact hW⟩,h.ci,h.ch,@CP.rest X.C _ _ _ _ _ _ _ _ _ _ _ _ _ h.cp (fun b hb=>mine.off b (h.cb b hb).1 (.inl fun z=>h.tc b z hb)) ⟨_,_,_,_,_,_,by rw [hc];exact hW⟩,lv,?_,htc,fun b hb=>⟨Nat.lt_of_lt_of_le (h.cb b hb).1 mine.sz,(h.cb b hb).2⟩,h.hHc,h.old,h.reg.mine mine⟩
 exact h.ti.qk9 h.hHc mine.sz (qwu _ _ ev fun b hb=>⟨(h.reg.mine mine).hT b hb,htc b hb⟩)
theorem Y1.q41 (h:Y1 X K Pa Pr D id5 Qa W0 s0 H N ac c k g rest sc T Cb buf fr csR frc csRc W t) {sc':St} {frc':Frame} {csRc':List Frame} {es:Array Event} {fn:FuncId} {pos:String} (hrt:Rt X.A Pa sc sc') (ci:@ChI X.C K Pa N ac (g :: rest) sc') (ch:ChanAt sc'.w ac buf false)
  (cp:@CP X.C K Pa H (grow Cb W W') ac c (g :: rest) [qap Pr] sc' frc' csRc' W') (own:Own Cb W W') (ev:∀ e ∈ es,EvT (fun b=>grow Cb W W' b\/b = c) H e) (hc:W'.heap[c]? = W.heap[c]?) :
  Y1 X K Pa Pr D id5 Qa W0 s0 H N ac c k g rest sc' T (grow Cb W W') buf fr csR frc' csRc' W' (t ++ MemOp.ofEvents k fn pos es):=by
 obtain ⟨sn,en,tm,hW⟩:=h.hW
 have hcb:∀ b,grow Cb W W' b->b < W'.heap.size/\¬ H b/\Cal.old<=b:=fun b hb=>by
  rcases hb with z | ⟨z,z2⟩
  ·exact ⟨Nat.lt_of_lt_of_le (h.cb b z).1 own.sz,(h.cb b z).2⟩
  ·exact ⟨z2,fun hh=>absurd (h.reg.hH b hh) (Nat.not_lt.2 z),Nat.le_trans h.reg.hO z⟩
 have offT:∀ b,T b->W'.heap[b]? = W.heap[b]?:=fun b hb=>own.off b (h.reg.hT b hb) fun z=>h.tc b hb z
 refine ⟨⟨sn,en,tm,by rw [hc];exact hW⟩,ci,ch,cp,fun L hL=>?_,?_,fun b hb hcb=>?_,hcb,h.hHc,h.old,h.reg.mono ⟨own.os,own.tape,own.out,own.sz,fun b hb=>own.off b (Nat.lt_of_lt_of_le hb h.reg.hO) fun z=>?_⟩⟩
 ·obtain ⟨sm,lm⟩:=h.lv L (.step hrt (@ChI.len X.C _ _ _ _ _ _ ci) hL)
  exact ⟨sm,lm.moved (fun b hb _=>offT b hb) h.hHc ⟨_,_,_,_,_,_,by rw [hc];exact hW⟩⟩
 ·refine h.ti.qh3 h.hHc own.sz (fun b hb=>.inl hb) (fun b hb=>hb.imp id fun z=>z.1) (q33 _ _ ev fun b hb=>?_)
  rcases hb with z | rfl
  ·exact ⟨(hcb b z).1,.inl ⟨z,(hcb b z).2.1⟩⟩
  ·exact ⟨Nat.lt_of_lt_of_le (h.reg.hH _ h.hHc) own.sz,.inr ⟨rfl,h.hHc⟩⟩
 ·rcases hcb with z | ⟨z,_⟩
  ·exact h.tc b hb z
  ·exact absurd (h.reg.hT b hb) (Nat.not_lt.2 z)
 ·have:=(h.cb b z).2.2;omega
end
end Go.Proofs.Ytcdclihinmdgiaa.sq
namespace Go.Proofs.Ytcdclihinmdgiaa.sq
open Go Go.Conc
open Go.ConcN (sumTo)
set_option linter.unusedVariables false
section
variable {Pr:Program} {c k:Nat} {sc:St} {fr:Frame} {csR:List Frame} {frc:Frame} {csRc:List Frame} {gs gs':Array Goroutine} {a a' b b':Goroutine} {mM mC mM' mC':Nat} {q:Nat->Nat}
theorem Mc.lt (h:Mc Pr c k sc fr csR frc csRc gs a b mM mC q):0 < gs.size/\k < gs.size:=⟨(Array.getElem?_eq_some_iff.1 h.g0).1,(Array.getElem?_eq_some_iff.1 h.gk).1⟩
theorem Mc.q42 (h:Mc Pr c k sc fr csR frc csRc gs a b mM mC q) {sd:Bool} (hb:offersAt b c sd = []):partners (gs.setIfInBounds 0 ph) c sd = []:=by
 refine qag fun j g hj hg=>?_
 by_cases hk:j = k
 ·subst hk;rw [h.gk] at hg;cases hg;exact hb
 ·exact fu (h.lvs j g (Nat.pos_of_ne_zero hj) hk hg) c sd
theorem Mc.q43 (h:Mc Pr c k sc fr csR frc csRc gs a b mM mC q) {sd:Bool} (hb:offersAt a c sd = []):partners (gs.setIfInBounds k ph) c sd = []:=by
 refine qag fun j g hj hg=>?_
 by_cases hk:j = 0
 ·subst hk;rw [h.g0] at hg;cases hg;exact hb
 ·exact fu (h.lvs j g (Nat.pos_of_ne_zero hk) hj hg) c sd
theorem Mc.q44 (h:Mc Pr c k sc fr csR frc csRc gs a b mM mC q) {v:Value} {f:Frame} {cs:List Frame} (hb:b = parked (G f cs) #[scase c v (.tuple #[])] .send):partners (gs.setIfInBounds 0 ph) c true = [(k,0)]:=by
 rw [partners_one (j:=k) (g:=b) (by rw [Array.getElem?_setIfInBounds_ne (Ne.symm h.k0)];exact h.gk) (fun j x hj hx=>?_)]
 ·rw [hb,offersAt_parked_send];simp
 ·rcases getElem?_stand gs 0 j x hx with ⟨_,rfl⟩ | ⟨hj0,e⟩
  ·exact offersAt_ph c true
  ·exact fu (h.lvs j x (Nat.pos_of_ne_zero hj0) hj e) c true
theorem Mc.q45 (h:Mc Pr c k sc fr csR frc csRc gs a b mM mC q) {z:Value} {f:Frame} {cs:List Frame} (hb:a = parked (G f cs) #[rcase c z] (.recv true)):partners (gs.setIfInBounds k ph) c false = [(0,0)]:=by
 rw [partners_one (j:=0) (g:=a) (by rw [Array.getElem?_setIfInBounds_ne h.k0];exact h.g0) (fun j x hj hx=>?_)]
 ·rw [hb,offersAt_parked_recv];simp
 ·rcases getElem?_stand gs k j x hx with ⟨_,rfl⟩ | ⟨hj0,e⟩
  ·exact offersAt_ph c false
  ·exact fu (h.lvs j x (Nat.pos_of_ne_zero hj) hj0 e) c false
theorem Lvs.two (h:Lvs Pr gs k q) (hs:∀ j,j ≠ 0->j ≠ k->gs'[j]? = gs[j]?):Lvs Pr gs' k q:=fun j x hj hjk hx=>h j x hj hjk (by rw [<-hs j (Nat.ne_of_gt hj) hjk];exact hx)
end
section
variable [Cal] {X:Cs} {K:FuncId->Prop} {Pa Pr:Program} {D:ji} {id5:Nat} {Q:Machine->Outcome->World->Trace->Prop} {Qa:St->Prop} {W0:World} {s0:St}
theorem phase1 (E:Env X K Pa Pr D id5) (next:∀ s',TG X.A Pa s' s0->qcf (@Tr X.A Pa) EnS Qa s'->∀ gs W sl t,Z0 K Pa Pr D id5 W0 s' gs W t->Ends Pr Q (crowd gs W sl) t)
  {H:Nat->Prop} {N ac c k:Nat} {g:Frame} {rest:List Frame} :
  ∀ {sc:St},qcf (@Tr X.A Pa) EnS Qa sc->∀ {sm0:St},qcf (@Tr X.A Pa) EnS Qa sm0->∀ (n:Nat) (gs:Array Goroutine) (a b:Goroutine) (fr:Frame) (csR:List Frame) (frc:Frame) (csRc:List Frame) (T Cb:Nat->Prop) (q:Nat->Nat) (W:World) (sl:Option (Nat × Nat)) (t:Trace) (buf:Array Value) (mM mC:Nat) (L0:St),
   sumTo gs.size q + mM + mC = n->Y1 X K Pa Pr D id5 Qa W0 s0 H N ac c k g rest sc T Cb buf fr csR frc csRc W t->Mc Pr c k sc fr csR frc csRc gs a b mM mC q->qe0 X.A Pa (g :: rest).length sc L0->qbd X K Pa D id5 Qa s0 H T ac c buf.size fr csR W L0 sm0 ->
   Ends Pr Q (crowd gs W sl) t:=by
 intro sc hfc
 induction hfc with
 | mk sc h0 h1 h2 ihc =>
  have hfc:qcf (@Tr X.A Pa) EnS Qa sc:=.mk sc h0 h1 h2
  intro sm0 hfm
  induction hfm with
  | mk sm0 m0 m1 m2 ihm =>
   intro n
   induction n using Nat.strongRecOn with
   | _ n ihn =>
    intro gs a b fr csR frc csRc T Cb q W sl t buf mM mC L0 hn y m hL0 hl0
    have meet:∀ {d:Nat} {v:Value} {o:Oper} {ty:TypeId} {x:Operand} {bb:Bool} {sn en:Nat} {tm:Bool} {gs':Array Goroutine} {W':World} {sl':Option (Nat × Nat)} {u:Array MemOp},
      qle sc v->opAt fr = some o->o.op = .recv ty x bb->gs'[0]? = some (G (fr.finish (.tuple #[v,.bool true])) csR)->gs'[k]? = some (G (frc.finish undef) csRc)->(∀ j,j ≠ 0->j ≠ k->gs'[j]? = gs[j]?) ->
      W'.heap = (W.at d).heap.setIfInBounds c (.chan 0 #[] false sn en tm)->W'.tape = W.tape->W'.os = W.os->W'.output = W.output->(∀ op ∈ u,op.act.touch? = none/\op.act ≠ .mark .disable/\op.act ≠ .mark .enable)->Ends Pr Q (crowd gs' W' sl') (t ++ u):=by
     intro d v o ty x bb sn en tm gs' W' sl' u hs ho hop e0 ek ej hW' t1 t2 t3 hu
     obtain ⟨sc',⟨τ,hrt⟩,y'⟩:=(y.at d).meet E hfc hs ho hop (W':=W') hW' t1 t2 t3 hu
     have hf':=h2 τ sc' hrt
     obtain ⟨L',sm',hL',lm'⟩:=y'.leaf E hf'
     exact ihc τ sc' hrt lm'.fine _ gs' _ _ _ csR _ csRc T Cb q W' sl' (t ++ u) _ 1 1 L' rfl y' ⟨e0,ek,m.k0,.run (.self _ _),.run,.inl rfl,m.lvs.two ej⟩ hL' lm'
    obtain ⟨sn,en,tm,hW⟩:=y.hW
    obtain ⟨i,x,d,sl',hi,hx,hst⟩:=turn m.lvs W sl (fun x hx=>by rw [m.g0] at hx;cases hx;exact m.sm.awake) (fun x hx=>by rw [m.gk] at hx;cases hx;exact m.sc.awake) (by
     rcases m.run with e | e
     ·refine ⟨0,a,m.g0,?_⟩
      have hsm:=m.sm
      rw [e] at hsm
      cases hsm with
      | run h=>exact h.st
     ·refine ⟨k,b,m.gk,?_⟩
      have hsc:=m.sc
      cases hsc with
      | born h=>exact h
      | run=>rfl
      | wait=>exact absurd rfl e)
    have y1:=y.at d
    have hW1:(W.at d).heap[c]? = some (.chan 0 #[] false sn en tm):=hW
    have lt:=m.lt
    by_cases hi0:i = 0
    ·
     subst hi0
     obtain rfl:a = x:=by rw [m.g0] at hi;exact Option.some.inj hi
     obtain ⟨hr,rfl⟩:=m.sm.running hx
     rcases (hl0.heap (W':=W.at d) rfl).step E y1.reg.hH y1.reg.hO with ⟨fr',csR',W',es,sm',e1,mine,ev,⟨τ,hrt⟩,lm'⟩ | ⟨o,ty,z,ho,hop,hcm⟩
     ·obtain ⟨gs',r1,r2,r3,r4,r5⟩:=qb8 (i:=0) m.lvs sl' hi (by rw [hr.stp];exact e1) (.inl rfl)
      have hc:W'.heap[c]? = some (.chan 0 #[] false sn en tm):=by rw [mine.off c (y1.reg.hH c y1.hHc) (.inr y1.hHc)];exact hW1
      have y':=y1.q0k (fn:=a.frame.fn) (pos:=a.frame.place) mine ev (fr':=fr') (csR':=csR') (fun L hL=>by
       obtain ⟨sm,lm⟩:=y1.lv L hL
       rcases lm.step E y1.reg.hH y1.reg.hO with ⟨fr2,csR2,W2,es2,sm2,e2,_,_,_,lm2⟩ | ⟨o,ty,z,ho,hop,hcm⟩
       ·rw [e1] at e2
        cases e2
        exact ⟨sm2,lm2⟩
       ·rw [hcm] at e1;cases e1)
      refine Ends.next (hst.trans r1) (ihm τ sm' hrt _ gs' _ b fr' csR' frc csRc _ Cb q W' sl' _ buf 1 mC L0 rfl y' ⟨r3,?_,m.k0,.run (.self _ _),m.sc,.inl rfl,r5⟩ hL0 lm')
      rw [r4 k b m.k0 m.gk,qb9 (m.sc.again hc)]
     ·have hgo:stepG Pr (0 == 0) a (W.at d) = .comm (G fr csR) #[rcase c z] true (.recv true) (W.at d) #[]:=by rw [hr.stp];exact hcm _
      have hsc:=m.sc
      generalize hb:b = b0 at hsc
      have wait:mC ≠ 0->Ends Pr Q (crowd gs W sl) t:=fun hne=>by
       have hrun:=crowd_waits (P:=Pr) (sl:=sl') hi hgo (fun cc hcc=>by
        obtain rfl:cc = rcase c z:=by simpa using hcc
        exact ways_recv_none hW1 (m.q42 ((m.sc.offers c).2 hne)))
       refine Ends.next (hst.trans hrun) ?_
       rw [ofEvents_none,Array.append_empty]
       exact ihn (sumTo gs.size q + 0 + mC) (by omega) _ _ b fr csR frc csRc T Cb q (W.at d) sl' t buf 0 mC L0 (by simp) y1 ⟨Array.getElem?_setIfInBounds_self_of_lt lt.1,by rw [Array.getElem?_setIfInBounds_ne (Ne.symm m.k0)];exact m.gk,m.k0,.wait z ho hop,m.sc,.inr hne,m.lvs.two fun j hj hjk=>Array.getElem?_setIfInBounds_ne (Ne.symm hj)⟩ hL0 (hl0.heap rfl)
      cases hsc with
      | born _ _=>exact wait (by simp)
      | run=>exact wait (by simp)
      | @wait v hs =>
       have hrun:=crowd_recv_meets (P:=Pr) (sl:=sl') hi hgo hW1 (j:=k) m.k0 (by rw [m.gk,hb]) (m.q44 hb)
       refine Ends.next (hst.trans hrun) ?_
       rw [qfo]
       exact meet (d:=d) hs ho hop (by rw [Array.getElem?_setIfInBounds_self_of_lt (by simpa using lt.1)];rfl) (by rw [Array.getElem?_setIfInBounds_ne (Ne.symm m.k0),Array.getElem?_setIfInBounds_self_of_lt lt.2];rfl)
        (fun j hj hjk=>by rw [Array.getElem?_setIfInBounds_ne (Ne.symm hj),Array.getElem?_setIfInBounds_ne (Ne.symm hjk)]) rfl rfl rfl rfl (by simp [MemAct.touch?])
    by_cases hik:i = k
    ·
     subst hik
     obtain rfl:b = x:=by rw [m.gk] at hi;exact Option.some.inj hi
     have hi0':(i == 0) = false:=by simpa using hi0
     have hsc:=m.sc
     generalize hb:b = b0 at hsc
     cases hsc with
     | wait hs=>rw [hb] at hx;cases hx
     | born hst2 hstp =>
      subst hb
      obtain ⟨gs',r1,r2,r3,r4,r5⟩:=qb8 (i:=i) m.lvs sl' hi (by rw [hi0'];exact hstp (W.at d)) (.inr rfl)
      refine Ends.next (hst.trans r1) ?_
      rw [ofEvents_none,Array.append_empty]
      refine ihn (sumTo gs.size q + mM + 1) (by omega) gs' a _ fr csR frc csRc T Cb q (W.at d) sl' t buf mM 1 L0 (by rw [r2]) y1 ⟨?_,r3,m.k0,m.sm,.run,.inr (by simp),r5⟩ hL0 (hl0.heap rfl)
      rw [r4 0 a (Ne.symm hi0) m.g0,qb9 (m.sm.again hW1)]
     | run =>
      subst hb
      rcases @CP.step X X.C K Pa Pr N ac c g rest Qa H Cb sc frc csRc (W.at d) buf E.SP E.SC E.calm (let ⟨F,x,y,_⟩:=E.sR;⟨F,x,y⟩) hfc y1.ci y1.ch y1.cp y1.reg.hH y1.hHc sn en tm hW1 with
       ⟨sc',frc',csRc',W',es,⟨τ,hrt⟩,e1,ci,ch,cp,own,ev,hc⟩ | ⟨v,hs,e1⟩ | ⟨sc',⟨τ,hrt⟩,ci,ch,e1,hq,hmw⟩ | ⟨L,hL,hcL⟩
      ·obtain ⟨gs',r1,r2,r3,r4,r5⟩:=qb8 (i:=i) m.lvs sl' hi (by rw [hi0'];exact e1) (.inr rfl)
       have y':=y1.q41 (fn:=(G frc csRc).frame.fn) (pos:=(G frc csRc).frame.place) ⟨τ,hrt⟩ ci ch cp own ev hc
       obtain ⟨L',sm',hL',lm'⟩:=y'.leaf E (h2 τ sc' hrt)
       refine Ends.next (hst.trans r1) (ihc τ sc' hrt lm'.fine _ gs' a _ fr csR frc' csRc' T _ q W' sl' _ buf mM 1 L' rfl y' ⟨?_,r3,m.k0,m.sm,.run,.inr (by simp),r5⟩ hL' lm')
       rw [r4 0 a (Ne.symm hi0) m.g0,qb9 (m.sm.again (by rw [hc];exact hW1))]
      ·have hgo:stepG Pr (i == 0) (G frc csRc) (W.at d) = .comm (G frc csRc) #[scase c v (.tuple #[])] true .send (W.at d) #[]:=by rw [hi0'];exact e1
       have hsm:=m.sm
       generalize ha:a = a0 at hsm
       cases hsm with
       | run hr =>
        have hrun:=crowd_waits (P:=Pr) (sl:=sl') hi hgo (fun cc hcc=>by
         obtain rfl:cc = scase c v (.tuple #[]):=by simpa using hcc
         exact ways_send_none hW1 (by simp) (m.q43 ((m.sm.offers c).2 rfl)))
        refine Ends.next (hst.trans hrun) ?_
        rw [ofEvents_none,Array.append_empty]
        exact ihn (sumTo gs.size q + 1 + 0) (by omega) _ a _ fr csR frc csRc T Cb q (W.at d) sl' t buf 1 0 L0 (by simp) y1 ⟨by rw [Array.getElem?_setIfInBounds_ne hi0];exact m.g0,Array.getElem?_setIfInBounds_self_of_lt lt.2,m.k0,m.sm,.wait hs,.inl rfl,m.lvs.two fun j hj hjk=>Array.getElem?_setIfInBounds_ne (Ne.symm hjk)⟩ hL0 (hl0.heap rfl)
       | @wait z o ty x bb ho hop =>
        have hrun:=crowd_send_meets (P:=Pr) (sl:=sl') hi hgo hW1 (j:=0) (Ne.symm hi0) (by rw [m.g0,ha]) (m.q45 ha)
        refine Ends.next (hst.trans hrun) ?_
        rw [qfo]
        exact meet (d:=d) hs ho hop (by rw [Array.getElem?_setIfInBounds_ne hi0,Array.getElem?_setIfInBounds_self_of_lt lt.1];rfl) (by rw [Array.getElem?_setIfInBounds_self_of_lt (by simpa using lt.2)];rfl)
         (fun j hj hjk=>by rw [Array.getElem?_setIfInBounds_ne (Ne.symm hjk),Array.getElem?_setIfInBounds_ne (Ne.symm hj)]) rfl rfl rfl rfl (by simp [MemAct.touch?])
      ·
       obtain ⟨gs',r1,r2,r3,r4,r5⟩:=qb8 (i:=i) m.lvs sl' hi (by rw [hi0'];exact e1) (.inr rfl)
       have hf':=h2 τ sc' hrt
       obtain ⟨L',hL'⟩:=@qow X.A X.C K Pa N ac g rest EnS Qa E.SC E.calm qtw sc' hf' ci
       obtain ⟨sm,lm⟩:=y1.lv L' (.step ⟨τ,hrt⟩ (@ChI.len X.C _ _ _ _ _ _ ci) hL')
       have hcl:=@qlf X X.C K Pa N ac g rest buf E.SC E.calm sc' L' hL' ci ch
       have hltc:c < (W.at d).heap.size:=y1.reg.hH c y1.hHc
       generalize hW':({ (W.at d) with heap:=(W.at d).heap.setIfInBounds c (.chan 0 #[] true sn en tm) }:World) = W' at *
       have hc':W'.heap[c]? = some (.chan 0 #[] true sn en tm):=by rw [<-hW'];exact Array.getElem?_setIfInBounds_self_of_lt hltc
       have off:∀ b,b ≠ c->W'.heap[b]? = (W.at d).heap[b]?:=fun b hb=>by rw [<-hW'];exact Array.getElem?_setIfInBounds_ne (Ne.symm hb)
       have hsz:W'.heap.size = (W.at d).heap.size:=by rw [<-hW'];simp
       have bel:RowKit.Below Cal.old (W.at d) W':=⟨by rw [<-hW'],by rw [<-hW'],by rw [<-hW'],Nat.le_of_eq hsz.symm,fun b hb=>off b (by have:=y1.old;omega)⟩
       have lm':=lm.moved (W':=W') (fun b _ hb=>off b hb) y1.hHc ⟨_,_,_,_,_,_,hc'⟩
       have hsm:∃ cap sn en tm,sm.w.heap[ac]? = some (.chan cap #[] true sn en tm):=by
        obtain ⟨buf',cl',q1,q2⟩:=lm.chan
        obtain ⟨rfl,rfl⟩:=@bf ‹Cal› ac _ _ _ _ _ hcl q1
        obtain ⟨cap,s1,s2,s3,q2⟩:=q2.ex
        have:buf.extract buf.size buf.size = #[]:=by simp
        rw [this] at q2
        exact ⟨cap,s1,s2,s3,q2⟩
       have hev:MemOp.ofEvents i (G frc csRc).frame.fn (G frc csRc).frame.place #[⟨.obj c,false,true⟩,⟨.obj c,true,true⟩] = #[{ g:=i,fn:=(G frc csRc).frame.fn,pos:=(G frc csRc).frame.place,act:=.access ⟨.obj c,false,true⟩ }] ++ #[{ g:=i,fn:=(G frc csRc).frame.fn,pos:=(G frc csRc).frame.place,act:=.close c }]:=by
        rw [ofEvents_eq];simp only [List.map_toArray,List.map_cons,List.map_nil,List.append_toArray,List.cons_append,List.nil_append];rfl
       refine Ends.next (hst.trans r1) (q2u E next lm'.fine lm'.below _ gs' (a.again W') fr csR T H (fun j=>if j = i then 4 else q j) W' sl' _ Cb ac c i (t ++ #[({ g:=i,fn:=(G frc csRc).frame.fn,pos:=(G frc csRc).frame.place,act:=.access ⟨.obj c,false,true⟩ }:MemOp)]).size rfl ?_ (m.sm.shut hc') lm'.mp ⟨_,_,_,hc'⟩ hsm lm'.lp lm'.cs ?_ y1.tc (fun b hb=>by rw [hsz];exact (y1.cb b hb).1) y1.hHc m.k0 ?_ (y1.reg.mono bel) (fun j x hj _ hx=>?_))
       ·rw [r4 0 a (Ne.symm hi0) m.g0]
        unfold Go.Conc.woken
        rw [hmw]
        rfl
       ·rw [hev,<-Array.append_assoc]
        refine TI.mute (TI.qh3 y1.ti y1.hHc (Nat.le_of_eq hsz.symm) (fun b hb=>hb) (fun b hb=>.inl hb) fun op ho=>?_) fun op ho=>?_
        ·obtain rfl:op = _:=by simpa using ho
         refine ⟨rfl,by simp,fun x hx _=>?_⟩
         simp only [MemAct.touch?,Option.some.injEq] at hx
         subst hx
         exact ⟨by rw [hsz];exact hltc,.inr ⟨rfl,rfl,rfl⟩⟩
        ·obtain rfl:op = _:=by simpa using ho
         simp [MemAct.touch?]
       ·rw [hev,<-Array.append_assoc]
        exact Shut.new rfl rfl
       ·by_cases e:j = i
        ·subst e
         rw [r3] at hx
         cases hx
         simp only [if_pos rfl]
         exact hq
        ·simp only [if_neg e]
         exact r5 j x hj e hx
      ·exfalso
       obtain ⟨sm,lm⟩:=y1.lv L hL
       exact qbd.stuck E lm.fine T fr csR (W.at d) lm y1.reg.hH y1.reg.hO ⟨buf,hcL,rfl⟩
    ·obtain ⟨gs',q',r1,r2,r3,r4,r5⟩:=slip m.lvs (W.at d) sl' hi (Nat.pos_of_ne_zero hi0) hik hx (fun j x hj hx=>by
      rcases hj with rfl | rfl
      ·rw [m.g0] at hx;cases hx;exact m.sm.again hW1
      ·rw [m.gk] at hx;cases hx;exact m.sc.again hW1)
     refine Ends.next (hst.trans r1) ?_
     rw [Array.append_empty]
     exact ihn _ (by omega) gs' a b fr csR frc csRc T Cb q' (W.at d) sl' t buf mM mC L0 rfl y1 ⟨by rw [r3 0 (.inl rfl)];exact m.g0,by rw [r3 k (.inr rfl)];exact m.gk,m.k0,m.sm,m.sc,m.run,r4⟩ hL0 (hl0.heap rfl)
end
end Go.Proofs.Ytcdclihinmdgiaa.sq
namespace Go.Proofs.Ytcdclihinmdgiaa.sq
open Go Go.Conc
open Go.ConcN (sumTo)
set_option linter.unusedVariables false
section
variable {A:Cal} {P:Program}
theorem q0l {c g v:Value} {f:Frame} {cs:List Frame} {L:St} (hL:L.f = (gk c g).finish v) (hcs:L.cs = f :: cs) (hF:∃ F,P.funcs[nfn + 1]? = some F/\F.results = #[]) (hm:f.mode = .run):TG A P ⟨f.finish undef,cs,L.w⟩ L:=by
 obtain ⟨F,hF,hres⟩:=hF
 obtain ⟨lf,lcs,w⟩:=L
 simp only at hL hcs
 subst hL hcs
 have e0:(gk c g).finish v = ⟨nfn + 1,#[c,g,c,.bool true,.bool false],[.inRegion qdk []],[],.run,.normal,none⟩:=rfl
 rw [e0]
 have t1:Rt A P ⟨⟨nfn + 1,#[c,g,c,.bool true,.bool false],[.inRegion qdk []],[],.run,.normal,none⟩,f :: cs,w⟩ ⟨⟨nfn + 1,#[c,g,c,.bool true,.bool false],[],[],.run,.normal,none⟩,f :: cs,w⟩ :=
  ⟨w.tape,.go (es:=#[]) (fun o ho=>by cases ho) (fun h=>by cases h) (by simp [stepG,G,stepG.exec];rfl) (.inl rfl)⟩
 have t2:Rt A P ⟨⟨nfn + 1,#[c,g,c,.bool true,.bool false],[],[],.run,.normal,none⟩,f :: cs,w⟩ ⟨⟨nfn + 1,#[c,g,c,.bool true,.bool false],[],[],.returning,.normal,none⟩,f :: cs,w⟩ :=
  ⟨w.tape,.go (es:=#[]) (fun o ho=>by cases ho) (fun h=>by cases h) (by simp [stepG,G,stepG.exec];rfl) (.inr rfl)⟩
 have t3:Rt A P ⟨⟨nfn + 1,#[c,g,c,.bool true,.bool false],[],[],.returning,.normal,none⟩,f :: cs,w⟩ ⟨f.finish undef,cs,w⟩:=by
  refine ⟨w.tape,.go (es:=#[]) (fun o ho=>by cases ho) (fun _=>by simp) ?_ (.inl (by rw [uz];exact hm))⟩
  have hr:(results F #[c,g,c,.bool true,.bool false]).runT P (qj w.tape w) #[] = (.ok undef (qj w.tape w),#[]):=by
   unfold results
   rw [hres,Array.mapM_eq_mapM_toList]
   rfl
  simp only [stepG,G,unwind,hF,List.cons_append,hr,GStep.after,doReturn,Array.append_empty]
  simp only [seen_none]
  rfl
 exact TG.head t3 (TG.head t2 (.single t1))
end
section
variable {Y:Cs} [C:Cal] {K:FuncId->Prop} {P:Program} {N ac:Nat} {g:Frame} {rest:List Frame}
theorem qtx (S:je K P P SpC) (hcalm:Calm P) {s L:St} (h:qe0 Y.A P (g :: rest).length s L):ChI K P N ac (g :: rest) s->∃ buf cl,ChanAt L.w ac buf cl/\∀ v ∈ buf,clo 20 v = true:=by
 induction h with
 | @done s s' h hlt =>
  intro hi
  obtain ⟨buf,cl,hc,hb⟩:=hi.chan
  obtain ⟨τ,h⟩:=h
  cases (hi.on τ).tr S hcalm h with
  | ord hi' off sz=>exact ⟨buf,cl,kg hc (off.old ac hi.ltN),hb⟩
  | sp hi' off hsp=>exact hi'.chan
  | out hm hcs hf hc' off sz=>exact ⟨buf,cl,kg hc (off.old ac hi.ltN),hb⟩
 | @step s s' L h hge t ih =>
  intro hi
  obtain ⟨τ,h⟩:=h
  cases (hi.on τ).tr S hcalm h with
  | ord hi' off sz=>exact ih hi'
  | sp hi' off hsp=>exact ih hi'
  | out hm hcs hf hc' off sz=>rw [hc'] at hge;simp at hge;omega
end
section
variable [Cal] {K:FuncId->Prop} {Pa Pr:Program} {H T:Nat->Prop} {s:St} {fr:Frame} {csR:List Frame} {W:World}
theorem MP.done (S:je K Pa Pr SpM) (ini:∀ f,K f->Pr.inits.idxOf? f = none) (mp:MP K Pa H T (fun _ _=>False) s fr csR W) (hen:EnS s) (hg:qxq Pa (fun v _=>v = .bool true) s) (hH:∀ b,H b->b < W.heap.size) (hO:Cal.old<=W.heap.size) :
  ∃ W' es,stepG Pr true (G fr csR) W = .ended (.done (.bool true)) W' es/\(∀ e ∈ es,EvT (grow T W W') H e)/\Mine T H W W':=by
 obtain ⟨β,hr,hst,hb,hc,hl⟩:=mp.ex
 obtain ⟨hm,hcs⟩:=hen
 obtain ⟨F,v,hF,hres,rfl⟩:=hg
 obtain ⟨hf,hfn⟩:=hst.top
 have hk:csR = []/\fr.kind = .normal:=by
  have hst2:=hst
  generalize hq:s.cs = q at hst2
  cases hst2 with
  | one _ _ hb=>exact ⟨rfl,hb.2 rfl⟩
  | more=>rw [hcs] at hq;cases hq
 obtain ⟨rfl,hk⟩:=hk
 obtain ⟨Fr,hFr,hrs⟩:=S.text s.f.fn F hfn hF
 have sr:=qdb S.toAlike4.toAlike3.toAlike hrs hf.tmps
 have hrun:=(SRf.local sr (τ:=jv s.w W) hr hres (fun i q h1 h2=>absurd h2 (Nat.not_lt.2 h1))).1
 obtain ⟨β',v',W',new,e1,ran,hv,ev⟩:=SRf.sound sr (w:=qj (jv s.w W) s.w) (ES:=#[]) ⟨hr.inj,hr.at_⟩ (.inl (qh4 _ _)) hrun
 have hv':v' = .bool true:=by cases hv;rfl
 subst hv'
 rw [Array.empty_append] at e1
 have hFr':Pr.funcs[fr.fn]? = some Fr:=by rw [hf.fn];exact hFr
 have hst':=qa0 Pr true [] (hf.mode.trans hm) hf.nod' hFr' e1
 have hd:doReturn Pr true fr [] none (.bool true) W' = .ended (.done (.bool true)) W' #[]:=by
  unfold doReturn
  rw [hk]
  simp only
  rw [show Pr.inits.idxOf? fr.fn = none by rw [hf.fn];exact ini _ hfn]
  rfl
 rw [hd] at hst'
 obtain ⟨t1,t2⟩:=qox (w:=qj (jv s.w W) s.w) ⟨hr.inj,hr.at_⟩ ran hH hO hb
 refine ⟨W',seen Pr fr.fn new ++ #[],by rw [hst'];rfl,fun e he=>?_,t2⟩
 rw [Array.append_empty] at he
 exact (ev e (mem_seen he)).evT fun a b k q=>⟨(t1 a b k q).1,(t1 a b k q).2.1⟩
end
end Go.Proofs.Ytcdclihinmdgiaa.sq
namespace Go.Proofs.Ytcdclihinmdgiaa.sq
open Go Go.Conc
open Go.ConcN (sumTo)
set_option linter.unusedVariables false
theorem qwv {T:St->St->Prop} {En Q:St->Prop} {s:St} (h:qcf T En Q s):Acc (fun a b:St=>∃ τ,T (b.on τ) a) s:=by
 induction h with
 | mk s h0 h1 h2 ih=>exact .intro s fun b ⟨τ,hb⟩=>ih τ b hb
def Done (Pr:Program) (old:Nat) (W0:World):Machine->Outcome->World->Trace->Prop:=Good Pr fun v W'=>v = .bool true/\RowKit.Below old W0 W'
section
variable [C:Cal] {K:FuncId->Prop} {Pa Pr:Program}
theorem qlg {β:Bl} {gv:Value} {a b:Nat} (hclo:clo 20 gv = true) (h:β a b .chan):AR β #[gv,.chan (some a)] #[gv,.chan (some b)]:=(AR.one (qcd 20 gv hclo)).push (.chan h)
theorem ChI.first (SC:je K Pa Pa SpC) (ent:C.ent wh = true) (Ksr:K wh) (sA:∃ F c,Pa.funcs[wh]? = some F/\F.body = some c/\qez c = true) {gv:Value} {bA:List Frame} {w:World} {r cap sn en:Nat} {tm:Bool} (h:w.heap[r]? = some (.chan cap #[] false sn en tm)) (hclo:clo 20 gv = true) :
  ChI K Pa w.heap.size r bA ⟨Frame.enter Pa wh #[gv,.chan (some r)] .normal,bA,w⟩:=by
 obtain ⟨FA,cA,hFA,hbA,htA⟩:=sA
 have lr:r < w.heap.size:=(Array.getElem?_eq_some_iff.1 h).1
 refine ⟨⟨fun a b k=>a = r/\b = r/\k = .chan,⟨⟨?_,?_⟩,?_⟩,⟨?_,⟨rfl,rfl,rfl⟩,lr⟩,.one (FrR.enter SC (.inr ent) (qlg hclo ⟨rfl,rfl,rfl⟩) (by decide)) Ksr ?_ rfl⟩,Nat.le_refl _⟩
 ·rintro a b b' k k' ⟨rfl,rfl,rfl⟩ ⟨_,rfl,rfl⟩;exact ⟨rfl,rfl⟩
 ·rintro a a' b k k' ⟨rfl,rfl,rfl⟩ ⟨rfl,_,rfl⟩;exact .inl rfl
 ·rintro a b k ⟨rfl,rfl,rfl⟩
  exact ⟨_,_,h,h,.chan _ _ _ _ _ _ _ _ _ _ _ _ (by simp)⟩
 ·rintro a b k ⟨rfl,rfl,rfl⟩;exact .inr ⟨rfl,rfl,rfl⟩
 ·simp only [Frame.enter,hFA,Option.bind_some,hbA,Option.getD_some,CT,qdx]
  exact htA
theorem CP.first (SP:je K Pa Pr SpP) (ent:C.ent wh = true) (Ksr:K wh) {H:Nat->Prop} {gv:Value} {bA:List Frame} {w:World} {r cap sn en:Nat} {tm:Bool} (h:w.heap[r]? = some (.chan cap #[] false sn en tm)) (hclo:clo 20 gv = true) {W:World} {cc sn' en':Nat} {tm':Bool} (hW:W.heap[cc]? = some (.chan 0 #[] false sn' en' tm')) :
  CP K Pa H (fun _=>False) r cc bA [qap Pr] ⟨Frame.enter Pa wh #[gv,.chan (some r)] .normal,bA,w⟩ (Frame.enter Pr wh #[gv,.chan (some cc)] .deferred) [qap Pr] W:=by
 refine ⟨⟨fun a b k=>a = r/\b = cc/\k = .chan,⟨⟨?_,?_⟩,?_⟩,.one (FrR.enter SP (.inr ent) (qlg hclo ⟨rfl,rfl,rfl⟩) (by decide)) Ksr ⟨fun _=>rfl,fun e=>by cases e⟩,?_,⟨rfl,rfl,rfl⟩⟩⟩
 ·rintro a b b' k k' ⟨rfl,rfl,rfl⟩ ⟨_,rfl,rfl⟩;exact ⟨rfl,rfl⟩
 ·rintro a a' b k k' ⟨rfl,rfl,rfl⟩ ⟨rfl,_,rfl⟩;exact .inl rfl
 ·rintro a b k ⟨rfl,rfl,rfl⟩
  exact ⟨_,_,h,hW,.chan _ _ _ _ _ _ _ _ _ _ _ _ (by simp)⟩
 ·rintro a b k ⟨rfl,rfl,rfl⟩;exact .inr ⟨rfl,rfl,rfl⟩
end
section
variable [Cal] {X:Cs} {K:FuncId->Prop} {Pa Pr:Program} {D:ji} {id5:Nat} {W0:World}
theorem qa6 (E:Env X K Pa Pr D id5) {Q:St->Prop} {s:St} {H T:Nat->Prop} {fr:Frame} {csR:List Frame} {W:World} {t:Trace} (hf:qcf (@Tr X.A Pa) EnS Q s) (mp:MP K Pa H T (fun _ _=>False) s fr csR W) (mg:MG D id5 s) (t0:T0 t W.heap.size H) (reg:Reg H T W0 W)
  {τ:Tape} {s1:St} (hs:@Tr X.A Pa (s.on τ) s1) {o:Oper} {c:Call} {x y z:Operand} {gv:Value} {r cap sn en:Nat} {buf:Array Value} {tm:Bool} {cells:Array Value} {el:TypeId} (ho:opAt s.f = some o) (hop:o.op = .call c) (hcc:c.callee = .value (.func (nfn + 1)))
  (hx:c.args = #[x,y,z,.const (.bool true),.const (.bool false)]) (hv:s.f.eval x = .chan (some r)) (hy:s.f.eval y = gv) (hz:s.f.eval z = .chan (some r)) (hclo:clo 20 gv = true) (hre:s.w.heap[r]? = some (.chan cap buf false sn en tm))
  (hs1:s1 = ⟨gk (.chan (some r)) gv,s.f :: s.cs,{ (qj τ s.w) with heap:=(s.w.heap.push (.cells cells el)).setIfInBounds r (.chan cap ((buf.push (.bool true)).extract 1 (buf.size + 1)) false (sn + 1) (en + 1) tm) }⟩)
  (k:Nat) :
  ∃ cc sc,TG X.A Pa sc s/\qcf (@Tr X.A Pa) EnS Q sc/\stepG Pr true (G fr csR) W = .spawn (G (fr.finish undef) csR) (born Pr { target:=.fn (.func wh) #[],args:=#[gv,.chan (some cc)] }) W #[] ∧
   (∀ W',stepG Pr false (born Pr { target:=.fn (.func wh) #[],args:=#[gv,.chan (some cc)] }) W' = .go (G (Frame.enter Pr wh #[gv,.chan (some cc)] .deferred) [qap Pr]) W' #[]) ∧
   ∀ u:Array MemOp,(∀ op ∈ u,op.act.touch? = none/\op.act ≠ .mark .disable/\op.act ≠ .mark .enable)->Y1 X K Pa Pr D id5 Q W0 s H s1.w.heap.size r cc k (gk (.chan (some r)) gv) (s.f :: s.cs) sc T (fun _=>False) #[] (fr.finish undef) csR (Frame.enter Pr wh #[gv,.chan (some cc)] .deferred) [qap Pr] W (t ++ u):=by
 obtain ⟨cc,hHc,hTc,⟨sn',en',tm',hW⟩,hbuf,hgo,hcont⟩:=mp.go E.SM ho hop hcc hx hv hy hclo hre
 subst hbuf
 have lr:r < s.w.heap.size:=(Array.getElem?_eq_some_iff.1 hre).1
 have f1:qcf (@Tr X.A Pa) EnS Q s1:=qbc hf (qbq hs)
 obtain ⟨s2,hs2⟩:=qe1 f1 (fun e=>by have:=e.2;rw [hs1] at this;simp at this) s1.w.tape
 have hg:opAt s1.f = some (oNo (.call { callee:=.value (.func wh),args:=#[.tmp 1,.tmp 0],argTypes:=#[] })):=by rw [hs1];rfl
 have e2:s2 = ⟨Frame.enter Pa wh #[gv,.chan (some r)] .normal,gk (.chan (some r)) gv :: s.f :: s.cs,s1.w⟩:=by
  rcases hs2.inv with ⟨es,hord,_,_,_⟩ | hsp
  ·have h1:=hord _ hg
   simp only [oNo,bn,yg,okA] at h1
   rw [X.A.no] at h1
   cases h1
  ·generalize hq:s1.on s1.w.tape = q at hsp
   have q1:∀ {f:Frame} {cs:List Frame} {w:World},s1.on s1.w.tape = ⟨f,cs,w⟩->f = gk (.chan (some r)) gv/\cs = s.f :: s.cs/\w = s1.w:=fun {f cs w} h=>by
    have a1:s1.f = f:=congrArg St.f h
    have a2:s1.cs = cs:=congrArg St.cs h
    have a3:qj s1.w.tape s1.w = w:=congrArg St.w h
    rw [<-a1,<-a2,<-a3,hs1]
    exact ⟨rfl,rfl,rfl⟩
   have nope:∀ {f:Frame} {cs:List Frame} {w:World} {o:Oper},s1.on s1.w.tape = ⟨f,cs,w⟩->opAt f = some o->o = oNo (.call { callee:=.value (.func wh),args:=#[.tmp 1,.tmp 0],argTypes:=#[] }):=fun {f cs w o} h h2=>by
    rw [(q1 h).1,<-show s1.f = gk (.chan (some r)) gv by rw [hs1],hg] at h2
    exact (Option.some.inj h2).symm
   cases hsp with
   | wh h ho2 hc2 =>
    obtain rfl:=nope hq h
    cases ho2
    obtain ⟨rfl,rfl,rfl⟩:=q1 hq
    rw [show Array.map (gk (.chan (some r)) gv).eval #[.tmp 1,.tmp 0] = #[gv,.chan (some r)] from qz9 _]
   | make n h ho2=>obtain rfl:=nope hq h;cases ho2
   | shut h ho2 hc2=>obtain rfl:=nope hq h;cases ho2;cases hc2
   | go h ho2 hc2=>obtain rfl:=nope hq h;cases ho2;simp only [Callee.value.injEq,Operand.func.injEq] at hc2;exact absurd hc2 (by decide)
   | send h ho2 hc2=>obtain rfl:=nope hq h;cases ho2;simp only [Callee.value.injEq,Operand.func.injEq] at hc2;exact absurd hc2 (by decide)
   | recv h ho2=>obtain rfl:=nope hq h;cases ho2
   | over h ho2=>obtain rfl:=nope hq h;cases ho2
 have f2:qcf (@Tr X.A Pa) EnS Q s2:=qbc f1 (qbq hs2)
 have b2:TG X.A Pa s2 s:=TG.head (qbq hs2) (.single (qbq hs))
 have h1r:s1.w.heap[r]? = some (.chan cap #[] false (sn + 1) (en + 1) tm):=by
  rw [hs1]
  show ((s.w.heap.push _).setIfInBounds r _)[r]? = _
  rw [Array.getElem?_setIfInBounds_self_of_lt (by rw [Array.size_push];omega)]
  rfl
 have h1z:s1.w.heap.size = s.w.heap.size + 1:=by rw [hs1];simp
 have h1o:∀ a,a < s.w.heap.size->a ≠ r->s1.w.heap[a]? = s.w.heap[a]?:=fun a ha hne=>by
  rw [hs1]
  show ((s.w.heap.push _).setIfInBounds r _)[a]? = _
  rw [Array.getElem?_setIfInBounds_ne (Ne.symm hne),Array.getElem?_push,if_neg (Nat.ne_of_lt ha)]
 obtain ⟨FR,hFR,hrR,hbR,hnR⟩:=E.sR
 have w2:s2.w = s1.w:=by rw [e2]
 have ci:@ChI X.C K Pa s1.w.heap.size r (gk (.chan (some r)) gv :: s.f :: s.cs) s2:=by rw [e2];exact @ChI.first X.C K Pa E.SC E.q18 E.Ksr E.sA _ _ _ _ _ _ _ _ h1r hclo
 have cp:@CP X.C K Pa H (fun _=>False) r cc (gk (.chan (some r)) gv :: s.f :: s.cs) [qap Pr] s2 (Frame.enter Pr wh #[gv,.chan (some cc)] .deferred) [qap Pr] W:=by rw [e2];exact @CP.first X.C K Pa Pr E.SP E.q18 E.Ksr H _ _ _ _ _ _ _ _ h1r hclo _ _ _ _ _ hW
 refine ⟨cc,s2,b2,f2,hgo,fun W'=>@qqd X.C Pr W' _ FR hFR hbR hnR,fun u hu=>⟨⟨sn',en',tm',hW⟩,ci,⟨cap,sn + 1,en + 1,tm,by rw [w2];exact h1r⟩,cp,fun L hL=>?_,?_,fun _ _ h=>h,fun _ h=>h.elim,hHc,reg.hold cc hHc,reg⟩⟩
 ·obtain ⟨⟨v,l1⟩,l2,l3,_⟩:=@qg1 X.A X.C K Pa _ r _ _ E.SC E.calm s2 L hL ci
  obtain ⟨l4,l5⟩:=qqb hL f2
  obtain ⟨bufL,cl,l6,l7⟩:=@qtx X X.C K Pa _ r _ _ E.SC E.calm s2 L hL ci
  have bk:=@q0l X.A Pa _ _ v s.f s.cs L l1 l2 E.gA (zk ho).1
  have fin:∀ {a b:St},TG X.A Pa a b->qcf (@Tr X.A Pa) EnS Q b->qcf (@Tr X.A Pa) EnS Q a:=fun {a b} h=>by
   induction h with
   | single h=>exact fun hf=>qbc hf h
   | tail h1 h2 ih=>exact fun hf=>ih (qbc hf h2)
  refine ⟨⟨s.f.finish undef,s.cs,L.w⟩,fin bk l4,Relation.TransGen.trans bk (Relation.TransGen.trans l5 b2),⟨bufL,cl,l6,by simpa using l6⟩,hcont L.w W (fun a ha hne=>?_) ?_ rfl,Lp.start E.goT mg ho hop hcc hx hz,mg.cs⟩
  ·rw [l3.old a (by omega) hne,w2,h1o a ha hne]
  ·obtain ⟨c1,c2,c3,c4,l6⟩:=l6.ex
   exact ⟨c1,bufL,cl,c2,c3,c4,l6,l7⟩
 ·exact (t0.ti cc k).mute hu
end
end Go.Proofs.Ytcdclihinmdgiaa.sq
namespace Go.Proofs.Ytcdclihinmdgiaa.sq
open Go Go.Conc
open Go.ConcN (sumTo)
set_option linter.unusedVariables false
theorem qjf {o o':Oper} (sp:SpM o o') {c:Call} (ho:o.op = .call c) (h:c.callee ≠ .value (.func (nfn + 1))):False:=by
 cases sp with
 | make h1=>rw [ho] at h1;cases h1
 | go h1 h2=>rw [ho] at h1;cases h1;exact h h2
 | recv h1=>rw [ho] at h1;cases h1
theorem qww {o o':Oper} (sp:SpM o o') {t:TypeId} {x:Operand} {b:Bool} (ho:o.op = .recv t x b):∃ a,x = .tmp a:=by
 cases sp with
 | make h1=>rw [ho] at h1;cases h1
 | go h1=>rw [ho] at h1;cases h1
 | recv h1=>rw [ho] at h1;cases h1;exact ⟨_,rfl⟩
section
variable [Cal] {K:FuncId->Prop} {Pa Pr:Program} {D:ji} {id5:Nat} {W0:World} {gs:Array Goroutine} {a:Goroutine} {fr:Frame} {csR:List Frame} {H T:Nat->Prop} {q:Nat->Nat} {W W':World} {t u:Trace} {s:St}
theorem qty (t0:T0 t W'.heap.size H) (reg:Reg H T W0 W') (hL:Lvs Pr gs 0 q) {w:World} {sl:Option (Nat × Nat)}:Done Pr Cal.old W0 (crowd gs w sl) (.done (.bool true)) W' t:=by
 refine ⟨.bool true,rfl,⟨rfl,reg.bel⟩,t0.clean,t0.over,⟨fun x hx=>?_,rfl⟩,fun j x hx hj=>?_⟩
 ·obtain ⟨j,hj⟩:=List.mem_iff_getElem?.1 hx
  rw [List.getElem?_drop] at hj
  exact ⟨_,(hL (1 + j) x (by omega) (by omega) (by simpa [crowd] using hj)).leaves⟩
 ·have hq:=hL j x (Nat.pos_of_ne_zero hj) hj hx
  refine ⟨q j,?_⟩
  rw [t0.still.deaf]
  exact hq.hears _ 0
theorem q2v {X:Cs} (E:Env X K Pa Pr D id5):∀ {s:St},qcf (@Tr X.A Pa) EnS (qxq Pa fun v _=>v = .bool true) s->∀ gs W sl t,Z0 K Pa Pr D id5 W0 s gs W t->Ends Pr (Done Pr Cal.old W0) (crowd gs W sl) t:=by
 intro s hf
 have acc:Acc (fun a b=>TG X.A Pa a b) s:=(qwv hf).transGen
 revert hf
 induction acc with
 | intro s _ ih =>
  intro hf gs W sl t z
  obtain ⟨a,fr,csR,T,H,q,hg0,hr,mp,mg,t0,reg,hL⟩:=z.ex
  clear z
  generalize hn:sumTo gs.size q = n
  induction n using Nat.strongRecOn generalizing gs W sl t a q with
  | _ n ihn =>
   obtain ⟨i,g,d,sl',hi,hg,hst⟩:=turn hL W sl (fun x hx=>by rw [hg0] at hx;cases hx;exact hr.awake) (fun x hx=>by rw [hg0] at hx;cases hx;exact hr.awake) ⟨0,a,hg0,hr.st⟩
   rcases Nat.eq_zero_or_pos i with rfl | hpos
   ·obtain rfl:a = g:=by rw [hg0] at hi;exact Option.some.inj hi
    have lt:0 < gs.size:=(Array.getElem?_eq_some_iff.1 hg0).1
    have reg1:=reg.at d
    have mp1:MP K Pa H T (fun _ _=>False) s fr csR (W.at d):=mp.heap rfl
    by_cases hen:EnS s
    ·
     have hga:qxq Pa (fun v _=>v = .bool true) s:=by cases hf with | mk _ h0 _ _=>exact h0 hen
     obtain ⟨W',es,e1,ev,mine⟩:=mp1.done E.SM E.ini hen hga reg1.hH reg1.hO
     have hrun:=runT_many_ended (P:=Pr) (sl:=sl') (i:=0) hi (show stepG Pr (0 == 0) a (W.at d) = _ by rw [hr.stp];exact e1)
     have reg':=reg1.mine mine
     exact Ends.stop (hst.trans hrun) (qty (t0.step mine.sz (qwu _ _ ev fun b hb=>⟨reg'.hT b hb,fun x=>x⟩)) reg' hL)
    ·obtain ⟨s',hs⟩:=qe1 hf hen (jv s.w (W.at d))
     have hf':qcf (@Tr X.A Pa) EnS (qxq Pa fun v _=>v = .bool true) s':=qbc hf (qbq hs)
     have bel:TG X.A Pa s' s:=.single (qbq hs)
     rcases hs.inv with ⟨es,hord,hne',hstp,hnp⟩ | hsp
     ·have hom:=qg7 hord
      obtain ⟨fr',csR',W',es',e1,mp',mine,ev,_⟩:=mp1.ord E.SM reg1.hH reg1.hO hom hne' hstp hnp
      have mg':=mg.step E.SM E.txt E.goT mp1 (w:=qj (jv s.w (W.at d)) s.w) rfl hom hne' hstp hnp
      obtain ⟨gs',r1,r2,r3,r4,r5⟩:=qb8 (i:=0) hL sl' hi (by rw [hr.stp];exact e1) (.inl rfl)
      have reg':=reg1.mine mine
      exact Ends.next (hst.trans r1) (ih s' bel hf' gs' W' sl' _ ⟨_,fr',csR',_,H,q,r3,.self _ _,mp',mg',t0.step mine.sz (qwu _ _ ev fun b hb=>⟨reg'.hT b hb,fun x=>x⟩),reg',r5⟩)
     ·have frr:∃ β,FrR Pa SpM β s.f fr:=let ⟨β,_,hst,_⟩:=mp1.ex;⟨β,hst.top.1⟩
      have nope:∀ {o:Oper},opAt s.f = some o->(∃ o',SpM o o'):=fun {o} ho=>let ⟨o',_,sp,_⟩:=mp1.qg5 ho (hsp.not o ho);⟨o',sp⟩
      have mgf:∀ v w,MG D id5 ⟨s.f.finish v,s.cs,w⟩:=fun v w=>let ⟨β,hf⟩:=frr;⟨qg6 hf mg.top v,mg.cs⟩
      generalize hu:s.on (jv s.w (W.at d)) = uu at hsp
      have q1:∀ {f:Frame} {cs:List Frame} {w:World},s.on (jv s.w (W.at d)) = ⟨f,cs,w⟩->s.f = f/\s.cs = cs/\qj (jv s.w (W.at d)) s.w = w:=fun {f cs w} h=>⟨congrArg St.f h,congrArg St.cs h,congrArg St.w h⟩
      cases hsp with
      | make nn h ho hty =>
       obtain ⟨rfl,rfl,rfl⟩:=q1 hu
       obtain ⟨W',e1,mp',mine,hsz⟩:=mp1.make E.SM reg1.hH reg1.hO nn h ho hty (jv s.w (W.at d))
       obtain ⟨gs',r1,r2,r3,r4,r5⟩:=qb8 (i:=0) hL sl' hi (by rw [hr.stp];exact e1) (.inl rfl)
       have reg':=reg1.mine mine
       refine Ends.next (hst.trans r1) (ih _ bel hf' gs' W' sl' _ ⟨_,_,csR,_,_,q,r3,.self _ _,mp',mgf _ _,?_,⟨fun b hb=>?_,fun b hb=>?_,reg'.hT,reg'.hO,reg'.bel⟩,r5⟩)
       ·rw [ofEvents_none,Array.append_empty]
        exact (t0.chans fun b hb=>hb.imp id fun e=>Nat.le_of_eq e.symm).mono mine.sz
       ·rcases hb with z | rfl
        ·exact reg'.hH b z
        ·omega
       ·rcases hb with z | rfl
        ·exact reg'.hold b z
        ·exact reg1.hO
      | shut h ho hc=>obtain ⟨rfl,rfl,rfl⟩:=q1 hu;obtain ⟨o',sp⟩:=nope h;exact (qjf sp ho (by rw [hc];simp)).elim
      | wh h ho hc=>obtain ⟨rfl,rfl,rfl⟩:=q1 hu;obtain ⟨o',sp⟩:=nope h;exact (qjf sp ho (by rw [hc];simp only [ne_eq,Callee.value.injEq,Operand.func.injEq];decide)).elim
      | send h ho hc=>obtain ⟨rfl,rfl,rfl⟩:=q1 hu;obtain ⟨o',sp⟩:=nope h;exact (qjf sp ho (by rw [hc];simp only [ne_eq,Callee.value.injEq,Operand.func.injEq];decide)).elim
      | @recv f cs w o ty x v r cap buf sn en tm cl h ho hv hre hb hzz =>
       exfalso
       obtain ⟨rfl,rfl,rfl⟩:=q1 hu
       obtain ⟨o',sp⟩:=nope h
       obtain ⟨a2,rfl⟩:=qww sp ho
       obtain ⟨β,hrr,hst2,hb2,hc2,_⟩:=mp1.ex
       obtain ⟨c',_,hbc⟩:=qbp hrr hst2.top.1 hv (show s.w.heap[r]? = _ from hre) rfl
       rcases hc2 r c' hbc with x | ⟨_,_,_,_,_,_,_,_,q1,_⟩
       ·exact x
       ·rw [show s.w.heap[r]? = _ from hre] at q1
        cases q1
        simp at hb
      | @over f cs w o ty x z r cap sn en tm h ho hv hre hz hzz =>
       obtain ⟨rfl,rfl,rfl⟩:=q1 hu
       obtain ⟨c',sn',en',tm',hcm,hW,_,hHc,mp2⟩:=mp1.over E.SM h ho hv (show s.w.heap[r]? = _ from hre) hz hzz (jv s.w (W.at d))
       have hrun:=crowd_recv_closed (P:=Pr) (sl:=sl') (w:=W.at d) (w₁:=W.at d) hi (by rw [hr.stp];exact hcm) hW (qag (i:=0) (b:=true) fun j g hj hg=>fu (hL j g (Nat.pos_of_ne_zero hj) hj hg) c' true)
       refine Ends.next (hst.trans hrun) (ih _ bel hf' _ _ _ _ ⟨_,fr.finish (.tuple #[z,.bool false]),csR,T,H,q,Array.getElem?_setIfInBounds_self_of_lt lt,⟨rfl,rfl,fun _ _ _=>rfl⟩,mp2,mgf _ _,?_,reg1,fun j x hj hjk hx=>?_⟩)
       ·rw [qfo]
        exact t0.mute (by simp [MemAct.touch?])
       ·rw [Array.getElem?_setIfInBounds_ne (Ne.symm hjk)] at hx
        exact hL j x hj hjk hx
      | @go f cs w o c x y z gv r cap buf sn en tm cells el h ho hc hx hv hy hz hclo hre =>
       obtain ⟨rfl,rfl,rfl⟩:=q1 hu
       obtain ⟨cc,sc,b2,f2,hgo,hborn,y1⟩:=qa6 E hf mp1 mg t0 reg1 hs h ho hc hx hv hy hz hclo (show s.w.heap[r]? = _ from hre) rfl gs.size
       have hrun:=runT_crowd_spawn (P:=Pr) (sl:=sl') (i:=0) hi (show stepG Pr (0 == 0) a (W.at d) = _ by rw [hr.stp];exact hgo)
       refine Ends.next (hst.trans hrun) ?_
       have y2:=y1 #[{ g:=0,fn:=a.frame.fn,pos:=a.frame.place,act:=.go gs.size },{ g:=gs.size,fn:=(born Pr { target:=.fn (.func wh) #[],args:=#[gv,.chan (some cc)] }).frame.fn,pos:=a.frame.place,act:=.start }] (by simp [MemAct.touch?])
       obtain ⟨L,sm,hL2,lm⟩:=y2.leaf E f2
       have ev:((MemOp.ofEvents 0 a.frame.fn a.frame.place #[]).push { g:=0,fn:=a.frame.fn,pos:=a.frame.place,act:=.go gs.size }).push { g:=gs.size,fn:=(born Pr { target:=.fn (.func wh) #[],args:=#[gv,.chan (some cc)] }).frame.fn,pos:=a.frame.place,act:=.start } = #[{ g:=0,fn:=a.frame.fn,pos:=a.frame.place,act:=.go gs.size },{ g:=gs.size,fn:=(born Pr { target:=.fn (.func wh) #[],args:=#[gv,.chan (some cc)] }).frame.fn,pos:=a.frame.place,act:=.start }]:=rfl
       rw [ev]
       refine phase1 E (fun s' hTG hF gs W sl t hz=>ih s' hTG hF gs W sl t hz) f2 lm.fine _ _ _ _ _ _ _ _ _ _ q _ _ _ _ 1 2 L rfl y2 ⟨?_,by rw [Array.getElem?_push,if_pos (by simp)],by omega,.run (.self _ _),.born rfl hborn,.inl rfl,fun j x hj hjk hx=>?_⟩ hL2 lm
       ·rw [Array.getElem?_push,if_neg (by simp;omega)]
        exact Array.getElem?_setIfInBounds_self_of_lt lt
       ·rw [Array.getElem?_push] at hx
        simp only [Array.size_setIfInBounds] at hx
        rw [if_neg hjk,Array.getElem?_setIfInBounds_ne (by omega)] at hx
        exact hL j x hj (by omega) hx
   ·obtain ⟨gs',q',r1,r2,r3,r4,r5⟩:=slip hL (W.at d) sl' hi hpos (by omega) hg (fun j x hj hx=>by
     obtain rfl:j = 0:=by rcases hj with h | h <;> exact h
     rw [hg0] at hx;cases hx;exact hr.again _)
    refine Ends.next (hst.trans r1) ?_
    rw [Array.append_empty]
    exact ihn _ (by omega) gs' (W.at d) sl' t a q' (by rw [r3 0 (.inl rfl)];exact hg0) hr (mp.heap rfl) t0 (reg.at d) r4 rfl
end
end Go.Proofs.Ytcdclihinmdgiaa.sq
namespace Go.Proofs.Ytcdclihinmdgiaa.sq
open Go
set_option linter.unusedVariables false
def qll (φ:Oper->Oper):Code->Code
 | .region id ops dr=>.region id (ops.map φ) dr
 | .seq a b=>.seq (qll φ a) (qll φ b)
 | .cond c a b=>.cond c (qll φ a) (qll φ b)
 | .block id c=>.block id (qll φ c)
 | .loop c=>.loop (qll φ c)
 | c=>c
def qfq (tc:Tmp) (o:Oper):Oper:=match o.op with
 | .go c=>match c.args.toList with
  | [b,a]=>{ o with op:=.call { callee:=.value (.func (nfn + 1)),args:=#[a,b,.tmp tc,.const (.bool true),.const (.bool false)],argTypes:=#[] } }
  | _=>o
 | .makeChan t (.const (.int .i64 0))=>{ o with op:=.makeChan t (.const (.int .i64 1000)) }
 | .send a b=>{ o with op:=.call { callee:=.value (.func nfn),args:=#[a,b,a,.const (.bool true),.const (.bool false)],argTypes:=#[] } }
 | _=>o
theorem qoz (tc:Tmp) (o:Oper):(qfq tc o).dst = o.dst/\(qfq tc o).guard = o.guard:=by
 unfold qfq
 split
 ·split <;> exact ⟨rfl,rfl⟩
 ·exact ⟨rfl,rfl⟩
 ·exact ⟨rfl,rfl⟩
 ·exact ⟨rfl,rfl⟩
def y7 [Cal] (P:Program) (p:Oper->Bool):Code->Bool
 | .skip | .label _ | .exit _ | .ret=>true
 | .region _ ops false=>ops.all fun o=>bn P o.op || p o
 | .region _ ops true=>ops.all fun o=>bn P o.op
 | .seq a b=>y7 P p a && y7 P p b
 | .cond c a b=>okA c && y7 P p a && y7 P p b
 | .block _ c | .loop c=>y7 P p c
 | .refuse _=>true
 | _=>false
section
variable [Cal] {P:Program} {Sp:Oper->Oper->Prop} {p:Oper->Bool} {tc:Tmp}
theorem qtz {o:Oper} (h:bn P o.op = true):qfq tc o = o:=by
 unfold qfq
 split
 ·rename_i e;rw [e] at h;cases h
 ·rename_i e;rw [e] at h;cases h
 ·rename_i e;rw [e] at h;cases h
 ·rfl
theorem gu (hp:∀ o,p o = true->Sp o o):∀ {c:Code},y7 P p c = true->qa3 P Sp c c
 | .skip,_=>.skip
 | .label l,_=>.label l
 | .exit l,_=>.exit l
 | .ret,_=>.ret
 | .refuse s,_=>.refuse s
 | .region id ops false,h=>.region id ⟨rfl,fun i o o' h1 h2=>by
   rw [h1] at h2
   cases h2
   have:=Array.all_eq_true_iff_forall_mem.1 h o (Array.mem_of_getElem? h1)
   simp only [Bool.or_eq_true] at this
   exact ⟨rfl,rfl,this.imp (fun x=>⟨rfl,x⟩) (hp o)⟩⟩
 | .region id ops true,h=>.drawn id h
 | .seq a b,h=>by
  simp only [y7,Bool.and_eq_true] at h
  exact .seq (gu hp h.1) (gu hp h.2)
 | .cond c a b,h=>by
  simp only [y7,Bool.and_eq_true] at h
  exact .cond c h.1.1 (gu hp h.1.2) (gu hp h.2)
 | .block id c,h=>.block id (gu hp (by simpa [y7] using h))
 | .loop c,h=>.loop (gu hp (by simpa [y7] using h))
 | .scope _,h=>by cases h
 | .goto _,h=>by cases h
 | .rangeFunc ..,h=>by cases h
theorem qam (hp:∀ o,p o = true->Sp (qfq tc o) o):∀ {c:Code},y7 P p c = true->qa3 P Sp (qll (qfq tc) c) c
 | .skip,_=>.skip
 | .label l,_=>.label l
 | .exit l,_=>.exit l
 | .ret,_=>.ret
 | .refuse s,_=>.refuse s
 | .region id ops false,h=>.region id ⟨by simp,fun i o o' h1 h2=>by
   rw [Array.getElem?_map,h2] at h1
   cases h1
   have:=Array.all_eq_true_iff_forall_mem.1 h o' (Array.mem_of_getElem? h2)
   simp only [Bool.or_eq_true] at this
   refine ⟨(qoz tc o').1,(qoz tc o').2,this.imp (fun x=>?_) (hp o')⟩
   rw [qtz x]
   exact ⟨rfl,x⟩⟩
 | .region id ops true,h=>by
  have e:ops.map (qfq tc) = ops:=by
   apply Array.ext_getElem?
   intro i
   rw [Array.getElem?_map]
   cases h1:ops[i]? with
   | none=>rfl
   | some o=>rw [Option.map_some,qtz (Array.all_eq_true_iff_forall_mem.1 h o (Array.mem_of_getElem? h1))]
  simp only [qll,e]
  exact .drawn id h
 | .seq a b,h=>by
  simp only [y7,Bool.and_eq_true] at h
  exact .seq (qam hp h.1) (qam hp h.2)
 | .cond c a b,h=>by
  simp only [y7,Bool.and_eq_true] at h
  exact .cond c h.1.1 (qam hp h.1.2) (qam hp h.2)
 | .block id c,h=>.block id (qam hp (by simpa [y7] using h))
 | .loop c,h=>.loop (qam hp (by simpa [y7] using h))
 | .scope _,h=>by cases h
 | .goto _,h=>by cases h
 | .rangeFunc ..,h=>by cases h
end
def pM (tc:Tmp) (o:Oper):Bool:=match o.op with
 | .go c=>(match c.callee with | .value (.func f)=>f == wh | _=>false) && (match c.args.toList with | [.tmp _,.tmp _]=>true | _=>false)
 | .makeChan _ (.const (.int .i64 0))=>true
 | .recv _ (.tmp _) true=>true
 | _=>false
theorem q34 {tc:Tmp} {o:Oper} (h:pM tc o = true):SpM (qfq tc o) o:=by
 obtain ⟨dst,op,ty,pos,after,guard⟩:=o
 unfold pM at h
 unfold qfq
 cases op with
 | go c =>
  obtain ⟨callee,⟨l⟩,tys⟩:=c
  simp only [Bool.and_eq_true] at h
  obtain ⟨h1,h2⟩:=h
  cases callee with
  | value x =>
   cases x with
   | func f =>
    obtain rfl:f = wh:=by simpa using h1
    rcases l with _ | ⟨x,_ | ⟨y,_ | ⟨z,l⟩⟩⟩
    ·cases h2
    ·cases x <;> cases h2
    ·cases x <;> cases y <;> first | (exact .go rfl rfl rfl rfl rfl rfl) | cases h2
    ·cases x <;> cases y <;> cases h2
   | _=>cases h1
  | _=>cases h1
 | makeChan t x =>
  simp only at h
  split at h
  ·rename_i e;cases e
  ·rename_i e;cases e;exact .make rfl rfl
  ·rename_i e;cases e
  ·cases h
 | recv t x b =>
  simp only at h
  split at h
  ·rename_i e;cases e
  ·rename_i e;cases e
  ·rename_i e;cases e;exact .recv rfl
  ·cases h
 | _=>cases h
def pP (o:Oper):Bool:=match o.op with
 | .send (.tmp _) (.tmp _)=>true
 | .call c=>(match c.callee with | .builtin .close=>true | _=>false) && (match c.args.toList with | [.tmp _]=>true | _=>false)
 | _=>false
theorem q2w {tc:Tmp} {o:Oper} (h:pP o = true):SpP (qfq tc o) o:=by
 obtain ⟨dst,op,ty,pos,after,guard⟩:=o
 unfold pP at h
 unfold qfq
 cases op with
 | send x y =>
  simp only at h
  split at h
  ·rename_i e;cases e;exact .send rfl rfl rfl rfl
  ·rename_i e;cases e
  ·cases h
 | call c =>
  obtain ⟨callee,⟨l⟩,tys⟩:=c
  simp only [Bool.and_eq_true] at h
  obtain ⟨h1,h2⟩:=h
  cases callee with
  | builtin x =>
   cases x with
   | close =>
    rcases l with _ | ⟨x,_ | ⟨y,l⟩⟩
    ·cases h2
    ·cases x <;> first | (exact .shut rfl rfl rfl) | cases h2
    ·cases x <;> cases h2
   | _=>cases h1
  | _=>cases h1
 | _=>cases h
theorem q0m {o:Oper} (h:pP o = true) (hs:∀ x y,o.op ≠ .send x y):SpP o o:=by
 have:=q2w (tc:=0) h
 have e:qfq 0 o = o:=by
  unfold qfq
  split
  ·rename_i c e
   unfold pP at h
   rw [e] at h
   cases h
  ·rename_i t e
   unfold pP at h
   rw [e] at h
   cases h
  ·rename_i x y e;exact absurd e (hs x y)
  ·rfl
 rwa [e] at this
end Go.Proofs.Ytcdclihinmdgiaa.sq
namespace Go.Proofs.Ytcdclihinmdgiaa.sq
open Go
set_option linter.unusedVariables false
structure Twin (P Q:Program):Prop where
 info:∀ t,Q.info? t = P.info? t
 depth:Q.depth = P.depth
 cut:Q.cutTypes = P.cutTypes
 follow:∀ d,Q.follows d = P.follows d
section
variable {P Q:Program} (T:Twin P Q)
include T
theorem Twin.und (t:TypeId):Q.underlying t = P.underlying t:=by
 unfold Program.underlying
 simp only [T.info]
theorem Twin.q35 (t:TypeId):Q.underlyingId t = P.underlyingId t:=by
 unfold Program.underlyingId
 simp only [T.info]
theorem Twin.cells (t:TypeId):Q.cellsOf t = P.cellsOf t:=by unfold Program.cellsOf;rw [T.info]
theorem Twin.bytes (t:TypeId):Q.bytesOf t = P.bytesOf t:=by unfold Program.bytesOf;rw [T.info]
theorem Twin.typeInfo (t:TypeId) (w:World):(typeInfo t).run Q w = (typeInfo t).run P w:=by
 simp only [Go.typeInfo,Sem.run_bind,program,Sem.run,Result.andThen_ok,T.info]
 cases P.info? t with
 | none=>simp [stuck,Sem.run]
 | some v=>simp only [Sem.run_pure]
theorem Twin.sizeOf (t:TypeId) (w:World):(sizeOf t).run Q w = (sizeOf t).run P w:=by
 simp only [Go.sizeOf,Sem.run_bind,T.typeInfo]
 cases (Go.typeInfo t).run P w with
 | halt x w'=>simp only [Result.andThen_halt]
 | ok i w'=>simp only [Result.andThen_ok,Sem.run_pure]
theorem Twin.zero (t:TypeId) (w:World):(zeroValue t).run Q w = (zeroValue t).run P w:=by
 simp only [Go.zeroValue,Sem.run_bind,T.typeInfo]
 cases h:(Go.typeInfo t).run P w with
 | halt x w'=>simp only [Result.andThen_halt]
 | ok i w' =>
  simp only [Result.andThen_ok]
  cases i.zero with
  | none=>simp [unsupported,Sem.run]
  | some v=>simp only [Sem.run_pure]
theorem Twin.qxu (t:TypeId) (w:World):(underlying t).run Q w = (underlying t).run P w:=by
 simp only [Go.underlying,Sem.run_bind,program,Sem.run,Result.andThen_ok,T.und]
 cases P.underlying t with
 | none=>simp [stuck,Sem.run]
 | some v=>simp only [Sem.run_pure]
theorem Twin.agg (t:TypeId) (w:World):(isAgg t).run Q w = (isAgg t).run P w:=by
 simp only [Go.isAgg,Sem.run_bind,T.qxu]
 cases h:(Go.underlying t).run P w with
 | halt x w'=>simp only [Result.andThen_halt]
 | ok i w' =>
  simp only [Result.andThen_ok]
  cases i <;> simp only [Sem.run_pure]
theorem Twin.alike:∀ (n:Nat) (t u:TypeId),Q.alikeButTags n t u = P.alikeButTags n t u
 | 0,_,_=>rfl
 | n + 1,t,u=>by
  unfold Program.alikeButTags
  simp only [Twin.alike n,T.und,T.info]
theorem Twin.stood (t:TypeId):Q.stoodInHeld t = P.stoodInHeld t:=by
 unfold Program.stoodInHeld Program.stoodInAs
 simp only [T.und,T.q35,T.alike,T.depth,T.cut,T.info]
theorem Twin.byte:∀ (n:Nat) (t:TypeId) (o:Nat),byteOfCell Q n t o = byteOfCell P n t o
 | 0,_,_=>rfl
 | n + 1,t,o=>by
  unfold byteOfCell
  simp only [Twin.byte n,T.und,T.cells,T.bytes]
theorem Twin.qxv:∀ (n:Nat) (t:TypeId) (b:Nat),cellOfByte Q n t b = cellOfByte P n t b
 | 0,_,_=>rfl
 | n + 1,t,o=>by
  unfold cellOfByte
  simp only [Twin.qxv n,T.und,T.cells,T.bytes]
theorem Twin.back (n:Nat) (e:TypeId) (c o:Nat) (b:Int):cellAtBytes Q n e c o b = cellAtBytes P n e c o b:=by
 unfold cellAtBytes
 simp only [T.byte,T.qxv,T.cells,T.bytes]
end
end Go.Proofs.Ytcdclihinmdgiaa.sq
namespace Go.Proofs.Ytcdclihinmdgiaa.sq
open Go
set_option linter.unusedVariables false
abbrev q0n (l e:List Nat) (n:Nat) (h1:(l.all fun f=>decide (f < nfn)) = true) (h2:l.contains wh = false) (win:Bool:=true):Cal where
 ok f:=l.contains f
 ent f:=e.contains f
 lt {f} h:=by
  have:=List.all_eq_true.1 h1 f (by simpa using h)
  simpa using this
 no:=h2
 old:=n
 win:=win
structure Cut (Pr Pa:Program) (tc:Tmp):Prop where
 twin:Twin Pr Pa
 eqg:∀ t,Pr.eqGuardType Pr.depth t = Pa.eqGuardType Pa.depth t
 glob:Pa.globals.size = 0
 bad:Pa.info? qt4 = none
 size:Pr.funcs.size = nfn
 funcs:∃ o c s g,Pa.funcs.toList = (Pr.funcs.toList.set qd2 o).set qoh c ++ [s,g]
 orb:∃ F,Pr.funcs[qd2]? = some F/\Pa.funcs[qd2]? = some { F with body:=F.body.map (qll (qfq tc)) }
 clo:∃ F,Pr.funcs[qoh]? = some F/\Pa.funcs[qoh]? = some { F with body:=F.body.map (qll (qfq 0)) }
def fnB (P:Program) (ext:List Nat) (f:FuncId):Bool:=match P.funcs[f]? with
 | some F=>!(F.name == "runtime.NumGoroutine") && (F.body.isSome || ext.contains f)
 | none=>false
def qei [Cal] (Pr Pa:Program) (p:Oper->Bool) (f:FuncId):Bool:=match Pr.funcs[f]? with
 | some F=>F.body.all (y7 Pa p)
 | none=>false
section
variable {Pr Pa:Program} {tc:Tmp}
theorem Cut.same (X:Cut Pr Pa tc) {f:FuncId} (hf:f < nfn) (h1:f ≠ qd2) (h2:f ≠ qoh):Pa.funcs[f]? = Pr.funcs[f]?:=by
 obtain ⟨o,c,s,g,e⟩:=X.funcs
 have hs:Pr.funcs.toList.length = nfn:=by rw [Array.length_toList];exact X.size
 rw [<-Array.getElem?_toList,<-Array.getElem?_toList,e,List.getElem?_append_left (by rw [List.length_set,List.length_set,hs];exact hf),List.getElem?_set_ne (Ne.symm h2),List.getElem?_set_ne (Ne.symm h1)]
theorem Cut.q2x (X:Cut Pr Pa tc):Alike3 Pa Pr:={ info:=fun t=>(X.twin.info t).symm,held:=fun t=>(X.twin.stood t).symm,eqg:=X.eqg,none:=X.glob,byte:=fun t o=>by rw [X.twin.byte,X.twin.depth],bad:=X.bad,back:=fun e c o n=>by rw [X.twin.back,X.twin.depth] }
theorem Cut.q0o (X:Cut Pr Pa tc):Alike3 Pa Pa:={ info:=fun t=>rfl,held:=fun t=>rfl,eqg:=fun t=>rfl,none:=X.glob,byte:=fun t o=>rfl,bad:=X.bad,back:=fun e c o n=>rfl }
theorem Cut.pair (X:Cut Pr Pa tc) {f:FuncId} (hf:f < nfn) {fa:Func} (h:Pa.funcs[f]? = some fa):∃ fr,Pr.funcs[f]? = some fr/\fr.name = fa.name/\fr.results = fa.results/\fr.ntmps = fa.ntmps/\fr.body.isNone = fa.body.isNone/\((f ≠ qd2/\f ≠ qoh/\fr = fa)\/(f = qd2/\fa.body = fr.body.map (qll (qfq tc)))\/(f = qoh/\fa.body = fr.body.map (qll (qfq 0)))):=by
 by_cases h1:f = qd2
 ·subst h1
  obtain ⟨F,e1,e2⟩:=X.orb
  rw [e2] at h
  cases h
  exact ⟨F,e1,rfl,rfl,rfl,by simp,.inr (.inl ⟨rfl,rfl⟩)⟩
 ·by_cases h2:f = qoh
  ·subst h2
   obtain ⟨F,e1,e2⟩:=X.clo
   rw [e2] at h
   cases h
   exact ⟨F,e1,rfl,rfl,rfl,by simp,.inr (.inr ⟨rfl,rfl⟩)⟩
  ·rw [X.same hf h1 h2] at h
   exact ⟨fa,h,rfl,rfl,rfl,rfl,.inl ⟨h1,h2,rfl⟩⟩
def qt0 (wn:Bool) (Pr:Program) (ext:List Nat):Prop:=∀ f ∈ ext,f ≠ qd2/\f ≠ qoh/\∀ F,Pr.funcs[f]? = some F->Extern.findNext F = none/\∃ e,XOk wn e/\Extern.find F = some e
variable [C:Cal] {K:FuncId->Prop} {Sp:Oper->Oper->Prop} {ext l:List Nat} {p:Oper->Bool}
theorem Cut.qxw (X:Cut Pr Pa tc) (hx:qt0 Cal.win Pr ext) (hl:∀ f,Cal.ok f = true->f ∈ l) (hb:(l.all (fnB Pr ext)) = true):Alike4 Pa Pr where
 toAlike3:=X.q2x
 fn f fa hf ha:=by
  have hlt:=Cal.lt hf
  obtain ⟨fr,e1,e2,e3,e4,e5,e6⟩:=X.pair hlt ha
  have hB:=List.all_eq_true.1 hb f (hl f hf)
  simp only [fnB,e1,Bool.and_eq_true,Bool.not_eq_true',Bool.or_eq_true] at hB
  refine ⟨fr,e1,by rw [<-e2];exact hB.1,hB.1,e5,fun hn=>?_⟩
  have hmem:f ∈ ext:=by
   rcases hB.2 with z | z
   ·rw [<-e5,Option.isNone_iff_eq_none] at hn
    rw [hn] at z;cases z
   ·simpa using z
  obtain ⟨x1,x2,x3⟩:=hx f hmem
  rcases e6 with ⟨_,_,rfl⟩ | ⟨z,_⟩ | ⟨z,_⟩
  ·obtain ⟨y1,ex,y3,y2⟩:=x3 fr e1
   exact ⟨y1,.inr ⟨y1,ex,y3,y2,y2⟩⟩
  ·exact absurd z x1
  ·exact absurd z x2
theorem Cut.q0p (X:Cut Pr Pa tc) (hx:qt0 Cal.win Pr ext) (hl:∀ f,Cal.ok f = true->f ∈ l) (hb:(l.all (fnB Pr ext)) = true):Alike4 Pa Pa where
 toAlike3:=X.q0o
 fn f fa hf ha:=by
  obtain ⟨fr,e1,e2,e3,e4,e5⟩:=(X.qxw hx hl hb).fn f fa hf ha
  exact ⟨fa,ha,e2,e2,rfl,fun hn=>by
   obtain ⟨y1,y2⟩:=e5 hn
   refine ⟨y1,y2.imp id fun ⟨_,ex,z1,z2,_⟩=>⟨y1,ex,z1,z2,z2⟩⟩⟩
theorem Cut.texts (X:Cut Pr Pa tc) (hx:qt0 Cal.win Pr ext) (hl:∀ f,Ent f->f ∈ l) (hK:∀ f,K f->f < nfn) (hlK:∀ f,f ∈ l->K f) (hb:(l.all (fnB Pr ext)) = true)
  (hp:∀ o,p o = true->Sp o o) (hc:((l.filter fun f=>!(f == qd2 || f == qoh)).all (qei Pr Pa p)) = true)
  {pO pC:Oper->Bool} (hO:qd2 ∈ l->(∀ o,pO o = true->Sp (qfq tc o) o)/\qei Pr Pa pO qd2 = true) (hC:qoh ∈ l->(∀ o,pC o = true->Sp (qfq 0 o) o)/\qei Pr Pa pC qoh = true):je K Pa Pr Sp where
 toAlike4:=X.qxw hx (fun f hf=>hl f (.inl hf)) hb
 le hf:=hlK _ (hl _ hf)
 sch:=(X.twin.follow _).symm
 text f fa hf ha:=let ⟨fr,e1,_,e3,_⟩:=X.pair (hK f hf) ha;⟨fr,e1,e3⟩
 some_ f hf:=by
  have hlt:=hK f hf
  obtain ⟨o,c,s,g,e⟩:=X.funcs
  have hs:Pr.funcs.toList.length = nfn:=by rw [Array.length_toList];exact X.size
  have hz:f < Pa.funcs.size:=by have hsz:=X.size;rw [<-Array.length_toList,e];exact Nat.lt_of_lt_of_le hlt (by simp;omega)
  exact ⟨_,Array.getElem?_eq_getElem hz⟩
 code f fa hf ha:=by
  have hfl:=hl f hf
  obtain ⟨fr,e1,e2,e3,e4,e5,e6⟩:=X.pair (hK f (hlK f hfl)) ha
  refine ⟨fr,e1,e4,?_⟩
  rcases e6 with ⟨h1,h2,rfl⟩ | ⟨rfl,h⟩ | ⟨rfl,h⟩
  ·cases hbd:fr.body with
   | none=>exact .inl ⟨rfl,rfl⟩
   | some c =>
    have:=List.all_eq_true.1 hc f (List.mem_filter.2 ⟨hfl,by simp [h1,h2]⟩)
    simp only [qei,e1,hbd,Option.all_some] at this
    exact .inr ⟨c,c,rfl,rfl,gu hp this⟩
  ·cases hbd:fr.body with
   | none=>exact .inl ⟨by rw [h,hbd];rfl,rfl⟩
   | some c =>
    obtain ⟨h1,h2⟩:=hO hfl
    simp only [qei,e1,hbd,Option.all_some] at h2
    exact .inr ⟨_,c,by rw [h,hbd];rfl,rfl,qam h1 h2⟩
  ·cases hbd:fr.body with
   | none=>exact .inl ⟨by rw [h,hbd];rfl,rfl⟩
   | some c =>
    obtain ⟨h1,h2⟩:=hC hfl
    simp only [qei,e1,hbd,Option.all_some] at h2
    exact .inr ⟨_,c,by rw [h,hbd];rfl,rfl,qam h1 h2⟩
theorem Cut.qxx (X:Cut Pr Pa tc) (hx:qt0 Cal.win Pr ext) (hl:∀ f,Ent f->f ∈ l) (hK:∀ f,K f->f < nfn + 2) (hlK:∀ f,f ∈ l->K f) (hln:∀ f,f ∈ l->f < nfn) (hb:(l.all (fnB Pr ext)) = true)
  (hp:∀ o,p o = true->Sp o o) (hc:(l.all (qei Pa Pa p)) = true):je K Pa Pa Sp where
 toAlike4:=X.q0p hx (fun f hf=>hl f (.inl hf)) hb
 le hf:=hlK _ (hl _ hf)
 sch:=rfl
 text f fa hf ha:=⟨fa,ha,rfl⟩
 some_ f hf:=by
  have hlt:=hK f hf
  obtain ⟨o,c,s,g,e⟩:=X.funcs
  have hs:Pr.funcs.toList.length = nfn:=by rw [Array.length_toList];exact X.size
  have hz:f < Pa.funcs.size:=by have hsz:=X.size;rw [<-Array.length_toList,e];exact Nat.lt_of_lt_of_le hlt (by simp;omega)
  exact ⟨_,Array.getElem?_eq_getElem hz⟩
 code f fa hf ha:=by
  have hfl:=hl f hf
  refine ⟨fa,ha,rfl,?_⟩
  cases hbd:fa.body with
  | none=>exact .inl ⟨rfl,rfl⟩
  | some c =>
   have:=List.all_eq_true.1 hc f hfl
   simp only [qei,ha,hbd,Option.all_some] at this
   exact .inr ⟨c,c,rfl,rfl,gu hp this⟩
end
end Go.Proofs.Ytcdclihinmdgiaa.sq
namespace Go.Proofs.Ytcdclihinmdgiaa.sq
open Go
set_option linter.unusedVariables false
def qlh:Code->Code
 | .seq a _=>a
 | c=>c
def qg9:Code->Code
 | .seq _ b=>b
 | c=>c
def inC:Code->Code
 | .block _ c | .loop c=>c
 | c=>c
def q3c:Code->Array Oper
 | .region _ ops _=>ops
 | _=>#[]
def idC:Code->Nat
 | .region id _ _=>id
 | _=>0
def opN (ops:Array Oper) (i:Nat):Oper:=(ops[i]?).getD (oNo (.move (.tmp 0)))
def q36 (o:Oper):TypeId:=match o.op with
 | .recv t _ _=>t
 | _=>0
def q2y (c:Code) (tc tx tv tb:Tmp):ji :=
 let c6:=qg9 c
 let c7:=qg9 c6
 let lo:=qlh c7
 let b:=inC (inC (qg9 lo))
 { ops5:=q3c (qlh c),i5:=0,ops6:=q3c (qlh c6),ops7:=q3c (qlh lo),ops8:=q3c (qlh b),id6:=idC (qlh c6),id7:=idC (qlh lo),id8:=idC (qlh b),R:=qg9 (qg9 b),A:=qg9 c7,tc,tx,tv,tb }
def qt1 (tc:Tmp) (o:Oper):Bool:=o.dst.isNone && match o.op with
 | .call c=>match c.args.toList with
  | [_,_,.tmp t,.const (.bool true),.const (.bool false)]=>t == tc
  | _=>false
 | _=>false
theorem q20 {D:ji} (h1:(D.ops5.all fun o=>!isGo o || qt1 D.tc o) = true) (h2:qla D.ops5 (List.range D.ops5.size) = true) (h3:noG D.C6 = true):GoT D where
 arg i o ho hg:=by
  have h:=Array.all_eq_true_iff_forall_mem.1 h1 o (Array.mem_of_getElem? ho)
  simp only [hg,Bool.not_true,Bool.false_or,qt1,Bool.and_eq_true] at h
  obtain ⟨h4,h5⟩:=h
  refine ⟨by simpa using h4,?_⟩
  cases e:o.op with
  | call c =>
   rw [e] at h5
   simp only at h5
   obtain ⟨callee,⟨l⟩,tys⟩:=c
   simp only at h5
   split at h5
   ·rename_i t2
    obtain rfl:t2 = D.tc:=by simpa using h5
    exact ⟨_,_,_,rfl,rfl⟩
   ·cases h5
  | _=>rw [e] at h5;cases h5
 last:=h2
 rest:=h3
def q37 (P:Program) (f:FuncId):Bool:=match P.funcs[f]? with
 | some F=>F.body.all noG
 | none=>false
def q38 (P:Program) (f:FuncId):Bool:=match P.funcs[f]? with
 | some F=>F.body.all noC
 | none=>false
theorem qwx [Cal] {D:ji} {id5:Nat} {P:Program} {l:List Nat} (hl:∀ f,Cal.ok f = true->f ∈ l) (h1:((l.filter fun f=>!(f == qd2)).all (q37 P)) = true) (h2:∀ F c,P.funcs[qd2]? = some F->F.body = some c->qm2 D (.region id5 D.ops5 false) c):qwt D id5 P:=by
 intro g F c hg hF hc
 by_cases e:g = qd2
 ·subst e;exact .inl (h2 F c hF hc)
 ·have:=List.all_eq_true.1 h1 g (List.mem_filter.2 ⟨hl g hg,by simp [e]⟩)
  simp only [q37,hF,hc,Option.all_some] at this
  exact .inr this
theorem q0q [Cal] {P:Program} {l:List Nat} (hl:∀ f,Cal.ok f = true->f ∈ l) (h1:(l.all (q38 P)) = true):Calm P:=by
 intro g F c hg hF hc
 have:=List.all_eq_true.1 h1 g (hl g hg)
 simp only [q38,hF,hc,Option.all_some] at this
 exact this
end Go.Proofs.Ytcdclihinmdgiaa.sq
namespace Go.Proofs.Ytcdclihinmdgiaa.sq
open Go Go.Conc
set_option linter.unusedVariables false
structure Wn where
 b:Nat
 d:Nat
 c:Array Value
def wnW (W:World) (ws:Array Wn):World:={ W with heap:=ws.map fun x=>.cells x.c qt4 (0,x.c.size) }
def wnB (ws:Array Wn):Bl:=fun a b k=>∃ x,ws[a]? = some x/\b = x.b/\k = .ro x.d
structure q0v (W:World) (ws:Array Wn):Prop where
 at_:∀ x ∈ ws,∃ c' e fz,W.heap[x.b]? = some (.cells c' e fz)/\∀ (i:Nat) v,x.c[i]? = some v->c'[i + x.d]? = some v
 clo:∀ x ∈ ws,∀ v ∈ x.c,clo 20 v = true
theorem q21 [Cal] {W:World} {ws:Array Wn} (h:q0v W ws) (hx:ws.size = 0\/Cal.win = true):HR (wnB ws) (wnW W ws) W where
 inj:=⟨by
  rintro a b b' k k' ⟨x,h1,rfl,rfl⟩ ⟨y,h2,rfl,rfl⟩
  rw [h1] at h2
  cases h2
  exact ⟨rfl,rfl⟩,by
  rintro a a' b k k' ⟨x,h1,rfl,rfl⟩ ⟨y,h2,_,rfl⟩
  exact .inr ⟨rfl,rfl⟩⟩
 at_:=by
  rintro a b k ⟨x,h1,rfl,rfl⟩
  obtain ⟨c',e,fz,h2,h3⟩:=h.at_ x (Array.mem_of_getElem? h1)
  refine ⟨.cells x.c qt4 (0,x.c.size),.cells c' e fz,by simp [wnW,h1],h2,.ro ?_ e fz fun i v hv=>⟨v,h3 i v hv,?_⟩⟩
  ·rcases hx with z | z
   ·have:=(Array.getElem?_eq_some_iff.1 h1).1;omega
   ·exact z
  exact qcd 20 v (h.clo x (Array.mem_of_getElem? h1) v (Array.mem_of_getElem? hv))
def wnS (ws:Array Wn):Array Wn:=ws.mapIdx fun i x=>⟨i,0,x.c⟩
theorem q23 {W:World} {ws:Array Wn} (h:q0v W ws):q0v (wnW W ws) (wnS ws) where
 at_ x hx:=by
  obtain ⟨i,hi⟩:=Array.mem_iff_getElem?.1 hx
  simp only [wnS,Array.getElem?_mapIdx,Option.map_eq_some_iff] at hi
  obtain ⟨y,hy,rfl⟩:=hi
  exact ⟨y.c,qt4,(0,y.c.size),by simp [wnW,hy],fun j v hv=>by simpa using hv⟩
 clo x hx:=by
  obtain ⟨i,hi⟩:=Array.mem_iff_getElem?.1 hx
  simp only [wnS,Array.getElem?_mapIdx,Option.map_eq_some_iff] at hi
  obtain ⟨y,hy,rfl⟩:=hi
  exact h.clo y (Array.mem_of_getElem? hy)
theorem q39 {W:World} {ws:Array Wn}:wnW (wnW W ws) (wnS ws) = wnW W ws:=by
 unfold wnW wnS
 congr 1
 apply Array.ext_getElem?
 intro i
 simp only [Array.getElem?_map,Array.getElem?_mapIdx,Option.map_map]
 rfl
theorem q25 (B:Nat) (H:Nat->Prop):T0 #[] B H where
 still op h:=by simp at h
 clean said:=by rintro ⟨i,j,_,⟨a,b,ha,_⟩,_⟩;simp [Trace.act?] at ha
 low i a h:=by simp [touchAt,Trace.act?] at h
 known i a h:=by simp [touchAt,Trace.act?] at h
 chan i a h:=by simp [touchAt,Trace.act?] at h
section
variable [M:Cal] {X:Cs} {K KT:FuncId->Prop} {Pa Pr:Program} {D:ji} {id5:Nat} {T TS T2 Tg TSg T2g Tc:TypeId}
theorem MG.first (E:Env X K Pa Pr D id5) {g:FuncId} (hg:M.ok g = true) (args:Array Value) (w:World):MG D id5 ⟨Frame.enter Pa g args .normal,[],w⟩:=by
 refine ⟨?_,fun c hc=>by simp at hc⟩
 obtain ⟨F,hF⟩:=E.SM.some_ g (E.SM.le (.inl hg))
 cases hb:F.body with
 | none =>
  refine .no ?_
  simp only [Frame.enter,hF,Option.bind_some,hb,Option.getD_none]
  rfl
 | some c =>
  have e:(Frame.enter Pa g args .normal).todo = [] ++ [.code c]:=by simp only [Frame.enter,hF,Option.bind_some,hb,Option.getD_some];rfl
  show GT D id5 (Frame.enter Pa g args .normal).todo
  rw [e]
  rcases E.txt g F c hg hF hb with z | z
  ·exact .spine rfl z
  ·exact .no (by simp only [List.nil_append,NG,List.all_cons,List.all_nil,noJ,z];rfl)
theorem sound (E:Env X K Pa Pr D id5) (SA:@je X.A KT Pa Pa (@SpA X.A Pa)) (SO:@qgu X.A Pa T TS T2) (GO:@q0c X.A Pa Tg TSg T2g Tc) (hKT:KT (nfn + 1)) (hE:X.A.ent wh = true) {g:FuncId} {args args':Array Value} {W:World} {ws:Array Wn}
  (hg:M.ok g = true) (hgA:X.A.ok g = true) (hw:q0v W ws) (ha:AR (wnB ws) args args') (haA:@AR X.A (wnB (wnS ws)) args args) (hO:M.old = W.heap.size) (hx:ws.size = 0\/M.win = true/\X.A.win = true)
  (h:∀ τ,Calls Pa g args (qj τ (wnW W ws)) fun e _=>e = .returned (.bool true)):Ends Pr (Done Pr M.old W) (solo (G (Frame.enter Pr g args' .normal) []) W) #[]:=by
 have hr:=q21 hw (hx.imp id (·.1))
 have hi:@qfd X.A Pa (@SpA X.A Pa) KT ⟨Frame.enter Pa g args .normal,[],wnW W ws⟩:=by
  refine @qfd.mk X.A _ _ _ _ ⟨wnB (wnS ws),?_,@FrR.enter X.A KT Pa Pa _ _ SA g (.inl hgA) _ _ haA .normal (by decide),@je.le X.A KT Pa Pa _ SA g (.inl hgA),fun c hc=>by simp at hc⟩
  have:=@q21 X.A _ _ (q23 hw) (hx.imp (fun z=>by simpa [wnS] using z) (·.2))
  rwa [q39] at this
 have tr:qcf (@Tr X.A Pa) EnS (qxq Pa fun v _=>v = .bool true) ⟨Frame.enter Pa g args .normal,[],wnW W ws⟩ :=
  @tree X.A Pa (fun v _=>v = .bool true) KT T TS T2 Tg TSg T2g Tc SA SO GO hKT hE (fun v w τ hv=>hv) g args (wnW W ws) hi (fun τ=>(h τ).mono fun e w' he=>⟨_,he,rfl⟩)
 have e:solo (G (Frame.enter Pr g args' .normal) []) W = crowd #[G (Frame.enter Pr g args' .normal) []] W none:=rfl
 rw [e]
 refine q2v E tr _ _ _ _ ⟨_,Frame.enter Pr g args' .normal,[],fun b=>∃ a k,wnB ws a b k,fun _=>False,fun _=>0,rfl,.self _ _,⟨wnB ws,hr,.one (FrR.enter E.SM (.inl hg) ha (by decide)) (E.SM.le (.inl hg)) ⟨fun h=>absurd rfl h,fun _=>rfl⟩,fun a b k hab=>⟨⟨a,k,hab⟩,⟨fun x=>x.elim,fun x=>?_⟩,fun _=>?_⟩,fun a b hab=>?_,fun _ _ x=>x.elim⟩,MG.first E hg _ _,q25 _ _,⟨fun _ x=>x.elim,fun _ x=>x.elim,fun b ⟨a,k,hb⟩=>(hr.lt hb).2,Nat.le_of_eq hO,.refl _ _⟩,fun i g hi _ hg=>?_⟩
 ·obtain ⟨x,_,_,rfl⟩:=hab;cases x
 ·obtain ⟨x,_,_,rfl⟩:=hab;rfl
 ·obtain ⟨x,_,_,z⟩:=hab;cases z
 ·have:i < 1:=by simpa using (Array.getElem?_eq_some_iff.1 hg).1
  omega
end
end Go.Proofs.Ytcdclihinmdgiaa.sq
namespace Go.Proofs.Ytcdclihinmdgiaa.sq
open Go Go.Conc
set_option linter.unusedVariables false
section
variable {W:World} {ws more:Array Wn} {xs:List Value} {A A':Option Addr} {n c:Nat}
theorem q26 (W:World):q0v W #[]:=⟨fun x hx=>by simp at hx,fun x hx=>by simp at hx⟩
end
end Go.Proofs.Ytcdclihinmdgiaa.sq
