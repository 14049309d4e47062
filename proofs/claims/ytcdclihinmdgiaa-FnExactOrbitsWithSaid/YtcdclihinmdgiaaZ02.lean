import Derived.Test.YtcdclihinmdgiaaZ01
import Derived.Conc.EventLaws
import Derived.Conc.Beside
import Derived.Conc.CrowdComm
import Derived.Conc.Own2
set_option linter.unusedSectionVars false
set_option linter.unusedSimpArgs false
set_option linter.unusedVariables false
set_option linter.unnecessarySimpa false
namespace Go.Proofs.Ytcdclihinmdgiaa.sq
open Go Go.Conc
set_option linter.unusedVariables false
variable [Cal]
section
variable {P:Program} {R:Value->World->Prop} {Sp:Oper->Oper->Prop} {K:FuncId->Prop}
theorem qab (w:World):qkt w w:=fun i q=>rfl
theorem qtf (w w':World):Same w.tape w w':=fun i q _ _=>rfl
theorem qdg {f f':Frame} {cs cs':List Frame} (h:G f cs = G f' cs'):f = f'/\cs = cs':=by
 simp only [G,Goroutine.mk.injEq] at h
 exact ⟨h.1,h.2.1⟩
theorem qak {f f':Frame} {cs cs':List Frame} {w w':World} {es es':Array Event} (h:GStep.go (G f cs) w es = .go (G f' cs') w' es'):f = f'/\cs = cs'/\w = w':=by
 simp only [GStep.go.injEq] at h
 obtain ⟨h1,h2⟩:=qdg h.1
 exact ⟨h1,h2,h.2.1⟩
theorem qee {cs cs':List Frame} {b:Frame} (h:cs ++ [b] = cs' ++ [b]):cs = cs':=List.append_cancel_right h
theorem qfd.go (S:je K P P Sp) (hsp:∀ o o',Sp o o'->bn P o.op = false) {f f':Frame} {cs cs':List Frame} {w w':World} {es:Array Event} (hi:qfd P Sp K ⟨f,cs,w⟩) (hord:∀ o,opAt f = some o->bn P o.op = true) (hne:f.mode = .returning->cs ≠ [])
  (hs:stepG P true (G f (cs ++ [base P])) w = .go (G f' (cs' ++ [base P])) w' es) (hnp:f'.mode = .run\/f'.mode = .returning):qfd P Sp K ⟨f',cs',w'⟩:=by
 obtain ⟨β,hr,hf,hfn,hcs⟩:=hi.ex
 simp only at hr hf hfn hcs
 have up:∀ {β'},Ext β β'->∀ c ∈ cs,FrR P Sp β' c c/\c.mode = .run/\K c.fn:=fun e c hc=>⟨(hcs c hc).1.mono e,(hcs c hc).2⟩
 rcases hf.run with hm | hm
 ·cases ho:opAt f with
  | none =>
   obtain ⟨β',fa',fr',W',es',e1,e2,e3,e4,e5,e6⟩:=(qi6 (Pr:=P) (main':=true) (csR:=cs ++ [base P]) hr (qab w) hf hm rfl (qaj hm ho) hs).ex
   obtain ⟨rfl,h2⟩:=qdg e1
   rw [hs] at e2
   obtain ⟨e7,e8,rfl⟩:=qak e2
   subst e7
   obtain rfl:=qee e8
   exact ⟨β',e5.hr,e3,by rw [e4.2];exact hfn,up e5.ext⟩
  | some o =>
   obtain ⟨_,ops,i,l,k,ht,ho',hw⟩:=zk ho
   have hok:=hord o ho
   obtain ⟨β',W',es',e5,e6,hh⟩:=(qms (Pr:=P) (main':=true) (csR:=cs ++ [base P]) S hr (qab w) hf hm ht ho' hw hok (fun o' h=>by rw [hsp o o' h] at hok;cases hok) hs (fun c h=>by
    rcases hnp with z | z <;> (rw [show (G f' (cs' ++ [base P])).frame = f' from rfl] at h;rw [z] at h;cases h))).ex
   rcases hh with ⟨fa',fr',e1,e2,e3,e4,e7⟩ | ⟨g,xs,xs',hg,e1,e2,e3⟩
   ·obtain ⟨rfl,h2⟩:=qdg e1
    rw [hs] at e2
    obtain ⟨e8,e9,rfl⟩:=qak e2
    subst e8
    obtain rfl:=qee e9
    exact ⟨β',e5.hr,e3,by rw [e7];exact hfn,up e5.ext⟩
   ·obtain ⟨rfl,h2⟩:=qdg e1
    have h3:=e2
    rw [hs] at e2
    obtain ⟨e8,e9,rfl⟩:=qak e2
    have hfr:=FrR.enter S (.inl hg) e3 (kd:=.normal) (by decide)
    rw [<-e8] at hfr
    have hcs':cs' = f :: cs:=qee (b:=base P) (by rw [e9];rfl)
    subst hcs'
    refine ⟨β',e5.hr,hfr,S.le (.inl hg),fun c hc=>?_⟩
    rcases List.mem_cons.1 hc with z | z
    ·subst z;exact ⟨hf.mono e5.ext,hm,hfn⟩
    ·exact up e5.ext c z
 ·cases cs with
  | nil=>exact absurd rfl (hne hm)
  | cons c cs =>
   obtain ⟨c1,c2,c3⟩:=hcs c (by simp)
   obtain ⟨β',v,v',W',es',e1,e2,e3,e4,e5⟩:=step_ret (Pr:=P) (main':=true) (csR:=cs ++ [base P]) (cr:=c) S hr (qab w) hf hm hfn hf.kind (csA:=cs ++ [base P]) (ca:=c) hs
   obtain ⟨rfl,h2⟩:=qdg e3
   obtain rfl:=qee h2
   have e4':stepG P true (G f (c :: cs' ++ [base P])) w = .go (G (c.finish v') (cs' ++ [base P])) W' es':=e4
   rw [hs] at e4'
   obtain ⟨e8,e9,rfl⟩:=qak e4'
   have hfr:=(c1.mono e1.ext).finish e5
   rw [<-e8] at hfr
   exact ⟨β',e1.hr,hfr,by rw [jf];exact c3,fun c hc=>up e1.ext c (by simp [hc])⟩
end
end Go.Proofs.Ytcdclihinmdgiaa.sq
namespace Go.Proofs.Ytcdclihinmdgiaa.sq
open Go Go.Conc
set_option linter.unusedVariables false
variable [Cal]
def qwj (as:Array Operand):Bool:=match as.toList with
 | [_,_,_,.const (.bool true),.const (.bool false)]=>true
 | _=>false
theorem qp7 {as:Array Operand} (h:qwj as = true):∃ x y z,as = #[x,y,z,.const (.bool true),.const (.bool false)]:=by
 unfold qwj at h
 split at h
 ·rename_i x y z e
  exact ⟨x,y,z,by rw [<-Array.toArray_toList (xs:=as),e]⟩
 ·cases h
def qlk (P:Program):Op->Bool
 | .makeChan _ x=>okA x
 | .call c=>match c.callee with
  | .value (.func f)=>((f == nfn || f == nfn + 1) && qwj c.args || f == wh) && c.args.all okA
  | .builtin .close=>c.args.size == 1 && c.args.all okA
  | _=>false
 | .recv t x b=>okA x && (b && match P.underlying t with | some (.chan _ el)=>ni P el | _=>true)
 | _=>false
def SpA (P:Program) (o o':Oper):Prop:=o = o'/\qlk P o.op = true
section
variable {P:Program} {R:Value->World->Prop} {K:FuncId->Prop} {β:Bl} {w:World}
theorem qtg {o o':Oper} (h:SpA P o o'):bn P o.op = false:=by
 obtain ⟨_,h⟩:=h
 cases e:o.op with
 | call c =>
  rw [e] at h
  simp only [qlk] at h
  simp only [bn,yg]
  split at h
  ·rename_i f hc
   rw [hc]
   simp only [okA]
   simp only [Bool.and_eq_true,Bool.or_eq_true,beq_iff_eq] at h
   rcases h.1 with ⟨rfl | rfl,_⟩ | rfl
   ·rw [qco (Nat.le_refl _)];rfl
   ·rw [qco (Nat.le_succ _)];rfl
   ·rw [Cal.no];rfl
  ·rename_i hc
   rw [hc]
   simp only [okB]
  ·cases h
 | _=>rw [e] at h;first | rfl | (simp [qlk] at h)
theorem HR.more (h:HR β w w) (o:Obj):HR β { w with heap:=w.heap.push o } { w with heap:=w.heap.push o }:=by
 refine ⟨h.inj,fun a b k hb=>?_⟩
 obtain ⟨p,p',h1,h2,h3⟩:=h.at_ a b k hb
 have lt:=h.lt hb
 refine ⟨p,p',?_,?_,h3⟩
 ·simp only [Array.getElem?_push,Nat.ne_of_lt lt.1,if_false];exact h1
 ·simp only [Array.getElem?_push,Nat.ne_of_lt lt.2,if_false];exact h2
theorem qfc {f:Frame} {o:Oper} {Sp:Oper->Oper->Prop} (h:FrR P Sp β f f) (ho:opAt f = some o):OpR P Sp o o:=by
 obtain ⟨hm,ops,i,l,k,ht,ho',hw⟩:=zk ho
 have hk:=h.todo
 rw [ht] at hk
 cases hk with
 | cons hi _ =>
  cases hi with
  | inRegion _ h=>exact h.at_ i o o ho' ho'
theorem qgs {f:Frame} {x:Operand} {r:Nat} {Sp:Oper->Oper->Prop} (hr:HR β w w) (h:FrR P Sp β f f) (hx:okA x = true) (hv:f.eval x = .chan (some r)) {cap:Nat} {buf:Array Value} {cl:Bool} {s e:Nat} {tm:Bool}
  (ho:w.heap[r]? = some (.chan cap buf cl s e tm)):β r r .chan/\∀ v ∈ buf,clo 20 v = true:=by
 have:=h.ρ x hx
 rw [hv] at this
 cases this with
 | @chan a b k hb =>
  obtain ⟨o,o',h1,h2,h3⟩:=hr.at_ _ _ _ hb
  rw [ho] at h1
  cases h1
  cases h3 with
  | chan _ _ _ _ _ _ _ _ _ _ _ _ hc=>exact ⟨hb,hc⟩
theorem qp8 {o:Oper} (h:OpR P (SpA P) o o):bn P o.op = true\/qlk P o.op = true:=h.op.imp (·.2) (·.2)
theorem qfd.sp (S:je K P P (SpA P)) (hK:K (nfn + 1)) (hE:Cal.ent wh = true) {s s':St} (hi:qfd P (SpA P) K s) (h:SpK P s s'):qfd P (SpA P) K s':=by
 obtain ⟨β,hr,hf,hfn,hcs⟩:=hi.ex
 cases h with
 | @make f cs w o t x n h ho hty =>
  have hn:=hr.new (k:=.chan) (.chan n n #[] #[] false false 0 0 0 0 false false (by simp))
  have ex:Ext β (β.new w.heap.size w.heap.size .chan):=fun _ _ _ x=>.inl x
  exact ⟨_,hn,(hf.mono ex).finish (.chan (k:=.chan) (.inr ⟨rfl,rfl,rfl⟩)),by rw [jf];exact hfn,fun c hc=>⟨(hcs c hc).1.mono ex,(hcs c hc).2⟩⟩
 | @shut f cs w o c x r cap buf s e tm h ho hc hx hv ho' =>
  have okx:okA x = true:=by
   rcases qp8 (qfc hf h) with z | z
   ·rw [ho] at z
    simp only [bn,yg,hc,hx] at z
    simp only [okB] at z
    cases z
   ·rw [ho] at z
    simp only [qlk,hc,hx] at z
    simpa using z
  obtain ⟨hb,hcl⟩:=qgs hr hf okx hv ho'
  exact ⟨β,hr.setObj hb rfl (.chan cap cap buf buf true true s s e e tm tm hcl),hf.finish uj,by rw [jf];exact hfn,hcs⟩
 | @go f cs w o c x y z g r cap buf sn e tm cells el h ho hc hx hv hy hz hclo ho' =>
  have oka:c.args.all okA = true:=by
   rcases qp8 (qfc hf h) with z | z
   ·rw [ho] at z
    simp only [bn,yg,hc,Bool.and_eq_true] at z
    exact z.2
   ·rw [ho] at z
    simp only [qlk,hc,Bool.and_eq_true] at z
    exact z.2
  have okx:okA x = true:=by rw [hx] at oka;simp at oka;exact oka.1
  have hm:=(zk h).1
  have hv1:=hf.ρ x okx
  rw [hv] at hv1
  obtain ⟨hb,hcl⟩:=qgs hr hf okx hv ho'
  have h1:=(hr.more (.cells cells el)).setObj hb rfl (.chan cap cap ((buf.push (.bool true)).extract 1 (buf.size + 1)) ((buf.push (.bool true)).extract 1 (buf.size + 1)) false false (sn + 1) (sn + 1) (e + 1) (e + 1) tm tm (by
   intro u hu
   obtain ⟨i,hi,rfl⟩:=Array.mem_iff_getElem.1 hu
   rw [Array.getElem_extract]
   rcases Array.mem_push.1 (Array.getElem_mem (xs:=buf.push (.bool true)) (i:=1 + i) (by simp at hi ⊢;omega)) with z | z
   ·exact hcl _ z
   ·rw [z];rfl))
  have ops:qqk P (SpA P) qdk qdk:=by
   refine ⟨rfl,fun i o o' h1 h2=>?_⟩
   rw [h1] at h2
   cases h2
   have hi:i = 0:=by
    have:=(Array.getElem?_eq_some_iff.1 h1).1
    have e:qdk.size = 1:=rfl
    omega
   subst hi
   cases h1
   exact ⟨rfl,rfl,.inr ⟨rfl,by simp [qdk,oNo,qlk,okA]⟩⟩
  refine ⟨β,h1,.mk' (((((AR.one hv1).push (qcd 20 g hclo)).push hv1).push (.bool true)).push (.bool false)) (by decide) (.cons (.inRegion [0] ops) .nil) (.inl rfl),hK,fun c' hc'=>?_⟩
  rcases List.mem_cons.1 hc' with z | z
  ·subst z;exact ⟨hf,hm,hfn⟩
  ·exact hcs c' z
 | @wh f cs w o c h ho hc =>
  have oka:c.args.all okA = true:=by
   rcases qp8 (qfc hf h) with z | z
   ·rw [ho] at z
    simp only [bn,yg,hc,Bool.and_eq_true] at z
    exact z.2
   ·rw [ho] at z
    simp only [qlk,hc,Bool.and_eq_true] at z
    exact z.2
  have hm:=(zk h).1
  refine ⟨β,hr,FrR.enter S (g:=sq.wh) (.inr hE) (hf.ρ.arr oka) (by decide),S.le (.inr hE),fun c' hc'=>?_⟩
  rcases List.mem_cons.1 hc' with z | z
  ·subst z;exact ⟨hf,hm,hfn⟩
  ·exact hcs c' z
 | @send f cs w o c x y u v r cap buf s e tm cells el h ho hc hx hv hy hclo ho' =>
  have oka:c.args.all okA = true:=by
   rcases qp8 (qfc hf h) with z | z
   ·rw [ho] at z
    simp only [bn,yg,hc,Bool.and_eq_true] at z
    exact z.2
   ·rw [ho] at z
    simp only [qlk,hc,Bool.and_eq_true] at z
    exact z.2
  have okx:okA x = true:=by rw [hx] at oka;simp at oka;exact oka.1
  obtain ⟨hb,hcl⟩:=qgs hr hf okx hv ho'
  have h1:=(hr.more (.cells cells el)).setObj hb rfl (.chan cap cap (buf.push v) (buf.push v) false false (s + 1) (s + 1) e e tm tm (by
   intro u hu
   rcases Array.mem_push.1 hu with z | z
   ·exact hcl u z
   ·subst z;exact hclo))
  exact ⟨β,h1,hf.finish uj,by rw [jf];exact hfn,hcs⟩
 | @recv f cs w o t x v r cap buf s e tm cl h ho hv ho' hb0 hzz =>
  have okx:okA x = true:=by
   rcases qp8 (qfc hf h) with z | z
   ·rw [ho] at z;cases z
   ·rw [ho] at z;simp only [qlk,Bool.and_eq_true] at z;exact z.1
  obtain ⟨hb,hcl⟩:=qgs hr hf okx hv ho'
  have hv':=hcl v (Array.mem_of_getElem? hb0)
  refine ⟨β,hr.setObj hb rfl (.chan cap cap (buf.extract 1 buf.size) (buf.extract 1 buf.size) cl cl s s (e + 1) (e + 1) tm tm fun u hu=>?_),hf.finish ?_,by rw [jf];exact hfn,hcs⟩
  ·obtain ⟨i,hi,rfl⟩:=Array.mem_iff_getElem.1 hu
   refine hcl _ ?_
   rw [Array.getElem_extract]
   exact Array.getElem_mem _
  ·refine (AR.push (AR.one (qcd 20 v hv')) (.bool true)).tuple
 | @over f cs w o t x z r cap s e tm h ho hv ho' hz hzz =>
  refine ⟨β,hr,hf.finish ?_,by rw [jf];exact hfn,hcs⟩
  exact (AR.push (AR.one (qcd 20 z hz)) (.bool false)).tuple
theorem Tr.loc (S:je K P P (SpA P)) {s s':St} (hi:qfd P (SpA P) K s) (h:Tr P s s') (τ:Tape) (ht:Same τ s.w s'.w):Tr P (s.on τ) (s'.on τ)/\s.w.drawn<=s'.w.drawn/\s'.w.tape = s.w.tape:=by
 cases h with
 | @go f f' cs cs' w w' es hord hne h hnp =>
  obtain ⟨β,hr,hf,hfn,hcs⟩:=hi.ex
  have key:(∃ es',stepG P true (G f (cs ++ [base P])) (qj τ w) = .go (G f' (cs' ++ [base P])) (qj τ w') es')/\w.drawn<=w'.drawn/\w'.tape = w.tape:=by
   rcases hf.run with hm | hm
   ·cases ho:opAt f with
    | none =>
     obtain ⟨a,b,c⟩:=qs9 hf hm (qaj hm ho) h ht
     exact ⟨⟨_,a⟩,b,c⟩
    | some o =>
     obtain ⟨_,ops,i,l,k,ht',ho',hw⟩:=zk ho
     exact qwh S hr hf hm ht' ho' hw (hord o ho) h (fun c h=>by
      rcases hnp with z | z <;> (rw [show (G f' (cs' ++ [base P])).frame = f' from rfl] at h;rw [z] at h;cases h)) ht
   ·cases cs with
    | nil=>exact absurd rfl (hne hm)
    | cons c cs=>exact qta S hr hf hm hfn h ht
  obtain ⟨⟨es',k1⟩,k2,k3⟩:=key
  exact ⟨.go hord hne k1 hnp,k2,k3⟩
 | sp k h hk=>exact ⟨.sp k (fun τ'=>h τ') (hk.on τ),Nat.le_of_eq hk.drawn.1.symm,hk.drawn.2⟩
end
end Go.Proofs.Ytcdclihinmdgiaa.sq
namespace Go.Proofs.Ytcdclihinmdgiaa.sq
open Go Go.Conc
set_option linter.unusedVariables false
variable [Cal]
section
variable {P:Program} {R:Value->World->Prop} {Sp:Oper->Oper->Prop} {K:FuncId->Prop}
theorem qoo {s:St} (hi:qfd P Sp K s):s.f.defers = []/\∀ c ∈ s.cs,c.defers = []:=by
 obtain ⟨β,hr,hf,hfn,hcs⟩:=hi.ex
 exact ⟨hf.nod,fun c hc=>(hcs c hc).1.nod⟩
theorem qef (f:Frame) (vs:List PanicEntry):(f.raise vs).defers = f.defers:=by unfold Frame.raise;split <;> rfl
theorem qop {s:St} (hi:qfd P Sp K s) (hen:¬ EnS s) (hret:qfb P R (s.m P)) {vs:List PanicEntry} {w':World} {es:Array Event} (h:stepG P true (G s.f (s.cs ++ [base P])) s.w = .go (G (s.f.raise vs) (s.cs ++ [base P])) w' es):False:=by
 have h1:=hret.to (fun he=>hen (qec.1 he)) (jq h)
 obtain ⟨c,hc⟩:=raise_mode s.f vs
 exact qeb s.cs hc (by rw [qef];exact (qoo hi).1) (qoo hi).2 h1
theorem qeg {s:St} (hen:¬ EnS s) (hret:qfb P R (s.m P)) {x:Outcome} {w':World} {es:Array Event} (h:stepG P true (G s.f (s.cs ++ [base P])) s.w = .ended x w' es):False :=
 hret.qce (fun he=>hen (qec.1 he)) (vk h)
theorem qwk (S:je K P P Sp) {s:St} (hi:qfd P Sp K s) (hret:qfb P R (s.m P)) (hen:¬ EnS s) (hord:∀ o,opAt s.f = some o->bn P o.op = true):∃ s',Tr P s s':=by
 obtain ⟨f,cs,w⟩:=s
 obtain ⟨β,hr,hf,hfn,hcs⟩:=hi.ex
 simp only at hr hf hfn hcs hord
 rcases hf.run with hm | hm
 ·have hne:f.mode = .returning->cs ≠ []:=fun e=>by rw [hm] at e;cases e
  cases ho:opAt f with
  | none =>
   rcases qte (main:=true) (csA:=cs ++ [base P]) (w:=w) hf hm (qaj hm ho) with ⟨f',w',es,h,h2⟩ | ⟨x,w',es,h⟩
   ·exact ⟨⟨f',cs,w'⟩,.go hord hne h h2⟩
   ·exact (qeg hen hret h).elim
  | some o =>
   obtain ⟨_,ops,i,l,k,ht,ho',hw⟩:=zk ho
   rcases qon (main:=true) (csA:=cs ++ [base P]) S hr hf hm ht ho' hw (hord o ho) with ⟨v,w',es,h⟩ | ⟨g,xs,w',es,hg,h⟩ | ⟨c,vs,w',es,hc,h⟩ | ⟨x,w',es,h⟩
   ·exact ⟨⟨f.finish v,cs,w'⟩,.go hord hne h (.inl (by rw [uz];exact hm))⟩
   ·exact ⟨⟨_,f :: cs,w'⟩,.go hord hne h (.inl rfl)⟩
   ·subst hc;exact (qop hi hen hret h).elim
   ·exact (qeg hen hret h).elim
 ·cases cs with
  | nil=>exact absurd ⟨hm,rfl⟩ hen
  | cons c cs =>
   rcases qcr (main:=true) (csA:=cs ++ [base P]) (w:=w) (ca:=c) S hf hm hfn with ⟨v,w',es,h⟩ | ⟨x,w',es,h⟩
   ·exact ⟨⟨c.finish v,cs,w'⟩,.go hord (fun _=>by simp) h (.inl (by rw [uz];exact (hcs c (by simp)).2.1))⟩
   ·exact (qeg hen hret h).elim
theorem qdc {f:Frame} {o:Oper} {β:Bl} (hf:FrR P Sp β f f) (ho:opAt f = some o) (cs:List Frame) (w:World):stepG P true (G f cs) w = stepG.apply P true f cs none (execOp f.eval o) w/\f.kind ≠ .early/\∀ d b r s k,f.todo ≠ .call d b r s :: k:=by
 obtain ⟨hm,ops,i,l,k,ht,ho',hw⟩:=zk ho
 exact ⟨pq P true cs w hm hf.round ht ho' hw,by rw [hf.kind];decide,by rw [ht];simp⟩
theorem qoq {s s':St} (hen:¬ EnS s) (h:∀ τ,∃ es,stepG P true (G s.f (s.cs ++ [base P])) (qj τ s.w) = .go (G s'.f (s'.cs ++ [base P])) (qj τ s'.w) es):∀ τ,qcs P (0 + 1) ((s.on τ).m P) ((s'.on τ).m P):=by
 intro τ
 obtain ⟨es,h⟩:=h τ
 exact ⟨fun he=>hen (qec (P:=P) (s:=s.on τ) |>.1 he),_,jq h,rfl⟩
theorem qi9 {g:FuncId} {F:Func} (hF:P.funcs[g]? = some F) (hb:F.body.isNone = false) (hn:(F.name == "runtime.NumGoroutine") = false) {f:Frame} (args:Array Operand) (argTypes:Array TypeId) (dst:Option Tmp) (ty:TypeId) (pos:String) (after:Array Edge) (guard:Option (Nat × Bool)) (w:World) :
  (execOp f.eval { dst,op:=.call { callee:=.value (.func g),args,argTypes },type:=ty,pos,after,guard }).run P w = .ok (.enter g (args.map f.eval)) w:=by
 have e1:f.eval (.func g) = .func (.func g) #[] #[]:=rfl
 have hn':¬ F.name = "runtime.NumGoroutine":=by simpa using hn
 have hb':¬ F.body = none:=by intro h;rw [h] at hb;cases hb
 simp [execOp,resolve,Deferred.ofValue,e1,invoke,callFunc,Sem.run_bind,program,Sem.run,hF,hb',hn']
theorem qth {s:St} (hi:qfd P Sp K s) (hen:¬ EnS s) {o:Oper} {c:Call} (ho:opAt s.f = some o) (hc:o.op = .call c) (hcc:c.callee = .value (.func sq.wh)) {F:Func} (hF:P.funcs[sq.wh]? = some F) (hb:F.body.isNone = false) (hn:(F.name == "runtime.NumGoroutine") = false):∃ s',Tr P s s':=by
 obtain ⟨β,hr,hf,hfn,hcs⟩:=hi.ex
 obtain ⟨f,cs,w⟩:=s
 simp only at ho hf
 refine ⟨_,.sp 0 (qoq hen fun τ=>?_) (.wh ho hc hcc)⟩
 obtain ⟨a1,a2,a3⟩:=qdc hf ho (cs ++ [base P]) (qj τ w)
 have hrun:(execOp f.eval o).run P (qj τ w) = .ok (.enter sq.wh (c.args.map f.eval)) (qj τ w):=by
  obtain ⟨dst,op,ty,pos,after,guard⟩:=o
  simp only at hc
  subst hc
  obtain ⟨callee,args,argTypes⟩:=c
  simp only at hcc
  subst hcc
  exact qi9 hF hb hn args argTypes _ _ _ _ _ _
 obtain ⟨es,hes⟩:=qw hrun
 have:=(jw P (cs ++ [base P]) _ a2 hes a3).2.2 _ _ rfl
 rw [<-a1] at this
 exact ⟨_,this⟩
theorem qmw {s:St} (hi:qfd P Sp K s) (hen:¬ EnS s) (hret:qfb P R (s.m P)) {o:Oper} (ho:opAt s.f = some o) {x:Halt} {w':World} (hx:qvy x) (h:(execOp s.f.eval o).run P s.w = .halt x w'):False:=by
 obtain ⟨β,hr,hf,hfn,hcs⟩:=hi.ex
 obtain ⟨a1,a2,a3⟩:=qdc hf ho (s.cs ++ [base P]) s.w
 obtain ⟨esA,hra⟩:=qw h
 cases x with
 | panic v =>
  refine qop hi hen hret (vs:=[{ v,recovered:=false }]) (w':=w') (es:=seen P s.f.fn (if s.f.kind == .early then #[] else esA) ++ #[]) ?_
  rw [a1]
  simp only [stepG.apply,if_true,hra,GStep.after]
  rfl
 | stuck u =>
  refine qeg hen hret (x:=.stuck u (s.f.pos P)) (w':=w') (es:=seen P s.f.fn (if s.f.kind == .early then #[] else esA) ++ #[]) ?_
  rw [a1]
  simp only [stepG.apply,if_true,hra,GStep.after]
 | unsupported u =>
  cases u with
  | initOrder g=>cases hx
  | _ =>
   have e2:=a1
   simp only [stepG.apply,if_true,hra,GStep.after] at e2
   exact qeg hen hret e2
 | _=>cases hx
theorem qor {s:St} (hi:qfd P Sp K s) (hen:¬ EnS s) {o:Oper} (ho:opAt s.f = some o) {v:Value} {w':World} (h:∀ τ,(execOp s.f.eval o).run P (qj τ s.w) = .ok (.value v) (qj τ w')) :
  ∀ τ,qcs P (0 + 1) ((s.on τ).m P) ((St.on τ ⟨s.f.finish v,s.cs,w'⟩).m P):=by
 obtain ⟨β,hr,hf,hfn,hcs⟩:=hi.ex
 refine qoq hen fun τ=>?_
 obtain ⟨a1,a2,a3⟩:=qdc hf ho (s.cs ++ [base P]) (qj τ s.w)
 obtain ⟨es,hes⟩:=qw (h τ)
 have:=(jw P (s.cs ++ [base P]) _ a2 hes a3).1 _ rfl
 rw [<-a1] at this
 exact ⟨_,this⟩
theorem qk5 (t:TypeId) (v:Value):Dead P (Instr.makeChan t v)\/∃ n,qmv P t/\∀ w,(Instr.makeChan t v).run P w = .ok (.chan (some w.heap.size)) { w with heap:=w.heap.push (.chan n #[] false 0 0 false) }:=by
 cases v with
 | int k n =>
  cases hu:P.underlying t with
  | none=>exact .inl fun w=>⟨.stuck "no such type",w,by simp [Instr.makeChan,asInt,asIntOf,Sem.run_bind,underlying,program,Sem.run,hu,stuck],trivial⟩
  | some d =>
   cases d with
   | chan dir el =>
    cases hi:P.info? el with
    | none=>exact .inl fun w=>⟨.stuck "no such type",w,by simp [Instr.makeChan,asInt,asIntOf,Sem.run_bind,underlying,typeInfo,program,Sem.run,hu,hi,stuck],trivial⟩
    | some i =>
     by_cases hc:n < 0\/n > IntKind.i64.max\/(i.bytes:Int) * n > 2 ^ 48 - 112
     ·refine .inl fun w=>?_
      obtain ⟨x,w2,e,m⟩:=qy (Pa:=P) (α:=PUnit) (e:=.plain "makechan: size out of range") rfl w
      refine ⟨x,w2,?_,m⟩
      unfold Instr.makeChan asInt asIntOf underlying typeInfo program
      simp only [Sem.run_bind,Sem.run,Sem.run_pure,Result.andThen_ok,hu,hi]
      rw [if_pos hc]
      simp only [Sem.run_bind,e,Result.andThen_halt]
     ·refine .inr ⟨n.toNat,⟨_,_,_,hu,hi⟩,fun w=>?_⟩
      unfold Instr.makeChan asInt asIntOf underlying typeInfo program
      simp only [Sem.run_bind,Sem.run,Sem.run_pure,Result.andThen_ok,hu,hi]
      rw [if_neg hc]
      simp [Sem.run_bind,Sem.run,newObj]
   | _=>exact .inl fun w=>⟨.stuck "MakeChan: channel type expected",w,by simp [Instr.makeChan,asInt,asIntOf,Sem.run_bind,underlying,program,Sem.run,hu,stuck],trivial⟩
 | pointer p =>
  cases p with
  | none=>exact .inl fun w=>⟨.stuck "int expected",w,by simp [Instr.makeChan,asInt,asIntOf,Sem.run_bind,Sem.run,stuck],trivial⟩
  | some p=>exact .inl fun w=>⟨.unsupported .addressObserved,w,by simp [Instr.makeChan,asInt,asIntOf,Sem.run_bind,Sem.run,unsupported],trivial⟩
 | _=>exact .inl fun w=>⟨.stuck "int expected",w,by simp [Instr.makeChan,asInt,asIntOf,Sem.run_bind,Sem.run,stuck],trivial⟩
theorem qti {s:St} (hi:qfd P Sp K s) (hret:qfb P R (s.m P)) (hen:¬ EnS s) {o:Oper} (ho:opAt s.f = some o) {t:TypeId} {x:Operand} (hc:o.op = .makeChan t x):∃ s',Tr P s s':=by
 have e:execOp s.f.eval o = (Instr.makeChan t (s.f.eval x) >>= fun v=>pure (.value v)):=by
  obtain ⟨dst,op,ty,pos,after,guard⟩:=o
  simp only at hc
  subst hc
  rfl
 rcases qk5 (P:=P) t (s.f.eval x) with h | ⟨n,hty,h⟩
 ·obtain ⟨y,w',h1,h2⟩:=h.bnd (fun v=>pure (Next.value v)) s.w
  exact (qmw hi hen hret ho h2 (by rw [e];exact h1)).elim
 ·refine ⟨_,.sp 0 (qor hi hen ho (w':={ s.w with heap:=s.w.heap.push (.chan n #[] false 0 0 false) }) (v:=.chan (some s.w.heap.size)) fun τ=>?_) (.make n ho hc hty)⟩
  rw [e]
  simp only [Sem.run_bind,h,Result.andThen_ok]
  rfl
end
end Go.Proofs.Ytcdclihinmdgiaa.sq
namespace Go.Proofs.Ytcdclihinmdgiaa.sq
open Go Go.Conc
set_option linter.unusedVariables false
variable [Cal]
section
variable {P:Program} {R:Value->World->Prop} {Sp:Oper->Oper->Prop} {K:FuncId->Prop}
theorem qmx (tys:Array TypeId) (ty:TypeId) (v:Value) (w:World):(∃ y w',(Builtin.close_ tys ty #[v]).run P w = .halt y w'/\qvy y) ∨
  ∃ r cap buf s e tm,v = .chan (some r)/\w.heap[r]? = some (.chan cap buf false s e tm)/\∀ τ,(Builtin.close_ tys ty #[v]).run P (qj τ w) = .ok undef (qj τ { w with heap:=w.heap.setIfInBounds r (.chan cap buf true s e tm) }):=by
 cases v with
 | chan c =>
  cases c with
  | none=>exact .inl (qy (Pa:=P) (α:=Value) (e:=.plain "close of nil channel") rfl w)
  | some r =>
   cases ho:w.heap[r]? with
   | none=>exact .inl ⟨.stuck "getObj: no such block",w,by rw [close_some];simp [Sem.run_bind,getObj,Sem.run,ho],trivial⟩
   | some o =>
    cases o with
    | chan cap buf cl s e tm =>
     cases cl with
     | true =>
      obtain ⟨x,w2,e1,m⟩:=qy (Pa:=P) (α:=PUnit) (e:=.plain "close of closed channel") rfl w
      refine .inl ⟨x,w2,?_,m⟩
      rw [close_some]
      simp [Sem.run_bind,getObj,Sem.run,ho,e1]
     | false =>
      refine .inr ⟨r,cap,buf,s,e,tm,rfl,ho,fun τ=>?_⟩
      have ho':(qj τ w).heap[r]? = some (.chan cap buf false s e tm):=ho
      exact run_close_open tys ty ho'
    | cells c e fz=>exact .inl ⟨.stuck "getObj: a row of cells",w,by rw [close_some];simp [Sem.run_bind,getObj,Sem.run,ho],trivial⟩
    | _=>exact .inl ⟨.stuck "close: no channel in this block",w,by rw [close_some];simp [Sem.run_bind,getObj,Sem.run,ho,stuck],trivial⟩
 | _=>exact .inl ⟨.stuck "close: one channel expected",w,rfl,trivial⟩
theorem qtj {s:St} (hi:qfd P Sp K s) (hret:qfb P R (s.m P)) (hen:¬ EnS s) {o:Oper} (ho:opAt s.f = some o) {c:Call} {x:Operand} (hc:o.op = .call c) (hb:c.callee = .builtin .close) (hx:c.args = #[x]):∃ s',Tr P s s':=by
 have e:∃ ty,execOp s.f.eval o = (Builtin.close_ c.argTypes ty #[s.f.eval x] >>= fun v=>pure (.value v)):=by
  obtain ⟨dst,op,ty,pos,after,guard⟩:=o
  simp only at hc
  subst hc
  obtain ⟨callee,args,argTypes⟩:=c
  simp only at hb hx
  subst hb hx
  exact ⟨ty,by simp [execOp,resolve,invoke,builtin]⟩
 obtain ⟨ty,e⟩:=e
 rcases qmx (P:=P) c.argTypes ty (s.f.eval x) s.w with ⟨y,w',h1,h2⟩ | ⟨r,cap,buf,sn,en,tm,h1,h2,h3⟩
 ·exact (qmw (x:=y) (w':=w') hi hen hret ho h2 (by rw [e];simp only [Sem.run_bind,h1,Result.andThen_halt])).elim
 ·refine ⟨_,.sp 0 (qor hi hen ho (v:=undef) fun τ=>?_) (.shut ho hc hb hx h1 h2)⟩
  rw [e]
  simp only [Sem.run_bind,h3,Result.andThen_ok]
  rfl
end
end Go.Proofs.Ytcdclihinmdgiaa.sq
namespace Go.Proofs.Ytcdclihinmdgiaa.sq
open Go Go.Conc
set_option linter.unusedVariables false
variable [Cal]
section
variable {P:Program} {R:Value->World->Prop} {Sp:Oper->Oper->Prop} {K:FuncId->Prop}
theorem qk6 (g:Goroutine) (hg:g.status = .blocked) (w:World):∃ o w',step P { world:=w,gs:=#[g],rest:={ timers:=#[],alone:=none,slice:=none } } = .ended o w':=by
 have hc:∀ mono,g.canRun mono = false:=by intro mono;simp [Goroutine.canRun,hg]
 have hr:∀ mono,runnable #[g] mono = []:=by intro mono;simp [runnable,runnable.go,hc]
 simp [step,stepT,move,ask,askOn,hr,due,ahead,hg]
 generalize endWith w 2 _ _ = x
 cases x <;> simp
def held (f:Frame) (cs:List Frame) (c:CommCase) (sh:CommShape) (w:World):Machine:={ world:=w,gs:=#[parked (G f cs) #[c] sh],rest:={ timers:=#[],alone:=none,slice:=none } }
theorem qgt {f:Frame} {cs:List Frame} {c:CommCase} {sh:CommShape} {w:World}:¬ qfb P R (held f cs c sh w):=by
 intro h
 obtain ⟨o,w',e⟩:=qk6 (P:=P) (parked (G f cs) #[c] sh) rfl w
 refine h.qce ?_ e
 rintro ⟨fr,w2,e2,_⟩
 simp only [held,lone,Machine.mk.injEq] at e2
 have:=congrArg (fun a:Array Goroutine=>a[0]?.map (·.status)) e2.2.1
 simp [parked] at this
theorem q0b {f:Frame} {cs:List Frame} {w w₁:World} {o:Oper} {β:Bl} (hf:FrR P Sp β f f) (ho:opAt f = some o) {cases_:Array CommCase} {sh:CommShape} (hr:(execOp f.eval o).run P w = .ok (.comm cases_ true sh) w₁) :
  ∃ es,stepG P true (G f cs) w = .comm (G f cs) cases_ true sh w₁ es:=by
 obtain ⟨a1,a2,a3⟩:=qdc hf ho cs w
 obtain ⟨es,hes⟩:=qw hr
 rw [a1]
 simp only [stepG.apply,if_true,hes,GStep.after]
 exact ⟨_,rfl⟩
theorem qk7 (c:CommCase) (w:World):waitingAt { timers:=#[],alone:=none,slice:=none } #[c] w = some w:=by
 have:timerAhead { timers:=#[],alone:=none,slice:=none } w.os.mono #[c] = false:=by
  obtain ⟨ch,sd,z⟩:=c
  cases ch with
  | chan o=>cases o <;> simp [timerAhead]
  | _=>simp [timerAhead]
 simp [waitingAt,this]
theorem qa9 {f:Frame} {cs:List Frame} {w w₁:World} {es:Array Event} {c:CommCase} {sh:CommShape} (h:stepG P true (G f cs) w = .comm (G f cs) #[c] true sh w₁ es)
  (hc:(match c.chan with | .chan none=>false | .chan (some r)=>!(w₁.heap[r]? matches some (.chan ..)) | _=>true) = true):∃ o w',step P (lone f cs w) = .ended o w':=by
 show ∃ o w',step P (solo (G f cs) w) = .ended o w'
 rw [step,stepT_solo rfl]
 simp [runT,solo,G,Array.swapAt!,Array.swapAt,h,GStep.es,communicate] at h ⊢
 cases hcc:c.chan with
 | chan o =>
  cases o with
  | none=>simp [hcc] at hc
  | some r =>
   cases ho:w₁.heap[r]? with
   | none=>simp only [ho];exact ⟨_,_,rfl⟩
   | some ob=>cases ob <;> first | (simp [hcc,ho] at hc;done) | (simp only [ho];exact ⟨_,_,rfl⟩)
 | _=>exact ⟨_,_,rfl⟩
theorem qct {f:Frame} {cs:List Frame} {w w₁:World} {es:Array Event} {c:CommCase} {sh:CommShape} (h:stepG P true (G f cs) w = .comm (G f cs) #[c] true sh w₁ es)
  (hc:(match c.chan with | .chan none=>false | .chan (some r)=>!(w₁.heap[r]? matches some (.chan ..)) | _=>true) = false) (hw:∀ gs,(∀ g ∈ gs,g.offers = none)->ways w₁ gs c = []):step P (lone f cs w) = .next (held f cs c sh w₁):=by
 show step P (solo (G f cs) w) = _
 rw [step,stepT_solo rfl]
 simp [runT,solo,G,Array.swapAt!,Array.swapAt,h,GStep.es,communicate] at h ⊢
 have hw':=hw #[{ frame:=(default:Goroutine).frame,callers:=(default:Goroutine).callers,status:=GoStatus.finished,dying:=(default:Goroutine).dying,offers:=(default:Goroutine).offers }] (by simp;rfl)
 cases hcc:c.chan with
 | chan o =>
  cases o with
  | none =>
   simp only [hw',if_true]
   simp only [qk7]
   rfl
  | some r =>
   cases ho:w₁.heap[r]? with
   | none=>simp [hcc,ho] at hc
   | some ob =>
    cases ob with
    | chan =>
     simp only [hw',ho,if_true]
     simp only [qk7]
     rfl
    | _=>simp [hcc,ho] at hc
 | _=>simp [hcc] at hc
end
end Go.Proofs.Ytcdclihinmdgiaa.sq
namespace Go.Proofs.Ytcdclihinmdgiaa.sq
open Go Go.Conc
set_option linter.unusedVariables false
variable [Cal]
section
variable {P:Program} {R:Value->World->Prop} {Sp:Oper->Oper->Prop} {K:FuncId->Prop}
theorem qh1 {f:Frame} {o:Oper} {t:TypeId} {x:Operand} (ho:o.op = .recv t x true) (hz:∀ d el,P.underlying t = some (.chan d el)->ni P el = true) (w:World) :
  (∃ y w',(execOp f.eval o).run P w = .halt y w'/\qvy y)\/∃ z,clo 20 z = true/\qcg P t z/\∀ w,(execOp f.eval o).run P w = .ok (.comm #[{ chan:=f.eval x,send:=none,zero:=z }] true (.recv true)) w:=by
 obtain ⟨dst,op,ty,pos,after,guard⟩:=o
 simp only at ho
 subst ho
 cases hu:P.underlying t with
 | none=>exact .inl ⟨.stuck "no such type",w,by simp [execOp,Sem.run_bind,underlying,program,Sem.run,hu,stuck],trivial⟩
 | some d =>
  cases d with
  | chan dir el =>
   have hz:=hz _ _ hu
   unfold ni at hz
   cases hi:P.info? el with
   | none=>exact .inl ⟨.stuck "no such type",w,by simp [execOp,Sem.run_bind,underlying,zeroValue,typeInfo,program,Sem.run,hu,hi,stuck],trivial⟩
   | some i =>
    rw [hi] at hz
    cases hzz:i.zero with
    | none=>exact .inl ⟨.unsupported (.resourceLimit "a value of more than 2^22 cells"),w,by simp [execOp,Sem.run_bind,underlying,zeroValue,typeInfo,program,Sem.run,hu,hi,hzz,unsupported],trivial⟩
    | some z =>
     simp only [hzz] at hz
     refine .inr ⟨z,hz,⟨_,_,_,hu,hi,hzz⟩,fun w=>?_⟩
     simp [execOp,Sem.run_bind,underlying,zeroValue,typeInfo,program,Sem.run,hu,hi,hzz]
  | _=>exact .inl ⟨.stuck "receive: channel type expected",w,by simp [execOp,Sem.run_bind,underlying,program,Sem.run,hu,stuck],trivial⟩
theorem no_partners {gs:Array Goroutine} (h:∀ g ∈ gs,g.offers = none) (r:Nat) (b:Bool):partners gs r b = []:=by
 unfold partners
 rw [List.flatMap_eq_nil_iff]
 rintro ⟨g,i⟩ hg
 have hm:g ∈ gs:=by
  have h1:(g,i) ∈ gs.toList.zipIdx:=by simpa using hg
  have h2:=List.fst_mem_of_mem_zipIdx h1
  simpa using h2
 simp only [h g hm]
 split <;> first | rfl | (rename_i e;cases e)
theorem qtk {s:St} (hi:qfd P Sp K s) (hret:qfb P R (s.m P)) (hen:¬ EnS s) {o:Oper} (ho:opAt s.f = some o) {t:TypeId} {x:Operand} (hc:o.op = .recv t x true) (hz:∀ d el,P.underlying t = some (.chan d el)->ni P el = true):∃ s',Tr P s s':=by
 have hi0:=hi
 obtain ⟨β,hr,hf,hfn,hcs⟩:=hi.ex
 rcases qh1 (P:=P) (f:=s.f) hc hz s.w with ⟨y,w',h1,h2⟩ | ⟨z,hcz,hzz,h⟩
 ·exact (qmw hi hen hret ho h2 h1).elim
 ·have cm:∀ w,∃ es,stepG P true (G s.f (s.cs ++ [base P])) w = .comm (G s.f (s.cs ++ [base P])) #[{ chan:=s.f.eval x,send:=none,zero:=z }] true (.recv true) w es:=fun w=>q0b hf ho (h w)
  have nend:¬ AtEnd P (s.m P):=fun he=>hen (qec.1 he)
  have ill:(∃ o w',step P (lone s.f (s.cs ++ [base P]) s.w) = .ended o w')->False:=fun ⟨o,w',e⟩=>hret.qce nend e
  obtain ⟨es0,cm0⟩:=cm s.w
  have wait:step P (lone s.f (s.cs ++ [base P]) s.w) = .next (held s.f (s.cs ++ [base P]) { chan:=s.f.eval x,send:=none,zero:=z } (.recv true) s.w)->False:=fun e=>qgt (hret.to nend e)
  generalize hv:s.f.eval x = v at *
  cases v with
  | chan c =>
   cases c with
   | none=>exact (wait (qct cm0 rfl fun gs hg=>by simp [ways])).elim
   | some r =>
    cases hob:s.w.heap[r]? with
    | none=>exact (ill (qa9 cm0 (by simp [hob]))).elim
    | some ob =>
     cases ob with
     | chan cap buf cl sn en tm =>
      by_cases hb:0 < buf.size
      ·have hb0:buf[0]? = some buf[0]:=Array.getElem?_eq_getElem hb
       refine ⟨_,.sp 0 (fun τ=>?_) (SpK.recv (s:=sn) (e:=en) (tm:=tm) (cl:=cl) (cap:=cap) ho hc hv hob hb0 ⟨z,hzz⟩)⟩
       obtain ⟨es,cmτ⟩:=cm (qj τ s.w)
       refine ⟨fun he=>hen (qec (P:=P) (s:=s.on τ) |>.1 he),_,?_,rfl⟩
       have:=step_lone_recv_buf true cmτ (c:=r) (show (qj τ s.w).heap[r]? = some (.chan cap buf cl sn en tm) from hob) hb
       rw [show buf.getD 0 undef = buf[0] by simp [Array.getD,hb]] at this
       exact this
      ·have he:buf = #[]:=by
        rw [<-Array.size_eq_zero_iff];omega
       subst he
       cases cl with
       | true =>
        refine ⟨_,.sp 0 (fun τ=>?_) (SpK.over (s:=sn) (e:=en) (tm:=tm) (cap:=cap) ho hc hv hob hcz hzz)⟩
        obtain ⟨es,cmτ⟩:=cm (qj τ s.w)
        refine ⟨fun he=>hen (qec (P:=P) (s:=s.on τ) |>.1 he),_,?_,rfl⟩
        exact step_lone_recv_shut true cmτ (c:=r) (show (qj τ s.w).heap[r]? = some (.chan cap #[] true sn en tm) from hob)
       | false =>
        exact (wait (qct cm0 (by simp [hob]) fun gs hg=>by simp [ways,hob,no_partners hg])).elim
     | _=>exact (ill (qa9 cm0 (by simp [hob]))).elim
  | _=>exact (ill (qa9 cm0 rfl)).elim
end
end Go.Proofs.Ytcdclihinmdgiaa.sq
namespace Go.Proofs.Ytcdclihinmdgiaa.sq
open Go Go.Conc
set_option linter.unusedVariables false
variable [Cal]
def qot (T TS T2:TypeId):Array Oper:=#[oNo (.binOp .eql T (.tmp 1) (.tmp 1) T2),oNo (.buildSlice TS 1 #[(0,.tmp 1)])]
def qmy:Array Oper:=#[oNo (.send (.tmp 0) (.tmp 1))]
def qmz (T TS T2:TypeId):Code:=.seq (.region 0 (qot T TS T2) false) (.region 1 qmy false)
def fk (n:FuncId) (c v u:Value) (k:List Item):Frame:=⟨n,#[c,v,u,.bool true,.bool false],k,[],.run,.normal,none⟩
section
variable {P:Program} {R:Value->World->Prop} {Sp:Oper->Oper->Prop} {K:FuncId->Prop} {n:FuncId} {T TS T2:TypeId} {c v u:Value} {cs:List Frame} {w:World}
theorem jk {k:List Item}:¬ AtEnd P (lone (fk n c v u k) cs w):=qex (.inl (by simp [fk]))
theorem s1 (a b:Code) (k:List Item):step P (lone (fk n c v u (.code (.seq a b) :: k)) cs w) = .next (lone (fk n c v u (.code a :: .code b :: k)) cs w) :=
 jq (es:=#[]) (by simp [stepG,G,fk,stepG.exec])
theorem s2 (id:Nat) (ops:Array Oper) (k:List Item):step P (lone (fk n c v u (.code (.region id ops false) :: k)) cs w) = .next (lone (fk n c v u (.inRegion ops (List.range ops.size) :: k)) cs w) :=
 jq (es:=#[]) (by simp [stepG,G,fk,stepG.exec])
theorem s3 (ops:Array Oper) (k:List Item):step P (lone (fk n c v u (.inRegion ops [] :: k)) cs w) = .next (lone (fk n c v u k) cs w) :=
 jq (es:=#[]) (by simp [stepG,G,fk,stepG.exec])
theorem s4:step P (lone (fk n c v u []) cs w) = .next (lone { fk n c v u [] with mode:=.returning } cs w) :=
 jq (es:=#[]) (by simp [stepG,G,fk,stepG.exec])
theorem s5 {F:Func} (hF:P.funcs[n]? = some F) (hres:F.results = #[]) (f:Frame):step P (lone { fk n c v u [] with mode:=.returning } (f :: cs) w) = .next (lone (f.finish undef) cs w):=by
 have:(results F #[c,v,u,.bool true,.bool false]).run P w = .ok undef w:=by
  unfold results
  rw [hres]
  simp [undef,Sem.run_bind]
 obtain ⟨es,he⟩:=qw this
 have A:=qa0 P true (f:={ fk n c v u [] with mode:=.returning }) (f :: cs) rfl rfl hF he
 simp only [doReturn,fk,GStep.after] at A
 exact jq A
theorem fk_ρ (P:Program) {β:Bl} (hc:VR β c c) (hv:VR β v v) (hu:VR β u u) (k:List Item):ρR β (fk n c v u k).eval (fk n c v u k).eval:=by
 have ta:AR β #[c,v,u,.bool true,.bool false] #[c,v,u,.bool true,.bool false]:=((((AR.one hc).push hv).push hu).push (.bool true)).push (.bool false)
 have:=FrR.ρ (FrR.mk' (Pa:=P) (Sp:=SpA P) (fn:=n) (kd:=.normal) ta (by decide) .nil (.inl rfl))
 intro x hx
 have h:=this x hx
 cases x <;> exact h
end
end Go.Proofs.Ytcdclihinmdgiaa.sq
namespace Go.Proofs.Ytcdclihinmdgiaa.sq
open Go Go.Conc
set_option linter.unusedVariables false
variable [Cal]
section
variable {P:Program} {R:Value->World->Prop} {m:FuncId} {T TS T2:TypeId} {c v uu:Value} {cs:List Frame} {w:World}
theorem qb7 {f:Frame} {s:Sem Next} (hst:stepG P true (G f (cs ++ [base P])) w = stepG.apply P true f (cs ++ [base P]) none s w) (hd:f.defers = []) (hcs:∀ c ∈ cs,c.defers = []) (hne:¬ AtEnd P (lone f (cs ++ [base P]) w))
  (hret:qfb P R (lone f (cs ++ [base P]) w)) {x:Halt} {w':World} (hx:qvy x) (h:s.run P w = .halt x w'):False:=by
 obtain ⟨esA,hra⟩:=qw h
 cases x with
 | panic u =>
  have h1:=hret.to hne (jq (es:=seen P f.fn (if f.kind == .early then #[] else esA) ++ #[]) (f':=f.raise [{ v:=u,recovered:=false }]) (cs':=cs ++ [base P]) (w':=w') (by
   rw [hst]
   simp only [stepG.apply,if_true,hra,GStep.after]
   rfl))
  obtain ⟨ch,hc⟩:=raise_mode f [{ v:=u,recovered:=false }]
  exact qeb cs hc (by rw [qef];exact hd) hcs h1
 | stuck u =>
  have e2:=hst
  simp only [stepG.apply,if_true,hra,GStep.after] at e2
  exact hret.qce hne (vk e2)
 | unsupported u =>
  cases u with
  | initOrder g=>cases hx
  | _ =>
   have e2:=hst
   simp only [stepG.apply,if_true,hra,GStep.after] at e2
   exact hret.qce hne (vk e2)
 | _=>cases hx
theorem qdd {ops:Array Oper} {i:Nat} {l:List Nat} {k:List Item} {op:Op} (ho:ops[i]? = some (oNo op)) (cs:List Frame) (w:World) :
  stepG P true (G (fk m c v uu (.inRegion ops (i :: l) :: k)) cs) w = stepG.apply P true (fk m c v uu (.inRegion ops (i :: l) :: k)) cs none (execOp (fk m c v uu (.inRegion ops (i :: l) :: k)).eval (oNo op)) w :=
 pq P true cs w rfl rfl rfl ho rfl
theorem qba {ops:Array Oper} {i:Nat} {l:List Nat} {k:List Item} {op:Op} (ho:ops[i]? = some (oNo op)) (cs:List Frame) {w w':World} {u:Value} (h:(execOp (fk m c v uu (.inRegion ops (i :: l) :: k)).eval (oNo op)).run P w = .ok (.value u) w') :
  step P (lone (fk m c v uu (.inRegion ops (i :: l) :: k)) cs w) = .next (lone (fk m c v uu (.inRegion ops l :: k)) cs w'):=by
 obtain ⟨es,he⟩:=qw h
 have:=(jw P cs _ (f:=fk m c v uu (.inRegion ops (i :: l) :: k)) (by simp [fk]) he (by simp [fk])).1 _ rfl
 rw [<-qdd ho] at this
 have hf:(fk m c v uu (.inRegion ops (i :: l) :: k)).finish u = fk m c v uu (.inRegion ops l :: k):=by
  simp [Frame.finish,fk,ho,oNo]
 rw [hf] at this
 exact jq this
theorem qtl {β:Bl} {k:List Item} (hv:VR β v v) (hg:P.eqGuardType P.depth T = false) {n:Next} {w w':World} (h:(execOp (fk m c v uu k).eval (oNo (.binOp .eql T (.tmp 1) (.tmp 1) T2))).run P w = .ok n w') :
  ∃ u,n = .value u/\((v.cells.size = 1/\w' = w)\/∃ b,(Op.equalIn Op.maxDepth T v v).run P w = .ok b w'):=by
 have e:(fk m c v uu k).eval (.tmp 1) = v:=rfl
 have h':(eqGuard BinOp.eql T (.tmp 1) (.tmp 1) v v >>= fun _=>binOp BinOp.eql T v v >>= fun r=>pure (Next.value r)).run P w = .ok n w':=by
  have:=h
  simp only [execOp,oNo,e] at this
  simpa [Sem.run_bind] using this
 have key:(eqGuard BinOp.eql T (.tmp 1) (.tmp 1) v v).run P w = .ok () w->binOp BinOp.eql T v v = (Op.equal T v v >>= fun b=>pure (.bool b))->∃ u,n = .value u/\((v.cells.size = 1/\w' = w)\/∃ b,(Op.equalIn Op.maxDepth T v v).run P w = .ok b w'):=by
  intro g1 g2
  rw [g2] at h'
  simp only [Sem.run_bind,g1,Result.andThen_ok] at h'
  cases e2:(Op.equal T v v).run P w with
  | halt y w1=>simp [e2] at h'
  | ok b w1 =>
   simp [e2] at h'
   obtain ⟨rfl,rfl⟩:=h'
   exact ⟨_,rfl,.inr ⟨b,e2⟩⟩
 have g0:(∀ xs,v ≠ .agg xs)->v ≠ .nilIface->(eqGuard BinOp.eql T (.tmp 1) (.tmp 1) v v).run P w = .ok () w:=by
  intro n1 n2
  unfold eqGuard
  cases v <;> first | exact absurd rfl (n1 _) | exact absurd rfl n2 | simp
 cases v with
 | agg xs =>
  refine key ?_ rfl
  unfold eqGuard
  simp [Sem.run_bind,program,Sem.run,hg]
 | int k a =>
  simp only [Sem.run_bind,g0 (by simp) (by simp),Result.andThen_ok] at h'
  simp [binOp,Op.intCmp] at h'
  exact ⟨_,h'.1.symm,.inl ⟨rfl,h'.2.symm⟩⟩
 | string a =>
  simp only [Sem.run_bind,g0 (by simp) (by simp),Result.andThen_ok] at h'
  simp [binOp,Op.stringOp] at h'
  exact ⟨_,h'.1.symm,.inl ⟨rfl,h'.2.symm⟩⟩
 | float=>cases hv
 | complex=>cases hv
 | nilIface=>cases hv
 | iface=>cases hv
 | _=>exact key (g0 (by simp) (by simp)) rfl
theorem qwl {ts:TypeId} {parts:Array (Nat × Value)} {u:Value} {w w':World} (h:(Instr.buildSlice ts 1 parts).run P w = .ok u w'):∃ cells el,w' = { w with heap:=w.heap.push (.cells cells el) }:=by
 unfold Instr.buildSlice at h
 cases hu:P.underlying ts with
 | none=>simp [Sem.run_bind,underlying,program,Sem.run,hu,stuck] at h
 | some d =>
  simp only [Sem.run_bind,qau hu,Result.andThen_ok] at h
  cases d with
  | slice el =>
   simp only [Sem.run_bind] at h
   cases es:(sizeOf el).run P w with
   | halt y w1=>simp [es] at h
   | ok m w1 =>
    obtain ⟨rfl,_⟩:=qdw es
    simp only [es,Result.andThen_ok] at h
    split at h
    ·exact absurd h (qi8 ((qm _ (fun b e=>by cases e)).bnd _))
    ·split at h
     ·simp only [Sem.run_bind,Sem.run_pure,Result.andThen_ok] at h
      split at h
      ·rename_i cells _
       simp [newRow,newObj,Sem.run] at h
       exact ⟨cells,el,h.2.symm⟩
      ·simp [stuck,Sem.run] at h
     ·simp only [Sem.run_bind] at h
      cases ez:(zeroValue el).run P w1 with
      | halt y w2=>simp [ez] at h
      | ok z w2 =>
       have:w2 = w1:=by
        cases hi:P.info? el with
        | none=>simp [zeroValue,typeInfo,Sem.run_bind,program,Sem.run,hi,stuck] at ez
        | some i =>
         cases hz:i.zero with
         | none=>simp [zeroValue,typeInfo,Sem.run_bind,program,Sem.run,hi,hz,unsupported] at ez
         | some z=>simp [zeroValue,typeInfo,Sem.run_bind,program,Sem.run,hi,hz] at ez;exact ez.2.symm
       subst this
       simp only [ez,Sem.run_bind,Sem.run_pure,Result.andThen_ok] at h
       split at h
       ·rename_i cells _
        simp [newRow,newObj,Sem.run] at h
        exact ⟨cells,el,h.2.symm⟩
       ·simp [stuck,Sem.run] at h
  | _=>simp [stuck,Sem.run] at h
theorem qxo {k:List Item} {n:Next} {w w':World} (h:(execOp (fk m c v uu k).eval (oNo (.buildSlice TS 1 #[(0,.tmp 1)]))).run P w = .ok n w') :
  ∃ u cells el,n = .value u/\(Instr.buildSlice TS 1 #[(0,v)]).run P w = .ok u w'/\w' = { w with heap:=w.heap.push (.cells cells el) }:=by
 have h':(Instr.buildSlice TS 1 #[(0,v)] >>= fun r=>pure (Next.value r)).run P w = .ok n w':=by
  have e:(fk m c v uu k).eval (.tmp 1) = v:=rfl
  simpa [execOp,oNo,e] using h
 simp only [Sem.run_bind] at h'
 cases e:(Instr.buildSlice TS 1 #[(0,v)]).run P w with
 | halt y w1=>simp [e] at h'
 | ok u w1 =>
  simp [e] at h'
  obtain ⟨rfl,rfl⟩:=h'
  obtain ⟨cells,el,h2⟩:=qwl e
  exact ⟨u,cells,el,rfl,rfl,h2⟩
end
end Go.Proofs.Ytcdclihinmdgiaa.sq
namespace Go.Proofs.Ytcdclihinmdgiaa.sq
open Go Go.Conc
set_option linter.unusedVariables false
variable [Cal]
structure qgu (P:Program) (T TS T2:TypeId):Prop where
 fn:∃ F,P.funcs[nfn]? = some F/\F.body = some (qmz T TS T2)/\F.ntmps<=5/\F.results = #[]/\F.body.isNone = false/\(F.name == "runtime.NumGoroutine") = false
 guard:P.eqGuardType P.depth T = false
 glob:P.globals.size = 0
 ty:∃ n m u,qtb P n T = true/\(P.info? T).map (·.size) = some m/\m ≠ 1/\P.underlying T = some u/\qok u = true/\(List.range m).all (fun j=>(cov P n T).contains j) = true
 sl:P.underlying TS = some (.slice T)
 okA:bn P (.binOp .eql T (.tmp 1) (.tmp 1) T2) = true
 okB:bn P (.buildSlice TS 1 #[(0,.tmp 1)]) = true
section
variable {P:Program} {R:Value->World->Prop} {K:FuncId->Prop} {T TS T2:TypeId}
theorem qgv {f:Frame} {cs:List Frame} {w w₁:World} {es:Array Event} {c cap sn en:Nat} {v z:Value} {buf:Array Value} {tm:Bool} (h:stepG P true (G f cs) w = .comm (G f cs) #[{ chan:=.chan (some c),send:=some v,zero:=z }] true .send w₁ es)
  (hc:w₁.heap[c]? = some (.chan cap buf true sn en tm)):(∃ o w',step P (lone f cs w) = .ended o w')\/∃ vs w',step P (lone f cs w) = .next (lone (f.raise vs) cs w'):=by
 obtain ⟨x,w2,e,m⟩:=qy (Pa:=P) (α:=Unit) (e:=.plain "send on closed channel") rfl w₁
 cases x with
 | panic u =>
  refine .inr ⟨[{ v:=u,recovered:=false }],w2,?_⟩
  show step P (solo (G f cs) w) = _
  rw [step,stepT_solo rfl]
  simp [runT,solo,G,Array.swapAt!,Array.swapAt,h,GStep.es,communicate,ways,hc,choose,Sem.run,Question.forced] at h ⊢
  rw [e]
  rfl
 | _ =>
  refine .inl ⟨.stuck "communicate" "",w₁,?_⟩
  show step P (solo (G f cs) w) = _
  rw [step,stepT_solo rfl]
  simp [runT,solo,G,Array.swapAt!,Array.swapAt,h,GStep.es,communicate,ways,hc,choose,Sem.run,Question.forced] at h ⊢
  rw [e]
theorem qtm (S:je K P P (SpA P)) (X:qgu P T TS T2) {s:St} (hi:qfd P (SpA P) K s) (hret:qfb P R (s.m P)) (hen:¬ EnS s) {o:Oper} (ho:opAt s.f = some o) {c:Call} {x y z:Operand} (hc:o.op = .call c) (hcc:c.callee = .value (.func nfn)) (hargs:c.args = #[x,y,z,.const (.bool true),.const (.bool false)])
  (okx:okA x = true) (oky:okA y = true) (okz:okA z = true):∃ s',Tr P s s':=by
 obtain ⟨F,hF,hbody,hnt,hres,hbn,hname⟩:=X.fn
 obtain ⟨n0,m0,u0,t1,t2,t3,t4,t5,t6⟩:=X.ty
 obtain ⟨f,cs,w⟩:=s
 obtain ⟨hd,hcd⟩:=qoo hi
 obtain ⟨β,hr,hf,hfn,hcs⟩:=hi.ex
 simp only at ho hf hr hd hcd
 have hv1:=hf.ρ x okx
 have hv2:=hf.ρ y oky
 generalize hcv:f.eval x = cv at hv1
 generalize hvv:f.eval y = v at hv2
 have hv3:=hf.ρ z okz
 generalize huv:f.eval z = uv at hv3
 have hcsd:∀ c ∈ f :: cs,c.defers = []:=fun c hc=>by
  rcases List.mem_cons.1 hc with z | z
  ·subst z;exact hd
  ·exact hcd c z
 have e0:∀ w,step P (lone f (cs ++ [base P]) w) = .next (lone (fk nfn cv v uv [.code (qmz T TS T2)]) (f :: cs ++ [base P]) w):=by
  intro w
  obtain ⟨a1,a2,a3⟩:=qdc hf ho (cs ++ [base P]) w
  have hrun:(execOp f.eval o).run P w = .ok (.enter nfn (c.args.map f.eval)) w:=by
   obtain ⟨dst,op,ty,pos,after,guard⟩:=o
   simp only at hc
   subst hc
   obtain ⟨callee,args,argTypes⟩:=c
   simp only at hcc
   subst hcc
   exact qi9 hF hbn hname args argTypes _ _ _ _ _ _
  obtain ⟨es,hes⟩:=qw hrun
  have:=(jw P (cs ++ [base P]) _ a2 hes a3).2.2 _ _ rfl
  rw [<-a1] at this
  have hfr:Frame.enter P nfn (c.args.map f.eval) .normal = fk nfn cv v uv [.code (qmz T TS T2)]:=by
   have et:f.eval (.const (.bool true)) = .bool true:=rfl
   have ef:f.eval (.const (.bool false)) = .bool false:=rfl
   simp [Frame.enter,hF,hbody,fk,hargs,hcv,hvv,huv,et,ef]
   omega
  rw [hfr] at this
  exact jq this
 have nend:∀ w,¬ AtEnd P (lone f (cs ++ [base P]) w):=fun w he=>hen (qec (P:=P) (s:=⟨f,cs,w⟩) |>.1 he)
 have r1:qfb P R (lone (fk nfn cv v uv [.code (qmz T TS T2)]) (f :: cs ++ [base P]) w):=qfb.to hret (nend w) (e0 w)
 have r2:=r1.to jk (s1 _ _ _)
 have r3:=r2.to jk (s2 _ _ _)
 have oa0:(qot T TS T2)[0]? = some (oNo (.binOp .eql T (.tmp 1) (.tmp 1) T2)):=rfl
 have oa1:(qot T TS T2)[1]? = some (oNo (.buildSlice TS 1 #[(0,.tmp 1)])):=rfl
 have hrange:List.range (qot T TS T2).size = [0,1]:=rfl
 rw [hrange] at r3
 cases q1:(execOp (fk nfn cv v uv (.inRegion (qot T TS T2) [0,1] :: [.code (.region 1 qmy false)])).eval (oNo (.binOp .eql T (.tmp 1) (.tmp 1) T2))).run P w with
 | halt h1 w1 =>
  have mild:=(ko S.toAlike4 (o:=oNo (.binOp .eql T (.tmp 1) (.tmp 1) T2)) X.okA (fk_ρ P hv1 hv2 hv3 _)).mild hr q1
  exact (qb7 (cs:=f :: cs) (qdd oa0 _ w) rfl hcsd jk r3 mild q1).elim
 | ok n1 w1 =>
 obtain ⟨u1,rfl,h1⟩:=qtl hv2 X.guard q1
 have hw1:w1 = w:=by
  rcases h1 with ⟨_,h1⟩ | ⟨b,h1⟩
  ·exact h1
  ·exact (qgr X.glob n0 _ T t1 h1).2.1
 subst hw1
 have r4:=r3.to jk (qba oa0 _ q1)
 cases q2:(execOp (fk nfn cv v uv (.inRegion (qot T TS T2) [1] :: [.code (.region 1 qmy false)])).eval (oNo (.buildSlice TS 1 #[(0,.tmp 1)]))).run P w1 with
 | halt h2 w2 =>
  have mild:=(ko S.toAlike4 (o:=oNo (.buildSlice TS 1 #[(0,.tmp 1)])) X.okB (fk_ρ P hv1 hv2 hv3 _)).mild hr q2
  exact (qb7 (cs:=f :: cs) (qdd oa1 _ w1) rfl hcsd jk r4 mild q2).elim
 | ok n2 w2 =>
 obtain ⟨u2,cells,el,rfl,h2,hw2⟩:=qxo q2
 have hsz:=qew X.sl t2 h2
 have hclo:clo 20 v = true:=by
  rcases h1 with ⟨h1,_⟩ | ⟨b,h1⟩
  ·exact absurd (hsz.symm.trans h1) t3
  ·exact qk4 X.glob t1 X.sl t2 t4 t5 t6 h1 h2
 have r5:=r4.to jk (qba oa1 _ q2)
 have r6:=r5.to jk (s3 _ _)
 have r7:=r6.to jk (s2 _ _ _)
 rw [show List.range qmy.size = [0] from rfl] at r7
 have ob0:qmy[0]? = some (oNo (.send (.tmp 0) (.tmp 1))):=rfl
 have cm:∀ w,∃ es,stepG P true (G (fk nfn cv v uv (.inRegion qmy [0] :: [])) (f :: cs ++ [base P])) w = .comm (G (fk nfn cv v uv (.inRegion qmy [0] :: [])) (f :: cs ++ [base P])) #[{ chan:=cv,send:=some v,zero:=.tuple #[] }] true .send w es:=by
  intro w
  have hrun:(execOp (fk nfn cv v uv (.inRegion qmy [0] :: [])).eval (oNo (.send (.tmp 0) (.tmp 1)))).run P w = .ok (.comm #[{ chan:=cv,send:=some v,zero:=.tuple #[] }] true .send) w:=rfl
  obtain ⟨es,hes⟩:=qw hrun
  rw [qdd ob0]
  simp only [stepG.apply,if_true,hes,GStep.after]
  exact ⟨_,rfl⟩
 obtain ⟨es0,cm0⟩:=cm w2
 have ill:(∃ o w',step P (lone (fk nfn cv v uv (.inRegion qmy [0] :: [])) (f :: cs ++ [base P]) w2) = .ended o w')->False:=fun ⟨o,w',e⟩=>r7.qce jk e
 have wait:step P (lone (fk nfn cv v uv (.inRegion qmy [0] :: [])) (f :: cs ++ [base P]) w2) = .next (held (fk nfn cv v uv (.inRegion qmy [0] :: [])) (f :: cs ++ [base P]) { chan:=cv,send:=some v,zero:=.tuple #[] } .send w2)->False:=fun e=>qgt (r7.to jk e)
 cases cv with
 | chan ch =>
  cases ch with
  | none=>exact (wait (qct cm0 rfl fun gs hg=>by simp [ways])).elim
  | some r =>
   have hlt:r < w1.heap.size:=by
    cases hv1 with
    | chan hb=>exact (hr.lt hb).1
   have hold:w2.heap[r]? = w1.heap[r]?:=by
    rw [hw2]
    simp [Array.getElem?_push,Nat.ne_of_lt hlt]
   cases hob:w2.heap[r]? with
   | none=>exact (ill (qa9 cm0 (by simp [hob]))).elim
   | some ob =>
    cases ob with
    | chan cap buf cl sn en tm =>
     cases cl with
     | true =>
      rcases qgv cm0 hob with ⟨o,w',e⟩ | ⟨vs,w',e⟩
      ·exact (ill ⟨o,w',e⟩).elim
      ·have r8:=r7.to jk e
       obtain ⟨chn,hch⟩:=raise_mode (fk nfn (.chan (some r)) v uv (.inRegion qmy [0] :: [])) vs
       exact (qeb (f :: cs) hch (by rw [qef];rfl) hcsd r8).elim
     | false =>
      by_cases hroom:buf.size < cap
      ·have hob1:w1.heap[r]? = some (.chan cap buf false sn en tm):=by rw [<-hold];exact hob
       refine ⟨⟨f.finish undef,cs,{ w1 with heap:=(w1.heap.push (.cells cells el)).setIfInBounds r (.chan cap (buf.push v) false (sn + 1) en tm) }⟩,.sp 10 (fun τ=>?_) (SpK.send (cells:=cells) (el:=el) (s:=sn) (e:=en) (tm:=tm) (cap:=cap) ho hc hcc hargs hcv hvv hclo hob1)⟩
       have l1:=((ko S.toAlike4 (o:=oNo (.binOp .eql T (.tmp 1) (.tmp 1) T2)) X.okA (fk_ρ P hv1 hv2 hv3 _)).local (τ:=τ) hr q1 (fun i q h1 h2=>absurd h2 (Nat.not_lt.2 h1))).1
       have l2:=((ko S.toAlike4 (o:=oNo (.buildSlice TS 1 #[(0,.tmp 1)])) X.okB (fk_ρ P hv1 hv2 hv3 _)).local (τ:=τ) hr q2 (fun i q h1 h2=>absurd h2 (Nat.not_lt.2 (by rw [hw2];exact h1)))).1
       obtain ⟨es,cmτ⟩:=cm (qj τ w2)
       have l3:=step_lone_send_room cmτ (c:=r) (show (qj τ w2).heap[r]? = some (.chan cap buf false sn en tm) from hob) hroom
       have hfin:(fk nfn (.chan (some r)) v uv (.inRegion qmy [0] :: [])).finish undef = fk nfn (.chan (some r)) v uv (.inRegion qmy [] :: []):=rfl
       rw [hfin] at l3
       refine ⟨nend _,_,e0 _,jk,_,s1 _ _ _,jk,_,s2 _ _ _,jk,_,qba oa0 _ l1,jk,_,qba oa1 _ l2,jk,_,s3 _ _,jk,_,s2 _ _ _,jk,_,l3,jk,_,s3 _ _,jk,_,s4,?_,_,s5 hF hres f,?_⟩
       ·exact qex (.inr (by simp))
       ·subst hw2;rfl
      ·exact (wait (qct cm0 (by simp [hob]) fun gs hg=>by simp [ways,hob,no_partners hg,hroom])).elim
    | _=>exact (ill (qa9 cm0 (by simp [hob]))).elim
 | _=>exact (ill (qa9 cm0 rfl)).elim
end
end Go.Proofs.Ytcdclihinmdgiaa.sq
namespace Go.Proofs.Ytcdclihinmdgiaa.sq
open Go Go.Conc
set_option linter.unusedVariables false
variable [Cal]
def qwm (Tc:TypeId):Array Oper:=#[{ oNo (.binOp .eql Tc (.tmp 0) (.const (.chan none)) Tc) with dst:=some 4 }]
def opsE (Tc:TypeId):Array Oper:=#[{ oNo (.binOp .eql Tc (.tmp 0) (.tmp 2) Tc) with dst:=some 3 }]
def qey (Tc:TypeId):Array Oper:=#[oNo (.send (.tmp 0) (.const (.bool true))),oNo (.recv Tc (.tmp 0) true)]
def goD (Tc:TypeId):Code:=.seq (.region 1 (qwm Tc) false) (.seq (.cond (.tmp 4) (.refuse "no channel") .skip) (.seq (.region 2 (opsE Tc) false) (.seq (.cond (.tmp 3) .skip (.refuse "another channel")) (.seq (.region 3 (qey Tc) false) (.region 4 qdk false)))))
def goC (T TS T2 Tc:TypeId):Code:=.seq (.region 0 (qot T TS T2) false) (goD Tc)
structure q0c (P:Program) (T TS T2 Tc:TypeId):Prop where
 fn:∃ F,P.funcs[nfn + 1]? = some F/\F.body = some (goC T TS T2 Tc)/\F.ntmps<=5/\F.results = #[]/\F.body.isNone = false/\(F.name == "runtime.NumGoroutine") = false
 wh:∃ F,P.funcs[sq.wh]? = some F/\F.body.isNone = false/\(F.name == "runtime.NumGoroutine") = false
 guard:P.eqGuardType P.depth T = false
 glob:P.globals.size = 0
 ty:∃ n m u,qtb P n T = true/\(P.info? T).map (·.size) = some m/\m ≠ 1/\P.underlying T = some u/\qok u = true/\(List.range m).all (fun j=>(cov P n T).contains j) = true
 sl:P.underlying TS = some (.slice T)
 okA:bn P (.binOp .eql T (.tmp 1) (.tmp 1) T2) = true
 okB:bn P (.buildSlice TS 1 #[(0,.tmp 1)]) = true
 ch:∃ d e,P.underlying Tc = some (.chan d e)
 chg:P.eqGuardType P.depth Tc = false
 zc:∀ d el,P.underlying Tc = some (.chan d el)->ni P el = true
section
variable {P:Program} {R:Value->World->Prop} {K:FuncId->Prop} {T TS T2 Tc:TypeId}
theorem q0d {d:ChanDir} {el:TypeId} (hu:P.underlying Tc = some (.chan d el)) (n:Nat) (r r':Option Nat) (w:World):(Op.equalIn (n + 1) Tc (.chan r) (.chan r')).run P w = .ok (r == r') w:=by
 unfold Op.equalIn
 simp only [Sem.run_bind,qau hu,Result.andThen_ok]
 simp
theorem qtn {d:ChanDir} {el:TypeId} (hu:P.underlying Tc = some (.chan d el)) (n:Nat) {c b:Value} (hc:∀ r r',¬ (c = .chan r/\b = .chan r')) (w:World):∃ s,(Op.equalIn (n + 1) Tc c b).run P w = .halt (.stuck s) w:=by
 unfold Op.equalIn
 simp only [Sem.run_bind,qau hu,Result.andThen_ok]
 cases c <;> cases b <;> first | exact absurd ⟨rfl,rfl⟩ (hc _ _) | exact ⟨_,rfl⟩
theorem qja:Op.maxDepth = 9999 + 1:=rfl
theorem qxp (hu:∃ d e,P.underlying Tc = some (.chan d e)) (ρ:Operand->Value) {x y:Operand} {dst:Option Tmp} {r r':Option Nat} (hx:ρ x = .chan r) (hy:ρ y = .chan r') (w:World) :
  (execOp ρ { oNo (.binOp .eql Tc x y Tc) with dst }).run P w = .ok (.value (.bool (r == r'))) w:=by
 obtain ⟨d,el,hu⟩:=hu
 have h1:(Op.equal Tc (.chan r) (.chan r')).run P w = .ok (r == r') w:=by unfold Op.equal;rw [qja];exact q0d hu _ r r' w
 simp [execOp,oNo,hx,hy,Sem.run_bind,eqGuard,binOp,h1]
theorem qou (hu:∃ d e,P.underlying Tc = some (.chan d e)) (hg:P.eqGuardType P.depth Tc = false) (ρ:Operand->Value) {x y:Operand} {dst:Option Tmp} {r:Option Nat} {β:Bl} (h:(ρ y = .chan r/\VR β (ρ x) (ρ x)/\∀ r,ρ x ≠ .chan r)\/(ρ x = .chan r/\VR β (ρ y) (ρ y)/\∀ r,ρ y ≠ .chan r)) (w:World) :
  ∃ z,(execOp ρ { oNo (.binOp .eql Tc x y Tc) with dst }).run P w = .halt z w/\qvy z:=by
 obtain ⟨d,el,hu⟩:=hu
 rcases h with ⟨hy,hv,hc⟩ | ⟨hx,hv,hc⟩
 ·generalize hcx:ρ x = c at hv hc
  obtain ⟨s,hs⟩:=qtn hu 9999 (c:=c) (b:=.chan r) (fun r r' z=>hc r z.1) w
  have h1:(Op.equal Tc c (.chan r)).run P w = .halt (.stuck s) w:=by unfold Op.equal;rw [qja];exact hs
  refine ⟨.stuck s,?_,trivial⟩
  cases c with
  | chan r=>exact absurd rfl (hc _)
  | agg xs=>simp [execOp,oNo,hcx,hy,Sem.run_bind,eqGuard,program,Sem.run,hg,binOp,h1]
  | float=>cases hv
  | complex=>cases hv
  | nilIface=>cases hv
  | iface=>cases hv
  | _=>simp [execOp,oNo,hcx,hy,Sem.run_bind,eqGuard,binOp,h1]
 ·generalize hcx:ρ y = c at hv hc
  obtain ⟨s,hs⟩:=qtn hu 9999 (c:=.chan r) (b:=c) (fun r r' z=>hc r' z.2) w
  have h1:(Op.equal Tc (.chan r) c).run P w = .halt (.stuck s) w:=by unfold Op.equal;rw [qja];exact hs
  refine ⟨.stuck s,?_,trivial⟩
  cases c with
  | chan r=>exact absurd rfl (hc _)
  | agg xs=>simp [execOp,oNo,hcx,hx,Sem.run_bind,eqGuard,program,Sem.run,hg,binOp,h1]
  | float=>cases hv
  | complex=>cases hv
  | nilIface=>cases hv
  | iface=>cases hv
  | _=>simp [execOp,oNo,hcx,hx,Sem.run_bind,eqGuard,binOp,h1]
def gx (n:FuncId) (ts:Array Value) (k:List Item):Frame:=⟨n,ts,k,[],.run,.normal,none⟩
section
variable {n:FuncId} {ts:Array Value} {cs:List Frame} {w:World}
theorem zn {k:List Item}:¬ AtEnd P (lone (gx n ts k) cs w):=qex (.inl (by simp [gx]))
theorem g1 (a b:Code) (k:List Item):step P (lone (gx n ts (.code (.seq a b) :: k)) cs w) = .next (lone (gx n ts (.code a :: .code b :: k)) cs w) :=
 jq (es:=#[]) (by simp [stepG,G,gx,stepG.exec])
theorem g2 (id:Nat) (ops:Array Oper) (k:List Item):step P (lone (gx n ts (.code (.region id ops false) :: k)) cs w) = .next (lone (gx n ts (.inRegion ops (List.range ops.size) :: k)) cs w) :=
 jq (es:=#[]) (by simp [stepG,G,gx,stepG.exec])
theorem g3 (ops:Array Oper) (k:List Item):step P (lone (gx n ts (.inRegion ops [] :: k)) cs w) = .next (lone (gx n ts k) cs w) :=
 jq (es:=#[]) (by simp [stepG,G,gx,stepG.exec])
theorem g4 (k:List Item):step P (lone (gx n ts (.code .skip :: k)) cs w) = .next (lone (gx n ts k) cs w) :=
 jq (es:=#[]) (by simp [stepG,G,gx,stepG.exec])
theorem g5 {t:Tmp} {b:Bool} (x y:Code) (k:List Item) (ht:ts[t]? = some (.bool b)):step P (lone (gx n ts (.code (.cond (.tmp t) x y) :: k)) cs w) = .next (lone (gx n ts (.code (if b then x else y) :: k)) cs w):=by
 have e:(gx n ts (.code (.cond (.tmp t) x y) :: k)).eval (.tmp t) = .bool b:=by
  show ts.getD t undef = _
  rw [Array.getD_eq_getD_getElem?,ht];rfl
 refine jq (es:=#[]) ?_
 simp only [stepG,G,gx,stepG.exec] at e ⊢
 rw [e]
theorem g6 (s:String) (k:List Item):∃ o,step P (lone (gx n ts (.code (.refuse s) :: k)) cs w) = .ended o w :=
 ⟨_,vk (es:=#[]) (by simp only [stepG,G,gx,stepG.exec];rfl)⟩
theorem g7 {ops:Array Oper} {i:Nat} {l:List Nat} {k:List Item} {o:Oper} {d:Tmp} (ho:ops[i]? = some o) (hd:o.dst = some d) (hw:Region.wanted o (yielded ops ts) = true) {w':World} {u:Value}
  (h:(execOp (gx n ts (.inRegion ops (i :: l) :: k)).eval o).run P w = .ok (.value u) w') :
  step P (lone (gx n ts (.inRegion ops (i :: l) :: k)) cs w) = .next (lone (gx n (ts.setIfInBounds d u) (.inRegion ops l :: k)) cs w'):=by
 obtain ⟨es,he⟩:=qw h
 have:=(jw P cs _ (f:=gx n ts (.inRegion ops (i :: l) :: k)) (by simp [gx]) he (by simp [gx])).1 _ rfl
 have e:=pq P true (f:=gx n ts (.inRegion ops (i :: l) :: k)) cs w rfl rfl rfl ho hw
 rw [<-e] at this
 have hf:(gx n ts (.inRegion ops (i :: l) :: k)).finish u = gx n (ts.setIfInBounds d u) (.inRegion ops l :: k):=by
  simp [Frame.finish,gx,ho,hd]
 rw [hf] at this
 exact jq this
end
theorem q0e (S:je K P P (SpA P)) (Y:q0c P T TS T2 Tc) {s:St} (hi:qfd P (SpA P) K s) (hret:qfb P R (s.m P)) (hen:¬ EnS s) {o:Oper} (ho:opAt s.f = some o) {c:Call} {x y z:Operand} (hc:o.op = .call c) (hcc:c.callee = .value (.func (nfn + 1))) (hargs:c.args = #[x,y,z,.const (.bool true),.const (.bool false)])
  (okx:okA x = true) (oky:okA y = true) (okz:okA z = true):∃ s',Tr P s s':=by
 obtain ⟨F,hF,hbody,hnt,hres,hbn,hname⟩:=Y.fn
 obtain ⟨n0,m0,u0,t1,t2,t3,t4,t5,t6⟩:=Y.ty
 obtain ⟨f,cs,w⟩:=s
 obtain ⟨hd,hcd⟩:=qoo hi
 obtain ⟨β,hr,hf,hfn,hcs⟩:=hi.ex
 simp only at ho hf hr hd hcd
 have hv1:=hf.ρ x okx
 have hv2:=hf.ρ y oky
 generalize hcv:f.eval x = cv at hv1
 generalize hvv:f.eval y = v at hv2
 have hv3:=hf.ρ z okz
 generalize huv:f.eval z = uv at hv3
 have hcsd:∀ c ∈ f :: cs,c.defers = []:=fun c hc=>by
  rcases List.mem_cons.1 hc with z | z
  ·subst z;exact hd
  ·exact hcd c z
 have e0:∀ w,step P (lone f (cs ++ [base P]) w) = .next (lone (fk (nfn + 1) cv v uv [.code (goC T TS T2 Tc)]) (f :: cs ++ [base P]) w):=by
  intro w
  obtain ⟨a1,a2,a3⟩:=qdc hf ho (cs ++ [base P]) w
  have hrun:(execOp f.eval o).run P w = .ok (.enter (nfn + 1) (c.args.map f.eval)) w:=by
   obtain ⟨dst,op,ty,pos,after,guard⟩:=o
   simp only at hc
   subst hc
   obtain ⟨callee,args,argTypes⟩:=c
   simp only at hcc
   subst hcc
   exact qi9 hF hbn hname args argTypes _ _ _ _ _ _
  obtain ⟨es,hes⟩:=qw hrun
  have:=(jw P (cs ++ [base P]) _ a2 hes a3).2.2 _ _ rfl
  rw [<-a1] at this
  have hfr:Frame.enter P (nfn + 1) (c.args.map f.eval) .normal = fk (nfn + 1) cv v uv [.code (goC T TS T2 Tc)]:=by
   have et:f.eval (.const (.bool true)) = .bool true:=rfl
   have ef:f.eval (.const (.bool false)) = .bool false:=rfl
   simp [Frame.enter,hF,hbody,fk,hargs,hcv,hvv,huv,et,ef]
   omega
  rw [hfr] at this
  exact jq this
 have nend:∀ w,¬ AtEnd P (lone f (cs ++ [base P]) w):=fun w he=>hen (qec (P:=P) (s:=⟨f,cs,w⟩) |>.1 he)
 have r1:qfb P R (lone (fk (nfn + 1) cv v uv [.code (goC T TS T2 Tc)]) (f :: cs ++ [base P]) w):=qfb.to hret (nend w) (e0 w)
 have r2:=r1.to jk (s1 _ _ _)
 have r3:=r2.to jk (s2 _ _ _)
 have oa0:(qot T TS T2)[0]? = some (oNo (.binOp .eql T (.tmp 1) (.tmp 1) T2)):=rfl
 have oa1:(qot T TS T2)[1]? = some (oNo (.buildSlice TS 1 #[(0,.tmp 1)])):=rfl
 have hrange:List.range (qot T TS T2).size = [0,1]:=rfl
 rw [hrange] at r3
 cases q1:(execOp (fk (nfn + 1) cv v uv (.inRegion (qot T TS T2) [0,1] :: [.code (goD Tc)])).eval (oNo (.binOp .eql T (.tmp 1) (.tmp 1) T2))).run P w with
 | halt h1 w1 =>
  have mild:=(ko S.toAlike4 (o:=oNo (.binOp .eql T (.tmp 1) (.tmp 1) T2)) Y.okA (fk_ρ P hv1 hv2 hv3 _)).mild hr q1
  exact (qb7 (cs:=f :: cs) (qdd oa0 _ w) rfl hcsd jk r3 mild q1).elim
 | ok n1 w1 =>
 obtain ⟨u1,rfl,h1⟩:=qtl hv2 Y.guard q1
 have hw1:w1 = w:=by
  rcases h1 with ⟨_,h1⟩ | ⟨b,h1⟩
  ·exact h1
  ·exact (qgr Y.glob n0 _ T t1 h1).2.1
 subst hw1
 have r4:=r3.to jk (qba oa0 _ q1)
 cases q2:(execOp (fk (nfn + 1) cv v uv (.inRegion (qot T TS T2) [1] :: [.code (goD Tc)])).eval (oNo (.buildSlice TS 1 #[(0,.tmp 1)]))).run P w1 with
 | halt h2 w2 =>
  have mild:=(ko S.toAlike4 (o:=oNo (.buildSlice TS 1 #[(0,.tmp 1)])) Y.okB (fk_ρ P hv1 hv2 hv3 _)).mild hr q2
  exact (qb7 (cs:=f :: cs) (qdd oa1 _ w1) rfl hcsd jk r4 mild q2).elim
 | ok n2 w2 =>
 obtain ⟨u2,cells,el,rfl,h2,hw2⟩:=qxo q2
 have hsz:=qew Y.sl t2 h2
 have hclo:clo 20 v = true:=by
  rcases h1 with ⟨h1,_⟩ | ⟨b,h1⟩
  ·exact absurd (hsz.symm.trans h1) t3
  ·exact qk4 Y.glob t1 Y.sl t2 t4 t5 t6 h1 h2
 have r5:=r4.to jk (qba oa1 _ q2)
 have r6:=r5.to jk (s3 _ _)
 have r7:=r6.to (P:=P) zn (g1 (n:=nfn + 1) (ts:=#[cv,v,uv,.bool true,.bool false]) _ _ _)
 have r8:=r7.to zn (g2 _ _ _)
 rw [show List.range (qwm Tc).size = [0] from rfl] at r8
 have oN:(qwm Tc)[0]? = some { oNo (.binOp .eql Tc (.tmp 0) (.const (.chan none)) Tc) with dst:=some 4 }:=rfl
 have oE:(opsE Tc)[0]? = some { oNo (.binOp .eql Tc (.tmp 0) (.tmp 2) Tc) with dst:=some 3 }:=rfl
 have stN:∀ ts k cs w,stepG P true (G (gx (nfn + 1) ts (.inRegion (qwm Tc) [0] :: k)) cs) w = stepG.apply P true (gx (nfn + 1) ts (.inRegion (qwm Tc) [0] :: k)) cs none (execOp (gx (nfn + 1) ts (.inRegion (qwm Tc) [0] :: k)).eval { oNo (.binOp .eql Tc (.tmp 0) (.const (.chan none)) Tc) with dst:=some 4 }) w :=
  fun ts k cs w=>pq P true (f:=gx (nfn + 1) ts (.inRegion (qwm Tc) [0] :: k)) cs w rfl rfl rfl oN rfl
 have stE:∀ ts k cs w,stepG P true (G (gx (nfn + 1) ts (.inRegion (opsE Tc) [0] :: k)) cs) w = stepG.apply P true (gx (nfn + 1) ts (.inRegion (opsE Tc) [0] :: k)) cs none (execOp (gx (nfn + 1) ts (.inRegion (opsE Tc) [0] :: k)).eval { oNo (.binOp .eql Tc (.tmp 0) (.tmp 2) Tc) with dst:=some 3 }) w :=
  fun ts k cs w=>pq P true (f:=gx (nfn + 1) ts (.inRegion (opsE Tc) [0] :: k)) cs w rfl rfl rfl oE rfl
 by_cases hk:∃ r,cv = .chan r
 ·obtain ⟨rc,rfl⟩:=hk
  have c1:∀ k w,(execOp (gx (nfn + 1) #[.chan rc,v,uv,.bool true,.bool false] k).eval { oNo (.binOp .eql Tc (.tmp 0) (.const (.chan none)) Tc) with dst:=some 4 }).run P w = .ok (.value (.bool (rc == none))) w :=
   fun k w=>qxp Y.ch _ (x:=.tmp 0) (y:=.const (.chan none)) (r:=rc) (r':=none) rfl rfl w
  have r9:=r8.to zn (g7 oN rfl rfl (c1 _ _))
  have r10:=r9.to zn (g3 _ _)
  have r11:=r10.to zn (g1 _ _ _)
  cases rc with
  | none =>
   have r12:=r11.to zn (g5 (b:=true) _ _ _ rfl)
   obtain ⟨o2,e⟩:=g6 (P:=P) (n:=nfn + 1) (ts:=(#[.chan none,v,uv,.bool true,.bool false]:Array Value).setIfInBounds 4 (.bool true)) (cs:=f :: cs ++ [base P]) (w:=w2) "no channel" [.code (.seq (.region 2 (opsE Tc) false) (.seq (.cond (.tmp 3) .skip (.refuse "another channel")) (.seq (.region 3 (qey Tc) false) (.region 4 qdk false))))]
   exact (r12.qce zn e).elim
  | some rc =>
   have r12:=r11.to zn (g5 (b:=false) _ _ _ rfl)
   have r13:=r12.to zn (g4 _)
   have r14:=r13.to zn (g1 _ _ _)
   have r15:=r14.to zn (g2 _ _ _)
   rw [show List.range (opsE Tc).size = [0] from rfl] at r15
   by_cases hu:∃ r,uv = .chan r
   ·obtain ⟨ru,rfl⟩:=hu
    have c2:∀ k w,(execOp (gx (nfn + 1) #[.chan (some rc),v,.chan ru,.bool true,.bool false] k).eval { oNo (.binOp .eql Tc (.tmp 0) (.tmp 2) Tc) with dst:=some 3 }).run P w = .ok (.value (.bool (some rc == ru))) w :=
     fun k w=>qxp Y.ch _ (x:=.tmp 0) (y:=.tmp 2) (r:=some rc) (r':=ru) rfl rfl w
    have r16:=r15.to zn (g7 oE rfl rfl (c2 _ _))
    have r17:=r16.to zn (g3 _ _)
    have r18:=r17.to zn (g1 _ _ _)
    cases hb:(some rc == ru) with
    | false =>
     rw [hb] at r18
     have r19:=r18.to zn (g5 (b:=false) _ _ _ rfl)
     obtain ⟨o2,e⟩:=g6 (P:=P) (n:=nfn + 1) (ts:=(#[.chan (some rc),v,.chan ru,.bool true,.bool false]:Array Value).setIfInBounds 3 (.bool false)) (cs:=f :: cs ++ [base P]) (w:=w2) "another channel" [.code (.seq (.region 3 (qey Tc) false) (.region 4 qdk false))]
     exact (r19.qce zn e).elim
    | true =>
     rw [hb] at c2 r18
     obtain rfl:some rc = ru:=beq_iff_eq.1 hb
     have r19:=r18.to zn (g5 (b:=true) _ _ _ rfl)
     have r20:=r19.to zn (g4 _)
     have r21:=r20.to zn (g1 _ _ _)
     have r22:=r21.to zn (g2 _ _ _)
     rw [show List.range (qey Tc).size = [0,1] from rfl] at r22
     have cmS:∀ w,∃ es,stepG P true (G (gx (nfn + 1) #[.chan (some rc),v,.chan (some rc),.bool true,.bool false] (.inRegion (qey Tc) [0,1] :: [.code (.region 4 qdk false)])) (f :: cs ++ [base P])) w =
       .comm (G (gx (nfn + 1) #[.chan (some rc),v,.chan (some rc),.bool true,.bool false] (.inRegion (qey Tc) [0,1] :: [.code (.region 4 qdk false)])) (f :: cs ++ [base P])) #[{ chan:=.chan (some rc),send:=some (.bool true),zero:=.tuple #[] }] true .send w es:=by
      intro w
      have hrun:(execOp (gx (nfn + 1) #[.chan (some rc),v,.chan (some rc),.bool true,.bool false] (.inRegion (qey Tc) [0,1] :: [.code (.region 4 qdk false)])).eval (oNo (.send (.tmp 0) (.const (.bool true))))).run P w = .ok (.comm #[{ chan:=.chan (some rc),send:=some (.bool true),zero:=.tuple #[] }] true .send) w:=rfl
      obtain ⟨es,hes⟩:=qw hrun
      rw [pq P true (f:=gx (nfn + 1) #[.chan (some rc),v,.chan (some rc),.bool true,.bool false] (.inRegion (qey Tc) [0,1] :: [.code (.region 4 qdk false)])) _ w rfl rfl rfl (o:=oNo (.send (.tmp 0) (.const (.bool true)))) rfl rfl]
      simp only [stepG.apply,if_true,hes,GStep.after]
      exact ⟨_,rfl⟩
     have stR:∀ cs w,stepG P true (G (gx (nfn + 1) #[.chan (some rc),v,.chan (some rc),.bool true,.bool false] (.inRegion (qey Tc) [1] :: [.code (.region 4 qdk false)])) cs) w = stepG.apply P true (gx (nfn + 1) #[.chan (some rc),v,.chan (some rc),.bool true,.bool false] (.inRegion (qey Tc) [1] :: [.code (.region 4 qdk false)])) cs none
       (execOp (gx (nfn + 1) #[.chan (some rc),v,.chan (some rc),.bool true,.bool false] (.inRegion (qey Tc) [1] :: [.code (.region 4 qdk false)])).eval (oNo (.recv Tc (.tmp 0) true))) w :=
      fun cs w=>pq P true (f:=gx (nfn + 1) #[.chan (some rc),v,.chan (some rc),.bool true,.bool false] (.inRegion (qey Tc) [1] :: [.code (.region 4 qdk false)])) cs w rfl rfl rfl (o:=oNo (.recv Tc (.tmp 0) true)) rfl rfl
     obtain ⟨es0,cm0⟩:=cmS w2
     have ill:(∃ o w',step P (lone (gx (nfn + 1) #[.chan (some rc),v,.chan (some rc),.bool true,.bool false] (.inRegion (qey Tc) [0,1] :: [.code (.region 4 qdk false)])) (f :: cs ++ [base P]) w2) = .ended o w')->False:=fun ⟨o,w',e⟩=>r22.qce zn e
     have wait:step P (lone (gx (nfn + 1) #[.chan (some rc),v,.chan (some rc),.bool true,.bool false] (.inRegion (qey Tc) [0,1] :: [.code (.region 4 qdk false)])) (f :: cs ++ [base P]) w2) = .next (held (gx (nfn + 1) #[.chan (some rc),v,.chan (some rc),.bool true,.bool false] (.inRegion (qey Tc) [0,1] :: [.code (.region 4 qdk false)])) (f :: cs ++ [base P]) { chan:=.chan (some rc),send:=some (.bool true),zero:=.tuple #[] } .send w2)->False:=fun e=>qgt (r22.to zn e)
     have hlt:rc < w1.heap.size:=by
      cases hv1 with
      | chan hb=>exact (hr.lt hb).1
     have hold:w2.heap[rc]? = w1.heap[rc]?:=by
      rw [hw2]
      simp [Array.getElem?_push,Nat.ne_of_lt hlt]
     cases hob:w2.heap[rc]? with
     | none=>exact (ill (qa9 cm0 (by simp [hob]))).elim
     | some ob =>
      cases ob with
      | chan cap buf cl sn en tm =>
       cases cl with
       | true =>
        rcases qgv cm0 hob with ⟨o,w',e⟩ | ⟨vs,w',e⟩
        ·exact (ill ⟨o,w',e⟩).elim
        ·have r23:=r22.to zn e
         obtain ⟨chn,hch⟩:=raise_mode (gx (nfn + 1) #[.chan (some rc),v,.chan (some rc),.bool true,.bool false] (.inRegion (qey Tc) [0,1] :: [.code (.region 4 qdk false)])) vs
         exact (qeb (f :: cs) hch (by rw [qef];rfl) hcsd r23).elim
       | false =>
        by_cases hroom:buf.size < cap
        ·have hob1:w1.heap[rc]? = some (.chan cap buf false sn en tm):=by rw [<-hold];exact hob
         have hlt2:rc < w2.heap.size:=(Array.getElem?_eq_some_iff.1 hob).1
         have sendS:∀ τ,step P (lone (gx (nfn + 1) #[.chan (some rc),v,.chan (some rc),.bool true,.bool false] (.inRegion (qey Tc) [0,1] :: [.code (.region 4 qdk false)])) (f :: cs ++ [base P]) (qj τ w2)) =
           .next (lone (gx (nfn + 1) #[.chan (some rc),v,.chan (some rc),.bool true,.bool false] (.inRegion (qey Tc) [1] :: [.code (.region 4 qdk false)])) (f :: cs ++ [base P]) (qj τ { w2 with heap:=w2.heap.setIfInBounds rc (.chan cap (buf.push (.bool true)) false (sn + 1) en tm) })):=by
          intro τ
          obtain ⟨es,cmτ⟩:=cmS (qj τ w2)
          have l3:=step_lone_send_room cmτ (c:=rc) (show (qj τ w2).heap[rc]? = some (.chan cap buf false sn en tm) from hob) hroom
          exact l3
         have r23:=r22.to zn (sendS w2.tape)
         have hoc:∀ τ,(qj τ { w2 with heap:=w2.heap.setIfInBounds rc (.chan cap (buf.push (.bool true)) false (sn + 1) en tm) }).heap[rc]? = some (.chan cap (buf.push (.bool true)) false (sn + 1) en tm):=fun τ=>Array.getElem?_setIfInBounds_self_of_lt hlt2
         rcases qh1 (P:=P) (f:=gx (nfn + 1) #[.chan (some rc),v,.chan (some rc),.bool true,.bool false] (.inRegion (qey Tc) [1] :: [.code (.region 4 qdk false)])) (o:=oNo (.recv Tc (.tmp 0) true)) rfl Y.zc (qj w2.tape { w2 with heap:=w2.heap.setIfInBounds rc (.chan cap (buf.push (.bool true)) false (sn + 1) en tm) }) with ⟨y4,w4,h1',h2'⟩ | ⟨z4,hz4,_,h4⟩
         ·exact (qb7 (cs:=f :: cs) (stR _ _) rfl hcsd zn r23 h2' h1').elim
         ·have recvS:∀ τ,step P (lone (gx (nfn + 1) #[.chan (some rc),v,.chan (some rc),.bool true,.bool false] (.inRegion (qey Tc) [1] :: [.code (.region 4 qdk false)])) (f :: cs ++ [base P]) (qj τ { w2 with heap:=w2.heap.setIfInBounds rc (.chan cap (buf.push (.bool true)) false (sn + 1) en tm) })) =
            .next (lone (gx (nfn + 1) #[.chan (some rc),v,.chan (some rc),.bool true,.bool false] (.inRegion (qey Tc) [] :: [.code (.region 4 qdk false)])) (f :: cs ++ [base P]) (qj τ { w2 with heap:=w2.heap.setIfInBounds rc (.chan cap ((buf.push (.bool true)).extract 1 (buf.size + 1)) false (sn + 1) (en + 1) tm) })):=by
           intro τ
           have cmR:∃ es,stepG P true (G (gx (nfn + 1) #[.chan (some rc),v,.chan (some rc),.bool true,.bool false] (.inRegion (qey Tc) [1] :: [.code (.region 4 qdk false)])) (f :: cs ++ [base P])) (qj τ { w2 with heap:=w2.heap.setIfInBounds rc (.chan cap (buf.push (.bool true)) false (sn + 1) en tm) }) =
             .comm (G (gx (nfn + 1) #[.chan (some rc),v,.chan (some rc),.bool true,.bool false] (.inRegion (qey Tc) [1] :: [.code (.region 4 qdk false)])) (f :: cs ++ [base P])) #[rcase rc z4] true (.recv true) (qj τ { w2 with heap:=w2.heap.setIfInBounds rc (.chan cap (buf.push (.bool true)) false (sn + 1) en tm) }) es:=by
            obtain ⟨es,hes⟩:=qw (h4 (qj τ { w2 with heap:=w2.heap.setIfInBounds rc (.chan cap (buf.push (.bool true)) false (sn + 1) en tm) }))
            rw [stR]
            simp only [stepG.apply,if_true,hes,GStep.after]
            exact ⟨_,rfl⟩
           obtain ⟨es,cmR⟩:=cmR
           have l4:=step_lone_recv_buf true cmR (c:=rc) (hoc τ) (by simp)
           have hsz:(buf.push (Value.bool true)).size = buf.size + 1:=by simp
           rw [hsz] at l4
           have hw4:World.setChan (qj τ { w2 with heap:=w2.heap.setIfInBounds rc (.chan cap (buf.push (.bool true)) false (sn + 1) en tm) }) rc cap ((buf.push (.bool true)).extract 1 (buf.size + 1)) false (sn + 1) (en + 1) tm = qj τ { w2 with heap:=w2.heap.setIfInBounds rc (.chan cap ((buf.push (.bool true)).extract 1 (buf.size + 1)) false (sn + 1) (en + 1) tm) }:=by
            simp [World.setChan,qj]
           rw [hw4] at l4
           exact l4
          refine ⟨⟨gk (.chan (some rc)) v,f :: cs,{ w1 with heap:=(w1.heap.push (.cells cells el)).setIfInBounds rc (.chan cap ((buf.push (.bool true)).extract 1 (buf.size + 1)) false (sn + 1) (en + 1) tm) }⟩,.sp 25 (fun τ=>?_) (SpK.go (cells:=cells) (el:=el) ho hc hcc hargs hcv hvv huv hclo hob1)⟩
          have l1:=((ko S.toAlike4 (o:=oNo (.binOp .eql T (.tmp 1) (.tmp 1) T2)) Y.okA (fk_ρ P hv1 hv2 hv3 _)).local (τ:=τ) hr q1 (fun i q h1 h2=>absurd h2 (Nat.not_lt.2 h1))).1
          have l2:=((ko S.toAlike4 (o:=oNo (.buildSlice TS 1 #[(0,.tmp 1)])) Y.okB (fk_ρ P hv1 hv2 hv3 _)).local (τ:=τ) hr q2 (fun i q h1 h2=>absurd h2 (Nat.not_lt.2 (by rw [hw2];exact h1)))).1
          refine ⟨nend _,_,e0 _,jk,_,s1 _ _ _,jk,_,s2 _ _ _,jk,_,qba oa0 _ l1,jk,_,qba oa1 _ l2,jk,_,s3 _ _,zn (ts:=#[.chan (some rc),v,.chan (some rc),.bool true,.bool false]),_,g1 _ _ _,zn,_,g2 _ _ _,zn,_,g7 oN rfl rfl (c1 _ _),zn,_,g3 _ _,zn,_,g1 _ _ _,zn,_,g5 (b:=false) _ _ _ rfl,zn,_,g4 _,
           zn,_,g1 _ _ _,zn,_,g2 _ _ _,zn,_,g7 oE rfl rfl (c2 _ _),zn,_,g3 _ _,zn,_,g1 _ _ _,zn,_,g5 (b:=true) _ _ _ rfl,zn,_,g4 _,zn,_,g1 _ _ _,zn,_,g2 _ _ _,zn,_,sendS τ,zn,_,recvS τ,zn,_,g3 _ _,zn,_,g2 _ _ _,?_⟩
          subst hw2
          rfl
        ·exact (wait (qct cm0 (by simp [hob]) fun gs hg=>by simp [ways,hob,no_partners hg,hroom])).elim
      | _=>exact (ill (qa9 cm0 (by simp [hob]))).elim
   ·obtain ⟨x3,q3,m3⟩:=qou (P:=P) (dst:=some 3) Y.ch Y.chg (gx (nfn + 1) #[.chan (some rc),v,uv,.bool true,.bool false] (.inRegion (opsE Tc) [0] :: [.code (.seq (.cond (.tmp 3) .skip (.refuse "another channel")) (.seq (.region 3 (qey Tc) false) (.region 4 qdk false)))])).eval (x:=.tmp 0) (y:=.tmp 2) (r:=some rc) (β:=β) (.inr ⟨rfl,hv3,fun r z=>hu ⟨r,z⟩⟩) w2
    exact (qb7 (cs:=f :: cs) (stE _ _ _ _) rfl hcsd zn r15 m3 q3).elim
 ·obtain ⟨x3,q3,m3⟩:=qou (P:=P) (dst:=some 4) Y.ch Y.chg (gx (nfn + 1) #[cv,v,uv,.bool true,.bool false] (.inRegion (qwm Tc) [0] :: [.code (.seq (.cond (.tmp 4) (.refuse "no channel") .skip) (.seq (.region 2 (opsE Tc) false) (.seq (.cond (.tmp 3) .skip (.refuse "another channel")) (.seq (.region 3 (qey Tc) false) (.region 4 qdk false)))))])).eval (x:=.tmp 0) (y:=.const (.chan none)) (r:=none) (β:=β) (.inl ⟨rfl,hv1,fun r z=>hk ⟨r,z⟩⟩) w2
  exact (qb7 (cs:=f :: cs) (stN _ _ _ _) rfl hcsd zn r8 m3 q3).elim
end
end Go.Proofs.Ytcdclihinmdgiaa.sq
namespace Go.Proofs.Ytcdclihinmdgiaa.sq
open Go Go.Conc
set_option linter.unusedVariables false
variable [Cal]
section
variable {P:Program} {R:Value->World->Prop} {K:FuncId->Prop} {T TS T2 Tg TSg T2g Tc:TypeId}
theorem prog (S:je K P P (SpA P)) (X:qgu P T TS T2) (Y:q0c P Tg TSg T2g Tc) {s:St} (hi:qfd P (SpA P) K s) (hret:qfb P R (s.m P)) (hen:¬ EnS s):∃ s',Tr P s s':=by
 by_cases hord:∀ o,opAt s.f = some o->bn P o.op = true
 ·exact qwk S hi hret hen hord
 ·have:∃ o,opAt s.f = some o/\bn P o.op ≠ true:=by
   apply Classical.byContradiction
   intro h
   exact hord fun o ho=>Classical.byContradiction fun hk=>h ⟨o,ho,hk⟩
  obtain ⟨o,ho,hk⟩:=this
  obtain ⟨β,hr,hf,hfn,hcs⟩:=hi.ex
  have sp:qlk P o.op = true:=by
   rcases qp8 (qfc hf ho) with z | z
   ·exact absurd z hk
   ·exact z
  cases e:o.op with
  | makeChan t x=>exact qti hi hret hen ho e
  | call c =>
   rw [e] at sp
   simp only [qlk] at sp
   split at sp
   ·rename_i g hc
    simp only [Bool.and_eq_true,Bool.or_eq_true,beq_iff_eq] at sp
    obtain ⟨h1,h3⟩:=sp
    rcases h1 with ⟨h1,h2⟩ | h1
    ·obtain ⟨x,y,z,hxy⟩:=qp7 h2
     rw [hxy] at h3
     have h4:okA x = true/\okA y = true/\okA z = true:=by
      rw [Array.all_eq_true_iff_forall_mem] at h3
      exact ⟨h3 _ (by simp),h3 _ (by simp),h3 _ (by simp)⟩
     rcases h1 with h1 | h1
     ·subst h1
      exact qtm S X hi hret hen ho e hc hxy h4.1 h4.2.1 h4.2.2
     ·subst h1
      exact q0e S Y hi hret hen ho e hc hxy h4.1 h4.2.1 h4.2.2
    ·subst h1
     obtain ⟨F,f1,f2,f3⟩:=Y.wh
     exact qth hi hen ho e hc f1 f2 f3
   ·rename_i hc
    simp only [Bool.and_eq_true,beq_iff_eq] at sp
    obtain ⟨x,hx⟩:∃ x,c.args = #[x]:=by
     obtain ⟨l⟩:∃ l:List Operand,c.args = l.toArray:=⟨c.args.toList,by simp⟩
     rename_i hl
     have h2:=sp.1
     rw [hl] at h2
     match l,h2,hl with
     | [x],_,hl=>exact ⟨x,hl⟩
    exact qtj hi hret hen ho e hc hx
   ·cases sp
  | recv t x b =>
   rw [e] at sp
   simp only [qlk,Bool.and_eq_true] at sp
   obtain ⟨h1,h2,h3⟩:=sp
   subst h2
   refine qtk hi hret hen ho e fun d el hu=>?_
   rw [hu] at h3
   exact h3
  | _=>rw [e] at sp;simp [qlk] at sp
theorem qk8 (v:Value) (w:World):∃ o,step P (lone ((base P).finish v) [] w) = .ended o w:=by
 have hx:Extern.next "fmt's door: none" = none:=by rfl
 refine ⟨_,vk (es:=#[]) (o:=.stuck ("no extern row " ++ "fmt's door: none") (((base P).finish v).pos P)) ?_⟩
 simp [stepG,G,base,Frame.finish,stepG.exec,hx]
theorem q0f (S:je K P P (SpA P)) (hR:∀ v w τ,R v w->R v (qj τ w)) {s:St} {n:Nat} (τ:Tape) (hi:qfd P (SpA P) K s) (he:EnS s) (h:qt5 P R n (s.m P)):∃ n',qt5 P R n' ((s.on τ).m P):=by
 obtain ⟨β,hr,hf,hfn,hcs⟩:=hi.ex
 obtain ⟨f,cs,w⟩:=s
 obtain ⟨hm,hc⟩:=he
 simp only at hm hc hr hf hfn
 subst hc
 obtain ⟨Fa,e1⟩:=S.some_ f.fn hfn
 obtain ⟨fr,w',v,a,b,c⟩:=h
 cases n with
 | zero =>
  simp only [runN] at a
  cases a
  obtain ⟨b1,b2,b3,fn,b4,b5⟩:=b
  rw [e1] at b4
  cases b4
  have sr:=qdb (Pa:=P) (Pr:=P) S.toAlike (fa:=Fa) (fr:=Fa) rfl hf.tmps
  have l:=(sr.local (τ:=τ) hr b5 (fun i q h1 h2=>absurd h2 (Nat.not_lt.2 h1))).1
  exact ⟨0,f,qj τ w,v,rfl,⟨b1,b2,b3,Fa,e1,l⟩,hR _ _ _ c⟩
 | succ n =>
  exfalso
  simp only [runN] at a
  rcases qcr (main:=true) (csA:=[]) (w:=w) (ca:=base P) S hf hm hfn with ⟨u,w2,es,e⟩ | ⟨x,w2,es,e⟩
  ·have e2:step P (St.m P ⟨f,[],w⟩) = .next (lone ((base P).finish u) [] w2):=jq e
   rw [e2] at a
   cases n with
   | zero =>
    simp only [runN] at a
    have:=qfl (by injection a)
    exact absurd this.2.1 (by simp)
   | succ n =>
    simp only [runN] at a
    obtain ⟨o,e3⟩:=qk8 (P:=P) u w2
    rw [e3] at a
    cases a
  ·have e2:step P (St.m P ⟨f,[],w⟩) = .ended x w2:=vk e
   rw [e2] at a
   cases a
def qxq (P:Program) (R:Value->World->Prop) (s:St):Prop:=∃ F v,P.funcs[s.f.fn]? = some F/\(results F s.f.tmps).run P s.w = .ok v s.w/\R v s.w
theorem qwn (S:je K P P (SpA P)) {s:St} {n:Nat} (hi:qfd P (SpA P) K s) (he:EnS s) (h:qt5 P R n (s.m P)):qxq P R s:=by
 obtain ⟨β,hr,hf,hfn,hcs⟩:=hi.ex
 obtain ⟨f,cs,w⟩:=s
 obtain ⟨hm,hc⟩:=he
 simp only at hm hc hr hf hfn
 subst hc
 obtain ⟨fr,w',v,a,b,c⟩:=h
 cases n with
 | zero =>
  simp only [runN] at a
  cases a
  obtain ⟨b1,b2,b3,fn,b4,b5⟩:=b
  exact ⟨fn,v,b4,b5,c⟩
 | succ n =>
  exfalso
  simp only [runN] at a
  rcases qcr (main:=true) (csA:=[]) (w:=w) (ca:=base P) S hf hm hfn with ⟨u,w2,es,e⟩ | ⟨x,w2,es,e⟩
  ·have e2:step P (St.m P ⟨f,[],w⟩) = .next (lone ((base P).finish u) [] w2):=jq e
   rw [e2] at a
   cases n with
   | zero =>
    simp only [runN] at a
    have:=qfl (by injection a)
    exact absurd this.2.1 (by simp)
   | succ n =>
    simp only [runN] at a
    obtain ⟨o,e3⟩:=qk8 (P:=P) u w2
    rw [e3] at a
    cases a
  ·have e2:step P (St.m P ⟨f,[],w⟩) = .ended x w2:=vk e
   rw [e2] at a
   cases a
theorem walk (S:je K P P (SpA P)) (X:qgu P T TS T2) (Y:q0c P Tg TSg T2g Tc) (hK:K (nfn + 1)) (hE:Cal.ent wh = true) (hR:∀ v w τ,R v w->R v (qj τ w)):Walk (Tr P) (fun n s=>qt5 P R n (s.m P)) EnS (qfd P (SpA P) K) (qxq P R) where
 loc hi h τ ht:=(h.loc S hi τ ht).1
 mono {s s'} hi h:=(h.loc S hi s.w.tape (qtf _ _)).2
 fwd h n hn:=let ⟨k,hk⟩:=h.steps;hk.fwd hn
 bwd h n hn:=let ⟨k,hk⟩:=h.steps;hk.bwd hn
 prog hi hn he:=prog S X Y hi hn.ret he
 inv hi h:=by
  cases h with
  | go hord hne h hnp=>exact hi.go S (fun o o' h=>qtg h) hord hne h hnp
  | sp k h hk=>exact hi.sp S hK hE hk
 tape τ hi:=by
  obtain ⟨β,hr,h⟩:=hi.ex
  exact ⟨β,⟨hr.inj,hr.at_⟩,h⟩
 endT τ hi he hn:=q0f S hR τ hi he hn
 en τ:=Iff.rfl
 leaf hi he hn:=qwn S hi he hn
theorem tree (S:je K P P (SpA P)) (X:qgu P T TS T2) (Y:q0c P Tg TSg T2g Tc) (hK:K (nfn + 1)) (hE:Cal.ent wh = true) (hR:∀ v w τ,R v w->R v (qj τ w)) {g:FuncId} {args:Array Value} {w:World}
  (hi:qfd P (SpA P) K ⟨Frame.enter P g args .normal,[],w⟩) (h:∀ τ,Calls P g args (qj τ w) fun e w'=>∃ v,e = .returned v/\R v w'):qcf (Tr P) EnS (qxq P R) ⟨Frame.enter P g args .normal,[],w⟩:=by
 refine (walk S X Y hK hE hR).fine hi fun τ=>?_
 obtain ⟨e,w',fr,⟨v,rfl,hv⟩,hc,hfn,hl⟩:=h τ [base P]
 obtain ⟨n,hn⟩:=hc
 exact ⟨n,fr,w',v,hn,hl,hv⟩
end
end Go.Proofs.Ytcdclihinmdgiaa.sq
namespace Go.Proofs.Ytcdclihinmdgiaa.sq
open Go Go.Conc
set_option linter.unusedVariables false
variable [Cal]
inductive qjh (K:FuncId->Prop) (P:Program) (Sp:Oper->Oper->Prop) (bA bR:List Frame) (β:Bl):Frame->List Frame->Frame->List Frame->Prop
 | one {fa fr:Frame} (h:FrR P Sp β fa fr) (hn:K fa.fn) (hb:(bR ≠ []->fr.kind = .deferred)/\(bR = []->fr.kind = .normal)):qjh K P Sp bA bR β fa bA fr bR
 | more {fa fr ca cr:Frame} {csA csR:List Frame} (h:FrR P Sp β fa fr) (hn:K fa.fn) (hk:fr.kind = .normal) (hm:ca.mode = .run) (t:qjh K P Sp bA bR β ca csA cr csR):qjh K P Sp bA bR β fa (ca :: csA) fr (cr :: csR)
section
variable {K:FuncId->Prop} {Pa Pr:Program} {Sp:Oper->Oper->Prop} {bA bR:List Frame} {β β':Bl} {fa fr:Frame} {csA csR:List Frame} {w W:World} {main main':Bool}
theorem qjh.top (h:qjh K Pa Sp bA bR β fa csA fr csR):FrR Pa Sp β fa fr/\K fa.fn:=by cases h with | one h hn=>exact ⟨h,hn⟩ | more h hn=>exact ⟨h,hn⟩
theorem qjh.mono (e:Ext β β') (h:qjh K Pa Sp bA bR β fa csA fr csR):qjh K Pa Sp bA bR β' fa csA fr csR:=by
 induction h with
 | one h hn hb=>exact .one (h.mono e) hn hb
 | more h hn hk hm t ih=>exact .more (h.mono e) hn hk hm ih
theorem qjh.swap (h:qjh K Pa Sp bA bR β fa csA fr csR) {fa' fr':Frame} (g:FrR Pa Sp β fa' fr') (hn:K fa'.fn) (hk:fr'.kind = fr.kind):qjh K Pa Sp bA bR β fa' csA fr' csR:=by
 cases h with
 | one _ _ hb=>exact .one g hn ⟨fun e=>hk.trans (hb.1 e),fun e=>hk.trans (hb.2 e)⟩
 | more _ _ hk' hm t=>exact .more g hn (hk.trans hk') hm t
theorem q0g (S:je K Pa Pr Sp) (hsp:∀ o o',Sp o o'->bn Pa o.op = false) (hr:HR β w W) (ht:qkt w W) (h:qjh K Pa Sp bA bR β fa csA fr csR) (hord:∀ o,opAt fa = some o->bn Pa o.op = true)
  (hbot:fa.mode = .returning->csA ≠ bA)
  {f':Frame} {cs' rest:List Frame} {w':World} {es:Array Event} (hs:stepG Pa main (G fa (csA ++ rest)) w = .go (G f' (cs' ++ rest)) w' es) (hnp:f'.mode = .run\/f'.mode = .returning) :
  ∃ β' fr' csR' W' es',stepG Pr main' (G fr csR) W = .go (G fr' csR') W' es'/\qjh K Pa Sp bA bR β' f' cs' fr' csR'/\Ran β β' w W w' W'/\∀ e ∈ es',qpr β' e:=by
 obtain ⟨hf,hfn⟩:=h.top
 rcases hf.run with hm | hm
 ·cases ho:opAt fa with
  | none =>
   obtain ⟨β',fa',fr',W',es',e1,e2,e3,e4,e5,e6⟩:=(qi6 (Pr:=Pr) (main':=main') (csR:=csR) hr ht hf hm S.sch (qaj hm ho) hs).ex
   obtain ⟨rfl,h2⟩:=qdg e1
   obtain rfl:=List.append_cancel_right h2
   have hfn':K f'.fn:=by
    have h3:fr.fn = fa.fn:=hf.fn
    rw [<-e3.fn,show fr'.fn = fr.fn from e4.2,h3];exact hfn
   exact ⟨β',fr',csR,W',es',e2,(h.mono e5.ext).swap e3 hfn' e4.1,e5,e6⟩
  | some o =>
   obtain ⟨_,ops,i,l,k,ht',ho',hw⟩:=zk ho
   have hok:=hord o ho
   obtain ⟨β',W',es',e5,e6,hh⟩:=(qms (Pr:=Pr) (main':=main') (csR:=csR) S hr ht hf hm ht' ho' hw hok (fun o' h=>by rw [hsp o o' h] at hok;cases hok) hs (fun c h=>by
    rcases hnp with z | z <;> (rw [show (G f' (cs' ++ rest)).frame = f' from rfl] at h;rw [z] at h;cases h))).ex
   rcases hh with ⟨fa',fr',e1,e2,e3,e4,e7⟩ | ⟨g,xs,xs',hg,e1,e2,e3⟩
   ·obtain ⟨rfl,h2⟩:=qdg e1
    obtain rfl:=List.append_cancel_right h2
    have hfn':K f'.fn:=by
     have h3:fr.fn = fa.fn:=hf.fn
     rw [<-e3.fn,e7,h3];exact hfn
    exact ⟨β',fr',csR,W',es',e2,(h.mono e5.ext).swap e3 hfn' e4,e5,e6⟩
   ·obtain ⟨e8,h2⟩:=qdg e1
    have hcs':cs' = fa :: csA:=List.append_cancel_right (bs:=rest) (by rw [h2];rfl)
    subst hcs'
    have hfr:=FrR.enter S (.inl hg) e3 (kd:=.normal) (by decide)
    rw [<-e8] at hfr
    have hfn':K f'.fn:=by rw [e8];exact S.le (.inl hg)
    exact ⟨β',_,fr :: csR,W',es',e2,.more hfr hfn' rfl hm (h.mono e5.ext),e5,e6⟩
 ·cases h with
  | one _ _ _=>exact absurd rfl (hbot hm)
  | @more _ _ ca cr csA csR _ _ hk hmc t =>
   obtain ⟨β',v,v',W',es',e1,e2,e3,e4,e5⟩:=step_ret (Pr:=Pr) (main':=main') (csR:=csR) (cr:=cr) S hr ht hf hm hfn hk (csA:=csA ++ rest) (ca:=ca) hs
   obtain ⟨rfl,h2⟩:=qdg e3
   obtain rfl:=List.append_cancel_right h2
   obtain ⟨c1,c2⟩:=t.top
   have hkk:(cr.finish v').kind = cr.kind:=by unfold Frame.finish;split <;> rfl
   exact ⟨β',_,csR,W',es',e4,(t.mono e1.ext).swap ((c1.mono e1.ext).finish e5) (by rw [jf];exact c2) hkk,e1,e2⟩
end
end Go.Proofs.Ytcdclihinmdgiaa.sq
namespace Go.Proofs.Ytcdclihinmdgiaa.sq
open Go Go.Conc
set_option linter.unusedVariables false
variable [Cal]
inductive Evo (f:Frame):List Item->List Item->Prop
 | nil:Evo f [] []
 | blk (id:Nat) (k:List Item):Evo f (.inBlock id :: k) k
 | lp (c:Code) (k:List Item):Evo f (.inLoop c :: k) (.code c :: .inLoop c :: k)
 | skip (k:List Item):Evo f (.code .skip :: k) k
 | label (l:Nat) (k:List Item):Evo f (.code (.label l) :: k) k
 | seq (a b:Code) (k:List Item):Evo f (.code (.seq a b) :: k) (.code a :: .code b :: k)
 | cond {c:Operand} {t:Bool} (a b:Code) (k:List Item) (h:f.eval c = .bool t):Evo f (.code (.cond c a b) :: k) (.code (if t then a else b) :: k)
 | block (id:Nat) (c:Code) (k:List Item):Evo f (.code (.block id c) :: k) (.code c :: .inBlock id :: k)
 | loop (c:Code) (k:List Item):Evo f (.code (.loop c) :: k) (.code c :: .inLoop c :: k)
 | exit {id:Nat} {k q:List Item} (h:exitTo id k = some q):Evo f (.code (.exit id) :: k) q
 | ret (k:List Item):Evo f (.code .ret :: k) (.code .ret :: k)
 | region (id:Nat) (ops:Array Oper) (k:List Item):Evo f (.code (.region id ops false) :: k) (.inRegion ops (List.range ops.size) :: k)
 | drawn (id:Nat) (ops:Array Oper) (l:List Nat) (k:List Item):Evo f (.code (.region id ops true) :: k) (.inRegion ops l :: k)
 | pop (ops:Array Oper) (k:List Item):Evo f (.inRegion ops [] :: k) k
 | over (ops:Array Oper) (i:Nat) (l:List Nat) (k:List Item):Evo f (.inRegion ops (i :: l) :: k) (.inRegion ops l :: k)
section
variable {K:FuncId->Prop} {Pa Pr:Program} {Sp:Oper->Oper->Prop} {β:Bl} {fa fr:Frame} {csA csR:List Frame} {w W:World} {main:Bool}
structure Ctl (f f':Frame):Prop where
 evo:Evo f f.todo f'.todo
 fn:f'.fn = f.fn
 mode:f'.mode = .run\/(f'.mode = .returning/\(f.todo = []\/∃ k,f.todo = .code .ret :: k))
 tmps:∀ d,(∀ ops i l k,f.todo = .inRegion ops (i :: l) :: k->∀ (o:Oper),ops[i]? = some o->o.dst ≠ some d)->f'.tmps[d]? = f.tmps[d]?
 keep:(∀ ops i l k,f.todo ≠ .inRegion ops (i :: l) :: k)->f'.tmps = f.tmps
theorem qto (h:FrR Pa Sp β fa fr) (hm:fa.mode = .run) (hno:¬ q0s fa) {ga':Goroutine} {w':World} {es:Array Event} (hs:stepG Pa main (G fa csA) w = .go ga' w' es) :
  ∃ f',ga' = G f' csA/\Ctl fa f'/\w'.heap = w.heap:=by
 obtain ⟨fn,ts,ts',todo,todo',m,kd,rfl,rfl,ta,hkd,hk,hmm⟩:=h.parts
 simp only at hm
 subst hm
 rw [qeu Pa main ⟨fn,ts,todo,[],.run,.normal,none⟩ csA _ rfl] at hs
 clear h
 have mk:∀ {k:List Item},Evo ⟨fn,ts,todo,[],.run,.normal,none⟩ todo k->Ctl ⟨fn,ts,todo,[],.run,.normal,none⟩ ⟨fn,ts,k,[],.run,.normal,none⟩:=fun e=>⟨e,rfl,.inl rfl,fun d _=>rfl,fun _=>rfl⟩
 cases hk with
 | nil =>
  simp only [stepG.exec,if_pos] at hs
  cases hs
  exact ⟨_,rfl,⟨.nil,rfl,.inr ⟨rfl,.inl rfl⟩,fun d _=>rfl,fun _=>rfl⟩,rfl⟩
 | @cons it it' k k' hi hk =>
  cases hi with
  | inBlock id=>simp only [stepG.exec] at hs;cases hs;exact ⟨_,rfl,mk (.blk _ _),rfl⟩
  | inLoop hc=>simp only [stepG.exec] at hs;cases hs;exact ⟨_,rfl,mk (.lp _ _),rfl⟩
  | code hc =>
   cases hc with
   | skip=>simp only [stepG.exec] at hs;cases hs;exact ⟨_,rfl,mk (.skip _),rfl⟩
   | label l=>simp only [stepG.exec] at hs;cases hs;exact ⟨_,rfl,mk (.label _ _),rfl⟩
   | seq ha hb=>simp only [stepG.exec] at hs;cases hs;exact ⟨_,rfl,mk (.seq _ _ _),rfl⟩
   | block id hc=>simp only [stepG.exec] at hs;cases hs;exact ⟨_,rfl,mk (.block _ _ _),rfl⟩
   | loop hc=>simp only [stepG.exec] at hs;cases hs;exact ⟨_,rfl,mk (.loop _ _),rfl⟩
   | @cond c a b a' b' hcc ha hb =>
    simp only [stepG.exec] at hs
    cases va:Frame.eval ⟨fn,ts,.code (.cond c a b) :: k,[],.run,.normal,none⟩ c with
    | bool t=>rw [va] at hs;cases hs;exact ⟨_,rfl,mk (.cond _ _ _ va),rfl⟩
    | _=>rw [va] at hs;cases hs
   | exit id =>
    simp only [stepG.exec] at hs
    cases hx:exitTo id k with
    | none=>rw [hx] at hs;simp at hs
    | some q=>rw [hx] at hs;simp only [Option.elim] at hs;cases hs;exact ⟨_,rfl,mk (.exit hx),rfl⟩
   | ret =>
    simp only [stepG.exec,if_pos] at hs
    cases hs
    exact ⟨_,rfl,⟨.ret _,rfl,.inr ⟨rfl,.inr ⟨_,rfl⟩⟩,fun d _=>rfl,fun _=>rfl⟩,rfl⟩
   | refuse s=>simp only [stepG.exec] at hs;cases hs
   | @region id ops ops' ho=>simp only [stepG.exec,Bool.not_false,if_true] at hs;cases hs;exact ⟨_,rfl,mk (.region _ _ _),rfl⟩
   | @drawn id ops ho =>
    obtain ⟨n,e1,en⟩:=qbn Pa w fn id
    simp only [stepG.exec,e1,Bool.not_true,Bool.false_eq_true,if_false] at hs
    cases hs
    exact ⟨_,rfl,mk (.drawn _ _ _ _),rfl⟩
  | @inRegion ops ops' l ho =>
   cases l with
   | nil=>simp only [stepG.exec] at hs;cases hs;exact ⟨_,rfl,mk (.pop _ _),rfl⟩
   | cons i l =>
    have hn:((ops[i]?).map (Region.wanted · (yielded ops ts))).getD false = false:=by
     cases hoi:ops[i]? with
     | none=>rfl
     | some o =>
      simp only [Option.map_some,Option.getD_some]
      cases hw:Region.wanted o (yielded ops ts) with
      | false=>rfl
      | true=>exact absurd ⟨ops,i,l,k,o,rfl,hoi,hw⟩ hno
    simp only [stepG.exec,hn,Bool.false_eq_true,if_false] at hs
    cases hs
    refine ⟨_,rfl,⟨?_,by rw [jf],.inl (by rw [uz]),fun d hd=>?_,fun hne=>absurd rfl (hne _ _ _ _)⟩,rfl⟩
    ·exact .over _ _ _ _
    ·simp only [Frame.finish]
     cases hoi:ops[i]? with
     | none=>rfl
     | some o =>
      simp only [Option.bind_some]
      cases hdst:o.dst with
      | none=>rfl
      | some e =>
       have hne:=hd ops i l k rfl o hoi
       rw [hdst] at hne
       exact Array.getElem?_setIfInBounds_ne (fun q=>hne (by rw [q]))
theorem qac {f:Frame} {ops:Array Oper} {i:Nat} {l:List Nat} {k:List Item} (h:f.todo = .inRegion ops (i :: l) :: k) (v:Value):(f.finish v).todo = .inRegion ops l :: k/\(∀ d,(∀ o,ops[i]? = some o->o.dst ≠ some d)->(f.finish v).tmps[d]? = f.tmps[d]?) ∧
  (∀ o d,ops[i]? = some o->o.dst = some d->d < f.tmps.size->(f.finish v).tmps[d]? = some v):=by
 unfold Frame.finish
 rw [h]
 refine ⟨rfl,fun d hd=>?_,fun o d ho hd hlt=>?_⟩
 ·simp only
  cases hoi:ops[i]? with
  | none=>rfl
  | some o =>
   simp only [Option.bind_some]
   cases hdst:o.dst with
   | none=>rfl
   | some e =>
    have hne:=hd o hoi
    rw [hdst] at hne
    exact Array.getElem?_setIfInBounds_ne (fun q=>hne (by rw [q]))
 ·simp only [ho,Option.bind_some,hd]
  exact Array.getElem?_setIfInBounds_self_of_lt hlt
end
end Go.Proofs.Ytcdclihinmdgiaa.sq
namespace Go.Proofs.Ytcdclihinmdgiaa.sq
open Go Go.Conc
set_option linter.unusedVariables false
variable [Cal]
def qdl (o:Oper):Bool:=match o.op with
 | .call c=>match c.callee with
  | .builtin .close=>true
  | _=>false
 | _=>false
def noC:Code->Bool
 | .region _ ops _=>ops.all fun o=>!qdl o
 | .seq a b=>noC a && noC b
 | .cond _ a b=>noC a && noC b
 | .block _ c | .loop c=>noC c
 | .skip | .label _ | .exit _ | .ret | .refuse _=>true
 | _=>false
def qp9 (ops:Array Oper) (l:List Nat):Bool:=l.dropLast.all fun i=>(ops[i]?).all fun o=>!qdl o
def qez:Code->Bool
 | .region _ ops false=>qp9 ops (List.range ops.size) || ops.all fun o=>!qdl o
 | .seq a b=>noC a && qez b
 | c=>noC c
def noI:Item->Bool
 | .code c | .inLoop c=>noC c
 | .inBlock _=>true
 | .inRegion ops _=>ops.all fun o=>!qdl o
 | _=>false
def qdx:Item->Bool
 | .code c=>qez c
 | .inRegion ops l=>qp9 ops l || ops.all fun o=>!qdl o
 | x=>noI x
def CT:List Item->Bool
 | []=>true
 | [x]=>qdx x
 | x :: y :: k=>noI x && CT (y :: k)
def NC (k:List Item):Bool:=k.all noI
theorem qfm:∀ {c:Code},noC c = true->qez c = true
 | .region _ ops false,h=>by simp only [noC] at h;simp [qez,h]
 | .region _ ops true,h=>h
 | .seq a b,h=>by
  simp only [noC,Bool.and_eq_true] at h
  simp only [qez,Bool.and_eq_true]
  exact ⟨h.1,qfm h.2⟩
 | .cond c a b,h=>h
 | .block _ _,h=>h
 | .loop _,h=>h
 | .skip,h=>h
 | .label _,h=>h
 | .exit _,h=>h
 | .ret,h=>h
 | .refuse _,h=>h
 | .scope _,h=>by cases h
 | .goto _,h=>by cases h
 | .rangeFunc ..,h=>by cases h
theorem qwo {x:Item} (h:noI x = true):qdx x = true:=by
 cases x with
 | code c=>exact qfm h
 | inRegion ops l=>simp only [noI] at h;simp [qdx,h]
 | _=>exact h
theorem qcu {x:Item} {k:List Item} (h:CT (x :: k) = true):CT k = true:=by
 cases k with
 | nil=>rfl
 | cons y k=>simp only [CT,Bool.and_eq_true] at h;exact h.2
theorem qgw {x:Item} {k:List Item} (hx:noI x = true) (h:CT k = true):CT (x :: k) = true:=by
 cases k with
 | nil=>exact qwo hx
 | cons y k=>simp only [CT,Bool.and_eq_true];exact ⟨hx,h⟩
theorem qgx {x y:Item} {k:List Item} (h:CT (x :: k) = true) (h1:qdx x = true->qdx y = true) (h2:noI x = true->noI y = true):CT (y :: k) = true:=by
 cases k with
 | nil=>exact h1 h
 | cons z k =>
  simp only [CT,Bool.and_eq_true] at h ⊢
  exact ⟨h2 h.1,h.2⟩
theorem qad {id:Nat}:∀ {k q:List Item},exitTo id k = some q->∃ a,k = a ++ q
 | [],q,h=>by simp [exitTo] at h
 | x :: k,q,h=>by
  cases x with
  | inBlock id' =>
   simp only [exitTo] at h
   split at h
   ·cases h;exact ⟨[.inBlock id'],rfl⟩
   ·obtain ⟨a,rfl⟩:=qad h;exact ⟨_ :: a,rfl⟩
  | _ =>
   simp only [exitTo] at h
   obtain ⟨a,rfl⟩:=qad h
   exact ⟨_ :: a,rfl⟩
theorem qxr:∀ {a q:List Item},CT (a ++ q) = true->CT q = true
 | [],q,h=>h
 | x :: a,q,h=>qxr (qcu h)
theorem qqa {ops:Array Oper} {i:Nat} {l:List Nat} (h:qp9 ops (i :: l) = true):qp9 ops l = true:=by
 unfold qp9 at *
 cases l with
 | nil=>rfl
 | cons j l =>
  simp only [List.dropLast_cons_cons,List.all_cons,Bool.and_eq_true] at h
  exact h.2
theorem qh2 {ops:Array Oper} {i:Nat} {l:List Nat} (h:qdx (.inRegion ops (i :: l)) = true):qdx (.inRegion ops l) = true:=by
 simp only [qdx,Bool.or_eq_true] at h ⊢
 exact h.imp qqa id
theorem q2n {f:Frame} {k k':List Item} (e:Evo f k k') (h:CT k = true):CT k' = true:=by
 cases e with
 | nil=>exact h
 | blk id k=>exact qcu h
 | lp c k =>
  refine qgw ?_ h
  cases k with
  | nil=>exact h
  | cons y k=>simp only [CT,Bool.and_eq_true] at h;exact h.1
 | skip k=>exact qcu h
 | label l k=>exact qcu h
 | seq a b k =>
  cases k with
  | nil =>
   simp only [CT,qdx,qez,Bool.and_eq_true] at h ⊢
   exact h
  | cons y k =>
   simp only [CT,noI,noC,Bool.and_eq_true] at h ⊢
   exact ⟨h.1.1,h.1.2,h.2⟩
 | @cond c t a b k hc =>
  refine qgx h (fun h=>?_) (fun h=>?_)
  ·simp only [qdx,qez,noC,Bool.and_eq_true] at h ⊢
   cases t
   ·exact qfm h.2
   ·exact qfm h.1
  ·simp only [noI,noC,Bool.and_eq_true] at h ⊢
   cases t
   ·exact h.2
   ·exact h.1
 | block id c k =>
  have hc:noC c = true:=by
   cases k with
   | nil=>simpa [CT,qdx,qez,noC] using h
   | cons y k=>simp only [CT,noI,noC,Bool.and_eq_true] at h;exact h.1
  exact qgw hc (qgw rfl (qcu h))
 | loop c k =>
  have hc:noC c = true:=by
   cases k with
   | nil=>simpa [CT,qdx,qez,noC] using h
   | cons y k=>simp only [CT,noI,noC,Bool.and_eq_true] at h;exact h.1
  exact qgw hc (qgw hc (qcu h))
 | exit hx =>
  obtain ⟨a,e⟩:=qad hx
  have:=qcu h
  rw [e] at this
  exact qxr this
 | ret k=>exact h
 | region id ops k=>exact qgx h (fun h=>h) (fun h=>h)
 | drawn id ops l k =>
  refine qgx h (fun h=>?_) (fun h=>h)
  simp only [qdx,qez,noC] at h ⊢
  rw [h];simp
 | pop ops k=>exact qcu h
 | over ops i l k=>exact qgx h qh2 (fun h=>h)
theorem qeh {P:Program} {Sp:Oper->Oper->Prop} {β:Bl} {f fr:Frame} (hf:FrR P Sp β f fr) (h:CT f.todo = true) (v:Value):CT (f.finish v).todo = true:=by
 obtain ⟨fn,ts,ts',k,k',m,kd,rfl,rfl,ta,hkd,hk,hm⟩:=hf.parts
 cases hk with
 | nil=>exact h
 | cons hi hk =>
  cases hi with
  | inRegion l ho =>
   cases l with
   | nil=>exact h
   | cons i l=>exact qgx h qh2 (fun h=>h)
  | _=>exact h
theorem q2o {a q:List Item} (h:NC (a ++ q) = true):NC q = true:=by
 unfold NC at *
 rw [List.all_append,Bool.and_eq_true] at h
 exact h.2
theorem q2p {f:Frame} {k k':List Item} (e:Evo f k k') (h:NC k = true):NC k' = true:=by
 cases e with
 | nil=>exact h
 | exit hx =>
  obtain ⟨a,e⟩:=qad hx
  simp only [NC,List.all_cons,Bool.and_eq_true] at h
  have h2:NC _ = true:=h.2
  rw [e] at h2
  exact q2o h2
 | @cond c t a b k hc =>
  simp only [NC,List.all_cons,noI,noC,Bool.and_eq_true] at h ⊢
  cases t
  ·exact ⟨h.1.2,h.2⟩
  ·exact ⟨h.1.1,h.2⟩
 | seq a b k =>
  simp only [NC,List.all_cons,noI,noC,Bool.and_eq_true] at h ⊢
  exact ⟨h.1.1,h.1.2,h.2⟩
 | block id c k =>
  simp only [NC,List.all_cons,noI,noC,Bool.and_eq_true] at h ⊢
  exact ⟨h.1,trivial,h.2⟩
 | loop c k =>
  simp only [NC,List.all_cons,noI,noC,Bool.and_eq_true] at h ⊢
  exact ⟨h.1,h.1,h.2⟩
 | lp c k =>
  simp only [NC,List.all_cons,noI,noC,Bool.and_eq_true] at h ⊢
  exact ⟨h.1,h.1,h.2⟩
 | ret k=>exact h
 | region id ops k=>exact h
 | drawn id ops l k=>exact h
 | over ops i l k=>exact h
 | _ =>
  simp only [NC,List.all_cons,Bool.and_eq_true] at h
  exact h.2
theorem qgy {P:Program} {Sp:Oper->Oper->Prop} {β:Bl} {f fr:Frame} (hf:FrR P Sp β f fr) (h:NC f.todo = true) (v:Value):NC (f.finish v).todo = true:=by
 obtain ⟨fn,ts,ts',k,k',m,kd,rfl,rfl,ta,hkd,hk,hm⟩:=hf.parts
 cases hk with
 | nil=>exact h
 | cons hi hk =>
  cases hi with
  | inRegion l ho =>
   cases l with
   | nil=>exact h
   | cons i l=>exact h
  | _=>exact h
theorem q30 {f:Frame} {o:Oper} (h:NC f.todo = true) (ho:opAt f = some o):qdl o = false:=by
 obtain ⟨_,ops,i,l,k,ht,ho',_⟩:=zk ho
 rw [ht] at h
 simp only [NC,List.all_cons,noI,Bool.and_eq_true] at h
 have:=Array.all_eq_true_iff_forall_mem.1 h.1 o (Array.mem_of_getElem? ho')
 simpa using this
theorem q0h {f:Frame} {o:Oper} (h:CT f.todo = true) (ho:opAt f = some o) (hs:qdl o = true):∃ ops i,f.todo = [.inRegion ops [i]]/\ops[i]? = some o:=by
 obtain ⟨_,ops,i,l,k,ht,ho',_⟩:=zk ho
 rw [ht] at h
 have hne:(ops.all fun o=>!qdl o) = true->False:=fun ha=>by
  have:=Array.all_eq_true_iff_forall_mem.1 ha o (Array.mem_of_getElem? ho')
  rw [hs] at this;cases this
 cases k with
 | cons y k =>
  simp only [CT,noI,Bool.and_eq_true] at h
  exact (hne h.1).elim
 | nil =>
  simp only [CT,qdx,Bool.or_eq_true] at h
  rcases h with h | h
  ·cases l with
   | nil=>exact ⟨ops,i,ht,ho'⟩
   | cons j l =>
    simp only [qp9,List.dropLast_cons_cons,List.all_cons,Bool.and_eq_true,ho',Option.all_some,hs] at h
    cases h.1
  ·exact (hne h).elim
end Go.Proofs.Ytcdclihinmdgiaa.sq
namespace Go.Proofs.Ytcdclihinmdgiaa.sq
open Go Go.Conc
set_option linter.unusedVariables false
variable [Cal]
def fq (d:Tmp) (o:Oper):Bool:=decide (o.dst ≠ some d) && match o.op with
 | .move _ | .assign _ | .alloc _ | .store _ _ _ | .load _ _ | .extract _ _ | .buildSlice _ _ _=>true
 | .call c=>match c.callee with
  | .builtin .append=>true
  | _=>false
 | _=>false
def qjb (d:Tmp):Code->Bool
 | .region _ ops false=>ops.all (fq d)
 | .seq a b=>qjb d a && qjb d b
 | .block id c=>decide (id ≠ 0) && qjb d c
 | .skip=>true
 | _=>false
def qjc (d:Tmp):Item->Bool
 | .code c=>qjb d c
 | .inBlock id=>decide (id ≠ 0)
 | .inRegion ops _=>ops.all (fq d)
 | _=>false
section
variable {P:Program} {w w':World}
theorem qgz {s:Sem Value} {n:Next} (h:(s >>= fun v=>pure (.value v)).run P w = .ok n w'):∃ v,n = .value v:=by
 simp only [Sem.run_bind] at h
 cases e:s.run P w with
 | ok v w1=>rw [e] at h;simp at h;exact ⟨v,h.1.symm⟩
 | halt x w1=>rw [e] at h;simp at h
theorem qwp {s:Sem Unit} {n:Next} (h:(s >>= fun _=>pure .skip).run P w = .ok n w'):n = .skip:=by
 simp only [Sem.run_bind] at h
 cases e:s.run P w with
 | ok v w1=>rw [e] at h;simp at h;exact h.1.symm
 | halt x w1=>rw [e] at h;simp at h
theorem qwq {d:Tmp} {o:Oper} (h:fq d o = true) {ρ:Operand->Value} {n:Next} (hr:(execOp ρ o).run P w = .ok n w'):(∃ v,n = .value v)\/n = .skip:=by
 obtain ⟨dst,op,ty,pos,after,guard⟩:=o
 unfold fq at h
 simp only [Bool.and_eq_true] at h
 have h2:=h.2
 unfold execOp at hr
 cases op <;> simp only at h2 hr <;> try (exact (Bool.false_ne_true h2).elim)
 case move x=>cases hr;exact .inl ⟨_,rfl⟩
 case assign x=>cases hr;exact .inl ⟨_,rfl⟩
 case alloc=>exact .inl (qgz hr)
 case load=>exact .inl (qgz hr)
 case extract=>exact .inl (qgz hr)
 case buildSlice=>exact .inl (qgz hr)
 case store=>exact .inr (qwp hr)
 case call c =>
  obtain ⟨callee,args,tys⟩:=c
  simp only at h2 hr
  split at h2
  ·exact .inl (qgz hr)
  ·cases h2
end
structure ji where
 ops5:Array Oper
 i5:Nat
 ops6:Array Oper
 ops7:Array Oper
 ops8:Array Oper
 id6:Nat
 id7:Nat
 id8:Nat
 R:Code
 A:Code
 tc:Tmp
 tx:Tmp
 tv:Tmp
 tb:Tmp
abbrev ji.E (D:ji):Code:=.seq (.cond (.tmp D.tb) .skip (.exit 0)) D.R
abbrev ji.B (D:ji):Code:=.seq (.region D.id8 D.ops8 false) D.E
abbrev ji.bl (D:ji):Code:=.block 0 (.loop D.B)
abbrev ji.lo (D:ji):Code:=.seq (.region D.id7 D.ops7 false) D.bl
abbrev ji.C7 (D:ji):Code:=.seq D.lo D.A
abbrev ji.C6 (D:ji):Code:=.seq (.region D.id6 D.ops6 false) D.C7
abbrev ji.kt (D:ji):List Item:=[.inLoop D.B,.inBlock 0,.code D.A]
structure ji.Ok (D:ji):Prop where
 o6:D.ops6.all (fq D.tc) = true
 o7:∃ ty pos after,D.ops7 = #[{ dst:=some D.tx,op:=.move (.tmp D.tc),type:=ty,pos,after,guard:=none }]
 o8:∃ t ty pos after ty2 pos2 after2,D.ops8 = #[{ dst:=some D.tv,op:=.recv t (.tmp D.tx) true,type:=ty,pos,after,guard:=none },{ dst:=some D.tb,op:=.extract (.tmp D.tv) 1,type:=ty2,pos:=pos2,after:=after2,guard:=none }]
 r:qjb D.tx D.R = true
 xv:D.tx ≠ D.tv
 xb:D.tx ≠ D.tb
inductive Need where
 | c | x | v | b
inductive Lq (D:ji):Need->List Item->Prop
 | p0 (l:List Nat) (hl:l = []):Lq D .c [.inRegion D.ops5 l,.code D.C6]
 | p1:Lq D .c [.code D.C6]
 | p2:Lq D .c [.code (.region D.id6 D.ops6 false),.code D.C7]
 | p3 (l:List Nat):Lq D .c [.inRegion D.ops6 l,.code D.C7]
 | p4:Lq D .c [.code D.C7]
 | p5:Lq D .c [.code D.lo,.code D.A]
 | p6:Lq D .c [.code (.region D.id7 D.ops7 false),.code D.bl,.code D.A]
 | p7:Lq D .c [.inRegion D.ops7 [0],.code D.bl,.code D.A]
 | p8:Lq D .x [.inRegion D.ops7 [],.code D.bl,.code D.A]
 | p9:Lq D .x [.code D.bl,.code D.A]
 | p10:Lq D .x [.code (.loop D.B),.inBlock 0,.code D.A]
 | b0:Lq D .x (.code D.B :: D.kt)
 | b1:Lq D .x (.code (.region D.id8 D.ops8 false) :: .code D.E :: D.kt)
 | b2:Lq D .x (.inRegion D.ops8 [0,1] :: .code D.E :: D.kt)
 | b3:Lq D .v (.inRegion D.ops8 [1] :: .code D.E :: D.kt)
 | b4:Lq D .b (.inRegion D.ops8 [] :: .code D.E :: D.kt)
 | b5:Lq D .b (.code D.E :: D.kt)
 | b6:Lq D .b (.code (.cond (.tmp D.tb) .skip (.exit 0)) :: .code D.R :: D.kt)
 | q (y:List Item) (h:y.all (qjc D.tx) = true):Lq D .x (y ++ D.kt)
def Need.fact (D:ji) (ch:Value) (f:Frame):Need->Prop
 | .c=>f.eval (.tmp D.tc) = ch
 | .x=>f.eval (.tmp D.tx) = ch\/f.eval (.tmp D.tx) = undef
 | .v=>(f.eval (.tmp D.tx) = ch\/f.eval (.tmp D.tx) = undef)/\((∃ v,f.eval (.tmp D.tv) = .tuple #[v,.bool true])\/f.eval (.tmp D.tv) = undef)
 | .b=>(f.eval (.tmp D.tx) = ch\/f.eval (.tmp D.tx) = undef)/\(f.eval (.tmp D.tb) = .bool true\/f.eval (.tmp D.tb) = undef)
structure Lp (D:ji) (ch:Value) (f:Frame):Prop where
 mode:f.mode = .run
 at_:∃ n,Lq D n f.todo/\n.fact D ch f
section
variable {D:ji} {ch:Value} {f f':Frame}
theorem qjd {f f':Frame} {d:Tmp} (h:f'.tmps[d]? = f.tmps[d]?):f'.eval (.tmp d) = f.eval (.tmp d):=by
 show f'.tmps.getD d undef = f.tmps.getD d undef
 rw [Array.getD_eq_getD_getElem?,Array.getD_eq_getD_getElem?,h]
theorem qas {f f':Frame} (h:f'.tmps = f.tmps) (d:Tmp):f'.eval (.tmp d) = f.eval (.tmp d):=qjd (by rw [h])
theorem jh {n:Need} (h:∀ d,f'.eval (.tmp d) = f.eval (.tmp d)) (hf:n.fact D ch f):n.fact D ch f':=by
 cases n <;> simp only [Need.fact,h] at hf ⊢ <;> exact hf
theorem qfn {d:Tmp} {ops:Array Oper} (h:ops.all (fq d) = true) {i:Nat} {o:Oper} (ho:ops[i]? = some o):o.dst ≠ some d:=by
 have:=Array.all_eq_true_iff_forall_mem.1 h o (Array.mem_of_getElem? ho)
 unfold fq at this
 simp only [Bool.and_eq_true,decide_eq_true_eq] at this
 exact this.1
theorem qxs {f f':Frame} (h:f'.eval (.tmp D.tx) = f.eval (.tmp D.tx)) (hf:Need.x.fact D ch f):Need.x.fact D ch f':=by
 simp only [Need.fact,h] at hf ⊢;exact hf
theorem qwr {d:Tmp} {x:Item} {y k td':List Item} (hx:qjc d x = true) (hy:y.all (qjc d) = true) (e:Evo f (x :: (y ++ k)) td'):∃ y',td' = y' ++ k/\y'.all (qjc d) = true:=by
 cases e with
 | blk id k=>exact ⟨y,rfl,hy⟩
 | lp c k=>cases hx
 | skip k=>exact ⟨y,rfl,hy⟩
 | label l k=>cases hx
 | seq a b k =>
  simp only [qjc,qjb,Bool.and_eq_true] at hx
  exact ⟨.code a :: .code b :: y,rfl,by simp only [List.all_cons,qjc,Bool.and_eq_true];exact ⟨hx.1,hx.2,hy⟩⟩
 | cond a b k h=>cases hx
 | block id c k =>
  simp only [qjc,qjb,Bool.and_eq_true] at hx
  exact ⟨.code c :: .inBlock id :: y,rfl,by simp only [List.all_cons,qjc,Bool.and_eq_true];exact ⟨hx.2,hx.1,hy⟩⟩
 | loop c k=>cases hx
 | exit h=>cases hx
 | ret k=>cases hx
 | region id ops k=>exact ⟨.inRegion ops _ :: y,rfl,by simp only [List.all_cons,Bool.and_eq_true];exact ⟨hx,hy⟩⟩
 | drawn id ops l k=>cases hx
 | pop ops k=>exact ⟨y,rfl,hy⟩
 | over ops i l k=>exact ⟨.inRegion ops l :: y,rfl,by simp only [List.all_cons,Bool.and_eq_true];exact ⟨hx,hy⟩⟩
theorem Lp.ctl (hD:D.Ok) (h:Lp D ch f) (hno:¬ q0s f) (hc:Ctl f f'):Lp D ch f':=by
 obtain ⟨n,hq,hf⟩:=h.at_
 have evo:=hc.evo
 have tm:=hc.tmps
 have kp:=hc.keep
 have hmo:(∀ k,f.todo ≠ .code .ret :: k)->f.todo ≠ []->f'.mode = .run:=fun h1 h2=>by
  rcases hc.mode with m | ⟨_,m | ⟨k,m⟩⟩
  ·exact m
  ·exact absurd m h2
  ·exact absurd m (h1 k)
 obtain ⟨t8,ty,pos,aft,ty2,pos2,aft2,e8⟩:=hD.o8
 obtain ⟨ty7,pos7,aft7,e7⟩:=hD.o7
 have r7:List.range D.ops7.size = [0]:=by rw [e7];rfl
 have r8:List.range D.ops8.size = [0,1]:=by rw [e8];rfl
 generalize htd:f.todo = td at hq evo tm kp hmo
 generalize htd':f'.todo = td' at evo
 have fin:∀ {n':Need},Lq D n' td'->n'.fact D ch f'->f'.mode = .run->Lp D ch f':=fun h1 h2 h3=>⟨h3,_,by rw [htd'];exact h1,h2⟩
 have wanted:∀ {ops:Array Oper} {i:Nat} {l:List Nat} {k:List Item} {o:Oper},td = .inRegion ops (i :: l) :: k->ops[i]? = some o->o.guard = none->False:=by
  intro ops i l k o e ho hg
  refine hno ⟨ops,i,l,k,o,by rw [htd];exact e,ho,?_⟩
  simp [Region.wanted,hg]
 cases hq with
 | p0 l hl =>
  subst hl
  cases evo with
  | pop=>exact fin .p1 (jh (qas (kp (by simp))) hf) (hmo (by simp) (by simp))
 | p1=>cases evo with | seq=>exact fin .p2 (jh (qas (kp (by simp))) hf) (hmo (by simp) (by simp))
 | p2=>cases evo with | region=>exact fin (.p3 _) (jh (qas (kp (by simp))) hf) (hmo (by simp) (by simp))
 | p3 l =>
  cases evo with
  | pop=>exact fin .p4 (jh (qas (kp (by simp))) hf) (hmo (by simp) (by simp))
  | over ops i l =>
   refine fin (.p3 l) ?_ (hmo (by simp) (by simp))
   have:=qjd (tm D.tc (fun ops i l k e o ho=>by cases e;exact qfn hD.o6 ho))
   simp only [Need.fact,this] at hf ⊢
   exact hf
 | p4=>cases evo with | seq=>exact fin .p5 (jh (qas (kp (by simp))) hf) (hmo (by simp) (by simp))
 | p5=>cases evo with | seq=>exact fin .p6 (jh (qas (kp (by simp))) hf) (hmo (by simp) (by simp))
 | p6 =>
  cases evo with
  | region=>exact fin (by rw [r7];exact .p7) (jh (qas (kp (by simp))) hf) (hmo (by simp) (by simp))
 | p7 =>
  cases evo with
  | over=>exact (wanted rfl (by rw [e7];rfl) rfl).elim
 | p8=>cases evo with | pop=>exact fin .p9 (jh (qas (kp (by simp))) hf) (hmo (by simp) (by simp))
 | p9=>cases evo with | block=>exact fin .p10 (jh (qas (kp (by simp))) hf) (hmo (by simp) (by simp))
 | p10=>cases evo with | loop=>exact fin .b0 (jh (qas (kp (by simp))) hf) (hmo (by simp) (by simp))
 | b0=>cases evo with | seq=>exact fin .b1 (jh (qas (kp (by simp))) hf) (hmo (by simp) (by simp))
 | b1 =>
  cases evo with
  | region=>exact fin (by rw [r8];exact .b2) (jh (qas (kp (by simp))) hf) (hmo (by simp) (by simp))
 | b2=>cases evo with | over=>exact (wanted rfl (by rw [e8];rfl) rfl).elim
 | b3=>cases evo with | over=>exact (wanted rfl (by rw [e8];rfl) rfl).elim
 | b4=>cases evo with | pop=>exact fin .b5 (jh (qas (kp (by simp))) hf) (hmo (by simp) (by simp))
 | b5=>cases evo with | seq=>exact fin .b6 (jh (qas (kp (by simp))) hf) (hmo (by simp) (by simp))
 | b6 =>
  cases evo with
  | @cond c t a b k hcond =>
   have:t = true:=by
    rcases hf.2 with z | z
    ·rw [hcond] at z;cases z;rfl
    ·rw [hcond] at z;cases z
   subst this
   refine fin (.q [.code .skip,.code D.R] ?_) (jh (n:=.x) (qas (kp (by simp))) hf.1) (hmo (by simp) (by simp))
   simp only [List.all_cons,List.all_nil,qjc,qjb,hD.r,Bool.and_true,Bool.true_and]
 | q y hy =>
  cases y with
  | nil =>
   cases evo with
   | lp=>exact fin .b0 (jh (qas (kp (by simp))) hf) (hmo (by simp) (by simp))
  | cons x y =>
   simp only [List.all_cons,Bool.and_eq_true] at hy
   obtain ⟨y',e,hy'⟩:=qwr hy.1 hy.2 evo
   subst e
   have hx:=hy.1
   refine fin (.q y' hy') (qxs (qjd (tm D.tx fun ops i l k e o ho=>?_)) hf) (hmo (fun k e=>?_) (by simp))
   ·simp only [List.cons_append,List.cons.injEq] at e
    rw [e.1] at hx
    exact qfn hx ho
   ·simp only [List.cons_append,List.cons.injEq] at e
    rw [e.1] at hx
    cases hx
theorem qal {ops:Array Oper} {i:Nat} {l:List Nat} {k:List Item} (h:f.todo = .inRegion ops (i :: l) :: k) {o:Oper} (ho:ops[i]? = some o) {d:Tmp} (v:Value) :
  (o.dst ≠ some d->(f.finish v).eval (.tmp d) = f.eval (.tmp d))/\(o.dst = some d->(f.finish v).eval (.tmp d) = v\/(f.finish v).eval (.tmp d) = undef):=by
 obtain ⟨h1,h2,h3⟩:=qac h v
 refine ⟨fun hd=>qjd (h2 d fun o' ho'=>by rw [ho] at ho';cases ho';exact hd),fun hd=>?_⟩
 show (f.finish v).tmps.getD d undef = v\/(f.finish v).tmps.getD d undef = undef
 by_cases hlt:d < f.tmps.size
 ·left
  rw [Array.getD_eq_getD_getElem?,h3 o d ho hd hlt];rfl
 ·right
  have hs:(f.finish v).tmps.size = f.tmps.size:=by
   unfold Frame.finish
   rw [h]
   simp only [ho,Option.bind_some,hd]
   simp
  have hle:(f.finish v).tmps.size<=d:=by rw [hs];exact Nat.le_of_not_lt hlt
  rw [Array.getD_eq_getD_getElem?,Array.getElem?_eq_none hle];rfl
theorem qm0 {P:Program} {w w':World} {o:Oper} {x:Operand} {ρ:Operand->Value} {n:Next} (ho:o.op = .extract x 1) (hx:(∃ v,ρ x = .tuple #[v,.bool true])\/ρ x = undef) (hr:(execOp ρ o).run P w = .ok n w'):n = .value (.bool true):=by
 obtain ⟨dst,op,ty,pos,after,guard⟩:=o
 simp only at ho
 subst ho
 unfold execOp at hr
 simp only at hr
 rcases hx with ⟨v,hx⟩ | hx
 ·rw [hx] at hr
  simp [Instr.extract,Sem.run_bind] at hr
  exact hr.1.symm
 ·rw [hx] at hr
  simp [Instr.extract,undef,Sem.run_bind,stuck,Sem.run] at hr
theorem Lp.split (h:Lp D ch f) {o:Oper} (ho:opAt f = some o):∃ n ops i l k,f.todo = .inRegion ops (i :: l) :: k/\ops[i]? = some o/\Lq D n (.inRegion ops (i :: l) :: k)/\n.fact D ch f:=by
 obtain ⟨_,ops,i,l,k,ht,ho',_⟩:=zk ho
 obtain ⟨n,hq,hf⟩:=h.at_
 rw [ht] at hq
 exact ⟨n,ops,i,l,k,ht,ho',hq,hf⟩
theorem Lp.ord (hD:D.Ok) (h:Lp D ch f) {o:Oper} (ho:opAt f = some o) (hnr:∀ t x b,o.op ≠ .recv t x b) {P:Program} {w w':World} {n:Next} (hr:(execOp f.eval o).run P w = .ok n w') :
  (∃ v,n = .value v/\Lp D ch (f.finish v))\/(n = .skip/\Lp D ch (f.finish undef)):=by
 obtain ⟨m,ops,i,l,k,ht,ho',hq,hf⟩:=h.split ho
 obtain ⟨t8,ty,pos,aft,ty2,pos2,aft2,e8⟩:=hD.o8
 obtain ⟨ty7,pos7,aft7,e7⟩:=hD.o7
 have md:∀ v,(f.finish v).mode = .run:=fun v=>by rw [uz];exact h.mode
 have td:∀ v,(f.finish v).todo = .inRegion ops l :: k:=fun v=>(qac ht v).1
 have two:∀ {d:Tmp},fq d o = true->(∀ v,Lp D ch (f.finish v))->(∃ v,n = .value v/\Lp D ch (f.finish v))\/(n = .skip/\Lp D ch (f.finish undef)):=fun hc hl=>by
  rcases qwq hc hr with ⟨v,e⟩ | e
  ·exact .inl ⟨v,e,hl v⟩
  ·exact .inr ⟨e,hl _⟩
 generalize htd:(Item.inRegion ops (i :: l) :: k) = q at hq
 cases hq with
 | p0 l' hl=>subst hl;simp at htd
 | p3 l' =>
  simp only [List.cons.injEq,Item.inRegion.injEq] at htd
  obtain ⟨⟨rfl,rfl⟩,rfl⟩:=htd
  have hc:=Array.all_eq_true_iff_forall_mem.1 hD.o6 o (Array.mem_of_getElem? ho')
  refine two hc fun v=>⟨md v,.c,by rw [td];exact .p3 l,?_⟩
  have:=(qal ht ho' (d:=D.tc) v).1 (qfn hD.o6 ho')
  simp only [Need.fact,this] at hf ⊢
  exact hf
 | p7 =>
  simp only [List.cons.injEq,Item.inRegion.injEq] at htd
  obtain ⟨⟨rfl,rfl,rfl⟩,rfl⟩:=htd
  rw [e7] at ho'
  obtain rfl:_ = o:=by simpa using ho'
  have hv:n = .value ch:=by
   have:(execOp f.eval { dst:=some D.tx,op:=.move (.tmp D.tc),type:=ty7,pos:=pos7,after:=aft7,guard:=none }) = .pure (.value (f.eval (.tmp D.tc))):=rfl
   rw [this,show f.eval (.tmp D.tc) = ch from hf] at hr
   cases hr;rfl
  refine .inl ⟨ch,hv,md _,.x,by rw [td];exact .p8,?_⟩
  exact (qal ht (o:={ dst:=some D.tx,op:=.move (.tmp D.tc),type:=ty7,pos:=pos7,after:=aft7,guard:=none }) (by rw [e7];rfl) (d:=D.tx) ch).2 rfl
 | b2 =>
  simp only [List.cons.injEq,Item.inRegion.injEq] at htd
  obtain ⟨⟨rfl,rfl,rfl⟩,rfl⟩:=htd
  rw [e8] at ho'
  obtain rfl:_ = o:=by simpa using ho'
  exact absurd rfl (hnr t8 (.tmp D.tx) true)
 | b3 =>
  simp only [List.cons.injEq,Item.inRegion.injEq] at htd
  obtain ⟨⟨rfl,rfl,rfl⟩,rfl⟩:=htd
  have ho2:=ho'
  rw [e8] at ho2
  obtain rfl:_ = o:=by simpa using ho2
  have hv:=qm0 rfl hf.2 hr
  refine .inl ⟨.bool true,hv,md _,.b,by rw [td];exact .b4,?_,?_⟩
  ·have:=(qal ht ho' (d:=D.tx) (.bool true)).1 (by simpa [eq_comm] using hD.xb)
   rw [this];exact hf.1
  ·exact (qal ht ho' (d:=D.tb) (.bool true)).2 rfl
 | q y hy =>
  cases y with
  | nil=>simp at htd
  | cons x y =>
   simp only [List.cons_append,List.cons.injEq] at htd
   obtain ⟨rfl,rfl⟩:=htd
   simp only [List.all_cons,Bool.and_eq_true] at hy
   have hc:=Array.all_eq_true_iff_forall_mem.1 (show ops.all (fq D.tx) = true from hy.1) o (Array.mem_of_getElem? ho')
   refine two hc fun v=>⟨md v,.x,by rw [td];exact .q (.inRegion ops l :: y) (by simp only [List.all_cons,Bool.and_eq_true];exact hy),?_⟩
   exact qxs ((qal ht ho' (d:=D.tx) v).1 (qfn (show ops.all (fq D.tx) = true from hy.1) ho')) hf
 | _=>simp at htd
theorem Lp.rcv (hD:D.Ok) (h:Lp D ch f) {o:Oper} (ho:opAt f = some o) {t:TypeId} {x:Operand} {b:Bool} (hr:o.op = .recv t x b) :
  x = .tmp D.tx/\b = true/\(f.eval (.tmp D.tx) = ch\/f.eval (.tmp D.tx) = undef)/\∀ v,Lp D ch (f.finish (.tuple #[v,.bool true])):=by
 obtain ⟨m,ops,i,l,k,ht,ho',hq,hf⟩:=h.split ho
 obtain ⟨t8,ty,pos,aft,ty2,pos2,aft2,e8⟩:=hD.o8
 obtain ⟨ty7,pos7,aft7,e7⟩:=hD.o7
 have md:∀ v,(f.finish v).mode = .run:=fun v=>by rw [uz];exact h.mode
 have td:∀ v,(f.finish v).todo = .inRegion ops l :: k:=fun v=>(qac ht v).1
 have nocalm:∀ {d:Tmp},fq d o = true->False:=fun hc=>by
  unfold fq at hc
  rw [hr] at hc
  simp at hc
 generalize htd:(Item.inRegion ops (i :: l) :: k) = q at hq
 cases hq with
 | p0 l' hl=>subst hl;simp at htd
 | p3 l' =>
  simp only [List.cons.injEq,Item.inRegion.injEq] at htd
  obtain ⟨⟨rfl,rfl⟩,rfl⟩:=htd
  exact (nocalm (Array.all_eq_true_iff_forall_mem.1 hD.o6 o (Array.mem_of_getElem? ho'))).elim
 | p7 =>
  simp only [List.cons.injEq,Item.inRegion.injEq] at htd
  obtain ⟨⟨rfl,rfl,rfl⟩,rfl⟩:=htd
  rw [e7] at ho'
  obtain rfl:_ = o:=by simpa using ho'
  cases hr
 | b2 =>
  simp only [List.cons.injEq,Item.inRegion.injEq] at htd
  obtain ⟨⟨rfl,rfl,rfl⟩,rfl⟩:=htd
  have ho2:=ho'
  rw [e8] at ho2
  obtain rfl:_ = o:=by simpa using ho2
  cases hr
  refine ⟨rfl,rfl,hf,fun v=>⟨md _,.v,by rw [td];exact .b3,?_,?_⟩⟩
  ·have:=(qal ht ho' (d:=D.tx) (.tuple #[v,.bool true])).1 (by simpa [eq_comm] using hD.xv)
   rw [this];exact hf
  ·rcases (qal ht ho' (d:=D.tv) (.tuple #[v,.bool true])).2 rfl with z | z
   ·exact .inl ⟨v,z⟩
   ·exact .inr z
 | b3 =>
  simp only [List.cons.injEq,Item.inRegion.injEq] at htd
  obtain ⟨⟨rfl,rfl,rfl⟩,rfl⟩:=htd
  have ho2:=ho'
  rw [e8] at ho2
  obtain rfl:_ = o:=by simpa using ho2
  cases hr
 | q y hy =>
  cases y with
  | nil=>simp at htd
  | cons x y =>
   simp only [List.cons_append,List.cons.injEq] at htd
   obtain ⟨rfl,rfl⟩:=htd
   simp only [List.all_cons,Bool.and_eq_true] at hy
   exact (nocalm (Array.all_eq_true_iff_forall_mem.1 (show ops.all (fq D.tx) = true from hy.1) o (Array.mem_of_getElem? ho'))).elim
 | _=>simp at htd
end
end Go.Proofs.Ytcdclihinmdgiaa.sq
namespace Go.Proofs.Ytcdclihinmdgiaa.sq
open Go Go.Conc
set_option linter.unusedVariables false
variable [Cal]
def u6 (o:Oper):Bool:=match o.op with
 | .call c=>match c.callee with
  | .value (.func f)=>(f == nfn && qwj c.args) && c.args.all okA
  | .builtin .close=>c.args.size == 1 && c.args.all okA
  | _=>false
 | _=>false
def SpC (o o':Oper):Prop:=o = o'/\u6 o = true
theorem qg0 {P:Program} {o:Oper} {C C':Cal} (h:@u6 C o = true):@bn C' P o.op = false:=by
 cases e:o.op with
 | call c =>
  simp only [u6,e] at h
  simp only [bn,yg]
  split at h
  ·rename_i f hc
   simp only [Bool.and_eq_true,beq_iff_eq] at h
   rw [hc]
   simp only [okA]
   rw [h.1.1,@qco C' _ (Nat.le_refl _)];rfl
  ·rename_i hc
   rw [hc]
   simp only [okB]
  ·cases h
 | _=>simp [u6,e] at h
inductive ShS (K:FuncId->Prop) (P:Program) (bA:List Frame) (δ:Bl):Frame->List Frame->Prop
 | one {f:Frame} (h:FrR P SpC δ f f) (hK:K f.fn) (ct:CT f.todo = true) (hs:f.fn = wh):ShS K P bA δ f bA
 | more {f c:Frame} {cs:List Frame} (h:FrR P SpC δ f f) (hK:K f.fn) (nc:NC f.todo = true) (hm:c.mode = .run) (t:ShS K P bA δ c cs):ShS K P bA δ f (c :: cs)
section
variable {K:FuncId->Prop} {P:Program} {bA:List Frame} {δ δ':Bl} {f f':Frame} {cs cs':List Frame} {w w':World}
theorem ShS.top (h:ShS K P bA δ f cs):FrR P SpC δ f f/\K f.fn:=by cases h with | one h hK=>exact ⟨h,hK⟩ | more h hK=>exact ⟨h,hK⟩
theorem ShS.mono (e:Ext δ δ') (h:ShS K P bA δ f cs):ShS K P bA δ' f cs:=by
 induction h with
 | one h hK ct hs=>exact .one (h.mono e) hK ct hs
 | more h hK nc hm t ih=>exact .more (h.mono e) hK nc hm ih
theorem ShS.swap (h:ShS K P bA δ f cs) (g:FrR P SpC δ f' f') (he:f'.fn = f.fn) (hC:CT f.todo = true->CT f'.todo = true) (hN:NC f.todo = true->NC f'.todo = true):ShS K P bA δ f' cs:=by
 cases h with
 | one _ hK ct hs=>exact .one g (he ▸ hK) (hC ct) (he.trans hs)
 | more _ hK nc hm t=>exact .more g (he ▸ hK) (hN nc) hm t
theorem ShS.len (h:ShS K P bA δ f cs):bA.length<=cs.length:=by
 induction h with
 | one=>exact Nat.le_refl _
 | more _ _ _ _ _ ih=>exact Nat.le_succ_of_le ih
structure Ter (N ac:Nat) (δ:Bl):Prop where
 own:∀ {a b k},δ a b k->(N<=a/\N<=b/\k ≠ .chan)\/(a = ac/\b = ac/\k = .chan)
 ch:δ ac ac .chan
 lt:ac < N
structure ChI (K:FuncId->Prop) (P:Program) (N ac:Nat) (bA:List Frame) (s:St):Prop where
 ex:∃ δ,HR δ s.w s.w/\Ter N ac δ/\ShS K P bA δ s.f s.cs
 sz:N<=s.w.heap.size
structure Off (N:Nat) (w w':World):Prop where
 old:∀ a,a < N->w'.heap[a]? = w.heap[a]?
def Calm (P:Program):Prop:=∀ g F c,Cal.ok g = true->P.funcs[g]? = some F->F.body = some c->noC c = true
theorem Ter.ran {N ac:Nat} (t:Ter N ac δ) {w w':World} (hs:N<=w.heap.size) (r:Ran δ δ' w w w' w'):Ter N ac δ'/\Off N w w':=by
 refine ⟨⟨fun {a b k} h=>?_,r.ext _ _ _ t.ch,t.lt⟩,⟨fun a ha=>r.offw a (Nat.lt_of_lt_of_le ha hs) fun b k h=>?_⟩⟩
 ·rcases r.fresh a b k h with x | ⟨x,y,z⟩
  ·exact t.own x
  ·exact .inl ⟨Nat.le_trans hs x,Nat.le_trans hs y,z⟩
 ·rcases t.own h with ⟨x,_⟩ | ⟨_,_,x⟩
  ·omega
  ·exact .inl x
theorem ChI.ord (S:je K P P SpC) (hcalm:Calm P) {N ac:Nat} {rest:List Frame} (hi:ChI K P N ac bA ⟨f,cs,w⟩) (hord:∀ o,opAt f = some o->bn P o.op = true) {es:Array Event}
  (hs:stepG P true (G f (cs ++ rest)) w = .go (G f' (cs' ++ rest)) w' es) (hnp:f'.mode = .run\/f'.mode = .returning) (hbot:f.mode = .returning->cs ≠ bA) :
  ChI K P N ac bA ⟨f',cs',w'⟩/\Off N w w'/\w.heap.size<=w'.heap.size:=by
 obtain ⟨δ,hr,ht,sh⟩:=hi.ex
 have hz:=hi.sz
 simp only at hr sh hz
 obtain ⟨hf,hfn⟩:=sh.top
 rcases hf.run with hm | hm
 ·cases ho:opAt f with
  | none =>
   obtain ⟨β',fa',fr',W',es',e1,e2,e3,e4,e5,e6⟩:=(qi6 (Pr:=P) (main':=true) (csR:=cs ++ rest) hr (qab w) hf hm rfl (qaj hm ho) hs).ex
   obtain ⟨f2,e7,ctl,_⟩:=qto hf hm (qaj hm ho) hs
   obtain ⟨rfl,_⟩:=qdg e7
   obtain ⟨rfl,h2⟩:=qdg e1
   obtain rfl:=List.append_cancel_right h2
   rw [hs] at e2
   obtain ⟨e7,e8,rfl⟩:=qak e2
   subst e7
   obtain ⟨t',off⟩:=ht.ran hz e5
   exact ⟨⟨⟨β',e5.hr,t',(sh.mono e5.ext).swap e3 e4.2 (q2n ctl.evo) (q2p ctl.evo)⟩,Nat.le_trans hz e5.sz⟩,off,e5.sz⟩
  | some o =>
   obtain ⟨_,ops,i,l,k,ht',ho',hw⟩:=zk ho
   have hok:=hord o ho
   obtain ⟨β',W',es',e5,e6,hh⟩:=(qms (Pr:=P) (main':=true) (csR:=cs ++ rest) S hr (qab w) hf hm ht' ho' hw hok (fun o' h=>by rw [qg0 h.2] at hok;cases hok) hs (fun c h=>by
    rcases hnp with z | z <;> (rw [show (G f' (cs' ++ rest)).frame = f' from rfl] at h;rw [z] at h;cases h))).ex
   rcases hh with ⟨fa',fr',e1,e2,e3,e4,e7⟩ | ⟨g,xs,xs',hg,e1,e2,e3⟩
   ·obtain ⟨rfl,h2⟩:=qdg e1
    obtain rfl:=List.append_cancel_right h2
    have hfin:∃ v,f' = f.finish v:=by
     rcases qon (main:=true) (csA:=cs' ++ rest) S hr hf hm ht' ho' hw hok with ⟨v,w2,es2,h⟩ | ⟨g,xs,w2,es2,hg,h⟩ | ⟨c,vs,w2,es2,hc,h⟩ | ⟨x,w2,es2,h⟩
     ·rw [hs] at h;obtain ⟨a,_,_⟩:=qak h;exact ⟨v,a⟩
     ·rw [hs] at h
      obtain ⟨_,a,_⟩:=qak h
      have:=congrArg List.length a
      simp at this
     ·rw [hs] at h
      obtain ⟨a,_,_⟩:=qak h
      rw [a,hc] at hnp
      obtain ⟨ch,hch⟩:=raise_mode f vs
      rw [hch] at hnp
      rcases hnp with z | z <;> cases z
     ·rw [hs] at h;cases h
    rw [hs] at e2
    obtain ⟨e8,e9,rfl⟩:=qak e2
    subst e8
    obtain ⟨v,hv⟩:=hfin
    obtain ⟨t',off⟩:=ht.ran hz e5
    exact ⟨⟨⟨β',e5.hr,t',(sh.mono e5.ext).swap e3 e7 (fun h=>by rw [hv];exact qeh hf h v) (fun h=>by rw [hv];exact qgy hf h v)⟩,Nat.le_trans hz e5.sz⟩,off,e5.sz⟩
   ·obtain ⟨e8,h2⟩:=qdg e1
    rw [hs] at e2
    obtain ⟨e9,e10,rfl⟩:=qak e2
    have hfr:=FrR.enter S (.inl hg) e3 (kd:=.normal) (by decide)
    have hcs':cs' = f :: cs:=List.append_cancel_right (bs:=rest) (by rw [h2];rfl)
    subst hcs'
    obtain ⟨F,hF⟩:=S.some_ g (S.le (.inl hg))
    have hnc:NC f'.todo = true:=by
     rw [e8]
     unfold Frame.enter
     simp only [hF,Option.bind_some]
     cases hb:F.body with
     | none=>rfl
     | some c=>simp only [Option.getD_some,NC,List.all_cons,noI,hcalm g F c hg hF hb];rfl
    rw [<-e8,<-e9] at hfr
    obtain ⟨t',off⟩:=ht.ran hz e5
    exact ⟨⟨⟨β',e5.hr,t',.more hfr (by rw [e8];exact S.le (.inl hg)) hnc hm (sh.mono e5.ext)⟩,Nat.le_trans hz e5.sz⟩,off,e5.sz⟩
 ·cases sh with
  | one=>exact absurd rfl (hbot hm)
  | @more _ c cs _ _ _ hmc t =>
   obtain ⟨c1,c2⟩:=t.top
   obtain ⟨β',v,v',W',es',e1,e2,e3,e4,e5⟩:=step_ret (Pr:=P) (main':=true) (csR:=cs ++ rest) (cr:=c) S hr (qab w) hf hm hfn hf.kind (csA:=cs ++ rest) (ca:=c) hs
   obtain ⟨rfl,h2⟩:=qdg e3
   obtain rfl:=List.append_cancel_right h2
   have e4':stepG P true (G f (c :: cs' ++ rest)) w = .go (G (c.finish v') (cs' ++ rest)) W' es':=e4
   rw [hs] at e4'
   obtain ⟨e8,e9,rfl⟩:=qak e4'
   have hfr:=(c1.mono e1.ext).finish e5
   rw [<-e8] at hfr
   obtain ⟨t',off⟩:=ht.ran hz e1
   exact ⟨⟨⟨β',e1.hr,t',(t.mono e1.ext).swap hfr (jf _ _) (fun h=>qeh c1 h v) (fun h=>qgy c1 h v)⟩,Nat.le_trans hz e1.sz⟩,off,e1.sz⟩
theorem ChI.ret (S:je K P P SpC) {N ac:Nat} {g:Frame} {rest:List Frame} (hi:ChI K P N ac (g :: cs) ⟨f,g :: cs,w⟩) {es:Array Event}
  (hs:stepG P true (G f (g :: cs ++ rest)) w = .go (G f' (cs' ++ rest)) w' es) (hm:f.mode = .returning) :
  (∃ v,f' = g.finish v)/\cs' = cs/\Off N w w'/\w.heap.size<=w'.heap.size:=by
 obtain ⟨δ,hr,ht,sh⟩:=hi.ex
 have hz:=hi.sz
 simp only at hr sh hz
 obtain ⟨hf,hfn⟩:=sh.top
 obtain ⟨β',v,v',W',es',e1,e2,e3,e4,e5⟩:=step_ret (Pr:=P) (main':=true) (csR:=cs ++ rest) (cr:=g) S hr (qab w) hf hm hfn hf.kind (csA:=cs ++ rest) (ca:=g) hs
 obtain ⟨rfl,h2⟩:=qdg e3
 obtain rfl:=List.append_cancel_right h2
 have e4':stepG P true (G f (g :: cs' ++ rest)) w = .go (G (g.finish v') (cs' ++ rest)) W' es':=e4
 rw [hs] at e4'
 obtain ⟨e8,e9,rfl⟩:=qak e4'
 obtain ⟨t',off⟩:=ht.ran hz e1
 exact ⟨⟨v,rfl⟩,rfl,off,e1.sz⟩
end
end Go.Proofs.Ytcdclihinmdgiaa.sq
namespace Go.Proofs.Ytcdclihinmdgiaa.sq
open Go Go.Conc
set_option linter.unusedVariables false
variable [Cal]
section
variable {K:FuncId->Prop} {P:Program} {bA:List Frame} {N ac:Nat}
structure qm1 (N ac:Nat) (w w':World):Prop where
 old:∀ a,a < N->a ≠ ac->w'.heap[a]? = w.heap[a]?
 sz:w.heap.size<=w'.heap.size
theorem Off.c {w w':World} (h:Off N w w') (hs:w.heap.size<=w'.heap.size):qm1 N ac w w':=⟨fun a ha _=>h.old a ha,hs⟩
theorem qm1.trans {w w' w'':World} (h:qm1 N ac w w') (g:qm1 N ac w' w''):qm1 N ac w w'':=⟨fun a h1 h2=>(g.old a h1 h2).trans (h.old a h1 h2),Nat.le_trans h.sz g.sz⟩
inductive q0u (P:Program) (ac:Nat) (bA:List Frame):St->St->Prop
 | send {f:Frame} {cs:List Frame} {w:World} {o:Oper} {c:Call} {x y u:Operand} {v:Value} {cap:Nat} {buf:Array Value} {s e:Nat} {tm:Bool} {cells:Array Value} {el:TypeId} (h:opAt f = some o) (ho:o.op = .call c) (hc:c.callee = .value (.func nfn))
   (hx:c.args = #[x,y,u,.const (.bool true),.const (.bool false)]) (hv:f.eval x = .chan (some ac)) (hy:f.eval y = v) (hclo:clo 20 v = true) (hr:w.heap[ac]? = some (.chan cap buf false s e tm)) :
   q0u P ac bA ⟨f,cs,w⟩ ⟨f.finish undef,cs,{ w with heap:=(w.heap.push (.cells cells el)).setIfInBounds ac (.chan cap (buf.push v) false (s + 1) e tm) }⟩
 | shut {f:Frame} {w:World} {o:Oper} {c:Call} {x:Operand} {cap:Nat} {buf:Array Value} {s e:Nat} {tm:Bool} (h:opAt f = some o) (ho:o.op = .call c) (hc:c.callee = .builtin .close) (hx:c.args = #[x])
   (hv:f.eval x = .chan (some ac)) (hr:w.heap[ac]? = some (.chan cap buf false s e tm)) (htd:∃ ops i,f.todo = [.inRegion ops [i]]) (hfn:f.fn = wh):q0u P ac bA ⟨f,bA,w⟩ ⟨f.finish undef,bA,{ w with heap:=w.heap.setIfInBounds ac (.chan cap buf true s e tm) }⟩
theorem qtp {δ:Bl} {f:Frame} {o:Oper} (h:FrR P SpC δ f f) (ho:opAt f = some o) (hn:bn P o.op = false):u6 o = true:=by
 rcases (qfc h ho).op with ⟨_,z⟩ | z
 ·rw [hn] at z;cases z
 ·exact z.2
theorem qov {δ:Bl} {w:World} {f:Frame} {x:Operand} {r cap:Nat} {buf:Array Value} {cl:Bool} {s e:Nat} {tm:Bool} (ht:Ter N ac δ) (hr:HR δ w w) (h:FrR P SpC δ f f) (hx:okA x = true) (hv:f.eval x = .chan (some r))
  (ho:w.heap[r]? = some (.chan cap buf cl s e tm)):r = ac/\∀ v ∈ buf,clo 20 v = true:=by
 obtain ⟨hb,hc⟩:=qgs hr h hx hv ho
 rcases ht.own hb with ⟨_,_,z⟩ | ⟨z,_⟩
 ·exact absurd rfl z
 ·exact ⟨z,hc⟩
theorem ChI.sp {s s':St} (hi:ChI K P N ac bA s) (hk:SpK P s s') (hno:∀ o,opAt s.f = some o->bn P o.op = false):q0u P ac bA s s'/\ChI K P N ac bA s'/\qm1 N ac s.w s'.w:=by
 obtain ⟨δ,hr,ht,sh⟩:=hi.ex
 have hz:=hi.sz
 have hlt:=Nat.lt_of_lt_of_le ht.lt hz
 obtain ⟨hf,hfn⟩:=sh.top
 have nope:∀ {o:Oper},opAt s.f = some o->u6 o = false->False:=fun h1 h2=>by
  rw [qtp hf h1 (hno _ h1)] at h2;cases h2
 cases hk with
 | make n h ho=>exact (nope h (by simp [u6,ho])).elim
 | go h ho hc=>exact (nope h (by simp [u6,ho,hc])).elim
 | wh h ho hc=>exact (nope h (by simp [u6,ho,hc];intro z;exact absurd z (by decide))).elim
 | recv h ho=>exact (nope h (by simp [u6,ho])).elim
 | over h ho=>exact (nope h (by simp [u6,ho])).elim
 | @shut f cs w o c x r cap buf sn e tm h ho hc hx hv ho' =>
  have hco:=qtp hf h (hno _ h)
  have okx:okA x = true:=by
   rw [u6,ho] at hco
   simp only [hc,hx] at hco
   simpa using hco
  obtain ⟨rfl,hcl⟩:=qov ht hr hf okx hv ho'
  have hsh:qdl o = true:=by simp [qdl,ho,hc]
  have hh:=hr.setObj ht.ch rfl (.chan cap cap buf buf true true sn sn e e tm tm hcl)
  have hoff:qm1 N r w { w with heap:=w.heap.setIfInBounds r (.chan cap buf true sn e tm) }:=⟨fun a h1 h2=>Array.getElem?_setIfInBounds_ne (Ne.symm h2),by simp⟩
  cases sh with
  | more _ _ nc=>have:=q30 nc h;rw [hsh] at this;cases this
  | one _ _ ct hsr =>
   obtain ⟨ops,i,e1,_⟩:=q0h ct h hsh
   exact ⟨.shut h ho hc hx hv ho' ⟨ops,i,e1⟩ hsr,⟨⟨δ,hh,ht,.one (hf.finish uj) (by rw [jf];exact hfn) (qeh hf ct _) (by rw [jf];exact hsr)⟩,by simpa using hz⟩,hoff⟩
 | @send f cs w o c x y u v r cap buf sn e tm cells el h ho hc hx hv hy hclo ho' =>
  have hco:=qtp hf h (hno _ h)
  have okx:okA x = true:=by
   rw [u6,ho] at hco
   simp only [hc,hx,Bool.and_eq_true] at hco
   exact Array.all_eq_true_iff_forall_mem.1 hco.2 x (by simp)
  obtain ⟨rfl,hcl⟩:=qov ht hr hf okx hv ho'
  have hh:=(hr.more (.cells cells el)).setObj ht.ch rfl (.chan cap cap (buf.push v) (buf.push v) false false (sn + 1) (sn + 1) e e tm tm (by
   intro u hu
   rcases Array.mem_push.1 hu with z | z
   ·exact hcl u z
   ·subst z;exact hclo))
  have hoff:qm1 N r w { w with heap:=(w.heap.push (.cells cells el)).setIfInBounds r (.chan cap (buf.push v) false (sn + 1) e tm) }:=by
   refine ⟨fun a h1 h2=>?_,by simp⟩
   show ((w.heap.push (.cells cells el)).setIfInBounds r _)[a]? = _
   rw [Array.getElem?_setIfInBounds_ne (Ne.symm h2),Array.getElem?_push,if_neg (by simp only at hz;omega)]
  refine ⟨.send h ho hc hx hv hy hclo ho',⟨⟨δ,hh,ht,sh.swap (hf.finish uj) (jf _ _) (fun h=>qeh hf h _) (fun h=>qgy hf h _)⟩,?_⟩,hoff⟩
  have:w.heap.size<=((w.heap.push (.cells cells el)).setIfInBounds r (.chan cap (buf.push v) false (sn + 1) e tm)).size:=by simp
  exact Nat.le_trans hz this
structure ChanAt (w:World) (ac:Nat) (buf:Array Value) (cl:Bool):Prop where
 ex:∃ cap s e tm,w.heap[ac]? = some (.chan cap buf cl s e tm)
theorem ChI.chan {s:St} (hi:ChI K P N ac bA s):∃ buf cl,ChanAt s.w ac buf cl/\∀ v ∈ buf,clo 20 v = true:=by
 obtain ⟨δ,hr,ht,sh⟩:=hi.ex
 obtain ⟨o,o',h1,h2,h3⟩:=hr.at_ _ _ _ ht.ch
 cases h3 with
 | chan c c' b b' x x' s s' r r' t t' hb=>exact ⟨b,x,⟨⟨_,_,_,_,h1⟩⟩,hb⟩
end
end Go.Proofs.Ytcdclihinmdgiaa.sq
namespace Go.Proofs.Ytcdclihinmdgiaa.sq
open Go Go.Conc
set_option linter.unusedVariables false
def Rt (A:Cal) (P:Program) (s s':St):Prop:=∃ τ,@Tr A P (s.on τ) s'
inductive qe0 (A:Cal) (P:Program) (n:Nat):St->St->Prop
 | done {s s':St} (h:Rt A P s s') (hlt:s'.cs.length < n):qe0 A P n s s'
 | step {s s' L:St} (h:Rt A P s s') (hge:n<=s'.cs.length) (t:qe0 A P n s' L):qe0 A P n s L
theorem SpK.not {C:Cal} {P:Program} {s s':St} (h:SpK P s s'):∀ o,opAt s.f = some o->@bn C P o.op = false:=by
 intro o' hop
 cases h with
 | make n h ho=>rw [hop] at h;cases h;rw [ho];rfl
 | shut h ho hc=>rw [hop] at h;cases h;rw [ho];simp only [bn,yg,hc];simp only [okB]
 | go h ho hc=>rw [hop] at h;cases h;rw [ho];simp only [bn,yg,hc,okA];rw [@qco C _ (Nat.le_succ _)];rfl
 | wh h ho hc=>rw [hop] at h;cases h;rw [ho];simp only [bn,yg,hc,okA];rw [@Cal.no C];rfl
 | send h ho hc=>rw [hop] at h;cases h;rw [ho];simp only [bn,yg,hc,okA];rw [@qco C _ (Nat.le_refl _)];rfl
 | recv h ho=>rw [hop] at h;cases h;rw [ho];rfl
 | over h ho=>rw [hop] at h;cases h;rw [ho];rfl
section
variable {A:Cal} [C:Cal] {K:FuncId->Prop} {P:Program} {N ac:Nat} {g:Frame} {rest:List Frame} {En Q:St->Prop}
theorem ChI.on {bA:List Frame} {s:St} (h:ChI K P N ac bA s) (τ:Tape):ChI K P N ac bA (s.on τ):=by
 obtain ⟨δ,hr,ht,sh⟩:=h.ex
 exact ⟨⟨δ,⟨hr.inj,hr.at_⟩,ht,sh⟩,h.sz⟩
theorem qm1.off {s:St} {τ:Tape} {w':World} (h:qm1 N ac (s.on τ).w w'):qm1 N ac s.w w':=⟨h.old,h.sz⟩
theorem ChanAt.on {s:St} {buf:Array Value} {cl:Bool} (h:ChanAt s.w ac buf cl) (τ:Tape):ChanAt (s.on τ).w ac buf cl:=⟨h.ex⟩
inductive q40 (K:FuncId->Prop) (P:Program) (N ac:Nat) (g:Frame) (rest:List Frame) (s s':St):Prop
 | ord (hi:ChI K P N ac (g :: rest) s') (off:Off N s.w s'.w) (sz:s.w.heap.size<=s'.w.heap.size)
 | sp (hi:ChI K P N ac (g :: rest) s') (off:qm1 N ac s.w s'.w) (h:q0u P ac (g :: rest) s s')
 | out (hm:s.f.mode = .returning) (hcs:s.cs = g :: rest) (hf:∃ v,s'.f = g.finish v) (hc:s'.cs = rest) (off:Off N s.w s'.w) (sz:s.w.heap.size<=s'.w.heap.size)
theorem ChI.tr (S:je K P P SpC) (hcalm:Calm P) {s s':St} (hi:ChI K P N ac (g :: rest) s) (h:@Tr A P s s'):q40 K P N ac g rest s s':=by
 cases h with
 | @go f f' cs cs' w w' es hord hne h hnp =>
  obtain ⟨δ,hr,ht,sh⟩:=hi.ex
  obtain ⟨hf,hfn⟩:=sh.top
  have hordC:∀ o,opAt f = some o->@bn C P o.op = true:=fun o ho=>by
   rcases (qfc hf ho).op with ⟨_,z⟩ | ⟨_,z⟩
   ·exact z
   ·have:=hord o ho
    rw [qg0 z] at this;cases this
  by_cases hb:f.mode = .returning/\cs = g :: rest
  ·obtain ⟨hm,rfl⟩:=hb
   obtain ⟨⟨v,h1⟩,h2,h3,h4⟩:=hi.ret S (rest:=[base P]) h hm
   exact .out hm rfl ⟨v,h1⟩ h2 h3 h4
  ·obtain ⟨h1,h2,h3⟩:=hi.ord S hcalm hordC (rest:=[base P]) h hnp (fun hm hc=>hb ⟨hm,hc⟩)
   exact .ord h1 h2 h3
 | sp k h hk =>
  obtain ⟨h1,h2,h3⟩:=hi.sp hk hk.not
  exact .sp h2 h3 h1
theorem ChI.len {bA:List Frame} {s:St} (h:ChI K P N ac bA s):bA.length<=s.cs.length:=by
 obtain ⟨δ,hr,ht,sh⟩:=h.ex
 exact sh.len
theorem kg {w w':World} {buf:Array Value} {cl:Bool} (h:ChanAt w ac buf cl) (e:w'.heap[ac]? = w.heap[ac]?):ChanAt w' ac buf cl:=by
 obtain ⟨cap,s,n,tm,h⟩:=h.ex
 exact ⟨⟨cap,s,n,tm,by rw [e];exact h⟩⟩
theorem ChI.ltN {bA:List Frame} {s:St} (h:ChI K P N ac bA s):ac < N:=by
 obtain ⟨δ,hr,ht,sh⟩:=h.ex
 exact ht.lt
theorem bf {w:World} {buf buf':Array Value} {cl cl':Bool} (h:ChanAt w ac buf cl) (h':ChanAt w ac buf' cl'):buf = buf'/\cl = cl':=by
 obtain ⟨_,_,_,_,h⟩:=h.ex
 obtain ⟨_,_,_,_,h'⟩:=h'.ex
 rw [h] at h'
 cases h'
 exact ⟨rfl,rfl⟩
theorem q0u.chan {bA:List Frame} {s s':St} (h:q0u P ac bA s s') (hlt:ac < s.w.heap.size) {buf:Array Value} {cl:Bool} (hc:ChanAt s.w ac buf cl):∃ more cl',ChanAt s'.w ac (buf ++ more) cl':=by
 cases h with
 | @shut f w o c x cap buf2 sn e tm h ho hc2 hx hv hr =>
  obtain ⟨rfl,_⟩:=bf hc ⟨⟨_,_,_,_,hr⟩⟩
  exact ⟨#[],true,⟨⟨cap,sn,e,tm,by simp only [Array.append_empty];exact Array.getElem?_setIfInBounds_self_of_lt hlt⟩⟩⟩
 | @send f cs w o c x y u v cap buf2 sn e tm cells el h ho hc2 hx hv hy hclo hr =>
  obtain ⟨rfl,_⟩:=bf hc ⟨⟨_,_,_,_,hr⟩⟩
  refine ⟨#[v],false,⟨⟨cap,sn + 1,e,tm,?_⟩⟩⟩
  show ((w.heap.push _).setIfInBounds ac _)[ac]? = _
  rw [Array.getElem?_setIfInBounds_self_of_lt (by simp only at hlt;simp;omega)]
  simp
theorem qg1 (S:je K P P SpC) (hcalm:Calm P) {s L:St} (h:qe0 A P (g :: rest).length s L):ChI K P N ac (g :: rest) s->(∃ v,L.f = g.finish v)/\L.cs = rest/\qm1 N ac s.w L.w ∧
  ∀ buf cl,ChanAt s.w ac buf cl->∃ more cl',ChanAt L.w ac (buf ++ more) cl':=by
 induction h with
 | @done s s' h hlt =>
  intro hi
  obtain ⟨τ,h⟩:=h
  cases (hi.on τ).tr S hcalm h with
  | ord hi'=>exact absurd hi'.len (Nat.not_le.2 hlt)
  | sp hi'=>exact absurd hi'.len (Nat.not_le.2 hlt)
  | out hm hcs hf hc off sz=>exact ⟨hf,hc,(off.c sz).off,fun buf cl hca=>⟨#[],cl,by simpa using kg hca (off.old ac hi.ltN)⟩⟩
 | @step s s' L h hge t ih =>
  intro hi
  obtain ⟨τ,h⟩:=h
  cases (hi.on τ).tr S hcalm h with
  | ord hi' off sz =>
   obtain ⟨a,b,c,d⟩:=ih hi'
   exact ⟨a,b,qm1.trans (off.c sz).off c,fun buf cl hca=>d buf cl (kg hca (off.old ac hi.ltN))⟩
  | sp hi' off hsp =>
   obtain ⟨a,b,c,d⟩:=ih hi'
   refine ⟨a,b,qm1.trans off.off c,fun buf cl hca=>?_⟩
   obtain ⟨m1,c1,h1⟩:=hsp.chan (Nat.lt_of_lt_of_le hi.ltN hi.sz) (hca.on τ)
   obtain ⟨m2,c2,h2⟩:=d _ _ h1
   exact ⟨m1 ++ m2,c2,by rw [<-Array.append_assoc];exact h2⟩
  | out hm hcs hf hc off sz=>rw [hc] at hge;simp at hge;omega
theorem qbc {s s':St} (h:qcf (@Tr A P) En Q s) (r:Rt A P s s'):qcf (@Tr A P) En Q s':=by
 obtain ⟨τ,r⟩:=r
 cases h with
 | mk _ h0 h1 h2=>exact h2 τ s' r
theorem qqb {n:Nat} {s L:St} (h:qe0 A P n s L):qcf (@Tr A P) En Q s->qcf (@Tr A P) En Q L/\Relation.TransGen (fun a b=>Rt A P b a) L s:=by
 induction h with
 | done h hlt=>intro hf;exact ⟨qbc hf h,.single h⟩
 | step h hge t ih =>
  intro hf
  obtain ⟨a,b⟩:=ih (qbc hf h)
  exact ⟨a,b.tail h⟩
theorem qow (S:je K P P SpC) (hcalm:Calm P) (hEn:∀ s,En s->s.cs = []) {s:St} (h:qcf (@Tr A P) En Q s):ChI K P N ac (g :: rest) s->∃ L,qe0 A P (g :: rest).length s L:=by
 induction h with
 | mk s h0 h1 h2 ih =>
  intro hi
  have hne:¬ En s:=fun he=>by
   have:=hi.len
   rw [hEn s he] at this
   simp at this
  obtain ⟨s',hs⟩:=h1 hne s.w.tape
  cases (hi.on _).tr S hcalm hs with
  | ord hi' off sz =>
   obtain ⟨L,hL⟩:=ih _ _ hs hi'
   exact ⟨L,.step ⟨_,hs⟩ hi'.len hL⟩
  | sp hi' off hsp =>
   obtain ⟨L,hL⟩:=ih _ _ hs hi'
   exact ⟨L,.step ⟨_,hs⟩ hi'.len hL⟩
  | out hm hcs hf hc off sz=>exact ⟨s',.done ⟨_,hs⟩ (by rw [hc];simp)⟩
end
end Go.Proofs.Ytcdclihinmdgiaa.sq
namespace Go.Proofs.Ytcdclihinmdgiaa.sq
open Go Go.Conc
set_option linter.unusedVariables false
def blk:Loc->Nat
 | .cell a=>a.block
 | .obj r=>r
 | _=>0
def look (a:Touch):Prop:=a.write = false/\a.kind = .atomic
def Still (t:Trace):Prop:=∀ op ∈ t,op.act ≠ .mark .disable/\op.act ≠ .mark .enable
theorem Still.app {t u:Trace} (h:Still t) (g:Still u):Still (t ++ u):=fun op hop=>(Array.mem_append.1 hop).elim (h op) (g op)
theorem Still.deaf {t:Trace} (h:Still t) (g:Nat):∀ i,t.deaf g i = 0
 | 0=>rfl
 | i + 1=>by
  unfold Trace.deaf
  have ih:=Still.deaf h g i
  split
  ·rename_i x fn pos e
   exact absurd rfl (h _ (mem_of_getElem? e)).1
  ·rename_i x fn pos e
   exact absurd rfl (h _ (mem_of_getElem? e)).2
  ·exact ih
theorem Still.heard {t:Trace} (h:Still t) {i:Nat} {op:MemOp} (hi:t[i]? = some op):t.heard i:=⟨op.g,by simp [Trace.g?,hi],h.deaf _ _⟩
structure TI (t:Trace) (B:Nat) (H C:Nat->Prop) (c k:Nat):Prop where
 still:Still t
 clean:∀ said,¬ Race said t
 low:∀ i a,touchAt t i = some a->a.loc.isMemory = true->blk a.loc < B
 main:∀ i a,touchAt t i = some a->a.loc.isMemory = true->Knows t 0 i\/((∃ op,t[i]? = some op/\op.g = k)/\(C (blk a.loc)\/(blk a.loc = c/\look a)))
 child:∀ i a,touchAt t i = some a->a.loc.isMemory = true->C (blk a.loc)->∃ op,t[i]? = some op/\op.g = k
 chan:∀ i a,touchAt t i = some a->a.loc.isMemory = true->H (blk a.loc)->look a
section
variable {t u:Trace} {B B':Nat} {H C C':Nat->Prop} {c k g pc:Nat}
theorem zx {i:Nat} {a:Touch} (h:touchAt (t ++ u) i = some a):(i < t.size/\touchAt t i = some a)\/(t.size<=i/\∃ op ∈ u,(t ++ u)[i]? = some op/\op.act.touch? = some a):=by
 obtain ⟨op,ho,hoa⟩:=touch_of h
 rcases getElem?_append_cases ho with ⟨hi,ho'⟩ | ⟨hi,hou⟩
 ·exact .inl ⟨hi,by rw [touchAt_of ho'];exact hoa⟩
 ·exact .inr ⟨hi,op,hou,ho,hoa⟩
def Lm (B:Nat) (H C:Nat->Prop) (op:MemOp):Prop:=op.g = 0/\(op.act ≠ .mark .disable/\op.act ≠ .mark .enable) ∧
 ∀ a,op.act.touch? = some a->a.loc.isMemory = true->blk a.loc < B/\¬ C (blk a.loc)/\(H (blk a.loc)->look a)
theorem TI.qk9 (h:TI t B H C c k) (hc:H c) (hB:B<=B') (hu:∀ op ∈ u,Lm B' H C op):TI (t ++ u) B' H C c k:=by
 refine ⟨h.still.app fun op ho=>(hu op ho).2.1,fun said=>noRace_append (h.clean said) (fun op ho=>(hu op ho).1) fun i a ha op ho b hb hcf=>?_,fun i a ha hm=>?_,fun i a ha hm=>?_,fun i a ha hm hC=>?_,fun i a ha hm hH=>?_⟩
 ·have hm:=hcf.2.1
  have hl:b.loc = a.loc:=hcf.1.symm
  obtain ⟨_,hnC,hbH⟩:=(hu op ho).2.2 b hb (by rw [hl];exact hm)
  rcases h.main i a ha hm with z | ⟨_,z | ⟨z,lk⟩⟩
  ·exact z
  ·rw [hl] at hnC;exact absurd z hnC
  ·have hb2:look b:=hbH (by rw [hl,z];exact hc)
   have hw:=hcf.2.2.1
   rw [lk.1,hb2.1] at hw
   rcases hw with hw | hw <;> cases hw
 ·rcases zx ha with ⟨_,z⟩ | ⟨_,op,ho,_,z⟩
  ·exact Nat.lt_of_lt_of_le (h.low i a z hm) hB
  ·exact ((hu op ho).2.2 a z hm).1
 ·rcases zx ha with ⟨hi,z⟩ | ⟨_,op,ho,e,z⟩
  ·rcases h.main i a z hm with x | ⟨⟨op,x,y⟩,q⟩
   ·exact .inl (x.app u)
   ·exact .inr ⟨⟨op,by rw [getElem?_append_old hi];exact x,y⟩,q⟩
  ·have:=knows_own e
   rw [(hu op ho).1] at this
   exact .inl this
 ·rcases zx ha with ⟨hi,z⟩ | ⟨_,op,ho,e,z⟩
  ·obtain ⟨op,x,y⟩:=h.child i a z hm hC
   exact ⟨op,by rw [getElem?_append_old hi];exact x,y⟩
  ·exact absurd hC ((hu op ho).2.2 a z hm).2.1
 ·rcases zx ha with ⟨hi,z⟩ | ⟨_,op,ho,e,z⟩
  ·exact h.chan i a z hm hH
  ·exact ((hu op ho).2.2 a z hm).2.2 hH
def Lc (B:Nat) (H C:Nat->Prop) (c k:Nat) (op:MemOp):Prop:=op.g = k/\(op.act ≠ .mark .disable/\op.act ≠ .mark .enable) ∧
 ∀ a,op.act.touch? = some a->a.loc.isMemory = true->blk a.loc < B/\((C (blk a.loc)/\¬ H (blk a.loc))\/(blk a.loc = c/\look a))
theorem TI.qh3 (h:TI t B H C c k) (hc:H c) (hB:B<=B') (hCC:∀ b,C b->C' b) (hnew:∀ b,C' b->C b\/B<=b) (hu:∀ op ∈ u,Lc B' H C' c k op):TI (t ++ u) B' H C' c k:=by
 have old:∀ {i a},touchAt t i = some a->a.loc.isMemory = true->C' (blk a.loc)->C (blk a.loc):=fun ha hm hC=>by
  rcases hnew _ hC with z | z
  ·exact z
  ·have:=h.low _ _ ha hm;omega
 refine ⟨h.still.app fun op ho=>(hu op ho).2.1,fun said=>noRace_append (h.clean said) (fun op ho=>(hu op ho).1) fun i a ha op ho b hb hcf=>?_,fun i a ha hm=>?_,fun i a ha hm=>?_,fun i a ha hm hC=>?_,fun i a ha hm hH=>?_⟩
 ·have hm:=hcf.2.1
  have hl:b.loc = a.loc:=hcf.1.symm
  obtain ⟨_,hb2⟩:=(hu op ho).2.2 b hb (by rw [hl];exact hm)
  rcases hb2 with ⟨z,_⟩ | ⟨z,lk⟩
  ·rw [hl] at z
   obtain ⟨op2,x,y⟩:=h.child i a ha hm (old ha hm z)
   have:=knows_own x
   rwa [y] at this
  ·have la:=h.chan i a ha hm (by rw [<-hl,z];exact hc)
   have hw:=hcf.2.2.1
   rw [lk.1,la.1] at hw
   rcases hw with hw | hw <;> cases hw
 ·rcases zx ha with ⟨_,z⟩ | ⟨_,op,ho,_,z⟩
  ·exact Nat.lt_of_lt_of_le (h.low i a z hm) hB
  ·exact ((hu op ho).2.2 a z hm).1
 ·rcases zx ha with ⟨hi,z⟩ | ⟨_,op,ho,e,z⟩
  ·rcases h.main i a z hm with x | ⟨⟨op,x,y⟩,q⟩
   ·exact .inl (x.app u)
   ·exact .inr ⟨⟨op,by rw [getElem?_append_old hi];exact x,y⟩,q.imp (hCC _) id⟩
  ·exact .inr ⟨⟨op,e,(hu op ho).1⟩,((hu op ho).2.2 a z hm).2.imp (·.1) id⟩
 ·rcases zx ha with ⟨hi,z⟩ | ⟨_,op,ho,e,z⟩
  ·obtain ⟨op,x,y⟩:=h.child i a z hm (old z hm hC)
   exact ⟨op,by rw [getElem?_append_old hi];exact x,y⟩
  ·exact ⟨op,e,(hu op ho).1⟩
 ·rcases zx ha with ⟨hi,z⟩ | ⟨_,op,ho,e,z⟩
  ·exact h.chan i a z hm hH
  ·rcases ((hu op ho).2.2 a z hm).2 with ⟨_,x⟩ | ⟨_,x⟩
   ·exact absurd hH x
   ·exact x
theorem qg2 {said:Bool} (h:¬ Race said t) (hu:∀ op ∈ u,op.act.touch? = none):¬ Race said (t ++ u):=by
 rintro ⟨i,j,hij,⟨a,b,ha,hb,hc⟩,n1,n2⟩
 rcases zx (t:=t) (u:=u) hb with ⟨hj,hb'⟩ | ⟨_,op,ho,_,z⟩
 ·rcases zx (t:=t) (u:=u) ha with ⟨hi,ha'⟩ | ⟨hi,_⟩
  ·exact h ⟨i,j,hij,⟨a,b,ha',hb',hc⟩,fun e=>n1 (hb_app u e),fun e=>n2 (hb_app u e)⟩
  ·omega
 ·rw [hu op ho] at z;cases z
theorem TI.mute (h:TI t B H C c k) (hu:∀ op ∈ u,op.act.touch? = none/\op.act ≠ .mark .disable/\op.act ≠ .mark .enable):TI (t ++ u) B H C c k:=by
 have no:∀ {i a},touchAt (t ++ u) i = some a->i < t.size/\touchAt t i = some a:=fun ha=>by
  rcases zx ha with z | ⟨_,op,ho,_,z⟩
  ·exact z
  ·rw [(hu op ho).1] at z;cases z
 refine ⟨h.still.app fun op ho=>(hu op ho).2,fun said=>qg2 (h.clean said) fun op ho=>(hu op ho).1,fun i a ha hm=>h.low i a (no ha).2 hm,fun i a ha hm=>?_,fun i a ha hm hC=>?_,fun i a ha hm hH=>h.chan i a (no ha).2 hm hH⟩
 ·obtain ⟨hi,z⟩:=no ha
  rcases h.main i a z hm with x | ⟨⟨op,x,y⟩,q⟩
  ·exact .inl (x.app u)
  ·exact .inr ⟨⟨op,by rw [getElem?_append_old hi];exact x,y⟩,q⟩
 ·obtain ⟨hi,z⟩:=no ha
  obtain ⟨op,x,y⟩:=h.child i a z hm hC
  exact ⟨op,by rw [getElem?_append_old hi];exact x,y⟩
structure T0 (t:Trace) (B:Nat) (H:Nat->Prop):Prop where
 still:Still t
 clean:∀ said,¬ Race said t
 low:∀ i a,touchAt t i = some a->a.loc.isMemory = true->blk a.loc < B
 known:∀ i a,touchAt t i = some a->a.loc.isMemory = true->Knows t 0 i
 chan:∀ i a,touchAt t i = some a->a.loc.isMemory = true->H (blk a.loc)->look a
theorem T0.ti (h:T0 t B H) (c k:Nat):TI t B H (fun _=>False) c k:=⟨h.still,h.clean,h.low,fun i a ha hm=>.inl (h.known i a ha hm),fun _ _ _ _ x=>x.elim,h.chan⟩
theorem T0.over (h:T0 t B H):t.HandedOver:=by
 rintro i g hg hne ⟨x,hx,hm,_⟩
 obtain ⟨q,z,h1,h2,h3⟩:=h.known i x hx hm
 refine ⟨q,by simp [Trace.g?,h1,h2],?_⟩
 rcases h3 with e | e
 ·subst e
  rw [Trace.g?,h1] at hg
  simp at hg
  exact absurd (hg.symm.trans h2) hne
 ·exact e
structure Shut (t:Trace) (c k pc:Nat):Prop where
 at_:∃ op,t[pc]? = some op/\op.g = k/\op.act = .close c
 before:∀ i a op,touchAt t i = some a->a.loc.isMemory = true->t[i]? = some op->op.g = k->Before t i pc
theorem Shut.app (h:Shut t c k pc) (hu:∀ op ∈ u,op.g = k->op.act.touch? = none):Shut (t ++ u) c k pc:=by
 obtain ⟨op,h1,h2,h3⟩:=h.at_
 refine ⟨⟨op,by rw [getElem?_append_old (lt_size_of_getElem? h1)];exact h1,h2,h3⟩,fun i a op ha hm ho hg=>?_⟩
 rcases zx ha with ⟨hi,z⟩ | ⟨_,op2,ho2,e,z⟩
 ·exact (h.before i a op z hm (by rw [<-getElem?_append_old (u:=u) hi];exact ho) hg).app u
 ·rw [ho] at e;cases e
  rw [hu op ho2 hg] at z;cases z
theorem Shut.new {op:MemOp} (hg:op.g = k) (ha:op.act = .close c):Shut (t ++ #[op]) c k t.size:=by
 have hl:(t ++ #[op])[t.size]? = some op:=by rw [Array.getElem?_append_right (Nat.le_refl _)];simp
 refine ⟨⟨op,hl,hg,ha⟩,fun i a op2 hi hm ho hg2=>?_⟩
 have hlt:=lt_size_of_getElem? ho
 simp at hlt
 rcases Nat.lt_or_eq_of_le (Nat.le_of_lt_succ hlt) with z | z
 ·exact .inr (hb_po z ho hl (hg2.trans hg.symm))
 ·exact .inl z
theorem TI.over (h:TI t B H C c k) (hs:Shut t c k pc) {op:MemOp} (hg:op.g = 0) (ha:op.act = .recvClosed c):T0 (t ++ #[op]) B H:=by
 have hm:=h.mute (u:=#[op]) (fun o ho=>by
  obtain rfl:o = op:=by simpa using ho
  rw [ha];exact ⟨rfl,by simp,by simp⟩)
 have hl:(t ++ #[op])[t.size]? = some op:=by rw [Array.getElem?_append_right (Nat.le_refl _)];simp
 have hs':=hs.app (u:=#[op]) (fun o ho _=>by
  obtain rfl:o = op:=by simpa using ho
  rw [ha];rfl)
 obtain ⟨opc,h1,h2,h3⟩:=hs'.at_
 have hpc:Knows (t ++ #[op]) 0 pc:=⟨t.size,op,hl,hg,.inr (.single (.inr ⟨.closed (c:=c) (by rw [act?_of h1,h3]) (by rw [act?_of hl,ha]),hm.still.heard h1,hm.still.heard hl⟩))⟩
 refine ⟨hm.still,hm.clean,hm.low,fun i a hi hmm=>?_,hm.chan⟩
 rcases hm.main i a hi hmm with x | ⟨⟨op2,x,y⟩,_⟩
 ·exact x
 ·exact Knows.of_before (hs'.before i a op2 hi hmm x y) hpc
end
end Go.Proofs.Ytcdclihinmdgiaa.sq
namespace Go.Proofs.Ytcdclihinmdgiaa.sq
open Go Go.Conc
set_option linter.unusedVariables false
inductive SpM:Oper->Oper->Prop
 | make {o o':Oper} {t:TypeId} {n:Int} (h:o.op = .makeChan t (.const (.int .i64 n))) (h':o'.op = .makeChan t (.const (.int .i64 0))):SpM o o'
 | go {o o':Oper} {c c':Call} {a b d:Tmp} (h:o.op = .call c) (hc:c.callee = .value (.func (nfn + 1))) (ha:c.args = #[.tmp a,.tmp b,.tmp d,.const (.bool true),.const (.bool false)]) (h':o'.op = .go c') (hc':c'.callee = .value (.func wh)) (ha':c'.args = #[.tmp b,.tmp a]):SpM o o'
 | recv {o:Oper} {t:TypeId} {a:Tmp} (h:o.op = .recv t (.tmp a) true):SpM o o
inductive SpP:Oper->Oper->Prop
 | send {o o':Oper} {c:Call} {a b d:Tmp} (h:o.op = .call c) (hc:c.callee = .value (.func nfn)) (ha:c.args = #[.tmp a,.tmp b,.tmp d,.const (.bool true),.const (.bool false)]) (h':o'.op = .send (.tmp a) (.tmp b)):SpP o o'
 | shut {o:Oper} {c:Call} {a:Tmp} (h:o.op = .call c) (hc:c.callee = .builtin .close) (ha:c.args = #[.tmp a]):SpP o o
theorem SpM.not {P:Program} {C:Cal} {o o':Oper} (h:SpM o o'):@bn C P o.op = false:=by
 cases h with
 | make h=>rw [h];rfl
 | go h hc=>rw [h];simp only [bn,yg,hc,okA];rw [@qco C _ (Nat.le_succ _)];rfl
 | recv h=>rw [h];rfl
theorem SpP.not {P:Program} {C:Cal} {o o':Oper} (h:SpP o o'):@bn C P o.op = false:=by
 cases h with
 | send h hc=>rw [h];simp only [bn,yg,hc,okA];rw [@qco C _ (Nat.le_refl _)];rfl
 | shut h hc=>rw [h];simp only [bn,yg,hc];simp only [okB]
section
variable [Cal] {Pa Pr:Program} {Sp:Oper->Oper->Prop} {β:Bl} {fa fr:Frame} {cs:List Frame} {W:World} {main:Bool}
theorem qg3 (h:FrR Pa Sp β fa fr) {o:Oper} (ho:opAt fa = some o):∃ o',opAt fr = some o'/\OpR Pa Sp o o':=by
 obtain ⟨hm,ops,i,l,k,ht,ho',hw⟩:=zk ho
 have hk:=h.todo
 have hy:=h.tmps
 rw [ht] at hk
 generalize htr:fr.todo = tr at hk
 cases hk with
 | cons hi _ =>
  cases hi with
  | @inRegion _ ops' _ hops =>
   obtain ⟨o',e,r⟩:=hops.get ho'
   refine ⟨o',?_,r⟩
   unfold opAt
   have hm':fr.mode = .run:=by rw [h.mode,hm]
   rw [hm',htr]
   simp only [e,Option.filter_some]
   rw [AR.yielded hy hops]
   have:Region.wanted o' (yielded ops fa.tmps) = Region.wanted o (yielded ops fa.tmps):=by simp only [Region.wanted,r.guard]
   rw [this,hw]
   rfl
theorem qtq (h:FrR Pa Sp β fa fr) (hm:fa.mode = .run) (ho:opAt fa = none):opAt fr = none:=by
 cases e:opAt fr with
 | none=>rfl
 | some o' =>
  exfalso
  obtain ⟨hm',ops',i,l,k',ht',ho',hw'⟩:=zk e
  have hk:=h.todo
  have hy:=h.tmps
  rw [ht'] at hk
  generalize hta:fa.todo = ta at hk
  cases hk with
  | cons hi _ =>
   cases hi with
   | @inRegion ops _ _ hops =>
    have hi:i < ops.size:=by rw [hops.size];exact (Array.getElem?_eq_some_iff.1 ho').1
    have r:=hops.at_ i _ _ (Array.getElem?_eq_getElem hi) ho'
    unfold opAt at ho
    rw [hm,hta] at ho
    simp only [Array.getElem?_eq_getElem hi,Option.filter_some] at ho
    rw [AR.yielded hy hops] at hw'
    have:Region.wanted ops[i] (yielded ops fa.tmps) = true:=by rw [<-hw'];simp only [Region.wanted,r.guard]
    rw [this] at ho
    cases ho
theorem qbo (hk:fr.kind ≠ .early) (hrd:fr.roundOf = none) {o:Oper} (ho:opAt fr = some o):stepG Pr main (G fr cs) W = stepG.apply Pr true fr cs none (execOp fr.eval o) W/\∀ d b r s k,fr.todo ≠ .call d b r s :: k:=by
 obtain ⟨hm,ops,i,l,k,ht,ho',hw⟩:=zk ho
 exact ⟨pq Pr main cs W hm hrd ht ho' hw,by rw [ht];simp⟩
theorem qmv.real {t:TypeId} (S:Alike Pa Pr) (h:qmv Pa t):qmv Pr t:=by
 obtain ⟨d,el,i,h1,h2⟩:=h
 exact ⟨d,el,i,by rw [S.und];exact h1,by rw [S.info];exact h2⟩
theorem qcg.real {t:TypeId} {z:Value} (S:Alike Pa Pr) (h:qcg Pa t z):qcg Pr t z:=by
 obtain ⟨d,el,i,h1,h2,h3⟩:=h
 exact ⟨d,el,i,by rw [S.und];exact h1,by rw [S.info];exact h2,h3⟩
end
section
variable [Cal] {P:Program} {fr:Frame} {cs:List Frame} {W:World} {main:Bool} {o:Oper}
structure Plain (fr:Frame):Prop where
 kind:fr.kind ≠ .early
 round:fr.roundOf = none
theorem qde (fn:FuncId):seen P fn #[] = #[]:=by simp [seen]
theorem qtr (hp:Plain fr) (ho:opAt fr = some o) {t:TypeId} (h:o.op = .makeChan t (.const (.int .i64 0))) (ht:qmv P t) :
  stepG P main (G fr cs) W = .go (G (fr.finish (.chan (some W.heap.size))) cs) { W with heap:=W.heap.push (.chan 0 #[] false 0 0 false) } #[]:=by
 obtain ⟨a1,a2⟩:=qbo (Pr:=P) (main:=main) (cs:=cs) (W:=W) hp.kind hp.round ho
 obtain ⟨d,el,i,hu,hi⟩:=ht
 have hr:(execOp fr.eval o).runT P W #[] = (.ok (.value (.chan (some W.heap.size))) { W with heap:=W.heap.push (.chan 0 #[] false 0 0 false) },#[]):=by
  obtain ⟨dst,op,ty,pos,after,guard⟩:=o
  simp only at h
  subst h
  have e:fr.eval (.const (.int .i64 0)) = .int .i64 0:=rfl
  have hc:¬ ((0:Int) < 0\/(0:Int) > IntKind.i64.max\/(i.bytes:Int) * 0 > 2 ^ 48 - 112):=by
   simp [IntKind.max,IntKind.signed,IntKind.bits]
  unfold execOp Instr.makeChan asInt asIntOf underlying typeInfo program
  simp only [e,bind,Sem.bind,pure,Sem.runT,hu,hi]
  rw [if_neg hc]
  rfl
 have:=(jw P cs _ hp.kind hr a2).1 _ rfl
 rw [a1,this,qde]
theorem qg4 (hp:Plain fr) (ho:opAt fr = some o) {t:TypeId} {x:Operand} (h:o.op = .recv t x true) {z:Value} (hz:qcg P t z) {c:Nat} (hx:fr.eval x = .chan (some c)) :
  stepG P main (G fr cs) W = .comm (G fr cs) #[rcase c z] true (.recv true) W #[]:=by
 obtain ⟨a1,a2⟩:=qbo (Pr:=P) (main:=main) (cs:=cs) (W:=W) hp.kind hp.round ho
 obtain ⟨d,el,i,hu,hi,hzz⟩:=hz
 have hr:(execOp fr.eval o).runT P W #[] = (.ok (.comm #[rcase c z] true (.recv true)) W,#[]):=by
  obtain ⟨dst,op,ty,pos,after,guard⟩:=o
  simp only at h
  subst h
  unfold execOp underlying zeroValue typeInfo program
  simp only [bind,Sem.bind,pure,Sem.runT,hu,hi,hzz,hx,rcase]
 have hk:(fr.kind == .early) = false:=by simpa using hp.kind
 rw [a1]
 simp only [stepG.apply,if_true,hr,hk,Bool.false_eq_true,if_false,GStep.after,qde,G,Array.append_empty]
theorem qts (hp:Plain fr) (ho:opAt fr = some o) {x y:Operand} (h:o.op = .send x y) {c:Nat} (hx:fr.eval x = .chan (some c)) :
  stepG P main (G fr cs) W = .comm (G fr cs) #[scase c (fr.eval y) (.tuple #[])] true .send W #[]:=by
 obtain ⟨a1,a2⟩:=qbo (Pr:=P) (main:=main) (cs:=cs) (W:=W) hp.kind hp.round ho
 have hr:(execOp fr.eval o).runT P W #[] = (.ok (.comm #[scase c (fr.eval y) (.tuple #[])] true .send) W,#[]):=by
  obtain ⟨dst,op,ty,pos,after,guard⟩:=o
  simp only at h
  subst h
  unfold execOp
  simp only [bind,Sem.bind,pure,Sem.runT,hx,scase]
 have hk:(fr.kind == .early) = false:=by simpa using hp.kind
 rw [a1]
 simp only [stepG.apply,if_true,hr,hk,Bool.false_eq_true,if_false,GStep.after,qde,G,Array.append_empty]
theorem qqc (hp:Plain fr) (ho:opAt fr = some o) {c:Call} {x:Operand} (h:o.op = .call c) (hc:c.callee = .builtin .close) (ha:c.args = #[x]) {r cap s e:Nat} {buf:Array Value} {tm:Bool} (hx:fr.eval x = .chan (some r))
  (hr:W.heap[r]? = some (.chan cap buf false s e tm)) :
  stepG P main (G fr cs) W = .go (G (fr.finish undef) cs) { W with heap:=W.heap.setIfInBounds r (.chan cap buf true s e tm) } (seen P fr.fn #[⟨.obj r,false,true⟩,⟨.obj r,true,true⟩]):=by
 obtain ⟨a1,a2⟩:=qbo (Pr:=P) (main:=main) (cs:=cs) (W:=W) hp.kind hp.round ho
 have hrt:(execOp fr.eval o).runT P W #[] = (.ok (.value undef) { W with heap:=W.heap.setIfInBounds r (.chan cap buf true s e tm) },#[⟨.obj r,false,true⟩,⟨.obj r,true,true⟩]):=by
  obtain ⟨dst,op,ty,pos,after,guard⟩:=o
  simp only at h
  subst h
  obtain ⟨callee,args,argTypes⟩:=c
  simp only at hc ha
  subst hc ha
  have e:execOp fr.eval { dst,op:=.call { callee:=.builtin .close,args:=#[x],argTypes },type:=ty,pos,after,guard } = (Builtin.close_ argTypes ty #[fr.eval x] >>= fun v=>pure (.value v)):=by
   simp [execOp,resolve,invoke,builtin]
  rw [e,hx]
  show Sem.runT P (Sem.getObj r _) W #[] = _
  simp only [Sem.runT,hr,Sem.bind,Bool.false_eq_true,if_false,setObj,bind,pure,Obj.isChan]
  rfl
 have:=(jw P cs _ hp.kind hrt a2).1 _ rfl
 rw [a1,this]
theorem q0i (hp:Plain fr) (ho:opAt fr = some o) {c:Call} {x y:Operand} (h:o.op = .go c) (hc:c.callee = .value (.func wh)) (ha:c.args = #[x,y]) :
  stepG P main (G fr cs) W = .spawn (G (fr.finish undef) cs) (born P { target:=.fn (.func wh) #[],args:=#[fr.eval x,fr.eval y] }) W #[]:=by
 obtain ⟨a1,a2⟩:=qbo (Pr:=P) (main:=main) (cs:=cs) (W:=W) hp.kind hp.round ho
 have hrt:(execOp fr.eval o).runT P W #[] = (.ok (.spawn { target:=.fn (.func wh) #[],args:=#[fr.eval x,fr.eval y] }) W,#[]):=by
  obtain ⟨dst,op,ty,pos,after,guard⟩:=o
  simp only at h
  subst h
  obtain ⟨callee,args,argTypes⟩:=c
  simp only at hc ha
  subst hc ha
  have e:fr.eval (.func wh) = .func (.func wh) #[] #[]:=rfl
  show Sem.runT P (execOp fr.eval _) W #[] = _
  unfold execOp resolve
  simp only [List.map_toArray,List.map_cons,List.map_nil,e,Deferred.ofValue,bind,Sem.bind,pure,Sem.runT]
  rfl
 have hk:(fr.kind == .early) = false:=by simpa using hp.kind
 rw [a1]
 simp only [stepG.apply,if_true,hrt,hk,Bool.false_eq_true,if_false,GStep.after,qde,G,Array.append_empty,born]
 rw [if_neg (by simp)]
 rfl
def qap (P:Program):Frame:={ (default:Frame) with fn:=P.funcs.size,defers:=[],mode:=.panicking [goexitEntry] }
theorem qqd {xs:Array Value} {F:Func} (hF:P.funcs[wh]? = some F) (hb:F.body.isNone = false) (hn:(F.name == "runtime.NumGoroutine") = false) :
  stepG P false (born P { target:=.fn (.func wh) #[],args:=xs }) W = .go (G (Frame.enter P wh xs .deferred) [qap P]) W #[]:=by
 have hb':¬ F.body = none:=by intro h;rw [h] at hb;cases hb
 have hn':¬ F.name = "runtime.NumGoroutine":=by simpa using hn
 have hr:(invoke (.fn (.func wh) #[]) xs).runT P W #[] = (.ok (.enter wh xs) W,#[]):=by
  unfold invoke callFunc program
  simp only [bind,Sem.bind,pure,Sem.runT,hF]
  rw [if_neg (by simpa using hn),if_neg (by simpa using hb')]
  simp [Sem.runT]
 simp only [stepG,born,G,unwind,callDeferred,hr,GStep.after,qde,qap,Array.append_empty]
 rfl
theorem qws {ops:Array Oper} {ts:Array Value} {F:Func} (hF:P.funcs[wh]? = some F) (hres:F.results = #[]):QuitsIn P 4 (G ⟨wh,ts,[.inRegion ops []],[],.run,.deferred,none⟩ [qap P]):=by
 have hz:¬ P.funcs.size < P.funcs.size:=Nat.lt_irrefl _
 refine QuitsIn.ctl (g':=G ⟨wh,ts,[],[],.run,.deferred,none⟩ [qap P]) rfl (fun w=>by simp [stepG,G,stepG.exec]) ?_
 refine QuitsIn.ctl (g':=G ⟨wh,ts,[],[],.returning,.deferred,none⟩ [qap P]) rfl (fun w=>by simp [stepG,G,stepG.exec]) ?_
 refine QuitsIn.ctl (g':=G (qap P) []) rfl (fun w=>?_) ?_
 ·have hr:(results F ts).runT P w #[] = (.ok undef w,#[]):=by
   unfold results
   rw [hres,Array.mapM_eq_mapM_toList]
   rfl
  simp only [stepG,G,unwind,hF,hr,GStep.after,qde,doReturn,qap,goexitEntry,Array.append_empty]
 ·refine QuitsIn.ctl (g':={ G (qap P) [] with status:=.finished }) rfl (fun w=>?_) rfl
  have e:P.funcs[P.funcs.size]? = none:=by simp
  simp only [stepG,G,unwind,qap,goexitEntry,Frame.catches,e]
  rfl
end
end Go.Proofs.Ytcdclihinmdgiaa.sq
namespace Go.Proofs.Ytcdclihinmdgiaa.sq
open Go Go.Conc
set_option linter.unusedVariables false
def jv (w W:World):Tape:=fun i q=>W.tape (W.drawn + (i - w.drawn)) q
theorem qh4 (w W:World):qkt (qj (jv w W) w) W:=fun i q=>by
 show W.tape (W.drawn + (w.drawn + i - w.drawn)) q = _
 rw [Nat.add_sub_cancel_left]
def CE (w W:World) (a b:Nat):Prop:=∃ cap x s e tm s' e' tm',w.heap[a]? = some (.chan cap #[] x s e tm)/\W.heap[b]? = some (.chan 0 #[] x s' e' tm')
inductive EvT (T H:Nat->Prop):Event->Prop
 | cell {b:Nat} (o:Nat) (s:Option Nat) (wr:Bool) (h:T b) (hn:¬ H b):EvT T H ⟨.cell ⟨b,o,s⟩,wr,false⟩
 | obj {b:Nat} (wr:Bool) (h:T b) (hn:¬ H b):EvT T H ⟨.obj b,wr,false⟩
 | look {b:Nat} (h:T b) (hh:H b):EvT T H ⟨.obj b,false,true⟩
 | mark (m:Mark) (hm:m = .noRoom\/∃ f,m = .extern f):EvT T H ⟨.mark m,false,true⟩
theorem qpr.evT [Cal] {β:Bl} {T H:Nat->Prop} (hb:∀ a b k,β a b k->T b/\(H b ↔ k = .chan)) {e:Event} (h:qpr β e):EvT T H e:=by
 cases h with
 | cell o s wr h hk=>exact .cell o s wr (hb _ _ _ h).1 (fun x=>hk ((hb _ _ _ h).2.1 x))
 | obj wr h hk=>exact .obj wr (hb _ _ _ h).1 (fun x=>hk ((hb _ _ _ h).2.1 x))
 | look h=>exact .look (hb _ _ _ h).1 ((hb _ _ _ h).2.2 rfl)
 | mark m hm=>exact .mark m hm
def grow (T:Nat->Prop) (W W':World):Nat->Prop:=fun b=>T b\/(W.heap.size<=b/\b < W'.heap.size)
structure Mine [Cal] (T H:Nat->Prop) (W W':World):Prop where
 sz:W.heap.size<=W'.heap.size
 off:∀ b,b < W.heap.size->(¬ T b\/H b)->W'.heap[b]? = W.heap[b]?
 old:∀ b,b < W.heap.size->b < Cal.old->W'.heap[b]? = W.heap[b]?
 tape:W'.tape = W.tape
 os:W'.os = W.os
 out:W'.output = W.output
structure MP [Cal] (K:FuncId->Prop) (P:Program) (H T:Nat->Prop) (ex:Nat->Nat->Prop) (s:St) (fr:Frame) (csR:List Frame) (W:World):Prop where
 ex:∃ β,HR β s.w W/\qjh K P SpM [] [] β s.f s.cs fr csR/\(∀ a b k,β a b k->T b/\(H b ↔ k = .chan)/\(b < Cal.old->k.qdi = true))/\(∀ a b,β a b .chan->ex a b\/CE s.w W a b)/\∀ a b,ex a b->β a b .chan
section
variable [Cal] {K:FuncId->Prop} {Pa Pr:Program} {Sp:Oper->Oper->Prop} {H T:Nat->Prop} {ex:Nat->Nat->Prop} {bA bR:List Frame}
theorem qox {β β':Bl} {w W w' W':World} (hr:HR β w W) (r:Ran β β' w W w' W') (hH:∀ b,H b->b < W.heap.size) (hO:Cal.old<=W.heap.size) (hb:∀ a b k,β a b k->T b/\(H b ↔ k = .chan)/\(b < Cal.old->k.qdi = true)):(∀ a b k,β' a b k->grow T W W' b/\(H b ↔ k = .chan)/\(b < Cal.old->k.qdi = true))/\Mine T H W W':=by
 refine ⟨fun a b k h=>?_,r.SZ,fun b hlt hq=>r.offW b hlt fun a k h=>.inl ?_,fun b hlt ho=>r.offW b hlt fun a k h=>.inr ((hb _ _ _ h).2.2 ho),r.TAPE,r.os,r.out⟩
 ·rcases r.fresh a b k h with x | ⟨x,y,z⟩
  ·exact ⟨.inl (hb _ _ _ x).1,(hb _ _ _ x).2⟩
  ·exact ⟨.inr ⟨y,(r.hr.lt h).2⟩,⟨fun q=>absurd (hH b q) (Nat.not_lt.2 y),fun q=>absurd q z⟩,fun q=>absurd (Nat.lt_of_lt_of_le q hO) (Nat.not_lt.2 y)⟩
 ·rcases hq with q | q
  ·exact absurd (hb _ _ _ h).1 q
  ·exact (hb _ _ _ h).2.1.1 q
theorem qtt {β β':Bl} {w W w' W':World} (hr:HR β w W) (r:Ran β β' w W w' W') {a b:Nat} (h:β' a b .chan):β a b .chan/\w'.heap[a]? = w.heap[a]?/\W'.heap[b]? = W.heap[b]?:=by
 rcases r.fresh a b _ h with x | ⟨_,_,z⟩
 ·have lt:=hr.lt x
  refine ⟨x,r.offw a lt.1 fun b' k h'=>.inl (hr.inj.fn x h').2.symm,r.offW b lt.2 fun a' k h'=>.inl ?_⟩
  rcases hr.inj.inj x h' with e | ⟨e,_⟩
  ·subst e;exact (hr.inj.fn x h').2.symm
  ·cases e
 ·exact absurd rfl z
theorem qoy (S:je K Pa Pr Sp) (hsp:∀ o o',Sp o o'->bn Pa o.op = false) {β:Bl} {s:St} {fr:Frame} {csR:List Frame} {W:World} (hr:HR β s.w W)
  (h:qjh K Pa Sp bA bR β s.f s.cs fr csR) {f':Frame} {cs':List Frame} {w':World} {es:Array Event} (hord:∀ o o',opAt s.f = some o->¬ Sp o o') (hbot:s.f.mode = .returning->s.cs ≠ bA)
  (hs:stepG Pa true (G s.f (s.cs ++ [base Pa])) (qj (jv s.w W) s.w) = .go (G f' (cs' ++ [base Pa])) w' es) (hnp:f'.mode = .run\/f'.mode = .returning) (main':Bool) :
  ∃ β' fr' csR' W' es',stepG Pr main' (G fr csR) W = .go (G fr' csR') W' es'/\qjh K Pa Sp bA bR β' f' cs' fr' csR'/\Ran β β' (qj (jv s.w W) s.w) W w' W'/\∀ e ∈ es',qpr β' e:=by
 have hf:=h.top.1
 have hord':∀ o,opAt s.f = some o->bn Pa o.op = true:=fun o ho=>by
  obtain ⟨o',_,r⟩:=qg3 hf ho
  rcases r.op with ⟨_,z⟩ | z
  ·exact z
  ·exact absurd z (hord o o' ho)
 exact q0g S hsp (w:=qj (jv s.w W) s.w) ⟨hr.inj,hr.at_⟩ (qh4 _ _) h hord' hbot hs hnp
theorem MP.ord (S:je K Pa Pr SpM) {s:St} {fr:Frame} {csR:List Frame} {W:World} (h:MP K Pa H T ex s fr csR W) (hH:∀ b,H b->b < W.heap.size) (hO:Cal.old<=W.heap.size) {f':Frame} {cs':List Frame} {w':World} {es:Array Event}
  (hord:∀ o o',opAt s.f = some o->¬ SpM o o') (hbot:s.f.mode = .returning->s.cs ≠ [])
  (hs:stepG Pa true (G s.f (s.cs ++ [base Pa])) (qj (jv s.w W) s.w) = .go (G f' (cs' ++ [base Pa])) w' es) (hnp:f'.mode = .run\/f'.mode = .returning) :
  ∃ fr' csR' W' es',stepG Pr true (G fr csR) W = .go (G fr' csR') W' es'/\MP K Pa H (grow T W W') ex ⟨f',cs',w'⟩ fr' csR' W'/\Mine T H W W'/\(∀ e ∈ es',EvT (grow T W W') H e)/\∀ a b,ex a b->w'.heap[a]? = s.w.heap[a]?:=by
 obtain ⟨β,hr,hst,hb,hc,hl⟩:=h.ex
 obtain ⟨β',fr',csR',W',es',e1,e2,e3,e4⟩:=qoy S (fun o o' h=>h.not) hr hst hord hbot hs hnp true
 have hr':HR β (qj (jv s.w W) s.w) W:=⟨hr.inj,hr.at_⟩
 obtain ⟨t1,t2⟩:=qox hr' e3 hH hO hb
 refine ⟨fr',csR',W',es',e1,⟨β',e3.hr,e2,t1,fun a b hab=>?_,fun a b hab=>e3.ext _ _ _ (hl a b hab)⟩,t2,fun e he=>(e4 e he).evT fun a b k q=>⟨(t1 a b k q).1,(t1 a b k q).2.1⟩,fun a b hab=>(qtt hr' e3 (e3.ext _ _ _ (hl a b hab))).2.1⟩
 obtain ⟨x,y,z⟩:=qtt hr' e3 hab
 refine (hc a b x).imp id fun q=>?_
 obtain ⟨cap,x,sn,en,tm,sn',en',tm',q1,q2⟩:=q
 exact ⟨cap,x,sn,en,tm,sn',en',tm',by rw [show w'.heap[a]? = s.w.heap[a]? from y];exact q1,by rw [z];exact q2⟩
theorem MP.rest {s:St} {fr:Frame} {csR:List Frame} {W W':World} {ac c:Nat} (h:MP K Pa H T (fun a b=>a = ac/\b = c) s fr csR W) (hT:∀ b,T b->b ≠ c->W'.heap[b]? = W.heap[b]?) (hH:H c) (hc:∃ cap buf x sn en tm,W'.heap[c]? = some (.chan cap buf x sn en tm)):MP K Pa H T (fun a b=>a = ac/\b = c) s fr csR W':=by
 obtain ⟨β,hr,hst,hb,hce,hl⟩:=h.ex
 refine ⟨β,⟨hr.inj,fun a b k hab=>?_⟩,hst,hb,fun a b hab=>?_,hl⟩
 ·obtain ⟨o,o',h1,h2,h3⟩:=hr.at_ a b k hab
  by_cases e:b = c
  ·subst e
   obtain ⟨cap,buf,x,sn,en,tm,hc⟩:=hc
   obtain rfl:=(hb _ _ _ hab).2.1.1 hH
   cases h3 with
   | chan c1 c2 b1 b2 x1 x2 s1 s2 r1 r2 t1 t2 hcl=>exact ⟨_,_,h1,hc,.chan _ _ _ _ _ _ _ _ _ _ _ _ hcl⟩
  ·exact ⟨o,o',h1,by rw [hT b (hb _ _ _ hab).1 e];exact h2,h3⟩
 ·rcases hce a b hab with z | ⟨cap,x,sn,en,tm,sn',en',tm',q1,q2⟩
  ·exact .inl z
  ·by_cases e:b = c
   ·subst e
    rcases hr.inj.inj hab (hl ac b ⟨rfl,rfl⟩) with z | ⟨z,_⟩
    ·exact .inl ⟨z,rfl⟩
    ·cases z
   ·exact .inr ⟨cap,x,sn,en,tm,sn',en',tm',q1,by rw [hT b (hb _ _ _ hab).1 e];exact q2⟩
end
end Go.Proofs.Ytcdclihinmdgiaa.sq
namespace Go.Proofs.Ytcdclihinmdgiaa.sq
open Go Go.Conc
set_option linter.unusedVariables false
theorem qxt [Cal]:∀ (n:Nat) {β:Bl} {v v':Value},clo n v = true->VR β v v'->v' = v:=by
 intro n
 induction n with
 | zero=>intro β v v' h;simp [clo] at h
 | succ n ih =>
  intro β v v' h hv
  have row:∀ {xs ys:Array Value},xs.all (clo n) = true->xs.size = ys.size->(∀ (i:Nat) (v v':Value),xs[i]? = some v->ys[i]? = some v'->VR β v v')->ys = xs:=by
   intro xs ys hx hs hat
   apply Array.ext_getElem?
   intro i
   cases e:xs[i]? with
   | none =>
    rw [Array.getElem?_eq_none_iff] at e ⊢
    omega
   | some u =>
    have hi:i < ys.size:=by rw [<-hs];exact (Array.getElem?_eq_some_iff.1 e).1
    have e2:ys[i]? = some ys[i]:=Array.getElem?_eq_getElem hi
    rw [e2,ih (by rw [Array.all_eq_true_iff_forall_mem] at hx;exact hx u (Array.mem_of_getElem? e)) (hat i _ _ e e2)]
  unfold clo at h
  cases hv with
  | agg h1 h2=>rw [row h h1 h2]
  | tuple h1 h2=>rw [row h h1 h2]
  | ptr=>cases h
  | slice=>cases h
  | map=>cases h
  | chan=>cases h
  | func=>cases h
  | _=>rfl
section
variable [Cal] {K:FuncId->Prop} {Pa Pr:Program} {H T:Nat->Prop} {ex:Nat->Nat->Prop} {s s':St} {fr:Frame} {csR:List Frame} {W:World}
theorem MP.plain (h:MP K Pa H T ex s fr csR W):Plain fr:=by
 obtain ⟨β,hr,hst,hb,hc,hl⟩:=h.ex
 exact ⟨hst.top.1.kind',hst.top.1.round'⟩
theorem MP.qg5 (h:MP K Pa H T ex s fr csR W) {o:Oper} (ho:opAt s.f = some o) (hn:bn Pa o.op = false):∃ o',opAt fr = some o'/\SpM o o'/\o'.dst = o.dst:=by
 obtain ⟨β,hr,hst,hb,hc,hl⟩:=h.ex
 obtain ⟨o',e,r⟩:=qg3 hst.top.1 ho
 refine ⟨o',e,?_,r.dst.symm⟩
 rcases r.op with ⟨_,z⟩ | z
 ·rw [hn] at z;cases z
 ·exact z
theorem MP.make (S:je K Pa Pr SpM) (h:MP K Pa H T ex s fr csR W) (hH:∀ b,H b->b < W.heap.size) (hO:Cal.old<=W.heap.size) {o:Oper} {t:TypeId} {x:Operand} (n:Nat) (ho:opAt s.f = some o) (hop:o.op = .makeChan t x) (hty:qmv Pa t) (τ:Tape) :
  ∃ W',stepG Pr true (G fr csR) W = .go (G (fr.finish (.chan (some W.heap.size))) csR) W' #[] ∧
   MP K Pa (fun b=>H b\/b = W.heap.size) (grow T W W') ex ⟨s.f.finish (.chan (some s.w.heap.size)),s.cs,{ (qj τ s.w) with heap:=s.w.heap.push (.chan n #[] false 0 0 false) }⟩ (fr.finish (.chan (some W.heap.size))) csR W'/\Mine T H W W'/\W'.heap.size = W.heap.size + 1:=by
 obtain ⟨o',e,sp,_⟩:=h.qg5 ho (by rw [hop];rfl)
 have hp:=h.plain
 obtain ⟨β,hr,hst,hb,hc,hl⟩:=h.ex
 cases sp with
 | go h1=>rw [hop] at h1;cases h1
 | recv h1=>rw [hop] at h1;cases h1
 | @make _ t' n' h1 h2 =>
  rw [hop] at h1
  cases h1
  refine ⟨_,qtr hp e h2 (hty.real S.toAlike),⟨β.new s.w.heap.size W.heap.size .chan,?_,?_,?_,?_,fun a b hab=>.inl (hl a b hab)⟩,⟨by simp,fun b hlt _=>?_,fun b hlt _=>?_,rfl,rfl,rfl⟩,by simp⟩
  ·have hn:=HR.new (w:=s.w) (W:=W) hr (k:=.chan) (.chan n 0 #[] #[] false false 0 0 0 0 false false (by simp))
   exact ⟨hn.inj,hn.at_⟩
  ·have ext:Ext β (β.new s.w.heap.size W.heap.size .chan):=fun _ _ _ x=>.inl x
   exact (hst.mono ext).swap ((hst.top.1.mono ext).finish (.chan (k:=.chan) (.inr ⟨rfl,rfl,rfl⟩))) (by rw [jf];exact hst.top.2) (by unfold Frame.finish;split <;> rfl)
  ·rintro a b k (q | ⟨rfl,rfl,rfl⟩)
   ·have lt:=(hr.lt q).2
    exact ⟨.inl (hb _ _ _ q).1,⟨fun z=>(hb _ _ _ q).2.1.1 (z.resolve_right (Nat.ne_of_lt lt)),fun z=>.inl ((hb _ _ _ q).2.1.2 z)⟩,(hb _ _ _ q).2.2⟩
   ·exact ⟨.inr ⟨Nat.le_refl _,by simp⟩,⟨fun _=>rfl,fun _=>.inr rfl⟩,fun z=>absurd (Nat.lt_of_lt_of_le z hO) (Nat.lt_irrefl _)⟩
  ·rintro a b (q | ⟨rfl,rfl,_⟩)
   ·have lt:=hr.lt q
    refine (hc a b q).imp id ?_
    rintro ⟨cap,x,sn,en,tm,sn',en',tm',q1,q2⟩
    refine ⟨cap,x,sn,en,tm,sn',en',tm',?_,?_⟩
    ·simp only [Array.getElem?_push,Nat.ne_of_lt lt.1,if_false];exact q1
    ·simp only [Array.getElem?_push,Nat.ne_of_lt lt.2,if_false];exact q2
   ·exact .inr ⟨n,false,0,0,false,0,0,false,by simp,by simp⟩
  ·simp [Array.getElem?_push,Nat.ne_of_lt hlt]
  ·simp [Array.getElem?_push,Nat.ne_of_lt hlt]
theorem qbp {β:Bl} {fa:Frame} {Sp:Oper->Oper->Prop} (hr:HR β s.w W) (hf:FrR Pa Sp β fa fr) {a:Tmp} {r:Nat} (hv:fa.eval (.tmp a) = .chan (some r)) {o:Obj} (ho:s.w.heap[r]? = some o) (hcha:o.isChan = true) :
  ∃ c,fr.eval (.tmp a) = .chan (some c)/\β r c .chan:=by
 have:=hf.ρ (.tmp a) rfl
 rw [hv] at this
 generalize hvr:fr.eval (.tmp a) = vr at this
 cases this with
 | @chan _ c k hb =>
  obtain ⟨o1,o2,h1,h2,h3⟩:=hr.at_ _ _ _ hb
  rw [ho] at h1
  cases h1
  refine ⟨c,rfl,?_⟩
  cases h3 with
  | chan=>exact hb
  | _=>cases hcha
theorem MP.over (S:je K Pa Pr SpM) (h:MP K Pa H T (fun _ _=>False) s fr csR W) {o:Oper} {t:TypeId} {x:Operand} {z:Value} {r cap sn en:Nat} {tm:Bool} (ho:opAt s.f = some o) (hop:o.op = .recv t x true) (hv:s.f.eval x = .chan (some r))
  (hre:s.w.heap[r]? = some (.chan cap #[] true sn en tm)) (hz:clo 20 z = true) (hzz:qcg Pa t z) (τ:Tape) :
  ∃ c sn' en' tm',stepG Pr true (G fr csR) W = .comm (G fr csR) #[rcase c z] true (.recv true) W #[]/\W.heap[c]? = some (.chan 0 #[] true sn' en' tm')/\(∃ a,x = .tmp a/\fr.eval (.tmp a) = .chan (some c))/\H c ∧
   MP K Pa H T (fun _ _=>False) ⟨s.f.finish (.tuple #[z,.bool false]),s.cs,qj τ s.w⟩ (fr.finish (.tuple #[z,.bool false])) csR W:=by
 obtain ⟨o',e,sp,_⟩:=h.qg5 ho (by rw [hop];rfl)
 have hp:=h.plain
 obtain ⟨β,hr,hst,hb,hc,hl⟩:=h.ex
 cases sp with
 | make h1=>rw [hop] at h1;cases h1
 | go h1=>rw [hop] at h1;cases h1
 | @recv t' a h1 =>
  rw [hop] at h1
  cases h1
  obtain ⟨c,hvc,hbc⟩:=qbp hr hst.top.1 hv hre rfl
  rcases hc r c hbc with q | ⟨cap2,x2,sn2,en2,tm2,sn',en',tm',q1,q2⟩
  ·exact q.elim
  ·rw [hre] at q1
   cases q1
   refine ⟨c,sn',en',tm',qg4 hp e hop (hzz.real S.toAlike) hvc,q2,⟨a,rfl,hvc⟩,(hb _ _ _ hbc).2.1.2 rfl,⟨β,⟨hr.inj,hr.at_⟩,?_,hb,hc,hl⟩⟩
   refine hst.swap (hst.top.1.finish ?_) (by rw [jf];exact hst.top.2) (by unfold Frame.finish;split <;> rfl)
   exact (AR.push (AR.one (qcd 20 z hz)) (.bool false)).tuple
theorem MP.recv (S:je K Pa Pr SpM) {c ac:Nat} (h:MP K Pa H T (fun a b=>a = ac/\b = c) s fr csR W) {o:Oper} {t:TypeId} {x:Operand} {v:Value} {cap sn en:Nat} {buf:Array Value} {cl tm:Bool} (ho:opAt s.f = some o) (hop:o.op = .recv t x true) (hv:s.f.eval x = .chan (some ac))
  (hre:s.w.heap[ac]? = some (.chan cap buf cl sn en tm)) (hb0:buf[0]? = some v) (hzz:∃ z,qcg Pa t z) (hcl:∀ u ∈ buf,clo 20 u = true) (τ:Tape) :
  (∃ z,stepG Pr true (G fr csR) W = .comm (G fr csR) #[rcase c z] true (.recv true) W #[]) ∧
   MP K Pa H T (fun a b=>a = ac/\b = c) ⟨s.f.finish (.tuple #[v,.bool true]),s.cs,{ (qj τ s.w) with heap:=s.w.heap.setIfInBounds ac (.chan cap (buf.extract 1 buf.size) cl sn (en + 1) tm) }⟩ (fr.finish (.tuple #[v,.bool true])) csR W:=by
 obtain ⟨o',e,sp,_⟩:=h.qg5 ho (by rw [hop];rfl)
 have hp:=h.plain
 obtain ⟨β,hr,hst,hb,hc,hl⟩:=h.ex
 cases sp with
 | make h1=>rw [hop] at h1;cases h1
 | go h1=>rw [hop] at h1;cases h1
 | @recv t' a h1 =>
  rw [hop] at h1
  cases h1
  obtain ⟨c',hvc,hbc⟩:=qbp hr hst.top.1 hv hre rfl
  obtain rfl:c' = c:=(hr.inj.fn hbc (hl ac c ⟨rfl,rfl⟩)).1
  obtain ⟨z,hz⟩:=hzz
  refine ⟨⟨z,qg4 hp e hop (hz.real S.toAlike) hvc⟩,⟨β,⟨hr.inj,fun a' b k hab=>?_⟩,?_,hb,fun a' b hab=>?_,hl⟩⟩
  ·obtain ⟨o1,o2,h1,h2,h3⟩:=hr.at_ a' b k hab
   by_cases ea:a' = ac
   ·subst ea
    obtain ⟨rfl,rfl⟩:=hr.inj.fn hbc hab
    rw [hre] at h1
    cases h1
    have lt:=(hr.lt hab).1
    cases h3 with
    | chan c1 c2 b1 b2 x1 x2 s1 s2 r1 r2 t1 t2 _ =>
     refine ⟨.chan cap (buf.extract 1 buf.size) cl sn (en + 1) tm,_,?_,h2,.chan _ _ _ _ _ _ _ _ _ _ _ _ fun u hu=>?_⟩
     ·show (s.w.heap.setIfInBounds a' _)[a']? = _
      exact Array.getElem?_setIfInBounds_self_of_lt lt
     ·obtain ⟨i,hi,rfl⟩:=Array.mem_iff_getElem.1 hu
      refine hcl _ ?_
      rw [Array.getElem_extract]
      exact Array.getElem_mem _
   ·refine ⟨o1,o2,?_,h2,h3⟩
    show (s.w.heap.setIfInBounds ac _)[a']? = _
    rw [Array.getElem?_setIfInBounds_ne (Ne.symm ea)]
    exact h1
  ·refine hst.swap (hst.top.1.finish ?_) (by rw [jf];exact hst.top.2) (by unfold Frame.finish;split <;> rfl)
   exact (AR.push (AR.one (qcd 20 v (hcl v (Array.mem_of_getElem? hb0)))) (.bool true)).tuple
  ·by_cases ea:a' = ac
   ·subst ea
    exact .inl ⟨rfl,(hr.inj.fn hbc hab).1.symm⟩
   ·refine (hc a' b hab).imp id ?_
    rintro ⟨cap2,x2,sn2,en2,tm2,sn',en',tm',q1,q2⟩
    refine ⟨cap2,x2,sn2,en2,tm2,sn',en',tm',?_,q2⟩
    show (s.w.heap.setIfInBounds ac _)[a']? = _
    rw [Array.getElem?_setIfInBounds_ne (Ne.symm ea)]
    exact q1
end
end Go.Proofs.Ytcdclihinmdgiaa.sq
namespace Go.Proofs.Ytcdclihinmdgiaa.sq
open Go Go.Conc
set_option linter.unusedVariables false
variable [Cal]
def isGo (o:Oper):Bool:=match o.op with
 | .call c=>match c.callee with
  | .value (.func f)=>f == nfn + 1
  | _=>false
 | _=>false
def noG:Code->Bool
 | .region _ ops _=>ops.all fun o=>!isGo o
 | .seq a b=>noG a && noG b
 | .cond _ a b=>noG a && noG b
 | .block _ c | .loop c=>noG c
 | .skip | .label _ | .exit _ | .ret | .refuse _=>true
 | _=>false
def qla (ops:Array Oper) (l:List Nat):Bool:=l.dropLast.all fun i=>(ops[i]?).all fun o=>!isGo o
def noJ:Item->Bool
 | .code c | .inLoop c=>noG c
 | .inBlock _=>true
 | .inRegion ops _=>ops.all fun o=>!isGo o
 | _=>false
def NG (k:List Item):Bool:=k.all noJ
theorem qh5 {ops:Array Oper} {i:Nat} {l:List Nat} (h:qla ops (i :: l) = true):qla ops l = true:=by
 unfold qla at *
 cases l with
 | nil=>rfl
 | cons j l =>
  simp only [List.dropLast_cons_cons,List.all_cons,Bool.and_eq_true] at h
  exact h.2
theorem q2q {a q:List Item} (h:NG (a ++ q) = true):NG q = true:=by
 unfold NG at *
 rw [List.all_append,Bool.and_eq_true] at h
 exact h.2
theorem q2r {f:Frame} {k k':List Item} (e:Evo f k k') (h:NG k = true):NG k' = true:=by
 cases e with
 | nil=>exact h
 | exit hx =>
  obtain ⟨a,e⟩:=qad hx
  simp only [NG,List.all_cons,Bool.and_eq_true] at h
  have h2:NG _ = true:=h.2
  rw [e] at h2
  exact q2q h2
 | @cond c t a b k hc =>
  simp only [NG,List.all_cons,noJ,noG,Bool.and_eq_true] at h ⊢
  cases t
  ·exact ⟨h.1.2,h.2⟩
  ·exact ⟨h.1.1,h.2⟩
 | seq a b k =>
  simp only [NG,List.all_cons,noJ,noG,Bool.and_eq_true] at h ⊢
  exact ⟨h.1.1,h.1.2,h.2⟩
 | block id c k =>
  simp only [NG,List.all_cons,noJ,noG,Bool.and_eq_true] at h ⊢
  exact ⟨h.1,trivial,h.2⟩
 | loop c k =>
  simp only [NG,List.all_cons,noJ,noG,Bool.and_eq_true] at h ⊢
  exact ⟨h.1,h.1,h.2⟩
 | lp c k =>
  simp only [NG,List.all_cons,noJ,noG,Bool.and_eq_true] at h ⊢
  exact ⟨h.1,h.1,h.2⟩
 | ret k=>exact h
 | region id ops k=>exact h
 | drawn id ops l k=>exact h
 | over ops i l k=>exact h
 | _ =>
  simp only [NG,List.all_cons,Bool.and_eq_true] at h
  exact h.2
theorem qtu {P:Program} {Sp:Oper->Oper->Prop} {β:Bl} {f fr:Frame} (hf:FrR P Sp β f fr) (h:NG f.todo = true) (v:Value):NG (f.finish v).todo = true:=by
 obtain ⟨fn,ts,ts',k,k',m,kd,rfl,rfl,ta,hkd,hk,hm⟩:=hf.parts
 cases hk with
 | nil=>exact h
 | cons hi hk =>
  cases hi with
  | inRegion l ho =>
   cases l with
   | nil=>exact h
   | cons i l=>exact h
  | _=>exact h
inductive qm2 (D:ji) (r5:Code):Code->Prop
 | here:qm2 D r5 (.seq r5 D.C6)
 | seq {a c:Code} (ha:noG a = true) (h:qm2 D r5 c):qm2 D r5 (.seq a c)
inductive GT (D:ji) (id5:Nat):List Item->Prop
 | no {k:List Item} (h:NG k = true):GT D id5 k
 | spine {p:List Item} {c:Code} (h:NG p = true) (hc:qm2 D (.region id5 D.ops5 false) c):GT D id5 (p ++ [.code c])
 | at_:GT D id5 [.code (.region id5 D.ops5 false),.code D.C6]
 | in_ (l:List Nat) (h:qla D.ops5 l = true):GT D id5 [.inRegion D.ops5 l,.code D.C6]
structure GoT (D:ji):Prop where
 arg:∀ (i:Nat) (o:Oper),D.ops5[i]? = some o->isGo o = true->o.dst = none/\∃ c x y,o.op = .call c/\c.args = #[x,y,.tmp D.tc,.const (.bool true),.const (.bool false)]
 last:qla D.ops5 (List.range D.ops5.size) = true
 rest:noG D.C6 = true
theorem qlb {a q p:List Item} {c:Code} (h:p ++ [.code c] = a ++ q) (hp:NG p = true):NG q = true\/∃ p',q = p' ++ [.code c]/\NG p' = true:=by
 induction a generalizing p with
 | nil=>exact .inr ⟨p,by simpa using h.symm,hp⟩
 | cons x a ih =>
  cases p with
  | nil =>
   left
   simp at h
   obtain ⟨_,h2⟩:=h
   have:q = []:=h2.2
   subst this
   rfl
  | cons y p =>
   simp only [List.cons_append,List.cons.injEq] at h
   simp only [NG,List.all_cons,Bool.and_eq_true] at hp
   exact ih h.2 hp.2
theorem q0j {f:Frame} {x:Item} {k k':List Item} (e:Evo f (x :: k) k') (hx:NG [x] = true):(∃ y,k' = y ++ k/\NG y = true)\/∃ a,k = a ++ k':=by
 have h1:=hx
 simp only [NG,List.all_cons,List.all_nil,Bool.and_true] at h1
 cases e with
 | blk id k=>exact .inr ⟨[],rfl⟩
 | lp c k=>exact .inl ⟨[.code c,.inLoop c],rfl,by simp only [NG,List.all_cons,List.all_nil,noJ,Bool.and_true] at h1 ⊢;simp [h1]⟩
 | skip k=>exact .inr ⟨[],rfl⟩
 | label l k=>exact .inr ⟨[],rfl⟩
 | seq a b k=>exact .inl ⟨[.code a,.code b],rfl,by simpa [NG,noJ,noG] using h1⟩
 | @cond c t a b k hc =>
  refine .inl ⟨[.code (if t then a else b)],rfl,?_⟩
  simp only [noJ,noG,Bool.and_eq_true] at h1
  cases t
  ·simp [NG,noJ,h1.2]
  ·simp [NG,noJ,h1.1]
 | block id c k=>exact .inl ⟨[.code c,.inBlock id],rfl,by simpa [NG,noJ,noG] using h1⟩
 | loop c k=>exact .inl ⟨[.code c,.inLoop c],rfl,by simpa [NG,noJ,noG] using h1⟩
 | exit hx =>
  obtain ⟨a,e⟩:=qad hx
  exact .inr ⟨a,e⟩
 | ret k=>exact .inl ⟨[.code .ret],rfl,rfl⟩
 | region id ops k=>exact .inl ⟨[.inRegion ops _],rfl,by simpa [NG,noJ,noG] using h1⟩
 | drawn id ops l k=>exact .inl ⟨[.inRegion ops _],rfl,by simpa [NG,noJ,noG] using h1⟩
 | pop ops k=>exact .inr ⟨[],rfl⟩
 | over ops i l k=>exact .inl ⟨[.inRegion ops _],rfl,by simpa [NG,noJ,noG] using h1⟩
theorem q2s {D:ji} {id5:Nat} (hD:GoT D) {f:Frame} {k k':List Item} (e:Evo f k k') (h:GT D id5 k):GT D id5 k':=by
 generalize hk:k = kk at h
 cases h with
 | no h=>subst hk;exact .no (q2r e h)
 | @spine p c hp hc =>
  cases p with
  | nil =>
   simp only [List.nil_append] at hk
   subst hk
   cases hc with
   | here=>cases e with | seq=>exact .at_
   | @seq a c ha hc=>cases e with | seq=>exact .spine (p:=[.code a]) (by simpa [NG,noJ] using ha) hc
  | cons x p =>
   simp only [List.cons_append] at hk
   subst hk
   simp only [NG,List.all_cons,Bool.and_eq_true] at hp
   rcases q0j e (by simpa [NG] using hp.1) with ⟨y,rfl,hy⟩ | ⟨a,ha⟩
   ·rw [<-List.append_assoc]
    refine .spine ?_ hc
    simp only [NG,List.all_append,Bool.and_eq_true]
    exact ⟨hy,hp.2⟩
   ·rcases qlb ha hp.2 with z | ⟨p',rfl,z⟩
    ·exact .no z
    ·exact .spine z hc
 | at_=>subst hk;cases e with | region=>exact .in_ _ hD.last
 | in_ l hl =>
  subst hk
  cases e with
  | pop=>exact .no (by simpa [NG,noJ] using hD.rest)
  | over ops i l=>exact .in_ l (qh5 hl)
theorem qg6 {D:ji} {id5:Nat} {P:Program} {Sp:Oper->Oper->Prop} {β:Bl} {f fr:Frame} (hf:FrR P Sp β f fr) (h:GT D id5 f.todo) (v:Value):GT D id5 (f.finish v).todo:=by
 generalize hk:f.todo = kk at h
 have keep:∀ {ops:Array Oper} {i:Nat} {l:List Nat} {k:List Item},f.todo = .inRegion ops (i :: l) :: k->(f.finish v).todo = .inRegion ops l :: k:=fun h=>(qac h v).1
 have same:(∀ ops i l k,f.todo ≠ .inRegion ops (i :: l) :: k)->(f.finish v).todo = f.todo:=by
  intro hne
  obtain ⟨fn,ts,ts',k,k',m,kd,rfl,rfl,ta,hkd,hk',hm⟩:=hf.parts
  cases hk' with
  | nil=>rfl
  | cons hi hk' =>
   cases hi with
   | inRegion l ho =>
    cases l with
    | nil=>rfl
    | cons i l=>exact absurd rfl (hne _ _ _ _)
   | _=>rfl
 cases h with
 | no h=>exact .no (qtu hf (by rw [hk];exact h) v)
 | @spine p c hp hc =>
  by_cases hex:∃ ops i l k,f.todo = .inRegion ops (i :: l) :: k
  ·obtain ⟨ops,i,l,k,e⟩:=hex
   rw [keep e]
   rw [e] at hk
   cases p with
   | nil=>simp at hk
   | cons x p =>
    simp only [List.cons_append,List.cons.injEq] at hk
    obtain ⟨rfl,rfl⟩:=hk
    exact .spine (p:=.inRegion ops l :: p) hp hc
  ·rw [same fun ops i l k e=>hex ⟨ops,i,l,k,e⟩,hk]
   exact .spine hp hc
 | at_=>rw [same fun ops i l k e=>by rw [hk] at e;simp at e,hk];exact .at_
 | in_ l hl =>
  cases l with
  | nil=>rw [same fun ops i l k e=>by rw [hk] at e;simp at e,hk];exact .in_ [] hl
  | cons i l=>rw [keep hk];exact .in_ l (qh5 hl)
theorem q31 {D:ji} {id5:Nat} {f:Frame} {o:Oper} (h:GT D id5 f.todo) (hC:noG D.C6 = true) (ho:opAt f = some o) (hg:isGo o = true):∃ i,f.todo = [.inRegion D.ops5 [i],.code D.C6]/\D.ops5[i]? = some o:=by
 obtain ⟨_,ops,i,l,k,ht,ho',_⟩:=zk ho
 rw [ht] at h
 have hne:(ops.all fun o=>!isGo o) = true->False:=fun ha=>by
  have:=Array.all_eq_true_iff_forall_mem.1 ha o (Array.mem_of_getElem? ho')
  rw [hg] at this;cases this
 generalize hk:(Item.inRegion ops (i :: l) :: k) = kk at h
 cases h with
 | no h =>
  subst hk
  simp only [NG,List.all_cons,noJ,Bool.and_eq_true] at h
  exact (hne h.1).elim
 | @spine p c hp hc =>
  cases p with
  | nil=>simp at hk
  | cons x p =>
   simp only [List.cons_append,List.cons.injEq] at hk
   obtain ⟨rfl,rfl⟩:=hk
   simp only [NG,List.all_cons,noJ,Bool.and_eq_true] at hp
   exact (hne hp.1).elim
 | at_=>simp at hk
 | in_ l' hl =>
  simp only [List.cons.injEq,Item.inRegion.injEq] at hk
  obtain ⟨⟨rfl,rfl⟩,rfl⟩:=hk
  cases l with
  | nil=>exact ⟨i,ht,ho'⟩
  | cons j l =>
   simp only [qla,List.dropLast_cons_cons,List.all_cons,Bool.and_eq_true,ho',Option.all_some,hg] at hl
   cases hl.1
end Go.Proofs.Ytcdclihinmdgiaa.sq
namespace Go.Proofs.Ytcdclihinmdgiaa.sq
open Go Go.Conc
set_option linter.unusedVariables false
variable [Cal]
structure MG (D:ji) (id5:Nat) (s:St):Prop where
 top:GT D id5 s.f.todo
 cs:∀ c ∈ s.cs,GT D id5 c.todo
def qwt (D:ji) (id5:Nat) (P:Program):Prop:=∀ g F c,Cal.ok g = true->P.funcs[g]? = some F->F.body = some c->qm2 D (.region id5 D.ops5 false) c\/noG c = true
section
variable {K:FuncId->Prop} {Pa Pr:Program} {H T:Nat->Prop} {ex:Nat->Nat->Prop} {s:St} {fr:Frame} {csR:List Frame} {W:World} {D:ji} {id5:Nat}
theorem qh6 (S:je K Pa Pr SpM) (h:MP K Pa H T ex s fr csR W) {f':Frame} {cs':List Frame} {w w':World} (hw:w.heap = s.w.heap) {es:Array Event} (hord:∀ o o',opAt s.f = some o->¬ SpM o o') (hbot:s.f.mode = .returning->s.cs ≠ [])
  (hs:stepG Pa true (G s.f (s.cs ++ [base Pa])) w = .go (G f' (cs' ++ [base Pa])) w' es) (hnp:f'.mode = .run\/f'.mode = .returning) :
  (cs' = s.cs/\opAt s.f = none/\Ctl s.f f')\/(cs' = s.cs/\∃ o v n,opAt s.f = some o/\(execOp s.f.eval o).run Pa w = .ok n w'/\(n = .value v\/n = .skip/\v = undef)/\f' = s.f.finish v) ∨
  (cs' = s.f :: s.cs/\∃ g xs o w2,f' = Frame.enter Pa g xs .normal/\Cal.ok g = true/\opAt s.f = some o/\(execOp s.f.eval o).run Pa w = .ok (.enter g xs) w2)\/(s.f.mode = .returning/\∃ c cs v cr β,s.cs = c :: cs/\cs' = cs/\f' = c.finish v/\FrR Pa SpM β c cr):=by
 obtain ⟨β,hr,hst,hb,hc,hl⟩:=h.ex
 obtain ⟨hf,hfn⟩:=hst.top
 have hr':HR β w W:=⟨hr.inj,fun a b k hab=>by rw [hw];exact hr.at_ a b k hab⟩
 rcases hf.run with hm | hm
 ·cases ho:opAt s.f with
  | none =>
   obtain ⟨f2,e7,ctl,_⟩:=qto hf hm (qaj hm ho) hs
   obtain ⟨rfl,h2⟩:=qdg e7
   exact .inl ⟨List.append_cancel_right h2,rfl,ctl⟩
  | some o =>
   obtain ⟨_,ops,i,l,k,ht',ho',hwt⟩:=zk ho
   have hok:bn Pa o.op = true:=by
    obtain ⟨o',_,r⟩:=qg3 hf ho
    rcases r.op with ⟨_,z⟩ | z
    ·exact z
    ·exact absurd z (hord o o' ho)
   have sr:=ko S.toAlike4 hok hf.ρ
   rw [pq Pa true (s.cs ++ [base Pa]) w hm hf.round ht' ho' hwt] at hs
   have hke:s.f.kind ≠ .early:=by rw [hf.kind];decide
   have hcall:∀ d b r s2 k,s.f.todo ≠ .call d b r s2 :: k:=by rw [ht'];simp
   cases hrun:(execOp s.f.eval o).run Pa w with
   | halt x w2 =>
    obtain ⟨esA,hra⟩:=qw hrun
    obtain ⟨c,hc⟩:=qev Pa (s.cs ++ [base Pa]) _ hra (sr.mild hr' hrun) hs
    rw [show (G f' (cs' ++ [base Pa])).frame = f' from rfl] at hc
    rw [hc] at hnp
    rcases hnp with z | z <;> cases z
   | ok n w2 =>
    obtain ⟨esA,hra⟩:=qw hrun
    obtain ⟨β',n',W',new,h1,h2,h3,h4⟩:=sr.sound (ES:=#[]) (W:={ W with tape:=fun i q=>w.tape (w.drawn + (i - W.drawn)) q }) (β:=β) ⟨hr'.inj,hr'.at_⟩ (.inl fun i q=>by simp) hrun
    have A:=jw Pa (s.cs ++ [base Pa]) _ hke hra hcall
    right
    cases h3 with
    | value hv =>
     rw [A.1 _ rfl] at hs
     obtain ⟨e1,e2,e3⟩:=qak hs
     subst e3
     exact .inl ⟨(List.append_cancel_right e2).symm,o,_,_,rfl,hrun,.inl rfl,e1.symm⟩
    | skip =>
     rw [A.2.1 rfl] at hs
     obtain ⟨e1,e2,e3⟩:=qak hs
     subst e3
     exact .inl ⟨(List.append_cancel_right e2).symm,o,_,_,rfl,hrun,.inr ⟨rfl,rfl⟩,e1.symm⟩
    | enter g hg hx =>
     rw [A.2.2 _ _ rfl] at hs
     obtain ⟨e1,e2,e3⟩:=qak hs
     exact .inr (.inl ⟨List.append_cancel_right (bs:=[base Pa]) (by rw [<-e2];rfl),g,_,o,w2,e1.symm,hg,rfl,hrun⟩)
 ·generalize hcs:s.cs = scs at hst hs hbot
  cases hst with
  | one _ _ _=>exact absurd rfl (hbot hm)
  | @more _ _ c cr cs csR _ _ hk hmc t =>
   rcases qcr (main:=true) (csA:=cs ++ [base Pa]) (w:=w) (ca:=c) S hf hm hfn with ⟨v,w2,es2,h⟩ | ⟨x,w2,es2,h⟩
   ·have hs':stepG Pa true (G s.f (c :: (cs ++ [base Pa]))) w = .go (G f' (cs' ++ [base Pa])) w' es:=hs
    rw [h] at hs'
    obtain ⟨e1,e2,e3⟩:=qak hs'
    exact .inr (.inr (.inr ⟨hm,c,cs,v,cr,β,rfl,(List.append_cancel_right e2).symm,e1.symm,t.top.1⟩))
   ·have hs':stepG Pa true (G s.f (c :: (cs ++ [base Pa]))) w = .go (G f' (cs' ++ [base Pa])) w' es:=hs
    rw [h] at hs';cases hs'
theorem MG.step (S:je K Pa Pr SpM) (hT:qwt D id5 Pa) (hD:GoT D) (h:MP K Pa H T ex s fr csR W) (hg:MG D id5 s) {f':Frame} {cs':List Frame} {w w':World} (hw:w.heap = s.w.heap) {es:Array Event} (hord:∀ o o',opAt s.f = some o->¬ SpM o o') (hbot:s.f.mode = .returning->s.cs ≠ [])
  (hs:stepG Pa true (G s.f (s.cs ++ [base Pa])) w = .go (G f' (cs' ++ [base Pa])) w' es) (hnp:f'.mode = .run\/f'.mode = .returning):MG D id5 ⟨f',cs',w'⟩:=by
 have k:=qh6 S h hw hord hbot hs hnp
 obtain ⟨β,hr,hst,hb,hc,hl⟩:=h.ex
 have hf:=hst.top.1
 rcases k with ⟨rfl,_,ctl⟩ | ⟨rfl,o,v,n,_,_,_,rfl⟩ | ⟨rfl,g,xs,o,w2,rfl,hgo,_⟩ | ⟨_,c,cs,v,cr,β2,e1,rfl,rfl,hcr⟩
 ·exact ⟨q2s hD ctl.evo hg.top,hg.cs⟩
 ·exact ⟨qg6 hf hg.top v,hg.cs⟩
 ·refine ⟨?_,fun c hc=>?_⟩
  ·obtain ⟨F,hF⟩:=S.some_ g (S.le (.inl hgo))
   show GT D id5 (Frame.enter Pa g xs .normal).todo
   unfold Frame.enter
   simp only [hF,Option.bind_some]
   cases hbd:F.body with
   | none=>exact .no rfl
   | some c =>
    rcases hT g F c hgo hF hbd with z | z
    ·exact .spine (p:=[]) rfl z
    ·exact .no (by simpa [NG,noJ] using z)
  ·rcases List.mem_cons.1 hc with z | z
   ·subst z;exact hg.top
   ·exact hg.cs c z
 ·exact ⟨qg6 hcr (hg.cs c (by rw [e1];simp)) v,fun x hx=>hg.cs x (by rw [e1];simp [hx])⟩
theorem Lp.step (S:je K Pa Pr SpM) (hD:D.Ok) (h:MP K Pa H T ex s fr csR W) {ch:Value} (hl:Lp D ch s.f) {f':Frame} {cs':List Frame} {w w':World} (hw:w.heap = s.w.heap) {es:Array Event} (hord:∀ o o',opAt s.f = some o->¬ SpM o o')
  (hs:stepG Pa true (G s.f (s.cs ++ [base Pa])) w = .go (G f' (cs' ++ [base Pa])) w' es) (hnp:f'.mode = .run\/f'.mode = .returning) (hnr:∀ o t x b,opAt s.f = some o->o.op ≠ .recv t x b):Lp D ch f'/\cs' = s.cs:=by
 have k:=qh6 S h hw hord (fun e=>by rw [hl.mode] at e;cases e) hs hnp
 obtain ⟨β,hr,hst,hb,hc,_⟩:=h.ex
 rcases k with ⟨rfl,ho,ctl⟩ | ⟨rfl,o,v,n,ho,hrun,hn,rfl⟩ | ⟨rfl,g,xs,o,w2,rfl,hgo,ho,hrun⟩ | ⟨hm,_⟩
 ·exact ⟨hl.ctl hD (qaj hl.mode ho) ctl,rfl⟩
 ·rcases hl.ord hD ho (fun t x b=>hnr o t x b ho) hrun with ⟨v2,e,h2⟩ | ⟨e,h2⟩
  ·rcases hn with z | ⟨z,_⟩
   ·rw [z] at e;cases e;exact ⟨h2,rfl⟩
   ·rw [z] at e;cases e
  ·rcases hn with z | ⟨_,z⟩
   ·rw [z] at e;cases e
   ·rw [z];exact ⟨h2,rfl⟩
 ·rcases hl.ord hD ho (fun t x b=>hnr o t x b ho) hrun with ⟨v2,e,_⟩ | ⟨e,_⟩ <;> cases e
 ·rw [hl.mode] at hm;cases hm
end
end Go.Proofs.Ytcdclihinmdgiaa.sq
namespace Go.Proofs.Ytcdclihinmdgiaa.sq
open Go Go.Conc
set_option linter.unusedVariables false
variable [Cal]
section
variable {K:FuncId->Prop} {Pa Pr:Program} {H T:Nat->Prop} {s:St} {fr:Frame} {csR:List Frame} {W:World} {D:ji} {id5:Nat}
theorem MP.go (S:je K Pa Pr SpM) (h:MP K Pa H T (fun _ _=>False) s fr csR W) {o:Oper} {c:Call} {x y z:Operand} {g:Value} {r cap:Nat} {buf:Array Value} {sn en:Nat} {tm:Bool} (ho:opAt s.f = some o) (hop:o.op = .call c) (hcc:c.callee = .value (.func (nfn + 1)))
  (hx:c.args = #[x,y,z,.const (.bool true),.const (.bool false)]) (hv:s.f.eval x = .chan (some r)) (hy:s.f.eval y = g) (hclo:clo 20 g = true) (hre:s.w.heap[r]? = some (.chan cap buf false sn en tm)) :
  ∃ cc,H cc/\T cc/\(∃ sn' en' tm',W.heap[cc]? = some (.chan 0 #[] false sn' en' tm'))/\buf = #[]/\stepG Pr true (G fr csR) W = .spawn (G (fr.finish undef) csR) (born Pr { target:=.fn (.func wh) #[],args:=#[g,.chan (some cc)] }) W #[] ∧
   ∀ wL W',(∀ a,a < s.w.heap.size->a ≠ r->wL.heap[a]? = s.w.heap[a]?)->(∃ cap b cl s e t,wL.heap[r]? = some (.chan cap b cl s e t)/\∀ v ∈ b,clo 20 v = true)->W'.heap = W.heap ->
    MP K Pa H T (fun a b=>a = r/\b = cc) ⟨s.f.finish undef,s.cs,wL⟩ (fr.finish undef) csR W':=by
 obtain ⟨o',e,sp,_⟩:=h.qg5 ho (by rw [hop];simp only [bn,yg,hcc,okA];rw [qco (Nat.le_succ _)];rfl)
 have hp:=h.plain
 obtain ⟨β,hr,hst,hb,hc,hl⟩:=h.ex
 cases sp with
 | make h1=>rw [hop] at h1;cases h1
 | recv h1=>rw [hop] at h1;cases h1
 | @go _ c2 c' a b d h1 hc2 ha h' hc' ha' =>
  rw [hop] at h1
  cases h1
  rw [hx] at ha
  have e1:x = .tmp a:=by simp at ha;exact ha.1
  have e2:y = .tmp b:=by simp at ha;exact ha.2.1
  subst e1 e2
  obtain ⟨cc,hvc,hbc⟩:=qbp hr hst.top.1 hv hre rfl
  have hg:fr.eval (.tmp b) = g:=by
   have:=hst.top.1.ρ (.tmp b) rfl
   rw [hy] at this
   exact qxt 20 hclo this
  rcases hc r cc hbc with q | ⟨cap2,x2,sn2,en2,tm2,sn',en',tm',q1,q2⟩
  ·exact q.elim
  ·rw [hre] at q1
   cases q1
   have hgo:=q0i (P:=Pr) (cs:=csR) (W:=W) (main:=true) hp e h' hc' ha'
   rw [hg,hvc] at hgo
   refine ⟨cc,(hb _ _ _ hbc).2.1.2 rfl,(hb _ _ _ hbc).1,⟨_,_,_,q2⟩,rfl,hgo,fun wL W' h1 h2 h3=>⟨β,⟨hr.inj,fun a' b' k hab=>?_⟩,?_,hb,fun a' b' hab=>?_,?_⟩⟩
   ·obtain ⟨o1,o2,p1,p2,p3⟩:=hr.at_ a' b' k hab
    by_cases ea:a' = r
    ·subst ea
     obtain ⟨rfl,rfl⟩:=hr.inj.fn hbc hab
     obtain ⟨capL,bL,clL,sL,eL,tL,hL,hcl⟩:=h2
     rw [hre] at p1
     cases p1
     cases p3 with
     | chan c1 c2 b1 b2 x1 x2 s1 s2 r1 r2 t1 t2 _=>exact ⟨_,_,hL,by rw [h3];exact p2,.chan _ _ _ _ _ _ _ _ _ _ _ _ hcl⟩
    ·exact ⟨o1,o2,by rw [h1 a' (hr.lt hab).1 ea];exact p1,by rw [h3];exact p2,p3⟩
   ·exact hst.swap (hst.top.1.finish uj) (by rw [jf];exact hst.top.2) (by unfold Frame.finish;split <;> rfl)
   ·by_cases ea:a' = r
    ·subst ea
     exact .inl ⟨rfl,(hr.inj.fn hbc hab).1.symm⟩
    ·rcases hc a' b' hab with q | ⟨cap3,x3,sn3,en3,tm3,sn4,en4,tm4,p1,p2⟩
     ·exact q.elim
     ·exact .inr ⟨cap3,x3,sn3,en3,tm3,sn4,en4,tm4,by rw [h1 a' (hr.lt hab).1 ea];exact p1,by rw [h3];exact p2⟩
   ·rintro a' b' ⟨rfl,rfl⟩;exact hbc
theorem Lp.start (hG:GoT D) (hg:MG D id5 s) {o:Oper} {c:Call} {x y z:Operand} {ch:Value} (ho:opAt s.f = some o) (hop:o.op = .call c) (hcc:c.callee = .value (.func (nfn + 1)))
  (hx:c.args = #[x,y,z,.const (.bool true),.const (.bool false)]) (hz:s.f.eval z = ch):Lp D ch (s.f.finish undef):=by
 have hgo:isGo o = true:=by simp [isGo,hop,hcc]
 obtain ⟨i,e1,e2⟩:=q31 hg.top hG.rest ho hgo
 obtain ⟨hd,c2,x2,y2,h1,h2⟩:=hG.arg i o e2 hgo
 rw [hop] at h1
 cases h1
 rw [hx] at h2
 have e3:z = .tmp D.tc:=by simp at h2;exact h2.2.2
 subst e3
 have hm:=(zk ho).1
 refine ⟨by rw [uz];exact hm,.c,?_,?_⟩
 ·rw [(qac e1 undef).1];exact .p0 [] rfl
 ·have:=(qal e1 e2 (d:=D.tc) undef).1 (by rw [hd];simp)
  show (s.f.finish undef).eval (.tmp D.tc) = ch
  rw [this];exact hz
theorem Lp.out (hD:D.Ok) (hG:GoT D) {ch:Value} {f:Frame} (h:Lp D ch f) {o:Oper} (ho:opAt f = some o) {t:TypeId} {x:Operand} {b:Bool} (hr:o.op = .recv t x b) (v:Value):GT D id5 (f.finish v).todo:=by
 obtain ⟨m,ops,i,l,k,ht,ho',hq,hf⟩:=h.split ho
 have nocalm:∀ {d:Tmp},fq d o = true->False:=fun hc=>by
  unfold fq at hc
  rw [hr] at hc
  simp at hc
 obtain ⟨t8,ty,pos,aft,ty2,pos2,aft2,e8⟩:=hD.o8
 obtain ⟨ty7,pos7,aft7,e7⟩:=hD.o7
 rw [(qac ht v).1]
 obtain ⟨_,a1⟩:=Bool.and_eq_true_iff.1 (show (noG _ && noG D.C7) = true from hG.rest)
 obtain ⟨a2,hA⟩:=Bool.and_eq_true_iff.1 (show (noG D.lo && noG D.A) = true from a1)
 obtain ⟨_,hB⟩:=Bool.and_eq_true_iff.1 (show (noG _ && noG D.B) = true from a2)
 obtain ⟨h8,hE⟩:=Bool.and_eq_true_iff.1 (show ((D.ops8.all fun o=>!isGo o) && noG D.E) = true from hB)
 generalize htd:(Item.inRegion ops (i :: l) :: k) = q at hq
 cases hq with
 | p0 l' hl=>subst hl;simp at htd
 | p3 l' =>
  simp only [List.cons.injEq,Item.inRegion.injEq] at htd
  obtain ⟨⟨rfl,rfl⟩,rfl⟩:=htd
  exact (nocalm (Array.all_eq_true_iff_forall_mem.1 hD.o6 o (Array.mem_of_getElem? ho'))).elim
 | p7 =>
  simp only [List.cons.injEq,Item.inRegion.injEq] at htd
  obtain ⟨⟨rfl,rfl,rfl⟩,rfl⟩:=htd
  rw [e7] at ho'
  obtain rfl:_ = o:=by simpa using ho'
  cases hr
 | b2 =>
  simp only [List.cons.injEq,Item.inRegion.injEq] at htd
  obtain ⟨⟨rfl,rfl,rfl⟩,rfl⟩:=htd
  refine .no ?_
  show (noJ (.inRegion D.ops8 [1]) && (noJ (.code D.E) && (noJ (.inLoop D.B) && (noJ (.inBlock 0) && (noJ (.code D.A) && true))))) = true
  have j1:noJ (.inRegion D.ops8 [1]) = true:=h8
  have j2:noJ (.code D.E) = true:=hE
  have j3:noJ (.inLoop D.B) = true:=hB
  have j4:noJ (.code D.A) = true:=hA
  rw [j1,j2,j3,j4]
  rfl
 | b3 =>
  simp only [List.cons.injEq,Item.inRegion.injEq] at htd
  obtain ⟨⟨rfl,rfl,rfl⟩,rfl⟩:=htd
  have ho2:=ho'
  rw [e8] at ho2
  obtain rfl:_ = o:=by simpa using ho2
  cases hr
 | q y hy =>
  cases y with
  | nil=>simp at htd
  | cons x y =>
   simp only [List.cons_append,List.cons.injEq] at htd
   obtain ⟨rfl,rfl⟩:=htd
   simp only [List.all_cons,Bool.and_eq_true] at hy
   exact (nocalm (Array.all_eq_true_iff_forall_mem.1 (show ops.all (fq D.tx) = true from hy.1) o (Array.mem_of_getElem? ho'))).elim
 | _=>simp at htd
end
end Go.Proofs.Ytcdclihinmdgiaa.sq
namespace Go.Proofs.Ytcdclihinmdgiaa.sq
open Go Go.Conc
set_option linter.unusedVariables false
variable [Cal]
structure CP (K:FuncId->Prop) (P:Program) (H Cb:Nat->Prop) (ac c:Nat) (bA bR:List Frame) (s:St) (fr:Frame) (csR:List Frame) (W:World):Prop where
 ex:∃ β,HR β s.w W/\qjh K P SpP bA bR β s.f s.cs fr csR/\(∀ a b k,β a b k->(Cb b/\¬ H b/\k ≠ .chan)\/(a = ac/\b = c/\k = .chan))/\β ac c .chan
section
variable {K:FuncId->Prop} {Pa Pr:Program} {H Cb:Nat->Prop} {ac c:Nat} {bA bR:List Frame} {s:St} {fr:Frame} {csR:List Frame} {W:World}
theorem CP.plain (h:CP K Pa H Cb ac c bA bR s fr csR W):Plain fr:=by
 obtain ⟨β,hr,hst,hb,hc⟩:=h.ex
 exact ⟨hst.top.1.kind',hst.top.1.round'⟩
theorem CP.qg5 (h:CP K Pa H Cb ac c bA bR s fr csR W) {o:Oper} (ho:opAt s.f = some o) (hn:bn Pa o.op = false):∃ o',opAt fr = some o'/\SpP o o'/\o'.dst = o.dst:=by
 obtain ⟨β,hr,hst,hb,hc⟩:=h.ex
 obtain ⟨o',e,r⟩:=qg3 hst.top.1 ho
 refine ⟨o',e,?_,r.dst.symm⟩
 rcases r.op with ⟨_,z⟩ | z
 ·rw [hn] at z;cases z
 ·exact z
structure Own (Cb:Nat->Prop) (W W':World):Prop where
 sz:W.heap.size<=W'.heap.size
 off:∀ b,b < W.heap.size->¬ Cb b->W'.heap[b]? = W.heap[b]?
 tape:W'.tape = W.tape
 os:W'.os = W.os
 out:W'.output = W.output
theorem CP.ord (S:je K Pa Pr SpP) (h:CP K Pa H Cb ac c bA bR s fr csR W) (hH:∀ b,H b->b < W.heap.size) (hHc:H c) {f':Frame} {cs':List Frame} {w':World} {es:Array Event}
  (hord:∀ o o',opAt s.f = some o->¬ SpP o o') (hbot:s.f.mode = .returning->s.cs ≠ bA)
  (hs:stepG Pa true (G s.f (s.cs ++ [base Pa])) (qj (jv s.w W) s.w) = .go (G f' (cs' ++ [base Pa])) w' es) (hnp:f'.mode = .run\/f'.mode = .returning) :
  ∃ fr' csR' W' es',stepG Pr false (G fr csR) W = .go (G fr' csR') W' es'/\CP K Pa H (grow Cb W W') ac c bA bR ⟨f',cs',w'⟩ fr' csR' W'/\Own Cb W W'/\(∀ e ∈ es',EvT (fun b=>grow Cb W W' b\/b = c) H e)/\W'.heap[c]? = W.heap[c]?:=by
 obtain ⟨β,hr,hst,hb,hc⟩:=h.ex
 obtain ⟨β',fr',csR',W',es',e1,e2,e3,e4⟩:=qoy S (fun o o' h=>h.not) hr hst hord hbot hs hnp false
 have hr':HR β (qj (jv s.w W) s.w) W:=⟨hr.inj,hr.at_⟩
 have t1:∀ a b k,β' a b k->(grow Cb W W' b/\¬ H b/\k ≠ .chan)\/(a = ac/\b = c/\k = .chan):=fun a b k q=>by
  rcases e3.fresh a b k q with x | ⟨x,y,z⟩
  ·exact (hb a b k x).imp (fun z=>⟨.inl z.1,z.2⟩) id
  ·exact .inl ⟨.inr ⟨y,(e3.hr.lt q).2⟩,fun z=>absurd (hH b z) (Nat.not_lt.2 y),z⟩
 refine ⟨fr',csR',W',es',e1,⟨β',e3.hr,e2,t1,e3.ext _ _ _ hc⟩,⟨e3.SZ,fun b hlt hq=>e3.offW b hlt fun a k q=>.inl ?_,e3.TAPE,e3.os,e3.out⟩,fun e he=>(e4 e he).evT (T:=fun b=>grow Cb W W' b\/b = c) fun a b k q=>?_,(qtt hr' e3 (e3.ext _ _ _ hc)).2.2⟩
 ·rcases hb a b k q with ⟨z,_⟩ | ⟨_,_,z⟩
  ·exact absurd z hq
  ·exact z
 ·rcases t1 a b k q with ⟨z1,z2,z3⟩ | ⟨_,rfl,rfl⟩
  ·exact ⟨.inl z1,⟨fun q=>absurd q z2,fun q=>absurd q z3⟩⟩
  ·exact ⟨.inr rfl,⟨fun _=>rfl,fun _=>hHc⟩⟩
theorem CP.rest {W':World} (h:CP K Pa H Cb ac c bA bR s fr csR W) (hT:∀ b,Cb b->W'.heap[b]? = W.heap[b]?) (hc:∃ cap buf x sn en tm,W'.heap[c]? = some (.chan cap buf x sn en tm)):CP K Pa H Cb ac c bA bR s fr csR W':=by
 obtain ⟨β,hr,hst,hb,hcc⟩:=h.ex
 refine ⟨β,⟨hr.inj,fun a b k hab=>?_⟩,hst,hb,hcc⟩
 obtain ⟨o,o',h1,h2,h3⟩:=hr.at_ a b k hab
 rcases hb a b k hab with ⟨z,_⟩ | ⟨_,rfl,rfl⟩
 ·exact ⟨o,o',h1,by rw [hT b z];exact h2,h3⟩
 ·obtain ⟨cap,buf,x,sn,en,tm,hc⟩:=hc
  cases h3 with
  | chan c1 c2 b1 b2 x1 x2 s1 s2 r1 r2 t1 t2 hcl=>exact ⟨_,_,h1,hc,.chan _ _ _ _ _ _ _ _ _ _ _ _ hcl⟩
theorem CP.send (h:CP K Pa H Cb ac c bA bR s fr csR W) {o:Oper} {cl:Call} {x y u:Operand} {v:Value} {cap sn en:Nat} {buf:Array Value} {tm:Bool} {cells:Array Value} {el:TypeId} (ho:opAt s.f = some o) (hop:o.op = .call cl) (hcc:cl.callee = .value (.func nfn))
  (hx:cl.args = #[x,y,u,.const (.bool true),.const (.bool false)]) (hv:s.f.eval x = .chan (some ac)) (hy:s.f.eval y = v) (hclo:clo 20 v = true) (hre:s.w.heap[ac]? = some (.chan cap buf false sn en tm)) (hbuf:∀ u ∈ buf,clo 20 u = true) (τ:Tape) :
  stepG Pr false (G fr csR) W = .comm (G fr csR) #[scase c v (.tuple #[])] true .send W #[]/\CP K Pa H Cb ac c bA bR ⟨s.f.finish undef,s.cs,{ (qj τ s.w) with heap:=(s.w.heap.push (.cells cells el)).setIfInBounds ac (.chan cap (buf.push v) false (sn + 1) en tm) }⟩ (fr.finish undef) csR W:=by
 obtain ⟨o',e,sp,_⟩:=h.qg5 ho (by rw [hop];simp only [bn,yg,hcc,okA];rw [qco (Nat.le_refl _)];rfl)
 have hp:=h.plain
 obtain ⟨β,hr,hst,hb,hc⟩:=h.ex
 have lt:=hr.lt hc
 cases sp with
 | shut h1 h2=>rw [hop] at h1;cases h1;rw [hcc] at h2;cases h2
 | @send _ c2 a b d h1 hc2 ha h' =>
  rw [hop] at h1
  cases h1
  rw [hx] at ha
  have e1:x = .tmp a:=by simp at ha;exact ha.1
  have e2:y = .tmp b:=by simp at ha;exact ha.2.1
  subst e1 e2
  obtain ⟨c',hvc,hbc⟩:=qbp hr hst.top.1 hv hre rfl
  obtain rfl:c' = c:=(hr.inj.fn hbc hc).1
  have hg:fr.eval (.tmp b) = v:=by
   have:=hst.top.1.ρ (.tmp b) rfl
   rw [hy] at this
   exact qxt 20 hclo this
  have hs:=qts (P:=Pr) (cs:=csR) (W:=W) (main:=false) hp e h' hvc
  rw [hg] at hs
  refine ⟨hs,⟨β,⟨hr.inj,fun a' b' k hab=>?_⟩,?_,hb,hc⟩⟩
  ·obtain ⟨o1,o2,p1,p2,p3⟩:=hr.at_ a' b' k hab
   by_cases ea:a' = ac
   ·subst ea
    obtain ⟨rfl,rfl⟩:=hr.inj.fn hbc hab
    cases p3 with
    | chan c1 c2 b1 b2 x1 x2 s1 s2 r1 r2 t1 t2 _ =>
     refine ⟨_,_,?_,p2,.chan cap _ (buf.push v) _ false _ (sn + 1) _ en _ tm _ fun q hq=>?_⟩
     ·show ((s.w.heap.push _).setIfInBounds a' _)[a']? = _
      exact Array.getElem?_setIfInBounds_self_of_lt (by simp;omega)
     ·rcases Array.mem_push.1 hq with z | z
      ·exact hbuf q z
      ·subst z;exact hclo
   ·refine ⟨o1,o2,?_,p2,p3⟩
    show ((s.w.heap.push _).setIfInBounds ac _)[a']? = _
    rw [Array.getElem?_setIfInBounds_ne (Ne.symm ea),Array.getElem?_push,if_neg (Nat.ne_of_lt (hr.lt hab).1)]
    exact p1
  ·exact hst.swap (hst.top.1.finish uj) (by rw [jf];exact hst.top.2) (by unfold Frame.finish;split <;> rfl)
theorem CP.shut (h:CP K Pa H Cb ac c bA [qap Pr] ⟨s.f,bA,s.w⟩ fr csR W) {o:Oper} {cl:Call} {x:Operand} {cap sn en:Nat} {buf:Array Value} {tm:Bool} (ho:opAt s.f = some o) (hop:o.op = .call cl) (hcc:cl.callee = .builtin .close) (hx:cl.args = #[x])
  (hv:s.f.eval x = .chan (some ac)) (hre:s.w.heap[ac]? = some (.chan cap buf false sn en tm)) (htd:∃ ops i,s.f.todo = [.inRegion ops [i]]) (hfn:s.f.fn = wh) (hone:bA.length<=bA.length) {F:Func} (hF:Pr.funcs[wh]? = some F) (hres:F.results = #[]) {sn' en':Nat} {tm':Bool} (hW:W.heap[c]? = some (.chan 0 #[] false sn' en' tm')) :
  stepG Pr false (G fr csR) W = .go (G (fr.finish undef) csR) { W with heap:=W.heap.setIfInBounds c (.chan 0 #[] true sn' en' tm') } (seen Pr fr.fn #[⟨.obj c,false,true⟩,⟨.obj c,true,true⟩])/\QuitsIn Pr 4 (G (fr.finish undef) csR):=by
 obtain ⟨o',e,sp,_⟩:=h.qg5 ho (by rw [hop];simp only [bn,yg,hcc];simp only [okB])
 have hp:=h.plain
 obtain ⟨β,hr,hst,hb,hc⟩:=h.ex
 cases sp with
 | send h1 h2=>rw [hop] at h1;cases h1;rw [hcc] at h2;cases h2
 | @shut c2 a h1 h2 ha =>
  rw [hop] at h1
  cases h1
  rw [hx] at ha
  have e1:x = .tmp a:=by simpa using ha
  subst e1
  obtain ⟨c',hvc,hbc⟩:=qbp (s:=⟨s.f,bA,s.w⟩) hr hst.top.1 hv hre rfl
  obtain rfl:c' = c:=(hr.inj.fn hbc hc).1
  refine ⟨qqc hp e hop hcc hx hvc hW,?_⟩
  have hcs:csR = [qap Pr]/\fr.kind = .deferred:=by
   generalize hq:(St.mk s.f bA s.w).cs = q at hst
   cases hst with
   | one _ _ hk=>exact ⟨rfl,hk.1 (by simp)⟩
   | @more _ _ ca cr csA csR _ _ _ _ t =>
    exfalso
    have hlen:∀ {f:Frame} {cs:List Frame} {fr:Frame} {csR:List Frame},qjh K Pa SpP bA [qap Pr] β f cs fr csR->bA.length<=cs.length:=by
     intro f cs fr csR h
     induction h with
     | one=>exact Nat.le_refl _
     | more _ _ _ _ _ ih=>exact Nat.le_succ_of_le ih
    have:=hlen t
    have h2:bA = ca :: csA:=hq
    rw [h2] at this
    simp at this
    omega
  obtain ⟨rfl,hk⟩:=hcs
  have hf:=hst.top.1
  obtain ⟨ops,i,htd⟩:=htd
  obtain ⟨fn,ts,ts',todo,todo',m,kd,e1,e2,ta,hkd,hkr,hmm⟩:=hf.parts
  have e1':s.f = ⟨fn,ts,todo,[],m,.normal,none⟩:=e1
  rw [e1'] at htd hfn
  simp only at htd hfn
  subst htd hfn
  have hm:=(zk e).1
  subst e2
  simp only at hm hk
  subst hm hk
  cases hkr with
  | cons hi hk' =>
   cases hk'
   cases hi with
   | inRegion l hops=>exact qws hF hres
end
end Go.Proofs.Ytcdclihinmdgiaa.sq
