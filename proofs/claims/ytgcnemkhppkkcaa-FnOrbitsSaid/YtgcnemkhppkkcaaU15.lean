import Derived.Test.YtgcnemkhppkkcaaU04
import Derived.Calls
import Derived.WalkKit
import Derived.Conc.LoneCalls
import Derived.Test.YtgcnemkhppkkcaaU14
import Derived.Test.YtgcnemkhppkkcaaU11
import Derived.DeepKeys5
import Derived.Maps.Own
import Derived.Maps.OwnSet
import Derived.Maps.OwnOps
namespace Go.Proofs.Ytgcnemkhppkkcaa.ch
open Go.Conc Go.RowKit mem
set_option linter.unusedVariables false
set_option maxRecDepth 100000
def Rw (P : Program) (ops : Array Oper) (l : List Nat) (Q : Exit → Act → World → Prop) (a : Act) (w : World) : Prop :=
  ∀ (b : Frame) (k : List Item) (cs : List Frame), ∃ e a' w', Q e a' w' ∧ Arrives P (lone (b.at a (.inRegion ops l :: k)) cs w) b k cs e a' w'
section
variable {P : Program} {ops : Array Oper} {Q : Exit → Act → World → Prop} {a : Act} {w : World} {i : Nat} {rest : List Nat} {o : Oper}
def isComm : Op → Bool
  | .send .. => true
  | .recv .. => true
  | .call { callee := .builtin .close, .. } => true
  | _ => false
theorem region {id : Nat} (hc : ops.toList.any (fun o => isComm o.op) = true) (h : Rw P ops (List.range ops.size) Q a w) : (Code.region id ops false).wp P Q a w :=
  fun b k cs => let ⟨e, a', w', q, r⟩ := h b k cs; ⟨e, a', w', q, .of_steps (.one step_region) r⟩
theorem Rw.nil (h : Q .normal a w) : Rw P ops [] Q a w := fun b k cs => ⟨.normal, a, w, h, .one step_region_end⟩
theorem Rw.op (ho : ops[i]? = some o) (hw : Region.wanted o (yielded ops a.tmps) = true)
    (h : ∀ K : Act → World → Prop, (∀ a w, Rw P ops rest Q a w → K a w) → o.wp P a w K (fun _ _ _ => False)) : Rw P ops (i :: rest) Q a w := by
  intro b k cs
  have h := h _ (fun _ _ h => h)
  simp only [Oper.wp, Oper.upon] at h
  have hg := stepG_op (P := P) (b := b) (k := k) (cs := cs) (w := w) (rest := rest) ho hw
  have hfin : ∀ v, (b.at a (.inRegion ops (i :: rest) :: k)).finish v = b.at (a.put o.dst v) (.inRegion ops rest :: k) := by
    intro v; rw [Frame.finish_at, ho]; rfl
  split at h
  · rename_i v w' hr
    obtain ⟨e, a', w'', q, r⟩ := h b k cs
    refine ⟨e, a', w'', q, .of_steps (.one (step_lone_go ?_)) r⟩
    rw [hg, ← hfin]; simp [stepG.apply, hr]
  · rename_i w' hr
    obtain ⟨e, a', w'', q, r⟩ := h b k cs
    refine ⟨e, a', w'', q, .of_steps (.one (step_lone_go ?_)) r⟩
    rw [hg, ← hfin]; simp [stepG.apply, hr]
  · rename_i d w' hr
    obtain ⟨e, a', w'', q, r⟩ := h b k cs
    refine ⟨e, a', w'', q, .of_steps (.one (step_lone_go ?_)) r⟩
    have := Frame.finish_at b { a with defers := d :: a.defers } ops i rest k undef
    rw [ho] at this
    rw [hg]; simp only [stepG.apply, Sem.runT_eq, hr, GStep.bare_after]
    exact congrArg (fun fr => GStep.go { frame := fr, callers := cs, status := .running, dying := none } w') this
  · rename_i f args w' hr
    obtain ⟨e, w'', fr, hR, hs, _, hl⟩ := h (b.at a (.inRegion ops (i :: rest) :: k) :: cs)
    cases e with
    | returned v =>
      obtain ⟨e, a', w₃, q, r⟩ := hR b k cs
      refine ⟨e, a', w₃, q, .of_steps (.head (step_lone_go (by rw [hg]; simp [stepG.apply, hr, Frame.at])) (hs.trans (.one ?_))) r⟩
      rw [← hfin]; exact step_leave_returned hl
    | panicked chain => exact hR.elim
    | outgrown => obtain ⟨_, _, q⟩ := hR; exact q.elim
  · rename_i row args w' hr
    obtain ⟨v, w'', hR, hs⟩ := h (b.at a (.inRegion ops (i :: rest) :: k)) cs
    obtain ⟨e, a', w₃, q, r⟩ := hR b k cs
    have he : step P (lone (b.at a (.inRegion ops (i :: rest) :: k)) cs w) = .next (lone (Frame.ofRow P row args .normal) (b.at a (.inRegion ops (i :: rest) :: k) :: cs) w') :=
      step_lone_go (by rw [hg]; simp [stepG.apply, hr, Frame.at])
    refine ⟨e, a', w₃, q, .of_steps (.head he ?_) r⟩
    rw [← hfin]; exact hs
  · exact h.elim
  · exact h.elim
theorem comm {cases : Array CommCase} {blocking : Bool} {shape : CommShape} {w' : World} (ho : ops[i]? = some o) (hw : Region.wanted o (yielded ops a.tmps) = true)
    (hr : (execOp a.eval o).run P w = .ok (.comm cases blocking shape) w') (b : Frame) (k : List Item) (cs : List Frame) :
    ∃ es, stepG P true (G (b.at a (.inRegion ops (i :: rest) :: k)) cs) w = .comm (G (b.at a (.inRegion ops (i :: rest) :: k)) cs) cases blocking shape w' es := by
  rw [stepG_oper ho hw]
  simp only [stepG.apply, Sem.runT_eq, hr]
  split <;> exact ⟨_, rfl⟩
variable {c cap s r : Nat} {buf : Array Value} {z z' v : Value} {tm closed : Bool} {w₁ : World}
theorem Rw.send (ho : ops[i]? = some o) (hw : Region.wanted o (yielded ops a.tmps) = true) (hr : (execOp a.eval o).run P w = .ok (.comm #[scase c v z'] true .send) w₁)
    (hc : w₁.heap[c]? = some (.chan cap buf false s r tm)) (hroom : buf.size < cap) (h : Rw P ops rest Q (a.put o.dst undef) (w₁.setChan c cap (buf.push v) false (s + 1) r tm)) :
    Rw P ops (i :: rest) Q a w := by
  intro b k cs
  obtain ⟨es, hg⟩ := comm (rest := rest) ho hw hr b k cs
  obtain ⟨e, a', w', q, h⟩ := h b k cs
  refine ⟨e, a', w', q, .of_steps (.one ?_) h⟩
  have hfin : (b.at a (.inRegion ops (i :: rest) :: k)).finish undef = b.at (a.put o.dst undef) (.inRegion ops rest :: k) := by rw [Frame.finish_at, ho]; rfl
  have := step_lone_send_room hg hc hroom
  rw [hfin] at this
  exact this
theorem Rw.recv (ok : Bool) (ho : ops[i]? = some o) (hw : Region.wanted o (yielded ops a.tmps) = true) (hr : (execOp a.eval o).run P w = .ok (.comm #[rcase c z] true (.recv ok)) w₁)
    (hc : w₁.heap[c]? = some (.chan cap buf closed s r tm)) (hsome : 0 < buf.size) (h : Rw P ops rest Q (a.put o.dst (got ok (buf.getD 0 undef) true)) (w₁.setChan c cap (buf.extract 1 buf.size) closed s (r + 1) tm)) :
    Rw P ops (i :: rest) Q a w := by
  intro b k cs
  obtain ⟨es, hg⟩ := comm (rest := rest) ho hw hr b k cs
  obtain ⟨e, a', w', q, h⟩ := h b k cs
  refine ⟨e, a', w', q, .of_steps (.one ?_) h⟩
  have hfin : ∀ v, (b.at a (.inRegion ops (i :: rest) :: k)).finish v = b.at (a.put o.dst v) (.inRegion ops rest :: k) := by intro v; rw [Frame.finish_at, ho]; rfl
  have := step_lone_recv_buf ok hg hc hsome
  rw [hfin] at this
  exact this
theorem Rw.shut (ok : Bool) (ho : ops[i]? = some o) (hw : Region.wanted o (yielded ops a.tmps) = true) (hr : (execOp a.eval o).run P w = .ok (.comm #[rcase c z] true (.recv ok)) w₁)
    (hc : w₁.heap[c]? = some (.chan cap #[] true s r tm)) (h : Rw P ops rest Q (a.put o.dst (got ok z false)) w₁) :
    Rw P ops (i :: rest) Q a w := by
  intro b k cs
  obtain ⟨es, hg⟩ := comm (rest := rest) ho hw hr b k cs
  obtain ⟨e, a', w', q, h⟩ := h b k cs
  refine ⟨e, a', w', q, .of_steps (.one ?_) h⟩
  have hfin : ∀ v, (b.at a (.inRegion ops (i :: rest) :: k)).finish v = b.at (a.put o.dst v) (.inRegion ops rest :: k) := by intro v; rw [Frame.finish_at, ho]; rfl
  have := step_lone_recv_shut ok hg hc
  rw [hfin] at this
  exact this
end
theorem mk {P : Program} {t e : TypeId} {dir : ChanDir} (ht : P.underlying t = some (.chan dir e)) {B : Nat} (hB : (P.info? e).map (·.bytes) = some B) (n : Nat) (h63 : (n : Int) ≤ 9223372036854775807) (hb : (B : Int) * n ≤ 281474976710544)
    (m : Int) (hm : m = n) (w : World) : (Instr.makeChan t (.int .i64 m)).run P w = .ok (.chan (some w.heap.size)) (w.alloc (.chan n #[] false 0 0 false)) := by
  obtain ⟨i, hi, e⟩ := Option.map_eq_some_iff.1 hB
  rw [hm]
  exact run_makeChan ht hi .i64 n h63 (by rw [e]; exact hb)
def Chn (w : World) (c cap : Nat) (vs : List Value) (closed : Bool) : Prop := ∃ s r, w.heap[c]? = some (.chan cap vs.toArray closed s r false)
theorem Chn.lt {w : World} {c cap : Nat} {vs : List Value} {closed : Bool} (h : Chn w c cap vs closed) : c < w.heap.size := by
  obtain ⟨s, r, h⟩ := h; exact (Array.getElem?_eq_some_iff.1 h).1
theorem Chn.keep {w w' : World} {c cap B : Nat} {vs : List Value} {closed : Bool} (h : Chn w c cap vs closed) (hb : Below B w w') (hB : c < B) : Chn w' c cap vs closed := by
  obtain ⟨s, r, h⟩ := h; exact ⟨s, r, (hb.block c hB).trans h⟩
theorem Chn.new (w : World) (cap : Nat) : Chn (w.alloc (.chan cap #[] false 0 0 false)) w.heap.size cap [] false := ⟨0, 0, heap_alloc_new _ _⟩
theorem out_setChan (w : World) (c cap : Nat) (buf : Array Value) (cl : Bool) (s r : Nat) (tm : Bool) : Out c (c + 1) w (w.setChan c cap buf cl s r tm) :=
  ⟨rfl, rfl, rfl, by simp [World.setChan], fun k hk h => by simp only [World.setChan]; rw [Array.getElem?_setIfInBounds_ne (by omega)]⟩
section
variable {P : Program} {ops : Array Oper} {Q : Exit → Act → World → Prop} {a : Act} {w : World} {i : Nat} {rest : List Nat} {o : Oper} {c cap : Nat} {vs : List Value} {z z' v : Value} {closed : Bool} {w₁ : World}
theorem Rw.sendL (ho : ops[i]? = some o) (hw : Region.wanted o (yielded ops a.tmps) = true) (hr : (execOp a.eval o).run P w = .ok (.comm #[scase c v z'] true .send) w₁)
    (hc : Chn w₁ c cap vs false) (hroom : vs.length < cap) (h : ∀ w', Chn w' c cap (vs ++ [v]) false → Out c (c + 1) w₁ w' → Rw P ops rest Q (a.put o.dst undef) w') : Rw P ops (i :: rest) Q a w := by
  have l := hc.lt
  obtain ⟨s, r, hc⟩ := hc
  exact Rw.send ho hw hr hc (by simpa using hroom) (h _ ⟨s + 1, r, by rw [heap_setChan _ _ _ _ _ _ _ _ l]; simp⟩ (out_setChan _ _ _ _ _ _ _ _))
theorem Rw.recvL (ok : Bool) (ho : ops[i]? = some o) (hw : Region.wanted o (yielded ops a.tmps) = true) (hr : (execOp a.eval o).run P w = .ok (.comm #[rcase c z] true (.recv ok)) w₁)
    (hc : Chn w₁ c cap (v :: vs) closed) (h : ∀ w', Chn w' c cap vs closed → Out c (c + 1) w₁ w' → Rw P ops rest Q (a.put o.dst (got ok v true)) w') : Rw P ops (i :: rest) Q a w := by
  have l := hc.lt
  obtain ⟨s, r, hc⟩ := hc
  refine Rw.recv ok ho hw hr hc (by simp) ?_
  have e : (v :: vs).toArray.getD 0 undef = v := by simp
  rw [e]
  exact h _ ⟨s, r + 1, by rw [heap_setChan _ _ _ _ _ _ _ _ l]; simp⟩ (out_setChan _ _ _ _ _ _ _ _)
theorem Rw.shutL (ok : Bool) (ho : ops[i]? = some o) (hw : Region.wanted o (yielded ops a.tmps) = true) (hr : (execOp a.eval o).run P w = .ok (.comm #[rcase c z] true (.recv ok)) w₁)
    (hc : Chn w₁ c cap [] true) (h : Rw P ops rest Q (a.put o.dst (got ok z false)) w₁) : Rw P ops (i :: rest) Q a w := by
  obtain ⟨s, r, hc⟩ := hc
  exact Rw.shut ok ho hw hr hc h
theorem Rw.closeL {ats : Array TypeId} {x : Tmp} (ho : ops[i]? = some o) (hg : o.guard = none) (hop : o.op = .call { callee := .builtin .close, args := #[.tmp x], argTypes := ats }) (hx : a.eval (.tmp x) = .chan (some c))
    (hc : Chn w c cap vs false) (h : ∀ w', Chn w' c cap vs true → Out c (c + 1) w w' → Rw P ops rest Q (a.put o.dst (.tuple #[])) w') : Rw P ops (i :: rest) Q a w := by
  have l := hc.lt
  obtain ⟨s, r, hc⟩ := hc
  have hcl := fun ats ty => run_close_open (P := P) (w := w) ats ty hc
  refine Rw.op ho (by simp [Region.wanted, hg]) (fun K hK => ?_)
  have h2 := hK _ _ (h (w.setChan c cap vs.toArray true s r false) ⟨s, r, heap_setChan _ _ _ _ _ _ _ _ l⟩ (out_setChan _ _ _ _ _ _ _ _))
  simp [go_sem] at hx
  simp only [Oper.wp, execOp, hop]
  simp [go_sem, hx, hcl]
  exact h2
end
attribute [irreducible] Rw
structure Stop (p : Prop) : Prop where
  out : p
theorem stop {P : Program} {id : Nat} {ops : Array Oper} {Q : Exit → Act → World → Prop} {a : Act} {w : World} (hc : ops.toList.any (fun o => isComm o.op) = true) (h : Stop (Rw P ops (List.range ops.size) Q a w)) : (Code.region id ops false).wp P Q a w := region hc h.out
theorem Rw.plain {P : Program} {ops : Array Oper} {Q : Exit → Act → World → Prop} {a : Act} {w w' : World} {i : Nat} {rest : List Nat} {o : Oper} {v : Value} (ho : ops[i]? = some o) (hw : Region.wanted o (yielded ops a.tmps) = true) (hr : (execOp a.eval o).run P w = .ok (.value v) w')
    (h : Rw P ops rest Q (a.put o.dst v) w') : Rw P ops (i :: rest) Q a w := Rw.op ho hw fun K hK => by simp only [Oper.wp, Oper.upon, hr]; exact hK _ _ h
end Go.Proofs.Ytgcnemkhppkkcaa.ch

namespace Go.Proofs.Ytgcnemkhppkkcaa.orb
open Go.ChangeShapes Go.WideShapes Go.ChangeAt Go.RowKit
open mem ints arr pm sf gl
set_option linter.unusedVariables false
set_option maxRecDepth 100000
def fdL (s : Sur) (n p l : Nat) : List Int := gS s n ++ [(p : Int), (l : Int)]
theorem fdL_len (s : Sur) (n p l : Nat) : (fdL s n p l).length = 51 := by simp [fdL, gS_len]
set_option maxHeartbeats 1000000 in
theorem eq_gl3 {p q : List Int} (hp : p.length = 24) (hq : q.length = 24) (n : Nat) (w : World) :
    (Op.equalIn 9999 62 (.agg (V (gl p q n)).toArray) (.agg (V (gl p q n)).toArray)).run sqp.prog w = .ok true w := by
  have hf : (sqp.prog.fieldsOf 62).toList.map (fun f => (f.name, f.type, f.offset)) = [("right", 60, 0), ("up", 60, 24), ("count", 3, 48)] := by kernel_rfl
  rw [run_equalIn_struct w 9998 _ _ _ (by kernel_rfl) (by kernel_rfl)]
  generalize (sqp.prog.fieldsOf 62).toList = fs at hf
  have hl : fs.length = 3 := by have := congrArg List.length hf; simpa using this
  match fs, hl, hf with
  | [f0, f1, f2], _, hf =>
    simp only [List.map_cons, List.map_nil, List.cons.injEq, Prod.mk.injEq, and_true] at hf
    obtain ⟨⟨a1, a2, a3⟩, ⟨b1, b2, b3⟩, c1, c2, c3⟩ := hf
    have x1 : (V (gl p q n)).toArray.extract 0 (0 + 24) = (V p).toArray := V_ext (by simp [gl, hp])
    have x2 : (V (gl p q n)).toArray.extract 24 (24 + 24) = (V q).toArray := V_ext (by simp [gl, hp, hq])
    have x3 : (V (gl p q n)).toArray[48]? = some (.int .i64 n) := by
      simp only [gl, V, List.map_append, List.getElem?_toArray]
      rw [List.getElem?_append_right (by simp; omega)]
      simp [hp, hq]
    have e3 : (Op.equalIn 9998 3 (.int .i64 n) (.int .i64 n)).run sqp.prog w = .ok ((n : Int) == (n : Int)) w := run_equalIn_int w 9997 _ .i64 .i64 _ _ sqp.underlying3
    have n1 : (("right" : String) ≠ "_") = True := by simp
    have n2 : (("up" : String) ≠ "_") = True := by simp
    have n3 : (("count" : String) ≠ "_") = True := by simp
    have e1' : (Op.equalIn 9998 60 (.agg (V p).toArray) (.agg (V p).toArray)).run sqp.prog w = .ok (decide (p = p)) w := eq_perm hp hp 9996 w
    have e2' : (Op.equalIn 9998 60 (.agg (V q).toArray) (.agg (V q).toArray)).run sqp.prog w = .ok (decide (q = q)) w := eq_perm hq hq 9996 w
    simp only [Op.eqFields, n1, n2, n3, if_true, a1, a2, a3, b1, b2, b3, c1, c2, c3, Sem.run_bind, part_perm, x1, x2, Result.andThen_ok, e1', e2', part_int x3, e3, decide_true, Bool.not_true, Bool.false_eq_true, if_false, beq_self_eq_true, Sem.run_pure]
theorem part_gl (xs : Array Value) (off : Nat) (w : World) : (part 62 xs off).run sqp.prog w = .ok (.agg (xs.extract off (off + 49))) w := by
  unfold part
  simp [Sem.run_bind]
theorem part_let {xs : Array Value} {off : Nat} {v : Value} (h : xs[off]? = some v) (w : World) : (part 63 xs off).run sqp.prog w = .ok v w := by
  unfold part
  simp [Sem.run_bind, h]
set_option maxHeartbeats 1000000 in
theorem eq_fd (s : Sur) (n p l : Nat) (w : World) : (Op.equalIn 10000 65 (.agg (V (fdL s n p l)).toArray) (.agg (V (fdL s n p l)).toArray)).run sqp.prog w = .ok true w := by
  have hf : (sqp.prog.fieldsOf 65).toList.map (fun f => (f.name, f.type, f.offset)) = [("form", 62, 0), ("from", 3, 49), ("by", 63, 50)] := by kernel_rfl
  rw [run_equalIn_struct w 9999 _ _ _ (by kernel_rfl) (by kernel_rfl)]
  generalize (sqp.prog.fieldsOf 65).toList = fs at hf
  have hl : fs.length = 3 := by have := congrArg List.length hf; simpa using this
  match fs, hl, hf with
  | [f0, f1, f2], _, hf =>
    simp only [List.map_cons, List.map_nil, List.cons.injEq, Prod.mk.injEq, and_true] at hf
    obtain ⟨⟨a1, a2, a3⟩, ⟨b1, b2, b3⟩, c1, c2, c3⟩ := hf
    have G := gS_len s n
    have x1 : (V (fdL s n p l)).toArray.extract 0 (0 + 49) = (V (gS s n)).toArray := V_ext (by simp [fdL, G])
    have x2 : (V (fdL s n p l)).toArray[49]? = some (.int .i64 p) := by
      simp only [fdL, V, List.map_append, List.getElem?_toArray]
      rw [List.getElem?_append_right (by simp; omega)]
      simp [G]
    have x3 : (V (fdL s n p l)).toArray[50]? = some (.int .i64 l) := by
      simp only [fdL, V, List.map_append, List.getElem?_toArray]
      rw [List.getElem?_append_right (by simp; omega)]
      simp [G]
    have e1 : (Op.equalIn 9999 62 (.agg (V (gS s n)).toArray) (.agg (V (gS s n)).toArray)).run sqp.prog w = .ok true w := eq_gl3 (ext_len _) (ext_len _) n w
    have e2 : (Op.equalIn 9999 3 (.int .i64 p) (.int .i64 p)).run sqp.prog w = .ok ((p : Int) == (p : Int)) w := run_equalIn_int w 9998 _ .i64 .i64 _ _ sqp.underlying3
    have e3 : (Op.equalIn 9999 63 (.int .i64 l) (.int .i64 l)).run sqp.prog w = .ok ((l : Int) == (l : Int)) w := run_equalIn_int w 9998 _ .i64 .i64 _ _ sqp.underlying63
    have n1 : (("form" : String) ≠ "_") = True := by simp
    have n2 : (("from" : String) ≠ "_") = True := by simp
    have n3 : (("by" : String) ≠ "_") = True := by simp
    simp only [Op.eqFields, n1, n2, n3, if_true, a1, a2, a3, b1, b2, b3, c1, c2, c3, Sem.run_bind, part_gl, part_int x2, part_let x3, x1, Result.andThen_ok, e1, e2, e3, Bool.not_true, Bool.false_eq_true, if_false, beq_self_eq_true, Sem.run_pure]
def zero51 : List Int := List.replicate 51 0
theorem infoFd : (sqp.prog.info? 65).map (fun i => (i.zero, i.size, i.bytes)) = some (some (.agg (V zero51).toArray), 51, 408) := by kernel_rfl
theorem wpList_bs_fd {ops : Array Oper} {rest : List Oper} {o : Oper} {a : Act} {w : World} {Q : Exit → Act → World → Prop} (hgd : o.guard = none) (x : Operand) (ho : o.op = .buildSlice 55 1 #[(0, x)])
    (L : List Int) (hL : L.length = 51) (hx : a.eval x = .agg (V L).toArray)
    (h : wpList sqp.prog ops Q rest (a.put o.dst (.slice (some ⟨w.heap.size, 0, none⟩) 1 1)) (w.alloc (.cells (V L).toArray 65))) : wpList sqp.prog ops Q (o :: rest) a w := by
  obtain ⟨i, hi, hz, hs, hb⟩ := info_parts infoFd
  refine wpList_buildSlice hgd 55 65 1 _ ho (V L).toArray i _ sqp.underlying55 hi hz (by rw [hs]; decide) (by rw [hs]; decide) ?_ h
  rw [hs]
  have := Great.fill_whole (s := 51) (by decide) [.agg (V L).toArray] ((Array.range (1 * 51)).map ((Value.agg (V zero51).toArray).cells[· % (Value.agg (V zero51).toArray).cells.size]!)) (by simp [Value.cells, V_len, hL]) (by simp)
  simpa [hx, Value.cells] using this
theorem wpList_eql_fd {ops : Array Oper} {rest : List Oper} {o : Oper} {a : Act} {w : World} {Q : Exit → Act → World → Prop} (hgd : o.guard = none) (x y : Operand) (rt : TypeId) (ho : o.op = .binOp .eql 65 x y rt)
    (xs ys : Array Value) (hx : a.eval x = .agg xs) (hy : a.eval y = .agg ys) (b : Bool) (he : (Op.equalIn 10000 65 (.agg xs) (.agg ys)).run sqp.prog w = .ok b w)
    (h : wpList sqp.prog ops Q rest (a.put o.dst (.bool b)) w) : wpList sqp.prog ops Q (o :: rest) a w := by
  refine wpList_plain hgd fun K hK => ?_
  unfold Oper.wp execOp
  simp only [ho, hx, hy, Sem.run_bind, run_eqGuard_agg w .eql _ x y xs ys (show sqp.prog.eqGuardType sqp.prog.depth 65 = false by kernel_rfl), Result.andThen_ok, run_eql_struct, he, Sem.run_pure]
  exact hK _ _ h
theorem wpList_eql_gl {ops : Array Oper} {rest : List Oper} {o : Oper} {a : Act} {w : World} {Q : Exit → Act → World → Prop} (hgd : o.guard = none) (x y : Operand) (rt : TypeId) (ho : o.op = .binOp .eql 62 x y rt)
    (xs ys : Array Value) (hx : a.eval x = .agg xs) (hy : a.eval y = .agg ys) (b : Bool) (he : (Op.equalIn 10000 62 (.agg xs) (.agg ys)).run sqp.prog w = .ok b w)
    (h : wpList sqp.prog ops Q rest (a.put o.dst (.bool b)) w) : wpList sqp.prog ops Q (o :: rest) a w := by
  refine wpList_plain hgd fun K hK => ?_
  unfold Oper.wp execOp
  simp only [ho, hx, hy, Sem.run_bind, run_eqGuard_agg w .eql _ x y xs ys (show sqp.prog.eqGuardType sqp.prog.depth 62 = false by kernel_rfl), Result.andThen_ok, run_eql_struct, he, Sem.run_pure]
  exact hK _ _ h
end Go.Proofs.Ytgcnemkhppkkcaa.orb

namespace Go.Proofs.Ytgcnemkhppkkcaa.orb
open Go.ChangeShapes Go.WideShapes Go.ChangeAt Go.RowKit
open mem ints arr pm sf gl
open Go.Proofs.Ytgcnemkhppkkcaa.ch (Chn)
set_option linter.unusedVariables false
set_option maxRecDepth 100000
@[simp] theorem callSnd (args : Array Value) (w : World) : Sem.run sqp.prog (callFunc sq.nfn args) w = .ok (.enter sq.nfn args) w := by kernel_rfl
@[simp] theorem callGo (args : Array Value) (w : World) : Sem.run sqp.prog (callFunc (sq.nfn + 1) args) w = .ok (.enter (sq.nfn + 1) args) w := by kernel_rfl
set_option maxHeartbeats 1000000 in
theorem snd_any (c : Nat) (vs : List Value) (s : Sur) (n p l : Nat) (u : Value) (w : World) (hc : Chn w c 1000 vs false) (hr : vs.length < 1000) :
    Calls sqp.prog sq.nfn #[.chan (some c), .agg (V (fdL s n p l)).toArray, u, .bool true, .bool false] w fun e w' => e = .returned (.tuple #[]) ∧ Chn w' c 1000 (vs ++ [.agg (V (fdL s n p l)).toArray]) false ∧ Out c (c + 1) w w' := by
  have L51 := fdL_len s n p l
  have EQ : Hid (∀ W, (Op.equalIn 10000 65 (.agg (V (fdL s n p l)).toArray) (.agg (V (fdL s n p l)).toArray)).run sqp.prog W = .ok true W) := Lib.hid (fun W => eq_fd s n p l W)
  generalize fdL s n p l = L at *
  have HC := Lib.hid hc; clear hc
  have HR := Lib.hid hr; clear hr
  go_enter sqp.funcSnd, sqp.ntmpsSnd
  simp only [sq.sendC, sq.opsA, sq.opsB, sq.oNo]
  refine wp_seq ?_
  refine wp_region_lit ?_
  refine wpList_eql_fd rfl (.tmp 1) (.tmp 1) _ rfl (V L).toArray (V L).toArray rfl rfl true (EQ.out _) ?_
  refine wpList_bs_fd rfl (.tmp 1) rfl L L51 rfl ?_
  refine wpList_nil ?_
  simp only [Act.put, Exit.then]
  have b1 : Below w.heap.size w (w.alloc (.cells (V L).toArray 65)) := (Below.refl _ _).alloc (Nat.le_refl _) _
  have C1 : Hid (Chn (w.alloc (.cells (V L).toArray 65)) c 1000 vs false) := Lib.hid (HC.out.keep b1 HC.out.lt)
  have O1 : Hid (Out c (c + 1) w (w.alloc (.cells (V L).toArray 65))) := Lib.hid (Out.of_below b1)
  generalize w.alloc (.cells (V L).toArray 65) = w1 at *
  refine ch.region rfl ?_
  simp only [List.size_toArray, List.length_cons, List.length_nil, Nat.zero_add, List.range, List.range.loop]
  refine ch.Rw.sendL (c := c) (v := .agg (V L).toArray) (z' := .tuple #[]) rfl rfl (by simp [execOp, Conc.scase, Act.eval]) C1.out HR.out (fun w2 C2 o2 => ?_)
  refine ch.Rw.nil ?_
  go_end0
  exact ⟨rfl, C2, O1.out.trans o2⟩
end Go.Proofs.Ytgcnemkhppkkcaa.orb

namespace Go.Proofs.Ytgcnemkhppkkcaa.gl
open Go.ChangeShapes Go.WideShapes Go.ChangeAt Go.RowKit Go.Maps
open mem ints pm
set_option linter.unusedVariables false
set_option maxRecDepth 100000
theorem laidOut : laidOutB sqp.prog = true := by kernel_rfl
theorem rowG : (62 : TypeId) < sqp.prog.types.size := of_decide_eq_true (by kernel_rfl)
theorem fewT : sqp.prog.types.size + 2 ≤ 10000 := of_decide_eq_true (by kernel_rfl)
theorem keyG : sqp.prog.keyType 62 = true := by kernel_rfl
theorem wideG : (match sqp.prog.underlying 62 with | some (.array _ _) | some (.struct _) => true | _ => false) = true := by kernel_rfl
theorem lawG : Keyed sqp.prog 62 := Keyed.of_law (deep_law_gate laidOut fewT rowG keyG wideG)
def lits (l : List Int) : List Lit := l.map fun a => .int .i64 a
def Wf (l : List Int) : Prop := ∀ a ∈ l, (Lit.int .i64 a).wf = true
def kG (l : List Int) : Lit := .string (keyBytes (lits l))
theorem lits_int (d : Nat) (a : Int) (h : (Lit.int .i64 a).wf = true) : sqp.prog.keyLits (d + 1) 3 [.int .i64 a] = some [.int .i64 a] := by
  unfold Program.keyLits
  rw [sqp.underlying3]
  simp [h]
theorem mapM_range {α : Type} {f : Nat → Option (List α)} : ∀ (n : Nat) (l : List α), l.length = n → (∀ i (h : i < l.length), f i = some [l[i]]) → ((List.range n).mapM f).map List.flatten = some l := by
  intro n
  induction n with
  | zero => intro l h _; obtain rfl := List.eq_nil_of_length_eq_zero h; simp
  | succ n ih =>
    intro l h hf
    have h2 := ih (l.take n) (by simp; omega) (fun i hi => by
      have hi' : i < n := by simpa [h] using hi
      rw [hf i (by omega)]; simp)
    rw [List.range_succ, List.mapM_append]
    obtain ⟨xs, e1, e2⟩ := Option.map_eq_some_iff.1 h2
    rw [e1]
    have e3 := hf n (by omega)
    simp [e3, e2]
    exact List.take_of_length_le (by omega)
theorem lits_perm (d : Nat) (l : List Int) (hl : l.length = 24) (h : Wf l) : sqp.prog.keyLits (d + 2) 60 (V l) = some (lits l) := by
  have hc : sqp.prog.cellsOf 60 = 24 := by kernel_rfl
  have hi : sqp.prog.cellsOf 3 = 1 := by kernel_rfl
  unfold Program.keyLits
  rw [sqp.underlying60]
  simp only [hc, hi, V_len, hl, if_true, Nat.mul_one]
  refine mapM_range 24 (lits l) (by simp [lits, hl]) (fun i hi2 => ?_)
  have hi3 : i < l.length := by simpa [lits] using hi2
  have e : ((V l).drop i).take 1 = [.int .i64 l[i]] := by
    rw [List.take_one, List.head?_drop]
    simp [V, hi3]
  rw [e, lits_int d _ (h _ (List.getElem_mem hi3))]
  simp [lits]
theorem lits_gl (d : Nat) (p q : List Int) (n : Nat) (hp : p.length = 24) (hq : q.length = 24) (h1 : Wf p) (h2 : Wf q) (h3 : n ≤ 1048576) :
    sqp.prog.keyLits (d + 3) 62 (V (gl p q n)) = some (lits (gl p q n)) := by
  have hc : sqp.prog.cellsOf 62 = 49 := by kernel_rfl
  have hc2 : sqp.prog.cellsOf 60 = 24 := by kernel_rfl
  have hi : sqp.prog.cellsOf 3 = 1 := by kernel_rfl
  have e1 : (V (gl p q n)).take 24 = V p := by simp [V, gl, ← hp]
  have e2 : ((V (gl p q n)).drop 24).take 24 = V q := by simp [V, gl, ← hp, hq]
  have e3 : ((V (gl p q n)).drop 48).take 1 = [.int .i64 (n : Int)] := by
    have e : V (gl p q n) = (V p ++ V q) ++ [.int .i64 (n : Int)] := by simp [V, gl]
    rw [e, List.drop_left' (by simp [V, hp, hq])]; rfl
  have hn : (Lit.int .i64 (n : Int)).wf = true := by simp [Lit.wf, IntKind.min, IntKind.max, IntKind.signed, IntKind.bits]; omega
  unfold Program.keyLits
  rw [sqp.underlying62]
  simp [hc, hc2, hi, V_len, gl_len hp hq, e1, e2, e3, lits_perm d p hp h1, lits_perm d q hq h2, lits_int (d + 1) _ hn]
  simp [lits, gl]
theorem kG_key (p q : List Int) (n : Nat) (hp : p.length = 24) (hq : q.length = 24) (h1 : Wf p) (h2 : Wf q) (h3 : n ≤ 1048576) :
    keyOf sqp.prog 62 (.agg (V (gl p q n)).toArray) = some (kG (gl p q n)) := by
  have hs : sqp.prog.types.size + 1 = (sqp.prog.types.size - 2) + 3 := by have : 2 ≤ sqp.prog.types.size := of_decide_eq_true (by kernel_rfl); omega
  have hf : (Value.agg (V (gl p q n)).toArray).formed sqp.prog 62 = true := by
    have hc : sqp.prog.cellsOf 62 = 49 := by kernel_rfl
    simp [Value.formed, sqp.underlying62, hc, V_len, gl_len hp hq]
  unfold keyOf
  rw [sqp.underlying62]
  simp only [keyG, hf, Bool.and_true, if_true, hs]
  have hv : (Value.agg (V (gl p q n)).toArray).cells.toList = V (gl p q n) := by simp [Value.cells]
  rw [hv, lits_gl _ p q n hp hq h1 h2 h3]
  rfl
theorem kG_inj {p q p' q' : List Int} {n n' : Nat} (hp : p.length = 24) (hq : q.length = 24) (h1 : Wf p) (h2 : Wf q) (h3 : n ≤ 1048576) (hp' : p'.length = 24) (hq' : q'.length = 24) (h1' : Wf p') (h2' : Wf q') (h3' : n' ≤ 1048576)
    (e : kG (gl p q n) = kG (gl p' q' n')) : gl p q n = gl p' q' n' := by
  have a := kG_key p q n hp hq h1 h2 h3
  have b := kG_key p' q' n' hp' hq' h1' h2' h3'
  rw [← e] at b
  have := lawG.inj a b
  injection this with this
  have := congrArg Array.toList this
  have this : V (gl p q n) = V (gl p' q' n') := this
  have h1 := unI_V (gl p q n)
  rw [this, unI_V] at h1
  exact (Option.some.inj h1).symm
end Go.Proofs.Ytgcnemkhppkkcaa.gl

namespace Go.Proofs.Ytgcnemkhppkkcaa.gm
open Go.ChangeShapes Go.WideShapes Go.ChangeAt Go.RowKit Go.Maps
set_option linter.unusedVariables false
set_option maxRecDepth 100000
end Go.Proofs.Ytgcnemkhppkkcaa.gm

namespace Go.Proofs.Ytgcnemkhppkkcaa.orb
open Go.ChangeShapes Go.WideShapes Go.ChangeAt Go.RowKit Go.Maps
open mem ints arr pm sf gl
open Go.Proofs.Ytgcnemkhppkkcaa.ch (Chn)
set_option linter.unusedVariables false
set_option maxRecDepth 100000
section
variable {P : Program}
theorem run_loadVar_part (w : World) (g off : Nat) (ty : TypeId) (cs : List Value) (d : TypeDesc) (hc : ∀ (j : Nat) v, cs[j]? = some v → w.cell? ⟨g, off + j, none⟩ = some v)
    (hu : P.underlying ty = some d) (hd : (match d with | .struct _ | .array _ _ => true | _ => false) = true) (hi : (P.info? ty).map (·.size) = some cs.length) :
    (loadVar ty ⟨g, off, none⟩).run P w = .ok (.agg cs.toArray) w := by
  have hl : (loadCells ⟨g, off, none⟩ cs.length).run P w = .ok cs.toArray w :=
    run_loadCells_list (P := P) w ⟨g, off, none⟩ cs (fun j v hv => by
      have hadd : (⟨g, off, none⟩ : Addr).add j = ⟨g, off + j, none⟩ := by unfold Addr.add; split <;> simp_all
      rw [hadd]
      exact hc j v hv)
  cases hq : P.info? ty with
  | none => simp [hq] at hi
  | some i =>
    have hs : i.size = cs.length := by simpa [hq] using hi
    have hagg : (isAgg ty).run P w = .ok true w := by
      unfold isAgg
      rw [Sem.run_bind, run_underlying hu w]
      cases d <;> simp_all
    simp [loadVar, Sem.run_bind, hagg, sizeOf, typeInfo, hq, hs, hl]
theorem wpList_load_part {ops : Array Oper} {rest : List Oper} {o : Oper} {a : Act} {w : World} {Q : Exit → Act → World → Prop} (hgd : o.guard = none) (ty : TypeId) (x : Operand) (ho : o.op = .load ty x)
    (g off : Nat) (hx : a.eval x = .pointer (some ⟨g, off, none⟩)) (cs : List Value) (d : TypeDesc) (hc : ∀ (j : Nat) v, cs[j]? = some v → w.cell? ⟨g, off + j, none⟩ = some v)
    (hu : P.underlying ty = some d) (hd : (match d with | .struct _ | .array _ _ => true | _ => false) = true) (hi : (P.info? ty).map (·.size) = some cs.length)
    (h : wpList P ops Q rest (a.put o.dst (.agg cs.toArray)) w) : wpList P ops Q (o :: rest) a w := by
  refine wpList_plain hgd fun _ hK => ?_
  unfold Oper.wp execOp
  simp only [ho, hx, Instr.loadAt, Instr.sureAddr, Sem.run_bind, Sem.run_pure, Result.andThen_ok, run_loadVar_part w g off ty cs d hc hu hd hi]
  exact hK _ _ h
theorem wpList_lookup_own_bool {H : Type} (w : World) {ops : Array Oper} {rest : List Oper} {o : Oper} {a : Act} {Q : Exit → Act → World → Prop}
    (hg : o.guard = none) (m x : Operand) (t : TypeId) (hop : o.op = Op.lookup t m x false)
    (k e : TypeId) (K : Keyed P k) (ht : P.underlying t = some (.map k e)) (he : P.underlying e = some .bool) (hz : (zeroValue e).run P w = .ok (.bool false) w) (b n : Nat) (D : DataW H)
    (hm : a.eval m = .map (some b)) (hown : w.ownsMap P k (plainElem P e) b n D) (key : Value) (kl : Lit) (hx : a.eval x = key) (hkey : keyOf P k key = some kl) (c : Bool) (hat : D.atKey kl (.lit (.bool false)) = .lit (.bool c))
    (hK : wpList P ops Q rest (a.put o.dst (.bool c)) w) : wpList P ops Q (o :: rest) a w := by
  refine wpList_plain hg fun K' hK' => ?_
  obtain ⟨v, ps, hrun, hv⟩ := hown.lookup K ht hz (plainElem_bool he false) hkey
  have e1 : v = .bool c := by
    unfold plainElem at hv
    rw [he] at hv
    cases v with
    | bool y =>
      simp only [Option.some.injEq, Prod.mk.injEq] at hv
      rw [hat] at hv
      have := hv.1
      injection this with this
      injection this with this
      rw [this]
    | _ => simp at hv
  subst e1
  unfold Oper.wp
  simp [execOp, hop, hm, hx, hrun, Result.andThen]
  exact hK' _ _ hK
end
structure Kb (D : DataW Unit) (ks : List Lit) : Prop where
  tidy : Tidy D
  yes : ∀ k, k ∈ ks → D.atKey k (.lit (.bool false)) = .lit (.bool true)
  no : ∀ k, k ∉ ks → D.atKey k (.lit (.bool false)) = .lit (.bool false)
theorem Kb.empty : Kb (.map []) [] := ⟨tidy_empty, fun k h => by simp at h, fun k _ => by simp [DataW.atKey]⟩
theorem Kb.put {D : DataW Unit} {ks : List Lit} (h : Kb D ks) {k : Lit} (hk : WideAt.IsKeyLit k) : Kb (D.put k (.lit (.bool true))) (ks ++ [k]) := by
  refine ⟨h.tidy.put hk _, fun j hj => ?_, fun j hj => ?_⟩
  · by_cases e : j = k
    · subst e
      rw [atKey_put_same h.tidy.isMap hk]
    · rw [atKey_put_other e]
      refine h.yes j ?_
      rcases List.mem_append.1 hj with z | z
      · exact z
      · exact absurd (by simpa using z) e
  · have e : j ≠ k := fun e => hj (by simp [e])
    rw [atKey_put_other e]
    exact h.no j fun z => hj (List.mem_append_left _ z)
abbrev Fd := Sur × Nat × Nat
def fdV (n : Nat) (x : Fd) : Value := .agg (V (fdL x.1 n x.2.1 x.2.2)).toArray
def fdK (n : Nat) (x : Fd) : Lit := kG (gS x.1 n)
def fdF (n : Nat) (xs : List Fd) : List Value := xs.flatMap fun x => V (gS x.1 n)
structure Frc (B c : Nat) (w w' : World) : Prop where
  os : w'.os = w.os
  tape : w'.tape = w.tape
  output : w'.output = w.output
  size : w.heap.size ≤ w'.heap.size
  block : ∀ k, k < B → k ≠ c → w'.heap[k]? = w.heap[k]?
theorem Frc.trans {B c : Nat} {u v w : World} (h : Frc B c u v) (k : Frc B c v w) : Frc B c u w := ⟨k.os.trans h.os, k.tape.trans h.tape, k.output.trans h.output, Nat.le_trans h.size k.size, fun i h1 h2 => (k.block i h1 h2).trans (h.block i h1 h2)⟩
theorem Frc.of_below {B c : Nat} {w w' : World} (h : Below B w w') : Frc B c w w' := ⟨h.os, h.tape, h.output, h.size, fun k hk _ => h.block k hk⟩
theorem Frc.of_out {B c : Nat} {w w' : World} (h : Out c (c + 1) w w') (hB : B ≤ w.heap.size) : Frc B c w w' := ⟨h.os, h.tape, h.output, h.size, fun k hk hne => h.block k (by omega) (by omega)⟩
structure Qs (w : World) (B mp fb qb cb c n : Nat) (xs : List Fd) : Prop where
  sf : ∀ x ∈ xs, Sf n x.1.1 x.1.2
  fnd : Arr w fb [.map (some mp)] 89
  map : ∃ D : DataW Unit, w.ownsMap sqp.prog 62 (plainElem sqp.prog 4) mp xs.length D ∧ Kb D (xs.map (fdK n))
  que : ∃ A cp, Arr w qb [.slice A xs.length cp] 90 ∧ w.ownsRow B 62 49 (.slice A xs.length cp) xs.length (fdF n xs) ∧ ∀ b, (Value.slice A xs.length cp).ownBlock = some b → b ≠ fb ∧ b ≠ qb ∧ b ≠ cb ∧ b ≠ mp
  chn : Chn w c 1000 (xs.map (fdV n)) false
  cv : Arr w cb [.chan (some c)] 131
  lo : B ≤ mp ∧ B ≤ fb ∧ B ≤ qb ∧ B ≤ cb ∧ c < B
  ne : fb ≠ qb ∧ fb ≠ cb ∧ qb ≠ cb ∧ mp ≠ fb ∧ mp ≠ qb ∧ mp ≠ cb
end Go.Proofs.Ytgcnemkhppkkcaa.orb

namespace Go.Proofs.Ytgcnemkhppkkcaa.orb
open Go.ChangeShapes Go.WideShapes Go.ChangeAt Go.RowKit Go.Maps
open mem ints arr pm sf gl
open Go.Proofs.Ytgcnemkhppkkcaa.ch (Chn)
set_option linter.unusedVariables false
set_option maxRecDepth 100000
theorem wf_ext {xs : List Int} (h : Ok xs) : Wf (ext xs) := by
  intro a ha
  have h2 := ext_ok h
  have hl := ext_len xs
  obtain ⟨i, hi, e⟩ := List.mem_iff_getElem.1 ha
  have h3 := h2.lo i hi
  have h4 := h2.hi i hi
  have h5 : (ext xs).getD i 0 = a := by rw [List.getD_eq_getElem?_getD, List.getElem?_eq_getElem hi, ← e]; rfl
  rw [h5] at h3 h4
  rw [hl] at h4
  simp [Lit.wf, IntKind.min, IntKind.max, IntKind.signed, IntKind.bits]
  omega
theorem n_le {n : Nat} {s : Sur} (h : Sf n s.1 s.2) : n ≤ 24 := by have := h.r.len; rw [h.lr] at this; exact this
theorem key_fd {n : Nat} {s : Sur} (h : Sf n s.1 s.2) : keyOf sqp.prog 62 (.agg (V (gS s n)).toArray) = some (kG (gS s n)) :=
  kG_key _ _ n (ext_len _) (ext_len _) (wf_ext h.r) (wf_ext h.u) (by have := n_le h; omega)
theorem key_inj {n : Nat} {s t : Sur} (h : Sf n s.1 s.2) (k : Sf n t.1 t.2) (e : kG (gS s n) = kG (gS t n)) : s = t := by
  have hn := n_le h
  have e2 := kG_inj (ext_len _) (ext_len _) (wf_ext h.r) (wf_ext h.u) (by omega) (ext_len _) (ext_len _) (wf_ext k.r) (wf_ext k.u) (by omega) e
  have e3 : (ext s.1 ++ (ext s.2 ++ [(n : Int)])) = (ext t.1 ++ (ext t.2 ++ [(n : Int)])) := by simpa [gl] using e2
  have e4 := List.append_inj e3 (by rw [ext_len, ext_len])
  have e5 := List.append_inj e4.2 (by rw [ext_len, ext_len])
  exact Prod.ext (ext_inj (by rw [h.lr, k.lr]) (by rw [h.lr]; exact hn) e4.1) (ext_inj (by rw [h.lu, k.lu]) (by rw [h.lu]; exact hn) e5.1)
section
variable {P : Program}
theorem wpList_load_one {ops : Array Oper} {rest : List Oper} {o : Oper} {a : Act} {w : World} {Q : Exit → Act → World → Prop} (hgd : o.guard = none) (ty : TypeId) (x : Operand) (ho : o.op = .load ty x)
    (g : Nat) (hx : a.eval x = .pointer (some ⟨g, 0, none⟩)) (v : Value) (t : TypeId) (d : TypeDesc) (hc : Arr w g [v] t)
    (hu : P.underlying ty = some d) (hd : (match d with | .struct _ | .array _ _ => true | _ => false) = false)
    (h : wpList P ops Q rest (a.put o.dst v) w) : wpList P ops Q (o :: rest) a w := by
  refine wpList_plain hgd fun _ hK => ?_
  have hl : (loadVar ty ⟨g, 0, none⟩).run P w = .ok v w := by
    have hagg : (isAgg ty).run P w = .ok false w := by
      unfold isAgg
      rw [Sem.run_bind, run_underlying hu w]
      cases d <;> simp_all
    have hcell : w.cell? ⟨g, 0, none⟩ = some v := hc.cell (k := 0) rfl
    simp [loadVar, Sem.run_bind, hagg, hcell]
  unfold Oper.wp execOp
  simp only [ho, hx, Instr.loadAt, Instr.sureAddr, Sem.run_bind, Sem.run_pure, Result.andThen_ok, hl]
  exact hK _ _ h
end
theorem Qs.keep {w w' : World} {B mp fb qb cb c n : Nat} {xs : List Fd} (h : Qs w B mp fb qb cb c n xs) (hg : Below w.heap.size w w') : Qs w' B mp fb qb cb c n xs := by
  obtain ⟨D, hD, hK⟩ := h.map
  obtain ⟨A, cp, q1, q2, q3⟩ := h.que
  refine ⟨h.sf, h.fnd.keep hg h.fnd.lt, ⟨D, hD.kept (row := none) ⟨hg.os, hg.tape, hg.output, hg.size, fun k hk _ => hg.block k hk⟩ (by simp), hK⟩, ⟨A, cp, q1.keep hg q1.lt, own_block_keep q2 (fun b hb => hg.block b (World.ownsRow.lt q2 b hb).2), q3⟩, h.chn.keep hg h.chn.lt, h.cv.keep hg h.cv.lt, h.lo, h.ne⟩
theorem fdF_put (n : Nat) (xs : List Fd) (x : Fd) : fdF n (xs ++ [x]) = fdF n xs ++ V (gS x.1 n) := by simp [fdF]
theorem part_find (s : Sur) (n p l : Nat) : ∀ (j : Nat) v, (V (gS s n))[j]? = some v → (V (fdL s n p l))[j]? = some v := by
  intro j v h
  have hj : j < (V (gS s n)).length := (List.getElem?_eq_some_iff.1 h).1
  rw [V_len] at hj
  simp only [fdL, V, List.map_append]
  rw [List.getElem?_append_left (by simpa using hj)]
  exact h
theorem mem_keys {n : Nat} {s : Sur} {xs : List Fd} (hs : Sf n s.1 s.2) (hx : ∀ x ∈ xs, Sf n x.1.1 x.1.2) : kG (gS s n) ∈ xs.map (fdK n) ↔ s ∈ xs.map Prod.fst := by
  constructor
  · intro h
    obtain ⟨x, h1, h2⟩ := List.mem_map.1 h
    exact List.mem_map.2 ⟨x, h1, key_inj (hx x h1) hs h2⟩
  · intro h
    obtain ⟨x, h1, rfl⟩ := List.mem_map.1 h
    exact List.mem_map.2 ⟨x, h1, rfl⟩
structure Qz (w : World) (B mp fb qb cb c n : Nat) (xm xq xc : List Fd) (v : Value) : Prop where
  fnd : Arr w fb [.map (some mp)] 89
  map : ∃ D : DataW Unit, w.ownsMap sqp.prog 62 (plainElem sqp.prog 4) mp xm.length D ∧ Kb D (xm.map (fdK n))
  que : Arr w qb [v] 90
  row : w.ownsRow B 62 49 v xq.length (fdF n xq)
  frm : ∃ A cp, v = .slice A xq.length cp
  far : ∀ b, v.ownBlock = some b → b ≠ fb ∧ b ≠ qb ∧ b ≠ cb ∧ b ≠ mp
  chn : Chn w c 1000 (xc.map (fdV n)) false
  cv : Arr w cb [.chan (some c)] 131
  lo : B ≤ mp ∧ B ≤ fb ∧ B ≤ qb ∧ B ≤ cb ∧ c < B
  ne : fb ≠ qb ∧ fb ≠ cb ∧ qb ≠ cb ∧ mp ≠ fb ∧ mp ≠ qb ∧ mp ≠ cb
theorem Qs.open_ {w : World} {B mp fb qb cb c n : Nat} {xs : List Fd} (h : Qs w B mp fb qb cb c n xs) : ∃ v, Qz w B mp fb qb cb c n xs xs xs v := by
  obtain ⟨A, cp, q1, q2, q3⟩ := h.que
  exact ⟨_, h.fnd, h.map, q1, q2, ⟨A, cp, rfl⟩, q3, h.chn, h.cv, h.lo, h.ne⟩
theorem Qz.close_ {w : World} {B mp fb qb cb c n : Nat} {xs : List Fd} {v : Value} (h : Qz w B mp fb qb cb c n xs xs xs v) (hs : ∀ x ∈ xs, Sf n x.1.1 x.1.2) : Qs w B mp fb qb cb c n xs := by
  obtain ⟨A, cp, rfl⟩ := h.frm
  exact ⟨hs, h.fnd, h.map, ⟨A, cp, h.que, h.row, h.far⟩, h.chn, h.cv, h.lo, h.ne⟩
theorem Qz.mpl {w : World} {B mp fb qb cb c n : Nat} {xm xq xc : List Fd} {v : Value} (h : Qz w B mp fb qb cb c n xm xq xc v) : mp < w.heap.size := by
  obtain ⟨D, hD, _⟩ := h.map
  exact hD.lt
theorem Qz.keep {w w' : World} {B mp fb qb cb c n : Nat} {xm xq xc : List Fd} {v : Value} (h : Qz w B mp fb qb cb c n xm xq xc v) (hg : Below w.heap.size w w') : Qz w' B mp fb qb cb c n xm xq xc v := by
  obtain ⟨D, hD, hK⟩ := h.map
  exact ⟨h.fnd.keep hg h.fnd.lt, ⟨D, hD.kept (row := none) ⟨hg.os, hg.tape, hg.output, hg.size, fun k hk _ => hg.block k hk⟩ (by simp), hK⟩, h.que.keep hg h.que.lt, own_block_keep h.row (fun b hb => hg.block b (World.ownsRow.lt h.row b hb).2), h.frm, h.far, h.chn.keep hg h.chn.lt, h.cv.keep hg h.cv.lt, h.lo, h.ne⟩
theorem arr_grown {w w' : World} {row : Option Nat} {g : Nat} {cs : List Value} {t : TypeId} (h : Arr w g cs t) (hg : w.grownBy w' row) (hne : some g ≠ row) : Arr w' g cs t := (hg.block g h.lt hne).trans h
theorem chn_grown {w w' : World} {row : Option Nat} {c cap : Nat} {vs : List Value} {cl : Bool} (h : Chn w c cap vs cl) (hg : w.grownBy w' row) (hne : some c ≠ row) : Chn w' c cap vs cl := by
  have e := hg.block c h.lt hne
  obtain ⟨a, b, q⟩ := h
  exact ⟨a, b, e.trans q⟩
theorem Qz.put {w w' : World} {B mp fb qb cb c n : Nat} {xm xq xc : List Fd} {v : Value} (h : Qz w B mp fb qb cb c n xm xq xc v) (x : Fd) {D : DataW Unit} (hK : Kb D (xm.map (fdK n)))
    (ho : w'.ownsMap sqp.prog 62 (plainElem sqp.prog 4) mp (xm.length + 1) (D.put (fdK n x) (.lit (.bool true)))) (hg : w.grownBy w' (some mp)) : Qz w' B mp fb qb cb c n (xm ++ [x]) xq xc v := by
  have hlo := h.lo
  have hne := h.ne
  exact ⟨arr_grown h.fnd hg (by simp; omega), ⟨_, by rw [List.length_append]; exact ho, by rw [List.map_append]; exact hK.put trivial⟩, arr_grown h.que hg (by simp; omega), own_block_keep h.row (fun b hb => hg.block b (World.ownsRow.lt h.row b hb).2 (by have := (h.far b hb).2.2.2; simp; omega)), h.frm, h.far, chn_grown h.chn hg (by simp; omega), arr_grown h.cv hg (by simp; omega), h.lo, h.ne⟩
theorem Qz.push {w w' : World} {B mp fb qb cb c n : Nat} {xm xq xc : List Fd} {v : Value} (h : Qz w B mp fb qb cb c n xm xq xc v) (x : Fd) {g cp : Nat}
    (ho : w'.ownsRow B 62 49 (.slice (some ⟨g, 0, none⟩) (xq.length + 1) cp) (xq.length + 1) (fdF n xq ++ V (gS x.1 n))) (hg : w.grownBy w' v.ownBlock) (hat : v.ownBlock = some g ∨ g = w.heap.size) :
    Qz (w'.setRow qb #[.slice (some ⟨g, 0, none⟩) (xq.length + 1) cp]) B mp fb qb cb c n xm (xq ++ [x]) xc (.slice (some ⟨g, 0, none⟩) (xq.length + 1) cp) := by
  obtain ⟨D, hD, hK⟩ := h.map
  have l1 := h.fnd.lt
  have l2 := h.que.lt
  have l3 := h.cv.lt
  have l4 := hD.lt
  have hgn : g ≠ fb ∧ g ≠ qb ∧ g ≠ cb ∧ g ≠ mp := by
    rcases hat with e | e
    · exact h.far g e
    · subst e; omega
  have hlo := h.lo
  have hne := h.ne
  have nf : ∀ k, v.ownBlock = some k → B ≤ k := fun k hk => (World.ownsRow.lt h.row k hk).1
  have M : w'.ownsMap sqp.prog 62 (plainElem sqp.prog 4) mp xm.length D := hD.kept hg (fun e => (h.far mp e.symm).2.2.2 rfl)
  have Q : Arr w' qb [v] 90 := arr_grown h.que hg (fun e => (h.far qb e.symm).2.1 rfl)
  have C : Chn w' c 1000 (xc.map (fdV n)) false := chn_grown h.chn hg (fun e => by have := nf c e.symm; omega)
  refine ⟨(arr_grown h.fnd hg (fun e => (h.far fb e.symm).1 rfl)).rowOther hne.1, ⟨D, ?_, hK⟩, Q.row (cs' := [_]), ?_, ⟨_, cp, by rw [List.length_append]; rfl⟩, fun b hb => ?_, ?_, (arr_grown h.cv hg (fun e => (h.far cb e.symm).2.2.1 rfl)).rowOther (by omega), h.lo, h.ne⟩
  · obtain ⟨es, cl, e1, e2⟩ := M
    exact ⟨es, cl, (setRow_other _ _ _ _ (by omega)).trans e1, e2⟩
  · rw [List.length_append, fdF_put]
    exact own_block_keep ho (fun b hb => setRow_other _ _ _ _ (by have e : g = b := by simpa [Value.ownBlock] using hb
                                                                  omega))
  · have e : g = b := by simpa [Value.ownBlock] using hb
    subst e; exact hgn
  · obtain ⟨a, b, e⟩ := C
    exact ⟨a, b, (setRow_other _ _ _ _ (by omega)).trans e⟩
theorem Qz.sent {w w' : World} {B mp fb qb cb c n : Nat} {xm xq xc : List Fd} {v : Value} (h : Qz w B mp fb qb cb c n xm xq xc v) (x : Fd) (hc : Chn w' c 1000 (xc.map (fdV n) ++ [fdV n x]) false) (ho : Out c (c + 1) w w') :
    Qz w' B mp fb qb cb c n xm xq (xc ++ [x]) v := by
  obtain ⟨D, hD, hK⟩ := h.map
  have hlo := h.lo
  have l1 := h.fnd.lt
  have l2 := h.que.lt
  have l3 := h.cv.lt
  have l4 := hD.lt
  have bk : ∀ k, B ≤ k → k < w.heap.size → w'.heap[k]? = w.heap[k]? := fun k h1 h2 => ho.block k h2 (by omega)
  refine ⟨(bk fb (by omega) l1).trans h.fnd, ⟨D, ?_, hK⟩, (bk qb (by omega) l2).trans h.que, own_block_keep h.row (fun b hb => bk b (World.ownsRow.lt h.row b hb).1 (World.ownsRow.lt h.row b hb).2), h.frm, h.far, by rw [List.map_append]; exact hc, (bk cb (by omega) l3).trans h.cv, h.lo, h.ne⟩
  obtain ⟨es, cl, e1, e2⟩ := hD
  exact ⟨es, cl, (bk mp (by omega) l4).trans e1, e2⟩
theorem Frc.of_grown {B c : Nat} {w w' : World} {row : Option Nat} (h : w.grownBy w' row) (hr : ∀ b, row = some b → B ≤ b) (hB : B ≤ w.heap.size) : Frc B c w w' :=
  ⟨h.os, h.tape, h.output, h.size, fun k h1 _ => h.block k (by omega) (fun e => by have := hr k e.symm; omega)⟩
theorem Frc.of_row {B c : Nat} (w : World) {g : Nat} (hg : B ≤ g) (cs : Array Value) : Frc B c w (w.setRow g cs) := Frc.of_below (below_setRow (Below.refl B w) hg cs)
theorem size51 {L : List Int} (h : L.length = 51) : (sqp.prog.info? 65).map (·.size) = some (V L).toArray.size := by
  obtain ⟨i, hi, hz, hs, hb⟩ := info_parts infoFd
  rw [hi]
  simp [hs, V_len, h]
set_option maxHeartbeats 800000 in
theorem meet_any (B mp fb qb cb c n : Nat) (xs : List Fd) (s : Sur) (p l : Nat) (w : World) (hq : Qs w B mp fb qb cb c n xs) (hs : Sf n s.1 s.2) (hx : xs.length < 900) (hB : B ≤ w.heap.size) :
    Calls sqp.prog 94 #[.agg (V (fdL s n p l)).toArray, .pointer (some ⟨fb, 0, none⟩), .pointer (some ⟨qb, 0, none⟩), .pointer (some ⟨cb, 0, none⟩)] w fun e w' =>
      e = .returned (.tuple #[]) ∧ Qs w' B mp fb qb cb c n (if s ∈ xs.map Prod.fst then xs else xs ++ [(s, p, l)]) ∧ Frc B c w w' := by
  have HS : Hid (Sf n s.1 s.2) := Lib.hid hs
  have HX : Hid (xs.length < 900) := Lib.hid hx; clear hx
  have MK : Hid (kG (gS s n) ∈ xs.map (fdK n) ↔ s ∈ xs.map Prod.fst) := Lib.hid (mem_keys hs hq.sf)
  have KF : Hid (keyOf sqp.prog 62 (.agg (V (gS s n)).toArray) = some (kG (gS s n))) := Lib.hid (key_fd hs)
  clear hs
  have L51 := fdL_len s n p l
  have L49 := gS_len s n
  have PF : Hid (∀ (j : Nat) v, (V (gS s n))[j]? = some v → (V (fdL s n p l))[j]? = some v) := Lib.hid (part_find s n p l)
  have HQ := Lib.hid hq; clear hq
  generalize hZ : (if s ∈ xs.map Prod.fst then xs else xs ++ [(s, p, l)]) = Z
  have ZX := Lib.hid hZ; clear hZ
  go_enter sqp.func94, sqp.ntmps94
  simp only [sq.mapC, sq.seqO, List.map_toArray, List.map_cons, List.map_nil]
  have b1 : Below w.heap.size w (w.alloc (.cells (V (fdL s n p l)).toArray 65)) := (Below.refl _ _).alloc (Nat.le_refl _) _
  have Q1 : Hid (Qs (w.alloc (.cells (V (fdL s n p l)).toArray 65)) B mp fb qb cb c n xs) := Lib.hid (HQ.out.keep b1)
  have F1 : Hid (Frc B c w (w.alloc (.cells (V (fdL s n p l)).toArray 65))) := Lib.hid (Frc.of_below (b1.mono hB))
  have X1 : Hid (Arr (w.alloc (.cells (V (fdL s n p l)).toArray 65)) w.heap.size (V (fdL s n p l)) 65) := Lib.hid (Arr.new w _ _ rfl)
  have PX : Hid (∀ (j : Nat) v, (V (gS s n))[j]? = some v → (w.alloc (.cells (V (fdL s n p l)).toArray 65)).cell? ⟨w.heap.size, 0 + j, none⟩ = some v) := Lib.hid (fun j v h => by rw [Nat.zero_add]; exact X1.out.cell (PF.out j v h))
  obtain ⟨v0, hz0⟩ := HQ.out.open_
  have SF := HQ.out.sf
  have Z1 : Hid (Qz (w.alloc (.cells (V (fdL s n p l)).toArray 65)) B mp fb qb cb c n xs xs xs v0) := Lib.hid (hz0.keep b1)
  have W0 : Hid (∀ b, v0.ownBlock = some b → b < w.heap.size) := Lib.hid (fun b hb => (World.ownsRow.lt hz0.row b hb).2)
  have hlm := hz0.mpl
  have hlq := hz0.que.lt
  have hlo := hz0.lo
  have hs1 : (w.alloc (.cells (V (fdL s n p l)).toArray 65)).heap.size = w.heap.size + 1 := by simp
  have PR : Hid (∀ W, Arr W w.heap.size (V (fdL s n p l)) 65 → ∀ (j : Nat) v, (V (gS s n))[j]? = some v → W.cell? ⟨w.heap.size, 0 + j, none⟩ = some v) := Lib.hid (fun W hW j v h => by rw [Nat.zero_add]; exact hW.cell (PF.out j v h))
  clear HQ b1 hz0
  by_cases hm : s ∈ xs.map Prod.fst
  · have HM := Lib.hid hm
    obtain ⟨D, hD, hKb⟩ := Q1.out.map
    have HD := Lib.hid hD
    have HT : Hid (D.atKey (kG (gS s n)) (.lit (.bool false)) = .lit (.bool true)) := Lib.hid (hKb.yes _ (MK.out.2 hm))
    clear hD hKb hm
    go_wp2_with (first | (refine wpList_load_one rfl 89 _ rfl fb rfl _ _ _ Q1.out.fnd sqp.underlying89 rfl ?_) | (refine wpList_load_part rfl 62 _ rfl w.heap.size 0 rfl (V (gS s n)) _ PX.out sqp.underlying62 rfl (size49 L49) ?_) | (refine wpList_lookup_own_bool _ rfl _ _ 89 rfl 62 4 lawG sqp.underlying89 sqp.underlying4 (by kernel_rfl) mp _ D rfl HD.out _ _ rfl KF.out true HT.out ?_) | fail)
    go_end0
    exact ⟨rfl, by rw [← ZX.out, if_pos HM.out]; exact Q1.out, F1.out⟩
  · have HM := Lib.hid hm
    obtain ⟨D, hD, hKb⟩ := Z1.out.map
    have HD := Lib.hid hD
    have HK := Lib.hid hKb
    have HT : Hid (D.atKey (kG (gS s n)) (.lit (.bool false)) = .lit (.bool false)) := Lib.hid (hKb.no _ (fun e => hm (MK.out.1 e)))
    have IK : Hid (WideAt.IsKeyLit (kG (gS s n))) := Lib.hid trivial
    clear hD hKb hm
    have hx9 := HX.out
    obtain ⟨i0, hi0, hz0, hz1, hz2⟩ := info_parts infoGl
    go_wp2_with (first | (refine wpList_load_one rfl 89 _ rfl fb rfl _ _ _ Q1.out.fnd sqp.underlying89 rfl ?_) | (refine wpList_load_part rfl 62 _ rfl w.heap.size 0 rfl (V (gS s n)) _ PX.out sqp.underlying62 rfl (size49 L49) ?_) | (refine wpList_lookup_own_bool _ rfl _ _ 89 rfl 62 4 lawG sqp.underlying89 sqp.underlying4 (by kernel_rfl) mp _ D rfl HD.out _ _ rfl KF.out false HT.out ?_) | (at_mapUpdate; refine wpList_mapUpdate_own _ rfl _ _ _ 89 rfl 62 4 lawG sqp.underlying89 (plainElem sqp.prog 4) mp xs.length D rfl HD.out (by unfold maxLen; omega) _ _ (kG (gS s n)) rfl rfl KF.out (.lit (.bool true)) [] (plainElem_bool sqp.underlying4 true) ?_; intro w2 hown2 hgrow2; have X2 : Hid (Arr w2 w.heap.size (V (fdL s n p l)) 65) := Lib.hid (arr_grown X1.out hgrow2 (by simp; omega)); have Z2 : Hid (Qz w2 B mp fb qb cb c n (xs ++ [(s, p, l)]) xs xs v0) := Lib.hid (Z1.out.put (s, p, l) HK.out hown2 hgrow2); have F2 : Hid (Frc B c w w2) := Lib.hid (F1.out.trans ⟨hgrow2.os, hgrow2.tape, hgrow2.output, hgrow2.size, fun k h1 _ => hgrow2.block k (by omega) (by simp; omega)⟩); have P2 := Lib.hid (PR.out w2 X2.out); have hs2 := hgrow2.size; clear hown2 hgrow2) | (refine wpList_load_one rfl 90 _ rfl qb rfl _ _ _ Z2.out.que sqp.underlying90 rfl ?_) | (refine wpList_load_part rfl 62 _ rfl w.heap.size 0 rfl (V (gS s n)) _ P2.out sqp.underlying62 rfl (size49 L49) ?_) | (refine wpList_bs_gl rfl _ rfl (gS s n) L49 rfl ?_) | (at_builtin; refine wpList_append_lies (w2.alloc (.cells (V (gS s n)).toArray 62)) rfl _ _ 90 rfl B 62 i0 _ 49 392 sqp.underlying90 hi0 hz0 hz1 hz2 rfl (by decide) v0 xs.length (fdF n xs) rfl (Z2.out.row.alloc _) ⟨w2.heap.size, 0, none⟩ 1 1 (V (gS s n)) rfl (by simp [V_len, L49]) ?hn ?h1 (by decide) ?c4 ?c5 ?c6 _ rfl ?_) | fail)
    case h1 => intro q hq; obtain ⟨z, _, rfl⟩ := List.mem_map.1 hq; rfl
    case c4 => unfold maxLen; omega
    case c5 => omega
    case c6 => first | omega | (simp; omega)
    intro g7 cap7 w7 ho hg hb hlt7
    have Z3 := Z2.out.keep ((Below.refl w2.heap.size w2).alloc (Nat.le_refl _) (.cells (V (gS s n)).toArray 62))
    have Z4 := Lib.hid (Z3.push (s, p, l) ho hg (hb.imp id (fun e => by simp [e])))
    have Q7 : Hid (Arr w7 qb [v0] 90) := Lib.hid (arr_grown Z3.que hg (fun e => (Z2.out.far qb e.symm).2.1 rfl))
    have X7 : Hid (Arr w7 w.heap.size (V (fdL s n p l)) 65) := Lib.hid (arr_grown (X2.out.alloc _) hg (fun e => by have := W0.out _ e.symm; omega))
    have F7 : Hid (Frc B c w w7) := Lib.hid ((F2.out.trans (Frc.of_below ((Below.refl B w2).alloc (by omega) _))).trans (Frc.of_grown hg (fun b e => (World.ownsRow.lt Z2.out.row b e).1) (by simp; omega)))
    clear Z3 ho hg hb hlt7 Q1 Z1 F1 X1 PX HD HK HT Z2 F2 X2 P2
    go_wp2_with (first | (refine wpList_store_oneTo rfl 90 _ _ rfl rfl qb (.slice (some ⟨g7, 0, none⟩) (xs.length + 1) cap7) rfl rfl rfl _ _ Q7.out (by kernel_rfl) ?_; have X8 : Hid (Arr (w7.setRow qb #[.slice (some ⟨g7, 0, none⟩) (xs.length + 1) cap7]) w.heap.size (V (fdL s n p l)) 65) := Lib.hid (X7.out.rowOther (by omega)); have F8 : Hid (Frc B c w (w7.setRow qb #[.slice (some ⟨g7, 0, none⟩) (xs.length + 1) cap7])) := Lib.hid (F7.out.trans (Frc.of_row w7 (by omega) _)); generalize w7.setRow qb #[.slice (some ⟨g7, 0, none⟩) (xs.length + 1) cap7] = w8 at *) | (refine wpList_load_one rfl 131 _ rfl cb rfl _ _ _ Z4.out.cv sqp.underlying131 rfl ?_) | (refine wpList_load_row rfl 65 _ rfl w.heap.size rfl 65 (V (fdL s n p l)).toArray (0, 0) _ X8.out sqp.underlying65 rfl (size51 L51) ?_) | fail)
    refine (snd_any c (xs.map (fdV n)) s n p l (.chan (some c)) w8 Z4.out.chn (by rw [List.length_map]; omega)).mono ?_
    rintro e w9 ⟨rfl, hc9, ho9⟩
    have Z9 := Lib.hid (Z4.out.sent (s, p, l) hc9 ho9)
    have F9 := Lib.hid (F8.out.trans (Frc.of_out ho9 (by have := F8.out.size; omega)))
    clear hc9 ho9 Z4 F8
    go_wp2_with fail
    go_end0
    refine ⟨rfl, ?_, F9.out⟩
    rw [← ZX.out, if_neg HM.out]
    refine Z9.out.close_ (fun x hx => ?_)
    rcases List.mem_append.1 hx with h | h
    · exact SF x h
    · obtain rfl : x = (s, p, l) := by simpa using h
      exact HS.out
end Go.Proofs.Ytgcnemkhppkkcaa.orb
