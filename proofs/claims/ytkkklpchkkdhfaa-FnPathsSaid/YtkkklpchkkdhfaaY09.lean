import Derived.Test.YtkkklpchkkdhfaaY07
import Derived.Test.YtkkklpchkkdhfaaY08
import Derived.Test.YtkkklpchkkdhfaaY04
import Derived.Laws.Tables
import Derived.Deep.MidRow
import Derived.Test.YtkkklpchkkdhfaaY05
import Derived.Laws.RangeString
/-
  The program's gluing: two arrays and a number, by value; gluingOf, surface.
-/
namespace Go.Proofs.Ytkkklpchkkdhfaa.gl
open Go.ChangeShapes Go.WideShapes Go.ChangeAt Go.RowKit
open Go.Proofs.Ytkkklpchkkdhfaa.mem Go.Proofs.Ytkkklpchkkdhfaa.ints Go.Proofs.Ytkkklpchkkdhfaa.arr Go.Proofs.Ytkkklpchkkdhfaa.pm Go.Proofs.Ytkkklpchkkdhfaa.permOk Go.Proofs.Ytkkklpchkkdhfaa.permOf Go.Proofs.Ytkkklpchkkdhfaa.inv Go.Proofs.Ytkkklpchkkdhfaa.fns Go.Proofs.Ytkkklpchkkdhfaa.sf
set_option linter.unusedVariables false
set_option maxRecDepth 100000

/-- Right, Up and the number of squares, in one row. -/
def gl (p q : List Int) (n : Nat) : List Int := p ++ q ++ [(n : Int)]
def zero49 : List Int := List.replicate 49 0
theorem gl_len {p q : List Int} (hp : p.length = 24) (hq : q.length = 24) (n : Nat) : (gl p q n).length = 49 := by simp [gl, hp, hq]
theorem zero49_len : zero49.length = 49 := by simp [zero49]
theorem info49 : (Try.prog.info? 64).map (·.size) = some 49 := by kernel_rfl
theorem size49 {l : List Int} (h : l.length = 49) : (Try.prog.info? 64).map (·.size) = some (V l).toArray.size := by rw [info49]; simp [V, h]
theorem list24 {l : List Int} (h : l.length = 24) : ∃ a0 a1 a2 a3 a4 a5 a6 a7 a8 a9 b0 b1 b2 b3 b4 b5 b6 b7 b8 b9 c0 c1 c2 c3, l = [a0, a1, a2, a3, a4, a5, a6, a7, a8, a9, b0, b1, b2, b3, b4, b5, b6, b7, b8, b9, c0, c1, c2, c3] := by
  match l, h with
  | [a0, a1, a2, a3, a4, a5, a6, a7, a8, a9, b0, b1, b2, b3, b4, b5, b6, b7, b8, b9, c0, c1, c2, c3], _ => exact ⟨a0, a1, a2, a3, a4, a5, a6, a7, a8, a9, b0, b1, b2, b3, b4, b5, b6, b7, b8, b9, c0, c1, c2, c3, rfl⟩
theorem built_gl {p q : List Int} (hp : p.length = 24) (hq : q.length = 24) (n : Nat) :
    Try.prog.built 64 [(0, .agg (V p).toArray), (1, .agg (V q).toArray), (2, .int .i64 n)] = some (V (gl p q n)).toArray := by
  obtain ⟨a0, a1, a2, a3, a4, a5, a6, a7, a8, a9, b0, b1, b2, b3, b4, b5, b6, b7, b8, b9, c0, c1, c2, c3, rfl⟩ := list24 hp
  obtain ⟨a0', a1', a2', a3', a4', a5', a6', a7', a8', a9', b0', b1', b2', b3', b4', b5', b6', b7', b8', b9', c0', c1', c2', c3', rfl⟩ := list24 hq
  kernel_rfl
theorem built_zero : Try.prog.built 64 [] = some (V zero49).toArray := by kernel_rfl
theorem wpList_build {P : Program} {ops : Array Oper} {rest : List Oper} {o : Oper} {a : Act} {w : World} {Q : Exit → Act → World → Prop} (hgd : o.guard = none) (t : TypeId) (parts : Array (Nat × Operand)) (ho : o.op = .build t parts)
    (l : List (Nat × Value)) (hl : (parts.toList.map fun p => (p.1, a.eval p.2)) = l) (cells : Array Value) (hb : P.built t l = some cells)
    (h : wpList P ops Q rest (a.put o.dst (.agg cells)) w) : wpList P ops Q (o :: rest) a w := by
  have hb' : P.built t (parts.map fun (i, x) => (i, a.eval x)).toList = some cells := by
    rw [Array.toList_map]
    subst hl
    exact hb
  refine wpList_plain hgd fun K hK => wp_build t parts ho (by rw [hb']; rfl) ?_
  rw [hb']
  exact hK _ _ h
theorem gl_right {w : World} {b : Nat} {p q : List Int} {n : Nat} {t : TypeId} (hp : p.length = 24) (h : Arr w b (V (gl p q n)) t) : w.rangeAt b 0 (V p) := fun j v hv => by
  have hj : j < 24 := by have := (List.getElem?_eq_some_iff.1 hv).1; simpa [V, hp] using this
  rw [Nat.zero_add]
  refine h.cell ?_
  rw [← hv]
  simp only [gl, V, List.map_append, List.append_assoc]
  rw [List.getElem?_append_left (by simp; omega)]
theorem gl_up {w : World} {b : Nat} {p q : List Int} {n : Nat} {t : TypeId} (hp : p.length = 24) (hq : q.length = 24) (h : Arr w b (V (gl p q n)) t) : w.rangeAt b 24 (V q) := fun j v hv => by
  have hj : j < 24 := by have := (List.getElem?_eq_some_iff.1 hv).1; simpa [V, hq] using this
  refine h.cell ?_
  rw [← hv]
  simp only [gl, V, List.map_append, List.append_assoc]
  rw [List.getElem?_append_right (by simp; omega), List.getElem?_append_left (by simp; omega)]
  congr 1; simp; omega
theorem gl_count {w : World} {b : Nat} {p q : List Int} {n : Nat} {t : TypeId} (hp : p.length = 24) (hq : q.length = 24) (h : Arr w b (V (gl p q n)) t) : w.cell? ⟨b, 48, none⟩ = some (.int .i64 n) := by
  refine h.cell ?_
  simp only [gl, V, List.map_append]
  rw [List.getElem?_append_right (by simp; omega)]
  simp [hp, hq]
theorem right_at {p q : List Int} {n k : Nat} (hp : p.length = 24) (hk : k < 24) : (gl p q n).getD k 0 = p.getD k 0 := by
  simp only [gl, List.append_assoc, List.getD]
  rw [List.getElem?_append_left (by omega)]
theorem up_at {p q : List Int} {n k : Nat} (hp : p.length = 24) (hq : q.length = 24) (hk : k < 24) : (gl p q n).getD (24 + k) 0 = q.getD k 0 := by
  simp only [gl, List.append_assoc, List.getD]
  rw [List.getElem?_append_right (by omega), List.getElem?_append_left (by omega)]
  congr 2; omega

theorem Srd.fst {w : World} {hi : Nat} {P Q : Option Addr} {n c m d : Nat} {r u : List Int} (h : Srd w hi (.agg #[.slice P n c, .slice Q m d]) r u) : Rd w hi P n (V r) := by
  obtain ⟨P', n', c', Q', m', d', e, a, b, _⟩ := h
  simp at e
  obtain ⟨⟨rfl, rfl, rfl⟩, rfl, rfl, rfl⟩ := e
  exact a
theorem Srd.snd {w : World} {hi : Nat} {P Q : Option Addr} {n c m d : Nat} {r u : List Int} (h : Srd w hi (.agg #[.slice P n c, .slice Q m d]) r u) : Rd w hi Q m (V u) := by
  obtain ⟨P', n', c', Q', m', d', e, a, b, _⟩ := h
  simp at e
  obtain ⟨⟨rfl, rfl, rfl⟩, rfl, rfl, rfl⟩ := e
  exact b
/-- What gluingOf gives. -/
def glv (r u : List Int) : List Int := if transB r u then gl (ext r) (ext u) r.length else zero49
theorem glv_len (r u : List Int) : (glv r u).length = 49 := by unfold glv; split; exact gl_len (ext_len _) (ext_len _) _; exact zero49_len
theorem glv_yes {r u : List Int} (h : transB r u = true) : glv r u = gl (ext r) (ext u) r.length := by simp [glv, h]
theorem glv_no {r u : List Int} (h : transB r u = false) : glv r u = zero49 := by simp [glv, h]
def GPost (r u : List Int) (w : World) (e : Ending) (w' : World) : Prop := e = .returned (.tuple #[.agg (V (glv r u)).toArray, .bool (transB r u)]) ∧ Below w.heap.size w w'
theorem gpost {r u l : List Int} {w w' : World} {b : Bool} (h : transB r u = b) (hl : glv r u = l) (hb : Below w.heap.size w w') : GPost r u w (.returned (.tuple #[.agg (V l).toArray, .bool b])) w' := by
  subst h; subst hl; exact ⟨rfl, hb⟩

set_option maxHeartbeats 4000000 in
theorem gluingOf_any (v : Value) (r u : List Int) (hi : Nat) (w : World) (hx : Srd w hi v r u) (hn : r.length ≤ 1048576) (hm : u.length ≤ 1048576) :
    Calls Try.prog 67 #[v] w (GPost r u w) := by
  have HX := Lib.hid hx; clear hx
  obtain ⟨P, n, c, Q, m, d, rfl, q1, q2, e1, e2, ht, HR⟩ := HX.out.open
  have L1 := Lib.hid q1
  have N0 := Lib.hid (fun o => Arr.new (w.alloc o) (V zero49) 64 (g := w.heap.size + 1) (by simp))
  have B0 : Hid (∀ a b, Below w.heap.size w ((w.alloc a).alloc b)) := Lib.hid (fun a b => ((Below.refl _ _).alloc (Nat.le_refl _) _).alloc (by simp) _)
  go_enter Try.func67, Try.ntmps67
  go_wp2_with fail
  refine (ok_impl _ r u hi _ (HX.out.keep (((Below.refl hi w).alloc ht _).alloc (by simp; omega) _) (Nat.le_refl _)) hn hm).mono ?_
  rintro e w1 ⟨rfl, b1⟩
  have hs1 : w.heap.size + 2 ≤ w1.heap.size := by have := b1.size; simpa using this
  have A0 := Lib.hid (((Arr.new w [.slice P n c, .slice Q m d] 32 rfl).alloc _).keep b1 (by simp <;> omega))
  have A1 := Lib.hid ((N0.out _).keep b1 (by simp))
  have B1 : Hid (Below w.heap.size w w1) := Lib.hid ((B0.out _ _).trans (b1.mono (by simp <;> omega)))
  clear b1 N0
  cases hq : transB r u
  · have HQ := Lib.hid hq; clear hq
    have HG := Lib.hid (glv_no HQ.out)
    go_wp2_with (first | (refine wpList_build rfl 64 _ rfl [] rfl (V zero49).toArray built_zero ?_) | (refine wpList_store_row rfl 64 _ _ rfl (w.heap.size + 1) (V zero49).toArray rfl rfl 64 (V zero49).toArray A1.out (size49 zero49_len) rfl (one_V _) ?_))
    exact bodyPost_ret (v := .tuple #[.agg (V zero49).toArray, .bool false]) (permOf.results_cell_tmp rfl _ _ (w.heap.size + 1) 64 (V zero49).toArray (0, 0) _ _ rfl rfl A1.out.row Try.underlying64 rfl (size49 zero49_len)) rfl (gpost HQ.out HG.out (below_setRow B1.out (by omega) _))
  · have hok := (transB_iff.1 hq)
    have HQ := Lib.hid hq; clear hq
    have HG := Lib.hid (glv_yes HQ.out)
    have HB : Hid (okBB r u = true) := Lib.hid (okBB_iff.2 ⟨hok.r.b, hok.u.b, by rw [hok.lu]⟩)
    have HS := Lib.hid hok; clear hok
    have c0 := A0.out.cell (k := 0) rfl
    have c1 := A0.out.cell (k := 1) rfl
    go_wp2_with fail
    refine (permsOf_any P n c Q m d r u hi hi _ (Srd.fst (HX.out.keep (B1.out.mono (by omega)) (Nat.le_refl _))) (Srd.snd (HX.out.keep (B1.out.mono (by omega)) (Nat.le_refl _))) (by omega) (by omega) (by omega) (by omega)).mono ?_
    rintro e w2 ⟨rfl, b2⟩
    rw [HB.out, if_pos rfl, if_pos rfl]
    have hs2 := b2.size
    replace A0 := Lib.hid (A0.out.keep b2 A0.out.lt)
    replace A1 := Lib.hid (A1.out.keep b2 A1.out.lt)
    replace B1 : Hid (Below w.heap.size w w2) := Lib.hid (B1.out.trans (b2.mono B1.out.size))
    clear b2 c0 c1
    go_wp2_with (first | (refine wpList_store_row rfl 62 (.tmp 4) (.tmp 17) rfl w2.heap.size (V (ext r)).toArray rfl rfl 62 (V zeros).toArray ((Arr.new w2 (V zeros) _ rfl).alloc _) (size_V (ext_len _)) (by simp [V_len, ext_len, zeros]) (one_V _) ?_; generalize hw3 : ((w2.alloc (.cells #[.int .i64 0, .int .i64 0, .int .i64 0, .int .i64 0, .int .i64 0, .int .i64 0, .int .i64 0, .int .i64 0, .int .i64 0, .int .i64 0, .int .i64 0, .int .i64 0, .int .i64 0, .int .i64 0, .int .i64 0, .int .i64 0, .int .i64 0, .int .i64 0, .int .i64 0, .int .i64 0, .int .i64 0, .int .i64 0, .int .i64 0, .int .i64 0] 62)).alloc (.cells #[.int .i64 0, .int .i64 0, .int .i64 0, .int .i64 0, .int .i64 0, .int .i64 0, .int .i64 0, .int .i64 0, .int .i64 0, .int .i64 0, .int .i64 0, .int .i64 0, .int .i64 0, .int .i64 0, .int .i64 0, .int .i64 0, .int .i64 0, .int .i64 0, .int .i64 0, .int .i64 0, .int .i64 0, .int .i64 0, .int .i64 0, .int .i64 0] 62)).setRow w2.heap.size (V (ext r)).toArray = w3; have S1 : Hid (Arr w3 w2.heap.size (V (ext r)) 62) := Lib.hid (by rw [← hw3]; exact ((Arr.new w2 (V zeros) _ rfl).alloc _).row); have S2 : Hid (Arr w3 (w2.heap.size + 1) (V zeros) 62) := Lib.hid (by rw [← hw3]; exact (Arr.new _ (V zeros) _ (by simp)).rowOther (by omega)); have b3 : Below w2.heap.size w2 w3 := (by rw [← hw3]; exact arr.below_setRow (((Below.refl _ _).alloc (Nat.le_refl _) _).alloc (by simp) _) (Nat.le_refl _) _); replace A0 := Lib.hid (A0.out.keep b3 A0.out.lt); replace A1 := Lib.hid (A1.out.keep b3 A1.out.lt); replace B1 : Hid (Below w.heap.size w w3) := Lib.hid (B1.out.trans (b3.mono B1.out.size)); clear hw3 b3) | (refine wpList_store_row rfl 62 (.tmp 5) (.tmp 18) rfl (w2.heap.size + 1) (V (ext u)).toArray rfl rfl 62 (V zeros).toArray S2.out (size_V (ext_len _)) (by simp [V_len, ext_len, zeros]) (one_V _) ?_; generalize hw4 : w3.setRow (w2.heap.size + 1) (V (ext u)).toArray = w4; have T1 : Hid (Arr w4 w2.heap.size (V (ext r)) 62) := Lib.hid (by rw [← hw4]; exact S1.out.rowOther (by omega)); have T2 : Hid (Arr w4 (w2.heap.size + 1) (V (ext u)) 62) := Lib.hid (by rw [← hw4]; exact S2.out.row); have b4 : Below w2.heap.size w3 w4 := (by rw [← hw4]; exact arr.below_setRow (Below.refl _ _) (by omega) _); replace A0 := Lib.hid (A0.out.keep b4 (by omega)); replace A1 := Lib.hid (A1.out.keep b4 (by omega)); replace B1 : Hid (Below w.heap.size w w4) := Lib.hid (B1.out.trans (b4.mono (by omega))); have c0 := A0.out.cell (k := 0) rfl; clear hw4 S1 S2 b4) | (refine wpList_load_row rfl 62 (.tmp 4) rfl w2.heap.size rfl 62 (V (ext r)).toArray (0, 0) _ T1.out Try.underlying62 rfl (size_V (ext_len _)) ?_) | (refine wpList_load_row rfl 62 (.tmp 5) rfl (w2.heap.size + 1) rfl 62 (V (ext u)).toArray (0, 0) _ T2.out Try.underlying62 rfl (size_V (ext_len _)) ?_) | (refine wpList_build rfl 64 _ rfl [(0, .agg (V (ext r)).toArray), (1, .agg (V (ext u)).toArray), (2, .int .i64 n)] rfl (V (gl (ext r) (ext u) n)).toArray (built_gl (ext_len _) (ext_len _) n) ?_) | (refine wpList_store_row rfl 64 _ _ rfl (w.heap.size + 1) (V (gl (ext r) (ext u) n)).toArray rfl rfl 64 (V zero49).toArray A1.out (size49 (gl_len (ext_len _) (ext_len _) n)) (by simp [V_len, gl_len, ext_len, zero49]) (one_V _) ?_))
    exact bodyPost_ret (v := .tuple #[.agg (V (gl (ext r) (ext u) n)).toArray, .bool true]) (permOf.results_cell_tmp rfl _ _ (w.heap.size + 1) 64 (V (gl (ext r) (ext u) n)).toArray (0, 0) _ _ rfl rfl A1.out.row Try.underlying64 rfl (size49 (gl_len (ext_len _) (ext_len _) n))) rfl (gpost HQ.out (by rw [HG.out, L1.out]) (below_setRow B1.out (by omega) _))
end Go.Proofs.Ytkkklpchkkdhfaa.gl

/-
  The program's gluing made a surface again; a gluing renamed.
-/
namespace Go.Proofs.Ytkkklpchkkdhfaa.gl
open Go.ChangeShapes Go.WideShapes Go.ChangeAt Go.RowKit
open Go.Proofs.Ytkkklpchkkdhfaa.mem Go.Proofs.Ytkkklpchkkdhfaa.ints Go.Proofs.Ytkkklpchkkdhfaa.arr Go.Proofs.Ytkkklpchkkdhfaa.pm Go.Proofs.Ytkkklpchkkdhfaa.permOk Go.Proofs.Ytkkklpchkkdhfaa.permOf Go.Proofs.Ytkkklpchkkdhfaa.inv Go.Proofs.Ytkkklpchkkdhfaa.fns Go.Proofs.Ytkkklpchkkdhfaa.sf
set_option linter.unusedVariables false
set_option maxRecDepth 100000

theorem rg_right {w : World} {b : Nat} {p q : List Int} {n : Nat} (hp : p.length = 24) (h : w.rangeAt b 0 (V (gl p q n))) : w.rangeAt b 0 (V p) := fun j v hv => by
  have hj : j < 24 := by have := (List.getElem?_eq_some_iff.1 hv).1; simpa [V, hp] using this
  refine h j v ?_
  rw [← hv]
  simp only [gl, V, List.map_append, List.append_assoc]
  rw [List.getElem?_append_left (by simp; omega)]
theorem rg_up {w : World} {b : Nat} {p q : List Int} {n : Nat} (hp : p.length = 24) (hq : q.length = 24) (h : w.rangeAt b 0 (V (gl p q n))) : w.rangeAt b 24 (V q) := fun j v hv => by
  have hj : j < 24 := by have := (List.getElem?_eq_some_iff.1 hv).1; simpa [V, hq] using this
  have := h (24 + j) v (by
    rw [← hv]
    simp only [gl, V, List.map_append, List.append_assoc]
    rw [List.getElem?_append_right (by simp; omega), List.getElem?_append_left (by simp; omega)]
    congr 1; simp; omega)
  rwa [Nat.zero_add] at this
theorem rg_count {w : World} {b : Nat} {p q : List Int} {n : Nat} (hp : p.length = 24) (hq : q.length = 24) (h : w.rangeAt b 0 (V (gl p q n))) : w.cell? ⟨b, 48, none⟩ = some (.int .i64 n) := by
  have := h 48 (.int .i64 n) (by
    simp only [gl, V, List.map_append]
    rw [List.getElem?_append_right (by simp; omega)]
    simp [hp, hq])
  rwa [Nat.zero_add] at this
theorem hi24 {l : List Int} (h : l.length = 24) : (Try.prog.info? 62).map (·.size) = some (V l).length := by rw [info44, V_len, h]
theorem hi49 {l : List Int} (h : l.length = 49) : (Try.prog.info? 64).map (·.size) = some (V l).length := by rw [info49, V_len, h]
theorem _root_.Go.Proofs.Ytkkklpchkkdhfaa.sf.Hld.lower {base base' top : Nat} {w W : World} {bs : List (Nat × List Value)} (h : Hld base top w bs W) (hb : base' ≤ base) : Hld base' top w bs W := ⟨h.at_, h.below.mono hb, h.size⟩
theorem _root_.Go.Proofs.Ytkkklpchkkdhfaa.sf.Hld.start3 {w : World} {a b c : Nat} {xs ys zs : List Value} {t t' t'' : TypeId} (h1 : Arr w a xs t) (h2 : Arr w b ys t') (h3 : Arr w c zs t'') : Hld w.heap.size w.heap.size w [(a, xs), (b, ys), (c, zs)] w.drew :=
  ⟨fun p hp => by
    simp only [List.mem_cons, List.not_mem_nil, or_false] at hp
    rcases hp with rfl | rfl | rfl
    · exact ⟨h1.lt, fun j v hv => by rw [Nat.zero_add]; exact h1.cell hv⟩
    · exact ⟨h2.lt, fun j v hv => by rw [Nat.zero_add]; exact h2.cell hv⟩
    · exact ⟨h3.lt, fun j v hv => by rw [Nat.zero_add]; exact h3.cell hv⟩,
    ⟨rfl, rfl, rfl, Nat.le_refl _, fun _ _ => rfl⟩, Nat.le_refl _⟩
theorem _root_.Go.Proofs.Ytkkklpchkkdhfaa.sf.Hld.trd {base top a : Nat} {w W : World} {xs : List Value} {p q : Nat × List Value} {l : List (Nat × List Value)} (h : Hld base top w (p :: q :: (a, xs) :: l) W) : W.rangeAt a 0 xs := (h.at_ (a, xs) (by simp)).2
theorem step_build {P : Program} {ops : Array Oper} {o : Oper} {a : Act} {w : World} {K : Act → World → Prop} {Q : Exit → Act → World → Prop} {E : Prop} (hgd : o.guard = none) (t : TypeId) (parts : Array (Nat × Operand)) (ho : o.op = .build t parts)
    (l : List (Nat × Value)) (hl : (parts.toList.map fun p => (p.1, a.eval p.2)) = l) (cells : Array Value) (hb : P.built t l = some cells)
    (h : K (a.put o.dst (.agg cells)) w) : if Region.wanted o (yielded ops a.tmps) = true then Oper.wp P o a w K Q else E := by
  have hw : Region.wanted o (yielded ops a.tmps) = true := by simp [Region.wanted, hgd]
  have hb' : P.built t (parts.map fun (i, x) => (i, a.eval x)).toList = some cells := by
    rw [Array.toList_map]
    subst hl
    exact hb
  rw [if_pos hw]
  refine wp_build t parts ho (by rw [hb']; rfl) ?_
  rw [hb']
  exact h
theorem _root_.Go.Proofs.Ytkkklpchkkdhfaa.sf.Hld.other {base top : Nat} {w W : World} {bs : List (Nat × List Value)} (h : Hld base top w bs W) {g : Nat} (hg : base ≤ g) (hne : ∀ p ∈ bs, p.1 ≠ g) (cs : Array Value) : Hld base top w bs (W.setRow g cs) :=
  ⟨fun p hp => ⟨(h.at_ p hp).1, fun j v hv => by
    rw [World.cell?_of_block (w := W) (a := ⟨p.1, 0 + j, none⟩) (setRow_other W g p.1 cs (hne p hp))]
    exact (h.at_ p hp).2 j v hv⟩, below_setRow h.below hg _, by simpa using h.size⟩

end Go.Proofs.Ytkkklpchkkdhfaa.gl

/-
  The program's way along a word of r and u: a permutation of all 24.
-/
namespace Go.Proofs.Ytkkklpchkkdhfaa.dr
open Go.ChangeShapes Go.WideShapes Go.ChangeAt Go.RowKit
open Go.Proofs.Ytkkklpchkkdhfaa.mem Go.Proofs.Ytkkklpchkkdhfaa.ints Go.Proofs.Ytkkklpchkkdhfaa.arr Go.Proofs.Ytkkklpchkkdhfaa.pm Go.Proofs.Ytkkklpchkkdhfaa.permOk Go.Proofs.Ytkkklpchkkdhfaa.permOf Go.Proofs.Ytkkklpchkkdhfaa.inv Go.Proofs.Ytkkklpchkkdhfaa.fns Go.Proofs.Ytkkklpchkkdhfaa.sf Go.Proofs.Ytkkklpchkkdhfaa.gl
set_option linter.unusedVariables false
set_option maxRecDepth 100000

/-- The world in which a string's iterator at a block stands at a place. -/
def nxt (w : World) (b : Nat) (s : ByteArray) (p : Nat) : World := { w with heap := w.heap.setIfInBounds b (.stringIter s p) }
theorem run_next_at {P : Program} (w : World) (b : Nat) (s : ByteArray) (pos : Nat) (ty : TypeId) (hb : w.heap[b]? = some (.stringIter s pos)) (h : pos < s.size) (ha : (s[pos]'h).toNat < 128) :
    (Instr.next (.pointer (some ⟨b, 0, none⟩)) true ty).run P w = .ok (.tuple #[.bool true, .int .i64 pos, .int .i32 (s[pos]'h).toNat]) (nxt w b s (pos + 1)) := by
  simp only [Instr.next, getObj, setObj, Sem.run_bind, Sem.run, hb, Result.andThen, h, if_true, decode_ascii s pos h ha]
  simp [goInt, nxt]
theorem run_next_fin {P : Program} (w : World) (b : Nat) (s : ByteArray) (pos : Nat) (ty : TypeId) (hb : w.heap[b]? = some (.stringIter s pos)) (h : ¬ pos < s.size) :
    (Instr.next (.pointer (some ⟨b, 0, none⟩)) true ty).run P w = .ok (.tuple #[.bool false]) w := by
  simp [Instr.next, getObj, Sem.run, hb, h]
theorem nxt_size (w : World) (b : Nat) (s : ByteArray) (p : Nat) : (nxt w b s p).heap.size = w.heap.size := by simp [nxt]
theorem nxt_block (w : World) (b : Nat) (s : ByteArray) (p : Nat) {k : Nat} (h : k ≠ b) : (nxt w b s p).heap[k]? = w.heap[k]? := by
  simp only [nxt]
  rw [Array.getElem?_setIfInBounds_ne (Ne.symm h)]
theorem nxt_at (w : World) (b : Nat) (s : ByteArray) (p : Nat) (h : b < w.heap.size) : (nxt w b s p).heap[b]? = some (.stringIter s p) := by
  simp [nxt, h]
theorem nxt_below (w : World) (b : Nat) (s : ByteArray) (p : Nat) {B : Nat} (h : B ≤ b) : Below B w (nxt w b s p) :=
  ⟨rfl, rfl, rfl, by rw [nxt_size]; exact Nat.le_refl _, fun k hk => nxt_block _ _ _ _ (by omega)⟩
theorem nxt_arr {w : World} {b : Nat} (s : ByteArray) (p : Nat) {g : Nat} {cs : List Value} {t : TypeId} (h : Arr w g cs t) (hne : g ≠ b) : Arr (nxt w b s p) g cs t := (nxt_block _ _ _ _ hne).trans h
theorem it_pos {w : World} {b : Nat} {s : ByteArray} {p : Nat} (h : w.heap[b]? = some (.stringIter s p)) : w.iterPos b = p := by simp [World.iterPos, h]
theorem ext_rng {n : Nat} (h : n ≤ 24) : ext (rng n) = idl := by
  refine list_eq 24 (ext_len _) (tab_len _) fun i hi => ?_
  unfold ext extTo idl
  rw [tab_get _ hi, tab_get _ hi]
  split
  · rename_i h; rw [rng_at (by rwa [rng_len] at h)]
  · rfl
/-- Amid the way. -/
structure Aq (R U : List Int) (n : Nat) (L : List UInt8) (w wr : World) (wb ib k : Nat) : Prop where
  g : Arr wr w.heap.size (V (gl (ext R) (ext U) n)) 64
  res : Arr wr (w.heap.size + 1) (V zeros) 62
  way : Arr wr wb (V (ext (ev n R U (L.take k)))) 62
  it : wr.heap[ib]? = some (.stringIter (wd L) k)
  bel : Below w.heap.size w wr
theorem ev_next {n : Nat} {R U : List Int} (s : Sf n R U) {L : List UInt8} {k : Nat} {c : UInt8} (h : L[k]? = some c) : thenL (ext (ev n R U (L.take k))) (ext (stP R U c)) = ext (ev n R U (L.take (k + 1))) := by
  have o := ev_ok s (L.take k); have t := stP_ok s c
  rw [thn_ext o.1 t.1 (by rw [o.2, t.2]), ← ev_snoc]
  congr 2
  rw [List.take_add_one, h]; rfl
theorem wd_at {L : List UInt8} {k : Nat} (h : k < L.length) (h' : k < (wd L).size) : (wd L)[k]'h' = L[k] := by
  rfl

set_option maxHeartbeats 8000000 in
theorem along_any (R U : List Int) (n : Nat) (L : List UInt8) (w : World) (hs : Sf n R U) (hl : L.length ≤ 12) (hc : ∀ c ∈ L, c = 114 ∨ c = 117) :
    Calls Try.prog 68 #[.agg (V (gl (ext R) (ext U) n)).toArray, .string (wd L)] w fun e w' => e = .returned (.agg (V (ext (ev n R U L))).toArray) ∧ Below w.heap.size w w' := by
  have HS := Lib.hid hs; have HC := Lib.hid hc; clear hs hc
  have hsz := wd_size L
  go_enter Try.func68, Try.ntmps68
  go_wp2_with fail
  generalize hw1 : (w.alloc (.cells (V (gl (ext R) (ext U) n)).toArray 64)).alloc (.cells #[.int .i64 0, .int .i64 0, .int .i64 0, .int .i64 0, .int .i64 0, .int .i64 0, .int .i64 0, .int .i64 0, .int .i64 0, .int .i64 0, .int .i64 0, .int .i64 0, .int .i64 0, .int .i64 0, .int .i64 0, .int .i64 0, .int .i64 0, .int .i64 0, .int .i64 0, .int .i64 0, .int .i64 0, .int .i64 0, .int .i64 0, .int .i64 0] 62) = w1
  have A2 : Hid (Arr w1 w.heap.size (V (gl (ext R) (ext U) n)) 64) := Lib.hid (by rw [← hw1]; exact (Arr.new w _ _ rfl).alloc _)
  have A4 : Hid (Arr w1 (w.heap.size + 1) (V zeros) 62) := Lib.hid (by rw [← hw1]; exact Arr.new _ (V zeros) _ (by simp))
  have B1 : Hid (Below w.heap.size w w1) := Lib.hid (by rw [← hw1]; exact ((Below.refl _ _).alloc (Nat.le_refl _) _).alloc (by simp) _)
  have s1 : w.heap.size + 2 ≤ w1.heap.size := by rw [← hw1]; simp
  clear hw1
  refine (staying_any _).mono ?_
  rintro e w2 ⟨rfl, b1⟩
  replace A2 := Lib.hid (A2.out.keep b1 A2.out.lt)
  replace A4 := Lib.hid (A4.out.keep b1 A4.out.lt)
  replace B1 := Lib.hid (B1.out.trans (b1.mono B1.out.size))
  have s2 := b1.size
  clear b1
  go_wp2_with (refine wpList_store_row rfl 62 _ _ rfl w2.heap.size (V idl).toArray rfl rfl 62 (V zeros).toArray (Arr.new w2 (V zeros) _ rfl) (size_V (tab_len _)) rfl (one_V _) ?_; generalize hw3 : (w2.alloc (.cells #[.int .i64 0, .int .i64 0, .int .i64 0, .int .i64 0, .int .i64 0, .int .i64 0, .int .i64 0, .int .i64 0, .int .i64 0, .int .i64 0, .int .i64 0, .int .i64 0, .int .i64 0, .int .i64 0, .int .i64 0, .int .i64 0, .int .i64 0, .int .i64 0, .int .i64 0, .int .i64 0, .int .i64 0, .int .i64 0, .int .i64 0, .int .i64 0] 62)).setRow w2.heap.size (V idl).toArray = w3; have C2 : Hid (Arr w3 w.heap.size (V (gl (ext R) (ext U) n)) 64) := Lib.hid (by rw [← hw3]; exact (A2.out.alloc _).rowOther (by omega)); have C4 : Hid (Arr w3 (w.heap.size + 1) (V zeros) 62) := Lib.hid (by rw [← hw3]; exact (A4.out.alloc _).rowOther (by omega)); have CW : Hid (Arr w3 w2.heap.size (V idl) 62) := Lib.hid (by rw [← hw3]; exact (Arr.new w2 (V zeros) _ rfl).row); have B3 : Hid (Below w.heap.size w w3) := Lib.hid (by rw [← hw3]; exact arr.below_setRow (B1.out.alloc B1.out.size _) B1.out.size _); have s3 : w2.heap.size + 1 ≤ w3.heap.size := (by rw [← hw3]; simp); clear hw3 A2 A4 B1)
  go_loopw [7] (fun _ wr => ∃ k : Nat, k ≤ L.length ∧ w3.heap.size < wr.heap.size ∧ Aq R U n L w wr w2.heap.size w3.heap.size k) (fun _ wr => L.length - wr.iterPos w3.heap.size)
  case atStart =>
    refine ⟨0, Nat.zero_le _, by simp [World.iter], C2.out.alloc _, C4.out.alloc _, ?_, World.iter_heap _ _ _, B3.out.alloc B3.out.size _⟩
    have e0 : ext (ev n R U (L.take 0)) = idl := ext_rng HS.out.small
    rw [e0]
    exact CW.out.alloc _
  case round =>
    obtain ⟨k, hk, hib, hq⟩ := hrel
    have HQ := Lib.hid hq; clear hq
    by_cases hlt : k < L.length
    · obtain ⟨c, hLc⟩ : ∃ c, L[k]? = some c := ⟨L[k], List.getElem?_eq_getElem hlt⟩
      have EN := Lib.hid (ev_next HS.out hLc)
      have hks : k < (wd L).size := by omega
      have hch : (wd L)[k]'hks = c := by rw [wd_at hlt]; rw [List.getElem?_eq_getElem hlt] at hLc; exact Option.some.inj hLc
      have hcc := HC.out c (List.mem_of_getElem? hLc)
      have OE := Lib.hid (ev_ok HS.out (L.take k))
      have OT := Lib.hid (stP_ok HS.out c)
      have hnx : ∀ ty, (Instr.next (.pointer (some ⟨w3.heap.size, 0, none⟩)) true ty).run Try.prog wr = .ok (.tuple #[.bool true, .int .i64 k, .int .i32 c.toNat]) (nxt wr w3.heap.size (wd L) (k + 1)) := fun ty => by
        have := run_next_at (P := Try.prog) wr w3.heap.size (wd L) k ty HQ.out.it hks (by rw [hch]; rcases hcc with h | h <;> subst h <;> decide)
        rwa [hch] at this
      generalize hw4 : nxt wr w3.heap.size (wd L) (k + 1) = w4 at *
      have D2 : Hid (Arr w4 w.heap.size (V (gl (ext R) (ext U) n)) 64) := Lib.hid (by rw [← hw4]; exact nxt_arr _ _ HQ.out.g (by omega))
      have D4 : Hid (Arr w4 (w.heap.size + 1) (V zeros) 62) := Lib.hid (by rw [← hw4]; exact nxt_arr _ _ HQ.out.res (by omega))
      have DW : Hid (Arr w4 w2.heap.size (V (ext (ev n R U (L.take k)))) 62) := Lib.hid (by rw [← hw4]; exact nxt_arr _ _ HQ.out.way (by omega))
      have DI : Hid (w4.heap[w3.heap.size]? = some (.stringIter (wd L) (k + 1))) := Lib.hid (by rw [← hw4]; exact nxt_at _ _ _ _ hib)
      have DB : Hid (Below w.heap.size w w4) := Lib.hid (by rw [← hw4]; exact HQ.out.bel.trans (nxt_below _ _ _ _ (by omega)))
      have s4 : w3.heap.size < w4.heap.size := by rw [← hw4, nxt_size]; exact hib
      have HP := Lib.hid (it_pos HQ.out.it)
      clear hw4 HQ hch
      generalize ev n R U (L.take k) = E at *
      rcases hcc with hcc | hcc
      · subst hcc
        rw [show stP R U 114 = R from rfl] at OT EN
        go_wp2_with (first | (refine wpList_load_row rfl 62 (.tmp 5) rfl w2.heap.size rfl 62 (V (ext E)).toArray (0, 0) _ DW.out Try.underlying62 rfl (size_V (ext_len _)) ?_) | (refine wpList_load_mid rfl 62 _ rfl w.heap.size 0 rfl (V (ext R)) _ (rg_right (ext_len _) (fun j v hv => by rw [Nat.zero_add]; exact D2.out.cell hv)) Try.underlying62 rfl (hi24 (ext_len _)) ?_))
        refine (inv.then_any (ext E) (ext R) _ OE.out.1.sq OT.out.1.sq).mono ?_
        rintro e w5 ⟨rfl, b5⟩
        rw [EN.out]
        replace D2 := Lib.hid (D2.out.keep b5 D2.out.lt)
        replace D4 := Lib.hid (D4.out.keep b5 D4.out.lt)
        replace DW := Lib.hid (DW.out.keep b5 DW.out.lt)
        replace DI : Hid (w5.heap[w3.heap.size]? = some (.stringIter (wd L) (k + 1))) := Lib.hid ((b5.block _ s4).trans DI.out)
        replace DB := Lib.hid (DB.out.trans (b5.mono DB.out.size))
        have s5 := b5.size
        clear b5
        have l2 : Hid ((ext (ev n R U (L.take (k + 1)))).length = 24) := Lib.hid (ext_len _)
        obtain ⟨E2, hE2⟩ : ∃ E2, ext (ev n R U (L.take (k + 1))) = E2 := ⟨_, rfl⟩
        rw [hE2] at l2 ⊢
        have HE2 := Lib.hid hE2; clear hE2
        go_wp2_with (refine wpList_store_row rfl 62 _ _ rfl w2.heap.size (V E2).toArray rfl rfl 62 (V (ext E)).toArray DW.out (size_V l2.out) (by simp [V_len, ext_len, l2.out]) (one_V _) ?_)
        simp only [Act.put]
        go_roundw
        case rel => exact ⟨k + 1, by omega, by simp; omega, D2.out.rowOther (by omega), D4.out.rowOther (by omega), by rw [HE2.out]; exact DW.out.row, (setRow_other _ _ _ _ (by omega)).trans DI.out, below_setRow DB.out (by omega) _⟩
        case measure => rw [it_pos ((setRow_other _ _ _ _ (by omega)).trans DI.out), HP.out]; omega
      · subst hcc
        rw [show stP R U 117 = U from rfl] at OT EN
        go_wp2_with (first | (refine wpList_load_row rfl 62 (.tmp 5) rfl w2.heap.size rfl 62 (V (ext E)).toArray (0, 0) _ DW.out Try.underlying62 rfl (size_V (ext_len _)) ?_) | (refine wpList_load_mid rfl 62 _ rfl w.heap.size 24 rfl (V (ext U)) _ (rg_up (ext_len _) (ext_len _) (fun j v hv => by rw [Nat.zero_add]; exact D2.out.cell hv)) Try.underlying62 rfl (hi24 (ext_len _)) ?_))
        refine (inv.then_any (ext E) (ext U) _ OE.out.1.sq OT.out.1.sq).mono ?_
        rintro e w5 ⟨rfl, b5⟩
        rw [EN.out]
        replace D2 := Lib.hid (D2.out.keep b5 D2.out.lt)
        replace D4 := Lib.hid (D4.out.keep b5 D4.out.lt)
        replace DW := Lib.hid (DW.out.keep b5 DW.out.lt)
        replace DI : Hid (w5.heap[w3.heap.size]? = some (.stringIter (wd L) (k + 1))) := Lib.hid ((b5.block _ s4).trans DI.out)
        replace DB := Lib.hid (DB.out.trans (b5.mono DB.out.size))
        have s5 := b5.size
        clear b5
        have l2 : Hid ((ext (ev n R U (L.take (k + 1)))).length = 24) := Lib.hid (ext_len _)
        obtain ⟨E2, hE2⟩ : ∃ E2, ext (ev n R U (L.take (k + 1))) = E2 := ⟨_, rfl⟩
        rw [hE2] at l2 ⊢
        have HE2 := Lib.hid hE2; clear hE2
        go_wp2_with (refine wpList_store_row rfl 62 _ _ rfl w2.heap.size (V E2).toArray rfl rfl 62 (V (ext E)).toArray DW.out (size_V l2.out) (by simp [V_len, ext_len, l2.out]) (one_V _) ?_)
        simp only [Act.put]
        go_roundw
        case rel => exact ⟨k + 1, by omega, by simp; omega, D2.out.rowOther (by omega), D4.out.rowOther (by omega), by rw [HE2.out]; exact DW.out.row, (setRow_other _ _ _ _ (by omega)).trans DI.out, below_setRow DB.out (by omega) _⟩
        case measure => rw [it_pos ((setRow_other _ _ _ _ (by omega)).trans DI.out), HP.out]; omega
    · have hnx : ∀ ty, (Instr.next (.pointer (some ⟨w3.heap.size, 0, none⟩)) true ty).run Try.prog wr = .ok (.tuple #[.bool false]) wr := fun ty => run_next_fin wr w3.heap.size (wd L) k ty HQ.out.it (by omega)
      have hkl : L.take k = L := List.take_of_length_le (by omega)
      have FW : Hid (Arr wr w2.heap.size (V (ext (ev n R U L))) 62) := Lib.hid (by have := HQ.out.way; rwa [hkl] at this)
      have F4 := Lib.hid HQ.out.res
      have FB := Lib.hid HQ.out.bel
      clear HQ
      obtain ⟨E, hE⟩ : ∃ E, ev n R U L = E := ⟨_, rfl⟩
      rw [hE] at FW
      have HE := Lib.hid hE; clear hE
      go_wp2_with (first | (refine wpList_load_row rfl 62 (.tmp 5) rfl w2.heap.size rfl 62 (V (ext E)).toArray (0, 0) _ FW.out Try.underlying62 rfl (size_V (ext_len _)) ?_) | (refine wpList_store_row rfl 62 _ _ rfl (w.heap.size + 1) (V (ext E)).toArray rfl rfl 62 (V zeros).toArray F4.out (size_V (ext_len _)) (by simp [V_len, ext_len, zeros]) (one_V _) ?_))
      exact bodyPost_ret (v := .agg (V (ext E)).toArray) (results_cell_row rfl _ _ (w.heap.size + 1) 62 (V (ext E)).toArray (0, 0) _ rfl F4.out.row Try.underlying62 rfl (size_V (ext_len _))) rfl ⟨by rw [HE.out], below_setRow FB.out (by omega) _⟩
end Go.Proofs.Ytkkklpchkkdhfaa.dr

/-
  A gluing renamed.
-/
namespace Go.Proofs.Ytkkklpchkkdhfaa.gl
open Go.ChangeShapes Go.WideShapes Go.ChangeAt Go.RowKit
open Go.Proofs.Ytkkklpchkkdhfaa.mem Go.Proofs.Ytkkklpchkkdhfaa.ints Go.Proofs.Ytkkklpchkkdhfaa.arr Go.Proofs.Ytkkklpchkkdhfaa.pm Go.Proofs.Ytkkklpchkkdhfaa.permOk Go.Proofs.Ytkkklpchkkdhfaa.permOf Go.Proofs.Ytkkklpchkkdhfaa.inv Go.Proofs.Ytkkklpchkkdhfaa.fns Go.Proofs.Ytkkklpchkkdhfaa.sf
set_option linter.unusedVariables false
set_option maxRecDepth 100000

/-- p among 24 elements, renamed by ns. -/
def ren24 (p ns : List Int) : List Int := thenL (thenL (invTo 24 ns 24) p) ns
theorem ren24_len (p ns : List Int) : (ren24 p ns).length = 24 := tab_len _
theorem ren24_sq {p ns : List Int} (hp : Sq p) (hn : Sq ns) : Sq (ren24 p ns) := then_sq (then_sq (inv_sq _) hp) hn
theorem ext_ok {xs : List Int} (h : Ok xs) : Ok (ext xs) := by
  have hl := h.len
  refine ⟨by rw [ext_len]; omega, fun i hi => h.sq.lo i (by rwa [ext_len] at hi), fun i hi => by rw [ext_len] at *; exact h.sq.hi i hi, fun i j hi hj e => ?_⟩
  rw [ext_len] at hi hj
  rw [ext_at hi, ext_at hj] at e
  split at e <;> split at e
  · exact h.inj i j (by assumption) (by assumption) e
  · have := h.hi i (by assumption); omega
  · have := h.hi j (by assumption); omega
  · omega
theorem ren24_ext {n : Nat} {xs ys : List Int} (h : Ok xs) (h' : Ok ys) (lx : xs.length = n) (ly : ys.length = n) : ren24 (ext xs) (ext ys) = ext (renTo n xs ys n) := by
  have hn : n ≤ 24 := by have := h.len; omega
  refine list_eq 24 (ren24_len _ _) (ext_len _) fun i hi => ?_
  rw [ext_at hi, renTo_len]
  by_cases hin : i < n
  · rw [if_pos hin]
    have e := take_ren h h' (by omega)
    rw [lx] at e
    rw [← e]
    unfold ren24
    simp [List.getD, hin]
  · rw [if_neg hin]
    have o := ext_ok h'
    have ey : (ext ys).getD i 0 = (i : Int) := by rw [ext_at hi, if_neg (by omega)]
    have ex : (ext xs).getD i 0 = (i : Int) := by rw [ext_at hi, if_neg (by omega)]
    have a := inv_at o (k := i) (by rw [ext_len]; exact hi)
    rw [ey, ext_len, Int.toNat_natCast] at a
    unfold ren24 thenL
    rw [tab_get _ hi, tab_get _ hi, a, Int.toNat_natCast, ex, Int.toNat_natCast, ey]

end Go.Proofs.Ytkkklpchkkdhfaa.gl

/-
  The names from a square, as the program finds them.
-/
namespace Go.Proofs.Ytkkklpchkkdhfaa.gl
open Go.ChangeShapes Go.WideShapes Go.ChangeAt Go.RowKit
open Go.Proofs.Ytkkklpchkkdhfaa.mem Go.Proofs.Ytkkklpchkkdhfaa.ints Go.Proofs.Ytkkklpchkkdhfaa.arr Go.Proofs.Ytkkklpchkkdhfaa.pm Go.Proofs.Ytkkklpchkkdhfaa.permOk Go.Proofs.Ytkkklpchkkdhfaa.permOf Go.Proofs.Ytkkklpchkkdhfaa.inv Go.Proofs.Ytkkklpchkkdhfaa.fns Go.Proofs.Ytkkklpchkkdhfaa.sf
set_option linter.unusedVariables false
set_option maxRecDepth 100000

/-- The names behind k rounds. -/
def nms (ps qs : List Int) (f : Int) : Nat → List Int
  | 0 => idl
  | k + 1 => (nms ps qs f k).set ((rs ps qs f k).getD k 0).toNat (k : Int)
theorem nms_len (ps qs : List Int) (f : Int) (k : Nat) : (nms ps qs f k).length = 24 := by
  induction k with
  | zero => exact tab_len _
  | succ k ih => rw [nms, List.length_set]; exact ih
def nmsF (ps qs : List Int) (f : Int) : List Int := nms ps qs f (reach ps qs f).length
theorem nms_at {ps qs : List Int} (hp : Maps 24 ps) (hq : Maps 24 qs) (l24 : ps.length = 24) {f : Int} (f0 : 0 ≤ f) (f1 : f < 24) : ∀ k, k ≤ (reach ps qs f).length →
    (∀ j, j < k → (nms ps qs f k).getD ((reach ps qs f).getD j 0).toNat 0 = (j : Int)) ∧ (∀ i : Nat, i < 24 → (∀ j, j < k → (reach ps qs f).getD j 0 ≠ (i : Int)) → (nms ps qs f k).getD i 0 = (i : Int)) := by
  intro k
  induction k with
  | zero => exact fun _ => ⟨fun j hj => by omega, fun i hi _ => tab_get _ hi⟩
  | succ k ih =>
    intro hk
    obtain ⟨h1, h2⟩ := ih (by omega)
    have hin : In 24 (reach ps qs f) := rs_in hp hq f0 f1 _
    have hle := hin.len
    have hk24 : k ≤ 24 := by omega
    have hkk : k < (rs ps qs f k).length := rs_early (m := ps.length) (by unfold reach at hk; omega) (by omega)
    have he : (rs ps qs f k).getD k 0 = (reach ps qs f).getD k 0 := (pre_at (rs_pre ps qs f (by omega)) hkk).symm
    obtain ⟨z, hz, _, hzd⟩ := hin.at_ (k := k) (by omega)
    have hs : nms ps qs f (k + 1) = (nms ps qs f k).set z (k : Int) := by rw [nms, he, hzd]; rfl
    have hl := nms_len ps qs f k
    rw [hs]
    refine ⟨fun j hj => ?_, fun i hi hne => ?_⟩
    · by_cases e : j = k
      · subst e
        rw [hzd, Int.toNat_natCast]
        simp [List.getD, hl, hz]
      · obtain ⟨y, hy, _, hyd⟩ := hin.at_ (k := j) (by omega)
        have hyz : y ≠ z := fun e2 => e (nodup_getD hin.nd (by omega) (by omega) (by rw [hzd, hyd, e2]))
        rw [hyd, Int.toNat_natCast]
        have := h1 j (by omega)
        rw [hyd, Int.toNat_natCast] at this
        rw [← this]
        simp [List.getD, Ne.symm hyz]
    · have hiz : i ≠ z := fun e2 => hne k (by omega) (by rw [hzd, e2])
      rw [← h2 i hi (fun j hj => hne j (by omega))]
      simp [List.getD, Ne.symm hiz]
/-- The program's names are the model's. -/
theorem nmsF_eq {n : Nat} {R U : List Int} (s : Sf n R U) {f : Int} (f0 : 0 ≤ f) (f1 : f < n) : nmsF (ext R) (ext U) f = ext (nm R U f) := by
  have hn : n ≤ 24 := by have := s.r.len; have := s.lr; omega
  have er : reach (ext R) (ext U) f = reach R U f := reach_ext s.r s.u (by rw [s.lr, s.lu]) f0 (by rw [s.lr]; exact f1)
  have fl := s.flen f0 f1
  obtain ⟨nk, nl⟩ := s.nok f0 f1
  obtain ⟨h1, h2⟩ := nms_at (Sq.maps s.r.sq) (Sq.maps s.u.sq) (ext_len _) f0 (by omega) n (by rw [er, fl]; exact Nat.le_refl _)
  rw [er] at h1 h2
  unfold nmsF
  rw [er, fl]
  refine list_eq 24 (nms_len _ _ _ _) (ext_len _) fun i hi => ?_
  rw [ext_at hi, nl]
  by_cases hin : i < n
  · rw [if_pos hin]
    obtain ⟨k, hk, e⟩ := mem_getD (s.full f0 f1 (y := (i : Int)) (by omega) (by omega))
    have a := h1 k (by omega)
    rw [e, Int.toNat_natCast] at a
    have b := Inv_at (s.rok f0 f1) hk
    rw [e, Int.toNat_natCast] at b
    rw [a]
    exact b.symm
  · rw [if_neg hin]
    exact h2 i hi (fun j hj e => by
      have := (s.inn f0 f1).hi _ (getD_mem (i := j) (l := reach R U f) (by omega))
      omega)

/-- The boxed gluing, the result's box, the names, the flags of l, and the row l that grows. -/
structure Nr (w wr : World) (B : Nat) (p q : List Int) (n : Nat) (v : Value) (l ns : List Int) : Prop where
  own : wr.ownsRow (B + 2) 3 1 v l.length (V l)
  g : Arr wr w.heap.size (V (gl p q n)) 64
  res : Arr wr (w.heap.size + 1) (V zeros) 62
  nm : Arr wr B (V ns) 62
  met : Arr wr (B + 1) (VB (flagsOf l)) 129
  below : Below w.heap.size w wr
  hB : w.heap.size + 2 ≤ B
theorem Nr.drew {w wr : World} {B : Nat} {p q l ns : List Int} {n : Nat} {v : Value} (h : Nr w wr B p q n v l ns) (m : Nat) : Nr w (wr.drewN m) B p q n v l ns := ⟨h.own, h.g, h.res, h.nm, h.met, below_drewN h.below m, h.hB⟩
theorem Nr.ne {w wr : World} {B : Nat} {p q l ns : List Int} {n : Nat} {v : Value} (h : Nr w wr B p q n v l ns) {k : Nat} (hk : k < B + 2) : some k ≠ v.ownBlock := fun e => by
  have := (h.own.lt k e.symm).1; omega
theorem Nr.name {w wr : World} {B : Nat} {p q l ns : List Int} {n : Nat} {v : Value} (h : Nr w wr B p q n v l ns) (z k : Nat) : Nr w (wr.setCell ⟨B, z, none⟩ (.int .i64 (k : Int))) B p q n v l (ns.set z (k : Int)) := by
  have hB := h.hB
  refine ⟨?_, h.g.other (by omega) _, h.res.other (by omega) _, ?_, h.met.other (by omega) _, h.below.setCell (show w.heap.size ≤ B by omega) _, hB⟩
  · exact h.own.kept (row := some B) ⟨rfl, rfl, rfl, by simp [World.setCell], fun i hi hne => heap_setCell_other _ _ _ _ (fun e => hne (by rw [e]))⟩ (.inr (fun e => h.ne (k := B) (by omega) e.symm))
  · have := h.nm.set_ z (.int .i64 (k : Int))
    rw [V_set] at this
    exact this
theorem Nr.next {w wr w1 w' : World} {B : Nat} {p q l ns : List Int} {n m : Nat} {v v' : Value} {z : Nat} (h : Nr w wr B p q n v l ns) (hw1 : w1 = wr.setCell ⟨B + 1, z, none⟩ (.bool true))
    (ho : w'.ownsRow (B + 2) 3 1 v' (m + 1) (V l ++ [.int .i64 (z : Int)])) (hn : m = l.length) (hg : w1.grownBy w' v.ownBlock) (hz : ¬ (z : Int) ∈ l) : Nr w w' B p q n v' (add1 l (z : Int)) ns := by
  subst hn
  have e : V (add1 l (z : Int)) = V l ++ [.int .i64 (z : Int)] := by unfold add1; rw [if_neg hz]; simp [V]
  have el : (add1 l (z : Int)).length = l.length + 1 := by unfold add1; rw [if_neg hz]; simp
  have hB := h.hB
  have g1 := h.g.lt; have g2 := h.res.lt; have g3 := h.nm.lt; have hm := h.met.lt
  have s1 : w1.heap.size = wr.heap.size := by rw [hw1]; simp [World.setCell]
  refine ⟨by rw [e, el]; exact ho, ?_, ?_, ?_, ?_, ?_, hB⟩
  · exact (hg.block _ (by omega) (h.ne (by omega))).trans (by rw [hw1]; exact h.g.other (by omega) _)
  · exact (hg.block _ (by omega) (h.ne (by omega))).trans (by rw [hw1]; exact h.res.other (by omega) _)
  · exact (hg.block _ (by omega) (h.ne (by omega))).trans (by rw [hw1]; exact h.nm.other (by omega) _)
  · refine (hg.block _ (by omega) (h.ne (by omega))).trans ?_
    have hh := h.met.set_ z (.bool true)
    rw [VB_set, flagsOf_add hz, ← hw1] at hh
    exact hh
  · refine Below.trans (b := w1) (by rw [hw1]; exact h.below.setCell (by simp; omega) _) ?_
    exact (Below.refl _ _).grown hg (by have := h.below.size; omega) (fun k hk => by have := (h.own.lt k hk).1; omega)
theorem flagsOf_one {z : Nat} : (List.replicate 24 false).set z true = flagsOf [(z : Int)] := by
  have h : List.replicate 24 false = flagsOf [] := by decide
  rw [h, flagsOf_add (by simp)]
  rfl

theorem gl_at_right {p q : List Int} {n k : Nat} (hp : p.length = 24) (hk : k < 24) : (V (gl p q n))[k]? = some (.int .i64 (p.getD k 0)) := by
  rw [V_getD (by simp [gl]; omega), right_at hp hk]
theorem gl_at_up {p q : List Int} {n k : Nat} (hp : p.length = 24) (hq : q.length = 24) (hk : k < 24) : (V (gl p q n))[24 + k]? = some (.int .i64 (q.getD k 0)) := by
  rw [V_getD (by simp [gl]; omega), up_at hp hq hk]

end Go.Proofs.Ytkkklpchkkdhfaa.gl

/-
  The model's names and renaming of a surface; NamesFrom and RenameSurface, of the model and of the program.
-/
namespace Go.Proofs.Ytkkklpchkkdhfaa.gl
open Go.ChangeShapes Go.WideShapes Go.ChangeAt Go.RowKit
open Go.Proofs.Ytkkklpchkkdhfaa.mem Go.Proofs.Ytkkklpchkkdhfaa.ints Go.Proofs.Ytkkklpchkkdhfaa.arr Go.Proofs.Ytkkklpchkkdhfaa.pm Go.Proofs.Ytkkklpchkkdhfaa.permOk Go.Proofs.Ytkkklpchkkdhfaa.permOf Go.Proofs.Ytkkklpchkkdhfaa.inv Go.Proofs.Ytkkklpchkkdhfaa.fns Go.Proofs.Ytkkklpchkkdhfaa.sf
set_option linter.unusedVariables false
set_option maxRecDepth 100000

theorem gives_rows {r : List Int} {w w' : World} {v : Value} (h : w'.ownsRow w.heap.size 3 1 v r.length (V r)) : ∃ P c, v = .slice P r.length c ∧ Row w' w.heap.size w'.heap.size P r.length (V r) ∧ r.length ≤ c := by
  obtain ⟨P, c, rfl⟩ := own_form h
  exact ⟨P, c, rfl, Row.of_own h, (own_cap h).2⟩

end Go.Proofs.Ytkkklpchkkdhfaa.gl

/-
  NamesFrom, of the model and of the program.
-/
namespace Go.Proofs.Ytkkklpchkkdhfaa.gl
open Go.ChangeShapes Go.WideShapes Go.ChangeAt Go.RowKit
open Go.Proofs.Ytkkklpchkkdhfaa.mem Go.Proofs.Ytkkklpchkkdhfaa.ints Go.Proofs.Ytkkklpchkkdhfaa.arr Go.Proofs.Ytkkklpchkkdhfaa.pm Go.Proofs.Ytkkklpchkkdhfaa.permOk Go.Proofs.Ytkkklpchkkdhfaa.permOf Go.Proofs.Ytkkklpchkkdhfaa.inv Go.Proofs.Ytkkklpchkkdhfaa.fns Go.Proofs.Ytkkklpchkkdhfaa.sf
set_option linter.unusedVariables false
set_option maxRecDepth 100000

theorem ext_take (xs : List Int) (h : xs.length ≤ 24) : (ext xs).take xs.length = xs := by
  refine list_eq xs.length (by simp [ext_len]; omega) rfl fun i hi => ?_
  have e : (ext xs).getD i 0 = xs.getD i 0 := by rw [ext_at (by omega), if_pos hi]
  rw [← e]
  simp [List.getD, hi]
/-- The names from a square, if there is one. -/
def nfF (r u : List Int) (a : Int) : List Int := if transB r u = true ∧ 0 ≤ a ∧ a < r.length then nm r u a else []
theorem nfF_no {r u : List Int} {a : Int} (h : ¬ (transB r u = true ∧ 0 ≤ a ∧ a < r.length)) : nfF r u a = [] := by unfold nfF; rw [if_neg h]
theorem nfF_yes {r u : List Int} {a : Int} (h : transB r u = true) (a0 : 0 ≤ a) (a1 : a < r.length) : nfF r u a = nm r u a := by unfold nfF; rw [if_pos ⟨h, a0, a1⟩]
theorem nfF_len (r u : List Int) (a : Int) : (nfF r u a).length ≤ 1048576 := by
  unfold nfF; split
  · rename_i h
    obtain ⟨nk, nl⟩ := (transB_iff.1 h.1).nok h.2.1 h.2.2
    have := nk.len; omega
  · simp

end Go.Proofs.Ytkkklpchkkdhfaa.gl
