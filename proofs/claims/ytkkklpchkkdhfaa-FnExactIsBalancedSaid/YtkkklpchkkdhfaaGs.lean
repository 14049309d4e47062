/-
  The program's gluing made a surface again; a gluing renamed.
-/
import Derived.Test.YtkkklpchkkdhfaaGl
namespace Go.Proofs.Ytkkklpchkkdhfaa.gl
open Go.ChangeShapes Go.WideShapes Go.ChangeAt Go.RowKit
open Go.Proofs.Ytkkklpchkkdhfaa.mem Go.Proofs.Ytkkklpchkkdhfaa.ints Go.Proofs.Ytkkklpchkkdhfaa.arr Go.Proofs.Ytkkklpchkkdhfaa.pm Go.Proofs.Ytkkklpchkkdhfaa.permOk Go.Proofs.Ytkkklpchkkdhfaa.permOf Go.Proofs.Ytkkklpchkkdhfaa.inv Go.Proofs.Ytkkklpchkkdhfaa.fns Go.Proofs.Ytkkklpchkkdhfaa.sf
set_option linter.unusedVariables false
set_option maxRecDepth 100000

theorem rg_right {w : World} {b : Nat} {p q : List Int} {n : Nat} (hp : p.length = 24) (h : w.rangeAt b 0 (V (gl p q n))) : w.rangeAt b 0 (V p) := fun j v hv => by
  have hj : j < 24 := by have := (List.getElem?_eq_some_iff.1 hv).1; simpa [V, hp] using this
  refine h j v ?_
  rw [← hv]
  simp only [gl, V, List.map_append, List.append_assoc]
  rw [List.getElem?_append_left (by simp; omega)]
theorem rg_up {w : World} {b : Nat} {p q : List Int} {n : Nat} (hp : p.length = 24) (hq : q.length = 24) (h : w.rangeAt b 0 (V (gl p q n))) : w.rangeAt b 24 (V q) := fun j v hv => by
  have hj : j < 24 := by have := (List.getElem?_eq_some_iff.1 hv).1; simpa [V, hq] using this
  have := h (24 + j) v (by
    rw [← hv]
    simp only [gl, V, List.map_append, List.append_assoc]
    rw [List.getElem?_append_right (by simp; omega), List.getElem?_append_left (by simp; omega)]
    congr 1; simp; omega)
  rwa [Nat.zero_add] at this
theorem rg_count {w : World} {b : Nat} {p q : List Int} {n : Nat} (hp : p.length = 24) (hq : q.length = 24) (h : w.rangeAt b 0 (V (gl p q n))) : w.cell? ⟨b, 48, none⟩ = some (.int .i64 n) := by
  have := h 48 (.int .i64 n) (by
    simp only [gl, V, List.map_append]
    rw [List.getElem?_append_right (by simp; omega)]
    simp [hp, hq])
  rwa [Nat.zero_add] at this
theorem hi24 {l : List Int} (h : l.length = 24) : (Try.prog.info? 62).map (·.size) = some (V l).length := by rw [info44, V_len, h]
theorem hi49 {l : List Int} (h : l.length = 49) : (Try.prog.info? 64).map (·.size) = some (V l).length := by rw [info49, V_len, h]
theorem _root_.Go.Proofs.Ytkkklpchkkdhfaa.sf.Hld.lower {base base' top : Nat} {w W : World} {bs : List (Nat × List Value)} (h : Hld base top w bs W) (hb : base' ≤ base) : Hld base' top w bs W := ⟨h.at_, h.below.mono hb, h.size⟩
theorem _root_.Go.Proofs.Ytkkklpchkkdhfaa.sf.Hld.start3 {w : World} {a b c : Nat} {xs ys zs : List Value} {t t' t'' : TypeId} (h1 : Arr w a xs t) (h2 : Arr w b ys t') (h3 : Arr w c zs t'') : Hld w.heap.size w.heap.size w [(a, xs), (b, ys), (c, zs)] w.drew :=
  ⟨fun p hp => by
    simp only [List.mem_cons, List.not_mem_nil, or_false] at hp
    rcases hp with rfl | rfl | rfl
    · exact ⟨h1.lt, fun j v hv => by rw [Nat.zero_add]; exact h1.cell hv⟩
    · exact ⟨h2.lt, fun j v hv => by rw [Nat.zero_add]; exact h2.cell hv⟩
    · exact ⟨h3.lt, fun j v hv => by rw [Nat.zero_add]; exact h3.cell hv⟩,
    ⟨rfl, rfl, rfl, Nat.le_refl _, fun _ _ => rfl⟩, Nat.le_refl _⟩
theorem _root_.Go.Proofs.Ytkkklpchkkdhfaa.sf.Hld.trd {base top a : Nat} {w W : World} {xs : List Value} {p q : Nat × List Value} {l : List (Nat × List Value)} (h : Hld base top w (p :: q :: (a, xs) :: l) W) : W.rangeAt a 0 xs := (h.at_ (a, xs) (by simp)).2
theorem step_build {P : Program} {ops : Array Oper} {o : Oper} {a : Act} {w : World} {K : Act → World → Prop} {Q : Exit → Act → World → Prop} {E : Prop} (hgd : o.guard = none) (t : TypeId) (parts : Array (Nat × Operand)) (ho : o.op = .build t parts)
    (l : List (Nat × Value)) (hl : (parts.toList.map fun p => (p.1, a.eval p.2)) = l) (cells : Array Value) (hb : P.built t l = some cells)
    (h : K (a.put o.dst (.agg cells)) w) : if Region.wanted o (yielded ops a.tmps) = true then Oper.wp P o a w K Q else E := by
  have hw : Region.wanted o (yielded ops a.tmps) = true := by simp [Region.wanted, hgd]
  have hb' : P.built t (parts.map fun (i, x) => (i, a.eval x)).toList = some cells := by
    rw [Array.toList_map]
    subst hl
    exact hb
  rw [if_pos hw]
  refine wp_build t parts ho (by rw [hb']; rfl) ?_
  rw [hb']
  exact h
theorem _root_.Go.Proofs.Ytkkklpchkkdhfaa.sf.Hld.other {base top : Nat} {w W : World} {bs : List (Nat × List Value)} (h : Hld base top w bs W) {g : Nat} (hg : base ≤ g) (hne : ∀ p ∈ bs, p.1 ≠ g) (cs : Array Value) : Hld base top w bs (W.setRow g cs) :=
  ⟨fun p hp => ⟨(h.at_ p hp).1, fun j v hv => by
    rw [World.cell?_of_block (w := W) (a := ⟨p.1, 0 + j, none⟩) (setRow_other W g p.1 cs (hne p hp))]
    exact (h.at_ p hp).2 j v hv⟩, below_setRow h.below hg _, by simpa using h.size⟩

end Go.Proofs.Ytkkklpchkkdhfaa.gl
