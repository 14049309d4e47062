/-
  InverseWord: the letters backwards, each inverted; of the model and of the program (slices.Backward).
-/
import Derived.Test.YtdoohnphgembdaaWd
import Derived.RangeFuncNested
import Derived.RangeFuncBound
import Derived.RangeFuncCalls
import Derived.RangeFuncLeaves
import Derived.RangeFuncBox
import Derived.Shelf.Abstract
import Derived.WalkKit
import Derived.OwnWalkIn
import Derived.TacticsInMore
import Derived.LoopNIn
import Derived.LoopIn
namespace Go.Proofs.Ytdoohnphgembdaa.iw
open Go.ChangeShapes Go.WideShapes Go.ChangeAt Go.RowKit Go.Shelf
open Go.Proofs.Ytdoohnphgembdaa.mem Go.Proofs.Ytdoohnphgembdaa.ints Go.Proofs.Ytdoohnphgembdaa.arr Go.Proofs.Ytdoohnphgembdaa.pm Go.Proofs.Ytdoohnphgembdaa.wd
set_option linter.unusedVariables false
set_option maxRecDepth 100000
attribute [local go_sem] Oper.semAt_some
/-- What comes: a place and a letter's number. -/
abbrev NL := Nat × Fin 4
def enc (x : NL) : Array Value := #[.int .i64 (x.1 : Int), .int .i64 (x.2.val : Int)]
/-- The places from the last one down: what has come when k rounds are over. -/
def back (zs : List (Fin 4)) (k : Nat) : List NL := (List.range k).map fun j => (zs.length - 1 - j, zs[zs.length - 1 - j]?.getD 0)
theorem back_succ (zs : List (Fin 4)) (k : Nat) : back zs (k + 1) = back zs k ++ [(zs.length - 1 - k, zs[zs.length - 1 - k]?.getD 0)] := by simp [back, List.range_succ]
theorem back_len (zs : List (Fin 4)) (k : Nat) : (back zs k).length = k := by simp [back]
theorem back_all (zs : List (Fin 4)) : (back zs zs.length).map Prod.snd = zs.reverse := by
  apply List.ext_getElem
  · simp [back]
  · intro i h1 h2
    simp [back] at h1
    simp [back, List.getElem_reverse, List.getElem?_eq_getElem (show zs.length - 1 - i < zs.length by omega)]
/-- What a round keeps: the blocks below b, and block Bs. -/
structure Kp (b Bs : Nat) (A B : World) : Prop where
  size : A.heap.size ≤ B.heap.size
  low : ∀ k, k < b → B.heap[k]? = A.heap[k]?
  box : B.heap[Bs]? = A.heap[Bs]?
theorem Kp.refl (b Bs : Nat) (A : World) : Kp b Bs A A := ⟨Nat.le_refl _, fun _ _ => rfl, rfl⟩
theorem Kp.trans {b Bs : Nat} {A B C : World} (h : Kp b Bs A B) (k : Kp b Bs B C) : Kp b Bs A C := ⟨Nat.le_trans h.size k.size, fun i hi => (k.low i hi).trans (h.low i hi), k.box.trans h.box⟩
theorem Kp.put {b Bs : Nat} {W : World} {l : Nat} (o : Obj) (h1 : b ≤ l) (h2 : Bs < l) : Kp b Bs W (W.putObj l o) :=
  ⟨by simp, fun k hk => World.putObj_heap_other (by omega), World.putObj_heap_other (by omega)⟩
theorem Kp.rd {b Bs n : Nat} {A B : World} {P : Option Addr} {xs : List Value} (h : Kp b Bs A B) (r : Rd A b P n xs) : Rd B b P n xs := by
  refine ⟨r.1, Nat.le_trans r.2.1 h.size, fun hn => ?_⟩
  obtain ⟨g, off, e, hlt, hc⟩ := r.2.2 hn
  exact ⟨g, off, e, hlt, fun j hj => by rw [← hc j hj]; exact World.cell?_of_block (a := ⟨g, off + j, none⟩) (h.low g hlt)⟩
theorem Kp.of_below {b Bs B0 : Nat} {A B : World} (h : Below B0 A B) (h1 : b ≤ B0) (h2 : Bs < B0) : Kp b Bs A B := ⟨h.size, fun k hk => h.block k (by omega), h.block _ h2⟩
set_option maxRecDepth 100000 in
set_option maxHeartbeats 2000000 in
theorem back1_in (F : Fence) (n : Nat) (h8 : F.fn 81) (hro : F.round = none) (hn : 1 ≤ n) (l Bs b : Nat) (A : Option Addr) (cap : Nat) (zs : List (Fin 4)) (hl : zs.length ≤ 40) (J Jx : List NL → World → Prop)
    (hY : ∀ pre x W, J pre W → pre.length < zs.length → YieldAt F (n - 1) Try.prog l (enc x) W fun e W' =>
      (e = .returned (.bool true) ∧ J (pre ++ [x]) W' ∧ Kp b Bs W W') ∨ (e = .returned (.bool false) ∧ Jx (pre ++ [x]) W'))
    (W : World) (hBs : W.cell? ⟨Bs, 0, none⟩ = some (.slice A zs.length cap)) (hR : Rd W b A zs.length (V (zs.map fun z => (z.val : Int)))) (h0 : J [] W) :
    CallsIn F n Try.prog 81 #[.func (.yield l) #[] #[], .pointer (some ⟨Bs, 0, none⟩)] W fun e W' => (∃ v, e = .returned v) ∧
      (J (back zs zs.length) W' ∨ (∃ pre, Jx pre W')) := by
  have HR := Lib.hid hR; clear hR
  refine callsIn_of_wp Try.func81 rfl h8 ?_ hro
  simp only [Try.ntmps81, List.size_toArray, List.length_cons, List.length_nil, Nat.reduceAdd, Nat.reduceSub, Array.replicate_succ, Array.replicate_zero, List.push_toArray, List.append_toArray, List.nil_append, List.cons_append]
  gi_wp2
  gi_loopw [3] (fun i wr => ∃ k : Nat, k ≤ zs.length ∧ i = .int .i64 ((zs.length : Int) - 1 - k) ∧ J (back zs k) wr ∧ Kp b Bs W wr)
    (fun i _ => (intOf i + 1).toNat)
  case atStart => exact ⟨0, Nat.zero_le _, by go_num, h0, Kp.refl _ _ _⟩
  case round =>
    obtain ⟨k, hk, rfl, hJs, hnx⟩ := hrel
    have hcell := (World.cell?_of_block (a := ⟨Bs, 0, none⟩) hnx.box).trans hBs
    by_cases hlt : k < zs.length
    · obtain ⟨p, hp, hp1⟩ : ∃ p : Nat, (zs.length : Int) - 1 - k = (p : Int) ∧ p = zs.length - 1 - k := ⟨zs.length - 1 - k, by omega, rfl⟩
      have hpl : p < zs.length := by omega
      obtain ⟨g, off, uu, rfl, hg1, hx, hc⟩ := (hnx.rd HR.out).at_ hpl
      have hx2 : uu = .int .i64 ((zs[p]?.getD 0).val : Int) := by
        rw [V_get (z := ((zs[p]?.getD 0).val : Int)) (by simp [List.getElem?_eq_getElem hpl])] at hx
        exact (Option.some.inj hx).symm
      subst hx2
      rw [hp]
      have EB := Lib.hid (back_succ zs k)
      rw [← hp1] at EB
      generalize zs[p]?.getD 0 = zp at *
      obtain ⟨fn, tmps, assign, body, hy, hRd⟩ := hY _ (p, zp) wr hJs (by rw [back_len]; exact hlt)
      have HP := Lib.hid hp1; clear hp1
      dsimp only [enc] at hy
      clear hx
      gi_wp2
      refine hRd.mono ?_
      rintro e W3 (⟨rfl, hJ3, hk3⟩ | ⟨rfl, hJx3⟩)
      · gi_wp2
        go_roundw
        case rel => exact ⟨k + 1, by omega, by go_num, by rw [EB.out]; exact hJ3, hnx.trans hk3⟩
        case measure => simp [intOf] <;> omega
      · gi_wp2
        refine bodyPost_ret (results_none rfl _ _ _) rfl ?_
        exact ⟨⟨_, rfl⟩, .inr ⟨_, hJx3⟩⟩
    · obtain rfl : k = zs.length := by omega
      have hneg : ¬ (0 : Int) ≤ (zs.length : Int) - 1 - zs.length := by omega
      gi_wp2
      go_end0
      exact ⟨⟨_, rfl⟩, .inl hJs⟩
theorem seq_any (F : Fence) (n : Nat) (h8 : F.fn 81) (hro : F.round = none) (hn : 1 ≤ n) (Bs b : Nat) (A : Option Addr) (cap : Nat) (zs : List (Fin 4)) (hl : zs.length ≤ 40) (w : World) (hB : Bs < w.heap.size) (hb : b ≤ w.heap.size)
    (hc : w.cell? ⟨Bs, 0, none⟩ = some (.slice A zs.length cap)) (hR : Rd w b A zs.length (V (zs.map fun z => (z.val : Int)))) :
    SeqStopsK F n Try.prog 81 #[.pointer (some ⟨Bs, 0, none⟩)] enc (Kp b Bs) (fun ys => ys = back zs zs.length) (fun _ => True) zs.length w := fun l J Jx W hW _ _ hY h0 => by
  have hk : Kp b Bs w W := Kp.of_below hW hb hB
  refine (back1_in F n h8 hro hn l Bs b A cap zs hl J Jx hY W ((World.cell?_of_block (a := ⟨Bs, 0, none⟩) hk.box).trans hc) (hk.rd hR) h0).mono ?_
  rintro e W' ⟨he, hj | ⟨pre, hj⟩⟩
  · exact ⟨he, .inl ⟨_, rfl, hj⟩⟩
  · exact ⟨he, .inr ⟨_, trivial, hj⟩⟩
end Go.Proofs.Ytdoohnphgembdaa.iw
