/-
  shearCycle and ShearPeriod of the program.
-/
import Derived.Test.YtgegkkbnmailaaaFf
import Derived.Test.YtgegkkbnmailaaaOq
import Derived.Test.YtgegkkbnmailaaaLa
import Derived.Test.YtgegkkbnmailaaaLs
import Derived.Test.YtgegkkbnmailaaaSp
import Derived.Great.BuildSlice
namespace Go.Proofs.Ytgegkkbnmailaaa.orb
open Go.ChangeShapes Go.WideShapes Go.ChangeAt Go.RowKit
open Go.Proofs.Ytgegkkbnmailaaa.mem Go.Proofs.Ytgegkkbnmailaaa.ints Go.Proofs.Ytgegkkbnmailaaa.arr Go.Proofs.Ytgegkkbnmailaaa.pm Go.Proofs.Ytgegkkbnmailaaa.sf Go.Proofs.Ytgegkkbnmailaaa.gl Go.Proofs.Ytgegkkbnmailaaa.la
set_option linter.unusedVariables false
set_option maxRecDepth 100000
theorem rd_let (w : World) (z : Int) (g : Nat) (hg : w.heap.size = g) : Rd (w.alloc (.cells #[.int .i64 z] 63)) (g + 1) (some ⟨g, 0, none⟩) 1 (V [z]) := by
  subst hg
  have := Rd.of_cells (w := w.alloc (.cells #[.int .i64 z] 63)) (a := ⟨w.heap.size, 0, none⟩) (n := 1) (xs := V [z]) rfl (fun i hi => by
    obtain rfl : i = 0 := by omega
    exact (Arr.new w (V [z]) 63 rfl).cell rfl)
  simpa using this
theorem infoGl : (Try.prog.info? 62).map (fun i => (i.zero, i.size, i.bytes)) = some (some (.agg #[.int .i64 0, .int .i64 0, .int .i64 0, .int .i64 0, .int .i64 0, .int .i64 0, .int .i64 0, .int .i64 0, .int .i64 0, .int .i64 0, .int .i64 0, .int .i64 0, .int .i64 0, .int .i64 0, .int .i64 0, .int .i64 0, .int .i64 0, .int .i64 0, .int .i64 0, .int .i64 0, .int .i64 0, .int .i64 0, .int .i64 0, .int .i64 0, .int .i64 0, .int .i64 0, .int .i64 0, .int .i64 0, .int .i64 0, .int .i64 0, .int .i64 0, .int .i64 0, .int .i64 0, .int .i64 0, .int .i64 0, .int .i64 0, .int .i64 0, .int .i64 0, .int .i64 0, .int .i64 0, .int .i64 0, .int .i64 0, .int .i64 0, .int .i64 0, .int .i64 0, .int .i64 0, .int .i64 0, .int .i64 0, .int .i64 0]), 49, 392) := by kernel_rfl
/-- The forms of the first k surfaces of the shears, cell by cell. -/
def fs (s : Sur) (n k : Nat) : List Value := (List.range k).flatMap fun j => V (gS (cn (shN j s)) n)
theorem fs_len (s : Sur) (n k : Nat) : (fs s n k).length = k * 49 := by
  induction k with
  | zero => rfl
  | succ k ih => unfold fs at *; rw [List.range_succ, List.flatMap_append, List.length_append, ih]; simp [V, gS_len]; omega
theorem fs_succ (s : Sur) (n k : Nat) : fs s n (k + 1) = fs s n k ++ V (gS (cn (shN k s)) n) := by unfold fs; rw [List.range_succ, List.flatMap_append]; simp
theorem cn_sh {n : Nat} {s : Sur} (h : Sf n s.1 s.2) (k : Nat) : cn (shearS (cn (shN k s))) = cn (shN (k + 1) s) := by
  have := cn_let (shN_sf h k) 84
  rw [shN]
  simpa [letS] using this
theorem eq_cn {n : Nat} {s t : Sur} (h1 : Sf n s.1 s.2) (h2 : Sf n t.1 t.2) (w : World) :
    (Op.equalIn 10000 62 (.agg (V (gS s n)).toArray) (.agg (V (gS t n)).toArray)).run Try.prog w = .ok (decide (s = t)) w := by
  unfold gS
  rw [eq_gl (ext_len _) (ext_len _) (ext_len _) (ext_len _)]
  congr 1
  rw [decide_eq_decide]
  constructor
  · rintro ⟨q1, q2⟩
    have hn : n ≤ 24 := by have := h1.r.len; rw [h1.lr] at this; exact this
    exact Prod.ext (ext_inj (by rw [h1.lr, h2.lr]) (by rw [h1.lr]; exact hn) q1) (ext_inj (by rw [h1.lu, h2.lu]) (by rw [h1.lu]; exact hn) q2)
  · intro q; rw [q]; exact ⟨rfl, rfl⟩
theorem wpList_neq_gl {ops : Array Oper} {rest : List Oper} {o : Oper} {a : Act} {w : World} {Q : Exit → Act → World → Prop} (hgd : o.guard = none) (x y : Operand) (rt : TypeId) (ho : o.op = .binOp .neq 62 x y rt)
    (xs ys : Array Value) (hx : a.eval x = .agg xs) (hy : a.eval y = .agg ys) (b : Bool) (he : (Op.equalIn 10000 62 (.agg xs) (.agg ys)).run Try.prog w = .ok b w)
    (h : wpList Try.prog ops Q rest (a.put o.dst (.bool (!b))) w) : wpList Try.prog ops Q (o :: rest) a w := by
  refine wpList_plain hgd fun K hK => ?_
  unfold Oper.wp execOp
  simp only [ho, hx, hy, Sem.run_bind, run_eqGuard_agg w .neq _ x y xs ys (show Try.prog.eqGuardType Try.prog.depth 62 = false by kernel_rfl), Result.andThen_ok, run_neq_struct, he, Sem.run_pure]
  exact hK _ _ h
theorem wpList_bs_gl {ops : Array Oper} {rest : List Oper} {o : Oper} {a : Act} {w : World} {Q : Exit → Act → World → Prop} (hgd : o.guard = none) (x : Operand) (ho : o.op = .buildSlice 90 1 #[(0, x)])
    (L : List Int) (hL : L.length = 49) (hx : a.eval x = .agg (V L).toArray)
    (h : wpList Try.prog ops Q rest (a.put o.dst (.slice (some ⟨w.heap.size, 0, none⟩) 1 1)) (w.alloc (.cells (V L).toArray 62))) : wpList Try.prog ops Q (o :: rest) a w := by
  obtain ⟨i, hi, hz, hs, hb⟩ := info_parts infoGl
  refine wpList_buildSlice hgd 90 62 1 _ ho (V L).toArray i _ Try.underlying90 hi hz (by rw [hs]; decide) (by rw [hs]; decide) ?_ h
  rw [hs]
  have := Great.fill_whole (s := 49) (by decide) [.agg (V L).toArray] ((Array.range (1 * 49)).map ((Value.agg #[.int .i64 0, .int .i64 0, .int .i64 0, .int .i64 0, .int .i64 0, .int .i64 0, .int .i64 0, .int .i64 0, .int .i64 0, .int .i64 0, .int .i64 0, .int .i64 0, .int .i64 0, .int .i64 0, .int .i64 0, .int .i64 0, .int .i64 0, .int .i64 0, .int .i64 0, .int .i64 0, .int .i64 0, .int .i64 0, .int .i64 0, .int .i64 0, .int .i64 0, .int .i64 0, .int .i64 0, .int .i64 0, .int .i64 0, .int .i64 0, .int .i64 0, .int .i64 0, .int .i64 0, .int .i64 0, .int .i64 0, .int .i64 0, .int .i64 0, .int .i64 0, .int .i64 0, .int .i64 0, .int .i64 0, .int .i64 0, .int .i64 0, .int .i64 0, .int .i64 0, .int .i64 0, .int .i64 0, .int .i64 0, .int .i64 0]).cells[· % (Value.agg #[.int .i64 0, .int .i64 0, .int .i64 0, .int .i64 0, .int .i64 0, .int .i64 0, .int .i64 0, .int .i64 0, .int .i64 0, .int .i64 0, .int .i64 0, .int .i64 0, .int .i64 0, .int .i64 0, .int .i64 0, .int .i64 0, .int .i64 0, .int .i64 0, .int .i64 0, .int .i64 0, .int .i64 0, .int .i64 0, .int .i64 0, .int .i64 0, .int .i64 0, .int .i64 0, .int .i64 0, .int .i64 0, .int .i64 0, .int .i64 0, .int .i64 0, .int .i64 0, .int .i64 0, .int .i64 0, .int .i64 0, .int .i64 0, .int .i64 0, .int .i64 0, .int .i64 0, .int .i64 0, .int .i64 0, .int .i64 0, .int .i64 0, .int .i64 0, .int .i64 0, .int .i64 0, .int .i64 0, .int .i64 0, .int .i64 0]).cells.size]!)) (by simp [Value.cells, V_len, hL]) (by simp)
  simpa [hx, Value.cells] using this
theorem after_gS (s : Sur) (n : Nat) (G : List Int) (hG : gS s n = G) (A : Option Addr) (hi : Nat) (w : World) (hL : Rd w hi A 1 (V [0])) (hh : hi ≤ w.heap.size) (hs : Sf n s.1 s.2) :
    Calls Try.prog 76 #[.agg (V G).toArray, .slice A 1 1] w fun e w' => e = .returned (.agg (V (gS (shearS s) n)).toArray) ∧ Below w.heap.size w w' := by
  subst hG
  have h1 : la.runN [0] = shearS := by funext s; simp [la.runN, letN]
  have := after_any s.1 s.2 n A 1 1 [0] hi w hL hh (by simp) hs (by omega)
  rw [h1] at this
  exact this
theorem form_gS (s : Sur) (n : Nat) (w : World) (hs : Sf n s.1 s.2) :
    Calls Try.prog 71 #[.agg (V (gS s n)).toArray] w fun e w' => e = .returned (.agg (V (gS (cn s) n)).toArray) ∧ Below w.heap.size w w' := form_any s.1 s.2 n w hs
def slen : Value → Nat
  | .slice _ n _ => n
  | _ => 0
/-- Between two shears. -/
structure Sy (w wr : World) (s : Sur) (n b3 k b : Nat) (v : Value) : Prop where
  sg : Sg s k
  ex : ∃ A c, v = .slice A k c ∧ wr.ownsRow w.heap.size 62 49 v k (fs s n k)
  nv : v.ownBlock ≠ some b ∧ v.ownBlock ≠ some b3
  nx : Arr wr b (V (gS (cn (shN k s)) n)) 62
  first : Arr wr b3 (V (gS (cn s) n)) 62
  bel : Below w.heap.size w wr
  lo : w.heap.size ≤ b ∧ w.heap.size ≤ b3
  ne : b ≠ b3
set_option maxHeartbeats 4000000 in
theorem shearCycle_any (r u : List Int) (n : Nat) (w : World) (hs : Sf n r u) :
    Calls Try.prog 61 #[.agg (V (gl (ext r) (ext u) n)).toArray] w fun e w' => ∃ A k c, e = .returned (.slice A k c) ∧ spGo (r, u) 16777216 1 = k ∧ k ≤ 16777216 ∧ w'.ownsRow w.heap.size 62 49 (.slice A k c) k (fs (r, u) n k) ∧ Below w.heap.size w w' := by
  have HS : Hid (Sf n (r, u).1 (r, u).2) := Lib.hid hs; clear hs
  have G49 : (gl (ext r) (ext u) n).length = 49 := gl_len (ext_len _) (ext_len _) _
  have HL : Hid (∀ s : Sur, (gS s n).length = 49) := Lib.hid (fun s => gS_len s n)
  go_enter Try.func61, Try.ntmps61
  go_wp2_with (first | (refine wpList_load_row rfl 62 _ rfl w.heap.size rfl 62 (V (gl (ext r) (ext u) n)).toArray (0, 0) _ (Arr.new w _ _ rfl) Try.underlying62 rfl (size49 G49) ?_) | fail)
  generalize hw1 : w.alloc (.cells (V (gl (ext r) (ext u) n)).toArray 62) = w1
  have B1 : Hid (Below w.heap.size w w1) := Lib.hid (by rw [← hw1]; exact (Below.refl _ _).alloc (Nat.le_refl _) _)
  have s1 : w1.heap.size = w.heap.size + 1 := by rw [← hw1]; simp
  clear hw1
  refine (form_any r u n _ HS.out).mono ?_
  rintro e w2 ⟨rfl, b1⟩
  have s2 := b1.size
  replace B1 := Lib.hid (B1.out.trans (b1.mono B1.out.size)); clear b1
  have L1 := HL.out (cn (r, u))
  generalize hG : gS (cn (r, u)) n = G at *
  go_wp2_with (first | (refine wpList_store_row rfl 62 _ _ rfl w2.heap.size (V (G)).toArray rfl rfl 62 (V zero49).toArray (Arr.new w2 (V zero49) _ rfl) (size49 L1) (by simp [V_len, L1, zero49]) (one_V _) ?_; generalize hw3 : (w2.alloc (.cells #[.int .i64 0, .int .i64 0, .int .i64 0, .int .i64 0, .int .i64 0, .int .i64 0, .int .i64 0, .int .i64 0, .int .i64 0, .int .i64 0, .int .i64 0, .int .i64 0, .int .i64 0, .int .i64 0, .int .i64 0, .int .i64 0, .int .i64 0, .int .i64 0, .int .i64 0, .int .i64 0, .int .i64 0, .int .i64 0, .int .i64 0, .int .i64 0, .int .i64 0, .int .i64 0, .int .i64 0, .int .i64 0, .int .i64 0, .int .i64 0, .int .i64 0, .int .i64 0, .int .i64 0, .int .i64 0, .int .i64 0, .int .i64 0, .int .i64 0, .int .i64 0, .int .i64 0, .int .i64 0, .int .i64 0, .int .i64 0, .int .i64 0, .int .i64 0, .int .i64 0, .int .i64 0, .int .i64 0, .int .i64 0, .int .i64 0] 62)).setRow w2.heap.size (V G).toArray = w3; have A3 : Hid (Arr w3 w2.heap.size (V G) 62) := Lib.hid (by rw [← hw3]; exact (Arr.new w2 (V zero49) _ rfl).row); have b1 : Below w2.heap.size w2 w3 := (by rw [← hw3]; exact arr.below_setRow ((Below.refl _ _).alloc (Nat.le_refl _) _) (Nat.le_refl _) _); have s3 := b1.size; replace B1 := Lib.hid (B1.out.trans (b1.mono B1.out.size)); clear hw3 b1) | (refine wpList_bs_gl rfl _ rfl G L1 rfl ?_; generalize hw4 : w3.alloc (.cells (V G).toArray 62) = w4; have A4 : Hid (Arr w4 w2.heap.size (V G) 62) := Lib.hid (by rw [← hw4]; exact A3.out.alloc _); have B4 : Hid (Below w.heap.size w w4) := Lib.hid (by rw [← hw4]; exact B1.out.alloc B1.out.size _); have O4 : Hid (w4.ownsRow w.heap.size 62 49 (.slice (some ⟨w3.heap.size, 0, none⟩) 1 1) 1 (V G)) := Lib.hid (by rw [← hw4]; simpa using World.ownsRow_lit w3 (V G).toArray 1 B1.out.size (by decide) (by simp [V_len, L1])); have s4 : w4.heap.size = w3.heap.size + 1 := (by rw [← hw4]; simp); clear hw4) | (refine wpList_load_row rfl 62 _ rfl w2.heap.size rfl 62 (V (G)).toArray (0, 0) _ A3.out Try.underlying62 rfl (size49 L1) ?_) | (refine wpList_load_row rfl 62 _ rfl w2.heap.size rfl 62 (V (G)).toArray (0, 0) _ A4.out Try.underlying62 rfl (size49 L1) ?_) | fail)
  have RD := Lib.hid (rd_let w4 0 (w3.heap.size + 1) s4)
  have b1 : Below w4.heap.size w4 (w4.alloc (.cells #[.int .i64 0] 63)) := (Below.refl _ _).alloc (Nat.le_refl _) _
  have s5 : (w4.alloc (.cells #[.int .i64 0] 63)).heap.size = w3.heap.size + 2 := by simp [s4]
  generalize w4.alloc (.cells #[.int .i64 0] 63) = w5 at *
  refine (after_gS (cn (r, u)) n G hG _ _ _ RD.out (by omega) (cn_sf HS.out)).mono ?_
  rintro e w6 ⟨rfl, b2⟩
  have s6 := b2.size
  go_wp2_with fail
  refine (form_gS (shearS (cn (r, u))) n _ (shN_sf (s := cn (r, u)) (cn_sf HS.out) 1)).mono ?_
  rintro e w7 ⟨rfl, b3⟩
  have s7 := b3.size
  rw [show cn (shearS (cn (r, u))) = cn (shN 1 (r, u)) from cn_sh (s := (r, u)) HS.out 0]
  have b4 := (b1.trans (b2.mono (by omega))).trans (b3.mono (by omega))
  have A7 := Lib.hid (A4.out.keep b4 A4.out.lt)
  have B7 := Lib.hid (B4.out.trans (b4.mono B4.out.size))
  have O7 : Hid (w7.ownsRow w.heap.size 62 49 (.slice (some ⟨w3.heap.size, 0, none⟩) 1 1) 1 (V G)) := Lib.hid (own_block_keep O4.out (fun b hb => by
    have e : w3.heap.size = b := by simpa [Value.ownBlock] using hb
    exact b4.block b (by omega)))
  clear b1 b2 b3 b4 RD A4 B4 O4
  have L2 := HL.out (cn (shN 1 (r, u)))
  generalize hG1 : gS (cn (shN 1 (r, u))) n = G1 at *
  go_wp2_with (first | (refine wpList_store_row rfl 62 _ _ rfl w7.heap.size (V (G1)).toArray rfl rfl 62 (V zero49).toArray (Arr.new w7 (V zero49) _ rfl) (size49 L2) (by simp [V_len, L2, zero49]) (one_V _) ?_; generalize hw8 : (w7.alloc (.cells #[.int .i64 0, .int .i64 0, .int .i64 0, .int .i64 0, .int .i64 0, .int .i64 0, .int .i64 0, .int .i64 0, .int .i64 0, .int .i64 0, .int .i64 0, .int .i64 0, .int .i64 0, .int .i64 0, .int .i64 0, .int .i64 0, .int .i64 0, .int .i64 0, .int .i64 0, .int .i64 0, .int .i64 0, .int .i64 0, .int .i64 0, .int .i64 0, .int .i64 0, .int .i64 0, .int .i64 0, .int .i64 0, .int .i64 0, .int .i64 0, .int .i64 0, .int .i64 0, .int .i64 0, .int .i64 0, .int .i64 0, .int .i64 0, .int .i64 0, .int .i64 0, .int .i64 0, .int .i64 0, .int .i64 0, .int .i64 0, .int .i64 0, .int .i64 0, .int .i64 0, .int .i64 0, .int .i64 0, .int .i64 0, .int .i64 0] 62)).setRow w7.heap.size (V G1).toArray = w8; have A8 : Hid (Arr w8 w7.heap.size (V G1) 62) := Lib.hid (by rw [← hw8]; exact (Arr.new w7 (V zero49) _ rfl).row); have b8 : Below w7.heap.size w7 w8 := (by rw [← hw8]; exact arr.below_setRow ((Below.refl _ _).alloc (Nat.le_refl _) _) (Nat.le_refl _) _); have s8 := b8.size; clear hw8) | fail)
  have hSY : Sy w w8 (r, u) n w2.heap.size 1 w7.heap.size (.slice (some ⟨w3.heap.size, 0, none⟩) 1 1) := ⟨Sg.start _, ⟨_, _, rfl, by rw [show fs (r, u) n 1 = V G by simp [fs, shN, hG]]; exact own_block_keep O7.out (fun b hb => by
      have e : w3.heap.size = b := by simpa [Value.ownBlock] using hb
      exact b8.block b (by omega))⟩, ⟨fun e => by simp [Value.ownBlock] at e; omega, fun e => by have := A3.out.lt; simp [Value.ownBlock] at e; omega⟩, by rw [hG1]; exact A8.out, by rw [hG]; exact A7.out.keep b8 A7.out.lt, B7.out.trans (b8.mono B7.out.size), ⟨by have := B7.out.size; omega, by have := B1.out.size; omega⟩, by omega⟩
  have HSY := Lib.hid hSY; clear hSY A7 B7 O7 A8 b8 A3 B1 s8
  simp only [Act.put]
  go_loopw [4, 5] (fun v4 v5 wr => ∃ (k b : Nat), v5 = .pointer (some ⟨b, 0, none⟩) ∧ Sy w wr (r, u) n w2.heap.size k b v4) (fun v4 _ _ => 16777217 - slen v4)
  case atStart => exact ⟨_, _, rfl, HSY.out⟩
  case round =>
    clear HSY
    obtain ⟨k, b, rfl, hsy⟩ := hrel
    obtain ⟨A, c, hv, ho⟩ := hsy.ex
    subst hv
    have PR := Lib.hid hsy; have O0 := Lib.hid ho; clear hsy ho
    have hkb := PR.out.sg.le HS.out
    have E0 : Hid (∀ W, (Op.equalIn 10000 62 (.agg (V (gS (cn (shN k (r, u))) n)).toArray) (.agg (V (gS (cn (r, u)) n)).toArray)).run Try.prog W = .ok (decide (cn (shN k (r, u)) = cn (r, u))) W) := Lib.hid (fun W => eq_cn (cn_sf (shN_sf HS.out k)) (cn_sf HS.out) W)
    by_cases he : cn (shN k (r, u)) = cn (r, u)
    · have SE := Lib.hid (PR.out.sg.done he)
      rw [show decide (cn (shN k (r, u)) = cn (r, u)) = true by simp [he]] at E0
      clear he
      go_wp2_with (first | (refine wpList_load_row rfl 62 _ rfl b rfl 62 (V (gS (cn (shN k (r, u))) n)).toArray (0, 0) _ PR.out.nx Try.underlying62 rfl (size49 (HL.out _)) ?_) | (refine wpList_load_row rfl 62 _ rfl w2.heap.size rfl 62 (V (gS (cn (r, u)) n)).toArray (0, 0) _ PR.out.first Try.underlying62 rfl (size49 (HL.out _)) ?_) | (refine wpList_neq_gl rfl _ _ _ rfl _ _ rfl rfl true (E0.out _) ?_) | fail)
      go_ret
      exact ⟨A, k, c, rfl, SE.out, by omega, O0.out, PR.out.bel⟩
    · have SE := Lib.hid (PR.out.sg.next HS.out he)
      have hkb2 := SE.out.le HS.out
      rw [show decide (cn (shN k (r, u)) = cn (r, u)) = false by simp [he]] at E0
      clear he
      have LK := HL.out (cn (shN k (r, u)))
      have NX : Hid (Arr wr b (V (gS (cn (shN k (r, u))) n)) 62) := Lib.hid PR.out.nx
      generalize hGK : gS (cn (shN k (r, u))) n = GK at *
      obtain ⟨i0, hi0, hz0, hz1, hz2⟩ := info_parts infoGl
      go_wp2_with (first | (refine wpList_load_row rfl 62 _ rfl b rfl 62 (V (GK)).toArray (0, 0) _ NX.out Try.underlying62 rfl (size49 LK) ?_) | (refine wpList_load_row rfl 62 _ rfl w2.heap.size rfl 62 (V (gS (cn (r, u)) n)).toArray (0, 0) _ PR.out.first Try.underlying62 rfl (size49 (HL.out _)) ?_) | (refine wpList_neq_gl rfl _ _ _ rfl _ _ rfl rfl false (E0.out _) ?_) | (refine wpList_bs_gl rfl _ rfl GK LK rfl ?_) | (at_builtin; refine wpList_append_lies (wr.alloc (.cells (V GK).toArray 62)) rfl _ _ 90 rfl w.heap.size 62 i0 _ 49 392 Try.underlying90 hi0 hz0 hz1 hz2 rfl (by decide) _ k (fs (r, u) n k) rfl (O0.out.alloc _) ⟨wr.heap.size, 0, none⟩ 1 1 (V GK) rfl (by simp [V_len, LK]) ?hn ?h1 (by decide) ?c4 ?c5 ?c6 _ rfl ?_) | fail)
      case h1 => intro q hq; obtain ⟨z, _, rfl⟩ := List.mem_map.1 hq; rfl
      case c4 => unfold maxLen; omega
      case c5 => omega
      case c6 => have := PR.out.bel.size; simp; omega
      intro g7 cap7 w7 ho hg hb hlt7
      have hgs := hg.size
      have hsz7 : wr.heap.size + 1 ≤ w7.heap.size := by simpa using hgs
      have hOlt := O0.out.lt
      have hwr := PR.out.bel.size
      have far : ∀ q, q < wr.heap.size → (Value.slice A k c).ownBlock ≠ some q → w7.heap[q]? = wr.heap[q]? := fun q h1 h2 => (hg.block _ (by simp; omega) (fun e => h2 e.symm)).trans (heap_alloc_old wr _ h1)
      have N7 : Hid (Arr w7 b (V GK) 62) := Lib.hid ((far b NX.out.lt PR.out.nv.1).trans NX.out)
      have F7 : Hid (Arr w7 w2.heap.size (V (gS (cn (r, u)) n)) 62) := Lib.hid ((far _ PR.out.first.lt PR.out.nv.2).trans PR.out.first)
      have B7 : Hid (Below w.heap.size w w7) := Lib.hid ⟨(hg.os.trans (by rfl)).trans PR.out.bel.os, (hg.tape.trans (by rfl)).trans PR.out.bel.tape, (hg.output.trans (by rfl)).trans PR.out.bel.output, by omega, fun q hq => (far q (by omega) (fun e => by have := (hOlt q e).1; omega)).trans (PR.out.bel.block q hq)⟩
      have O7 : Hid (w7.ownsRow w.heap.size 62 49 (.slice (some ⟨g7, 0, none⟩) (k + 1) cap7) (k + 1) (fs (r, u) n (k + 1))) := Lib.hid (by rw [fs_succ, hGK]; exact ho)
      have G7 : Hid (g7 ≠ b ∧ g7 ≠ w2.heap.size ∧ g7 < w7.heap.size) := Lib.hid ⟨fun e => by
        rcases hb with q | q
        · exact PR.out.nv.1 (by rw [q, e])
        · have := NX.out.lt; (try simp at q); omega, fun e => by
        rcases hb with q | q
        · exact PR.out.nv.2 (by rw [q, e])
        · have := PR.out.first.lt; (try simp at q); omega, hlt7⟩
      have hbl := PR.out.lo
      have hF3 := F7.out.lt
      clear hb ho hg far hOlt O0 PR NX E0 hlt7 hgs
      go_wp2_with (first | (refine wpList_load_row rfl 62 _ rfl b rfl 62 (V (GK)).toArray (0, 0) _ N7.out Try.underlying62 rfl (size49 LK) ?_) | (refine wpList_store_row rfl 62 _ _ rfl w7.heap.size (V (GK)).toArray rfl rfl 62 (V zero49).toArray (Arr.new w7 (V zero49) _ rfl) (size49 LK) (by simp [V_len, LK, zero49]) (one_V _) ?_; generalize hw8 : (w7.alloc (.cells #[.int .i64 0, .int .i64 0, .int .i64 0, .int .i64 0, .int .i64 0, .int .i64 0, .int .i64 0, .int .i64 0, .int .i64 0, .int .i64 0, .int .i64 0, .int .i64 0, .int .i64 0, .int .i64 0, .int .i64 0, .int .i64 0, .int .i64 0, .int .i64 0, .int .i64 0, .int .i64 0, .int .i64 0, .int .i64 0, .int .i64 0, .int .i64 0, .int .i64 0, .int .i64 0, .int .i64 0, .int .i64 0, .int .i64 0, .int .i64 0, .int .i64 0, .int .i64 0, .int .i64 0, .int .i64 0, .int .i64 0, .int .i64 0, .int .i64 0, .int .i64 0, .int .i64 0, .int .i64 0, .int .i64 0, .int .i64 0, .int .i64 0, .int .i64 0, .int .i64 0, .int .i64 0, .int .i64 0, .int .i64 0, .int .i64 0] 62)).setRow w7.heap.size (V GK).toArray = w8; have A8 : Hid (Arr w8 w7.heap.size (V GK) 62) := Lib.hid (by rw [← hw8]; exact (Arr.new w7 (V zero49) _ rfl).row); have b8 : Below w7.heap.size w7 w8 := (by rw [← hw8]; exact arr.below_setRow ((Below.refl _ _).alloc (Nat.le_refl _) _) (Nat.le_refl _) _); have s8 := b8.size; have a8 := A8.out.lt; have F8 := Lib.hid (F7.out.keep b8 F7.out.lt); have B8 := Lib.hid (B7.out.trans (b8.mono B7.out.size)); have O8 : Hid (w8.ownsRow w.heap.size 62 49 (.slice (some ⟨g7, 0, none⟩) (k + 1) cap7) (k + 1) (fs (r, u) n (k + 1))) := Lib.hid (own_block_keep O7.out (fun q hq => by (have e : g7 = q := (by simpa [Value.ownBlock] using hq)); exact b8.block q (by have := G7.out.2.2; omega))); clear hw8 b8 F7 B7 O7 N7) | (refine wpList_load_row rfl 62 _ rfl w7.heap.size rfl 62 (V (GK)).toArray (0, 0) _ A8.out Try.underlying62 rfl (size49 LK) ?_) | fail)
      have RD := Lib.hid (rd_let w8 0 w8.heap.size rfl)
      have b1 : Below w8.heap.size w8 (w8.alloc (.cells #[.int .i64 0] 63)) := (Below.refl _ _).alloc (Nat.le_refl _) _
      have s9 : (w8.alloc (.cells #[.int .i64 0] 63)).heap.size = w8.heap.size + 1 := by simp
      generalize w8.alloc (.cells #[.int .i64 0] 63) = w9 at *
      refine (after_gS (cn (shN k (r, u))) n GK hGK _ _ _ RD.out (by omega) (cn_sf (shN_sf HS.out k))).mono ?_
      rintro e w10 ⟨rfl, b2⟩
      have s10 := b2.size
      go_wp2_with fail
      refine (form_gS (shearS (cn (shN k (r, u)))) n _ (shN_sf (s := cn (shN k (r, u))) (cn_sf (shN_sf HS.out k)) 1)).mono ?_
      rintro e w11 ⟨rfl, b3⟩
      have s11 := b3.size
      rw [show cn (shearS (cn (shN k (r, u)))) = cn (shN (k + 1) (r, u)) from cn_sh (s := (r, u)) HS.out k]
      have b4 := (b1.trans (b2.mono (by omega))).trans (b3.mono (by omega))
      replace A8 := Lib.hid (A8.out.keep b4 A8.out.lt)
      replace F8 := Lib.hid (F8.out.keep b4 F8.out.lt)
      replace B8 := Lib.hid (B8.out.trans (b4.mono B8.out.size))
      replace O8 : Hid (w11.ownsRow w.heap.size 62 49 (.slice (some ⟨g7, 0, none⟩) (k + 1) cap7) (k + 1) (fs (r, u) n (k + 1))) := Lib.hid (own_block_keep O8.out (fun q hq => by
        have e : g7 = q := by simpa [Value.ownBlock] using hq
        exact b4.block q (by have := G7.out.2.2; omega)))
      clear b1 b2 b3 b4 RD
      have LN := HL.out (cn (shN (k + 1) (r, u)))
      generalize hGN : gS (cn (shN (k + 1) (r, u))) n = GN at *
      go_wp2_with (first | (refine wpList_store_row rfl 62 _ _ rfl w7.heap.size (V (GN)).toArray rfl rfl 62 (V GK).toArray A8.out (size49 LN) (by simp [V_len, LN, LK]) (one_V _) ?_) | fail)
      simp only [Act.put]
      go_roundw
      case rel => exact ⟨k + 1, w7.heap.size, rfl, SE.out, ⟨_, _, rfl, own_block_keep O8.out (fun q hq => by
          have e : g7 = q := by simpa [Value.ownBlock] using hq
          exact setRow_other _ _ _ _ (fun e' => by have := G7.out.2.2; omega))⟩, ⟨fun e => by have := G7.out.2.2; simp [Value.ownBlock] at e; omega, fun e => by have := G7.out.2.1; simp [Value.ownBlock] at e; omega⟩, by rw [hGN]; exact A8.out.row, (setRow_other _ _ _ _ (by omega)).trans F8.out, below_setRow B8.out (by omega) _, ⟨by omega, hbl.2⟩, by omega⟩
      case measure => simp [slen]; omega
set_option maxHeartbeats 1000000 in
theorem sp_impl (v : Value) (r u : List Int) (hi : Nat) (w : World) (hx : Srd w hi v r u) (hn : r.length ≤ 1048576) (hm : u.length ≤ 1048576) :
    Calls Try.prog 38 #[v] w fun e w' => e = .returned (.int .i64 (spF r u)) ∧ Below w.heap.size w w' := by
  have HX := Lib.hid hx
  obtain ⟨P, n, c, Q, m, d, rfl, q1, q2, e1, e2, ht, HR⟩ := hx.open
  have L1 := Lib.hid q1
  clear hx
  go_enter Try.func38, Try.ntmps38
  go_wp2_with fail
  refine (gluingOf_any _ r u hi _ (HX.out.keep ((Below.refl hi w).alloc ht _) (Nat.le_refl _)) hn hm).mono ?_
  rintro e w1 ⟨rfl, b1⟩
  have B1 := Lib.hid (below1 _ _ b1); clear b1
  cases hq : transB r u
  · have Z1 : Hid (spF r u = 0) := Lib.hid (by simp [spF, hq])
    go_wp2_with (first | (refine wpList_store_row rfl 62 _ _ rfl w1.heap.size (V (glv r u)).toArray rfl rfl 62 (V zero49).toArray (Arr.new w1 (V zero49) _ rfl) (size49 (glv_len _ _)) (by simp [V_len, glv_len, zero49]) (one_V _) ?_; generalize hw2 : (w1.alloc (.cells #[.int .i64 0, .int .i64 0, .int .i64 0, .int .i64 0, .int .i64 0, .int .i64 0, .int .i64 0, .int .i64 0, .int .i64 0, .int .i64 0, .int .i64 0, .int .i64 0, .int .i64 0, .int .i64 0, .int .i64 0, .int .i64 0, .int .i64 0, .int .i64 0, .int .i64 0, .int .i64 0, .int .i64 0, .int .i64 0, .int .i64 0, .int .i64 0, .int .i64 0, .int .i64 0, .int .i64 0, .int .i64 0, .int .i64 0, .int .i64 0, .int .i64 0, .int .i64 0, .int .i64 0, .int .i64 0, .int .i64 0, .int .i64 0, .int .i64 0, .int .i64 0, .int .i64 0, .int .i64 0, .int .i64 0, .int .i64 0, .int .i64 0, .int .i64 0, .int .i64 0, .int .i64 0, .int .i64 0, .int .i64 0, .int .i64 0] 62)).setRow w1.heap.size (V (glv r u)).toArray = w2; have A2 : Hid (Arr w2 w1.heap.size (V (glv r u)) 62) := Lib.hid (by rw [← hw2]; exact (Arr.new w1 (V zero49) _ rfl).row); have b1 : Below w1.heap.size w1 w2 := (by rw [← hw2]; exact arr.below_setRow ((Below.refl _ _).alloc (Nat.le_refl _) _) (Nat.le_refl _) _); have s2 := b1.size; replace B1 : Hid (Below w.heap.size w w2) := Lib.hid (B1.out.trans (b1.mono B1.out.size)); clear hw2 b1) | fail)
    go_ret
    exact ⟨ret_int Z1.out.symm, B1.out⟩
  · have Z1 : Hid (spF r u = (spGo (r, u) 16777216 1 : Nat)) := Lib.hid (by simp [spF, hq])
    have HS : Hid (Sf n r u) := Lib.hid (by have := transB_iff.1 hq; rwa [L1.out] at this)
    have HG : Hid (glv r u = gl (ext r) (ext u) n) := Lib.hid (by rw [glv_yes hq, L1.out])
    clear hq
    go_wp2_with (first | (refine wpList_store_row rfl 62 _ _ rfl w1.heap.size (V (glv r u)).toArray rfl rfl 62 (V zero49).toArray (Arr.new w1 (V zero49) _ rfl) (size49 (glv_len _ _)) (by simp [V_len, glv_len, zero49]) (one_V _) ?_; generalize hw2 : (w1.alloc (.cells #[.int .i64 0, .int .i64 0, .int .i64 0, .int .i64 0, .int .i64 0, .int .i64 0, .int .i64 0, .int .i64 0, .int .i64 0, .int .i64 0, .int .i64 0, .int .i64 0, .int .i64 0, .int .i64 0, .int .i64 0, .int .i64 0, .int .i64 0, .int .i64 0, .int .i64 0, .int .i64 0, .int .i64 0, .int .i64 0, .int .i64 0, .int .i64 0, .int .i64 0, .int .i64 0, .int .i64 0, .int .i64 0, .int .i64 0, .int .i64 0, .int .i64 0, .int .i64 0, .int .i64 0, .int .i64 0, .int .i64 0, .int .i64 0, .int .i64 0, .int .i64 0, .int .i64 0, .int .i64 0, .int .i64 0, .int .i64 0, .int .i64 0, .int .i64 0, .int .i64 0, .int .i64 0, .int .i64 0, .int .i64 0, .int .i64 0] 62)).setRow w1.heap.size (V (glv r u)).toArray = w2; have A2 : Hid (Arr w2 w1.heap.size (V (glv r u)) 62) := Lib.hid (by rw [← hw2]; exact (Arr.new w1 (V zero49) _ rfl).row); have b1 : Below w1.heap.size w1 w2 := (by rw [← hw2]; exact arr.below_setRow ((Below.refl _ _).alloc (Nat.le_refl _) _) (Nat.le_refl _) _); have s2 := b1.size; replace B1 : Hid (Below w.heap.size w w2) := Lib.hid (B1.out.trans (b1.mono B1.out.size)); clear hw2 b1; rw [HG.out] at A2) | (refine wpList_load_row rfl 62 _ rfl w1.heap.size rfl 62 (V (gl (ext r) (ext u) n)).toArray (0, 0) _ A2.out Try.underlying62 rfl (size49 (gl_len (ext_len _) (ext_len _) _)) ?_) | fail)
    refine (shearCycle_any r u n _ HS.out).mono ?_
    rintro e w3 ⟨A, k, cc, rfl, hk, _, _, b1⟩
    replace B1 := Lib.hid (B1.out.trans (b1.mono B1.out.size))
    have HK := Lib.hid hk
    clear b1 A2 hk
    go_wp2_with fail
    go_ret
    exact ⟨ret_int (by rw [Z1.out, HK.out]), B1.out⟩
end Go.Proofs.Ytgegkkbnmailaaa.orb
