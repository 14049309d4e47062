/-
  form of the program: the canonical form of a gluing.
-/
import Derived.Test.YtgegkkbnmailaaaCn
import Derived.Test.YtgegkkbnmailaaaOm
namespace Go.Proofs.Ytgegkkbnmailaaa.orb
open Go.ChangeShapes Go.WideShapes Go.ChangeAt Go.RowKit
open Go.Proofs.Ytgegkkbnmailaaa.mem Go.Proofs.Ytgegkkbnmailaaa.ints Go.Proofs.Ytgegkkbnmailaaa.arr Go.Proofs.Ytgegkkbnmailaaa.pm Go.Proofs.Ytgegkkbnmailaaa.sf Go.Proofs.Ytgegkkbnmailaaa.gl
set_option linter.unusedVariables false
set_option maxRecDepth 100000
/-- The 49 cells of a surface. -/
def gS (s : Sur) (n : Nat) : List Int := gl (ext s.1) (ext s.2) n
theorem gS_len (s : Sur) (n : Nat) : (gS s n).length = 49 := gl_len (ext_len _) (ext_len _) _
set_option maxHeartbeats 4000000 in
theorem form_any (r u : List Int) (n : Nat) (w : World) (hs : Sf n r u) :
    Calls Try.prog 71 #[.agg (V (gl (ext r) (ext u) n)).toArray] w fun e w' => e = .returned (.agg (V (gS (cn (r, u)) n)).toArray) ∧ Below w.heap.size w w' := by
  have HS := Lib.hid hs; clear hs
  have HC : Hid (gl (ext (can r u n).1) (ext (can r u n).2) n = gS (cn (r, u)) n) := Lib.hid (by unfold gS cn; rw [HS.out.lr])
  have HL : (gS (cn (r, u)) n).length = 49 := gS_len _ _
  go_enter Try.func71, Try.ntmps71
  have G49 : (gl (ext r) (ext u) n).length = 49 := gl_len (ext_len _) (ext_len _) _
  go_wp2_with (first | (refine wpList_load_row rfl 62 _ rfl w.heap.size rfl 62 (V (gl (ext r) (ext u) n)).toArray (0, 0) _ ((Arr.new w _ _ rfl).alloc _) Try.underlying62 rfl (size49 G49) ?_) | fail)
  generalize hw1 : (w.alloc (.cells (V (gl (ext r) (ext u) n)).toArray 62)).alloc (.cells #[.int .i64 0, .int .i64 0, .int .i64 0, .int .i64 0, .int .i64 0, .int .i64 0, .int .i64 0, .int .i64 0, .int .i64 0, .int .i64 0, .int .i64 0, .int .i64 0, .int .i64 0, .int .i64 0, .int .i64 0, .int .i64 0, .int .i64 0, .int .i64 0, .int .i64 0, .int .i64 0, .int .i64 0, .int .i64 0, .int .i64 0, .int .i64 0, .int .i64 0, .int .i64 0, .int .i64 0, .int .i64 0, .int .i64 0, .int .i64 0, .int .i64 0, .int .i64 0, .int .i64 0, .int .i64 0, .int .i64 0, .int .i64 0, .int .i64 0, .int .i64 0, .int .i64 0, .int .i64 0, .int .i64 0, .int .i64 0, .int .i64 0, .int .i64 0, .int .i64 0, .int .i64 0, .int .i64 0, .int .i64 0, .int .i64 0] 62) = w1
  have A1 : Hid (Arr w1 (w.heap.size + 1) (V zero49) 62) := Lib.hid (by rw [← hw1]; exact Arr.new _ (V zero49) _ (by simp))
  have B1 : Hid (Below w.heap.size w w1) := Lib.hid (by rw [← hw1]; exact ((Below.refl _ _).alloc (Nat.le_refl _) _).alloc (by simp) _)
  have s1 : w1.heap.size = w.heap.size + 2 := by rw [← hw1]; simp
  clear hw1
  refine (canon_any r u n _ HS.out).mono ?_
  rintro e w3 ⟨B, D, mm, rfl, _, _, b1⟩
  rw [HC.out]
  replace A1 := Lib.hid (A1.out.keep b1 A1.out.lt)
  replace B1 := Lib.hid (B1.out.trans (b1.mono B1.out.size))
  have hs3 := b1.size
  clear b1
  generalize hLL : gS (cn (r, u)) n = L at *
  go_wp2_with (first | (refine wpList_store_row rfl 62 _ _ rfl w3.heap.size (V (L)).toArray rfl rfl 62 (V zero49).toArray (Arr.new w3 (V zero49) _ rfl) (size49 HL) (by simp [V_len, HL, zero49]) (one_V _) ?_; generalize hw4 : (w3.alloc (.cells #[.int .i64 0, .int .i64 0, .int .i64 0, .int .i64 0, .int .i64 0, .int .i64 0, .int .i64 0, .int .i64 0, .int .i64 0, .int .i64 0, .int .i64 0, .int .i64 0, .int .i64 0, .int .i64 0, .int .i64 0, .int .i64 0, .int .i64 0, .int .i64 0, .int .i64 0, .int .i64 0, .int .i64 0, .int .i64 0, .int .i64 0, .int .i64 0, .int .i64 0, .int .i64 0, .int .i64 0, .int .i64 0, .int .i64 0, .int .i64 0, .int .i64 0, .int .i64 0, .int .i64 0, .int .i64 0, .int .i64 0, .int .i64 0, .int .i64 0, .int .i64 0, .int .i64 0, .int .i64 0, .int .i64 0, .int .i64 0, .int .i64 0, .int .i64 0, .int .i64 0, .int .i64 0, .int .i64 0, .int .i64 0, .int .i64 0] 62)).setRow w3.heap.size (V L).toArray = w4; have A3 : Hid (Arr w4 w3.heap.size (V L) 62) := Lib.hid (by rw [← hw4]; exact (Arr.new w3 (V zero49) _ rfl).row); have b1 : Below w3.heap.size w3 w4 := (by rw [← hw4]; exact arr.below_setRow ((Below.refl _ _).alloc (Nat.le_refl _) _) (Nat.le_refl _) _); have s4 := b1.size; replace A1 := Lib.hid (A1.out.keep b1 A1.out.lt); replace B1 := Lib.hid (B1.out.trans (b1.mono B1.out.size)); clear hw4 b1) | (refine wpList_load_row rfl 62 _ rfl w3.heap.size rfl 62 (V L).toArray (0, 0) _ A3.out Try.underlying62 rfl (size49 HL) ?_) | (refine wpList_store_row rfl 62 _ _ rfl (w.heap.size + 1) (V (L)).toArray rfl rfl 62 (V zero49).toArray A1.out (size49 HL) (by simp [V_len, HL, zero49]) (one_V _) ?_) | fail)
  exact bodyPost_ret (v := .agg (V L).toArray) (results_cell_row rfl _ _ (w.heap.size + 1) 62 (V L).toArray (0, 0) _ rfl A1.out.row Try.underlying62 rfl (size49 HL)) rfl ⟨by rw [← hLL], below_setRow B1.out (by omega) _⟩
end Go.Proofs.Ytgegkkbnmailaaa.orb
