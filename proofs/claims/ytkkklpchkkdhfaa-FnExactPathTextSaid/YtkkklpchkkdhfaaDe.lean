/-
  The program's way along a word of r and u: a permutation of all 24.
-/
import Derived.Test.YtkkklpchkkdhfaaDa
import Derived.Test.YtkkklpchkkdhfaaGs
import Derived.Laws.RangeString
namespace Go.Proofs.Ytkkklpchkkdhfaa.dr
open Go.ChangeShapes Go.WideShapes Go.ChangeAt Go.RowKit
open Go.Proofs.Ytkkklpchkkdhfaa.mem Go.Proofs.Ytkkklpchkkdhfaa.ints Go.Proofs.Ytkkklpchkkdhfaa.arr Go.Proofs.Ytkkklpchkkdhfaa.pm Go.Proofs.Ytkkklpchkkdhfaa.permOk Go.Proofs.Ytkkklpchkkdhfaa.permOf Go.Proofs.Ytkkklpchkkdhfaa.inv Go.Proofs.Ytkkklpchkkdhfaa.fns Go.Proofs.Ytkkklpchkkdhfaa.sf Go.Proofs.Ytkkklpchkkdhfaa.gl
set_option linter.unusedVariables false
set_option maxRecDepth 100000

/-- The world in which a string's iterator at a block stands at a place. -/
def nxt (w : World) (b : Nat) (s : ByteArray) (p : Nat) : World := { w with heap := w.heap.setIfInBounds b (.stringIter s p) }
theorem run_next_at {P : Program} (w : World) (b : Nat) (s : ByteArray) (pos : Nat) (ty : TypeId) (hb : w.heap[b]? = some (.stringIter s pos)) (h : pos < s.size) (ha : (s[pos]'h).toNat < 128) :
    (Instr.next (.pointer (some ⟨b, 0, none⟩)) true ty).run P w = .ok (.tuple #[.bool true, .int .i64 pos, .int .i32 (s[pos]'h).toNat]) (nxt w b s (pos + 1)) := by
  simp only [Instr.next, getObj, setObj, Sem.run_bind, Sem.run, hb, Result.andThen, h, if_true, decode_ascii s pos h ha]
  simp [goInt, nxt]
theorem run_next_fin {P : Program} (w : World) (b : Nat) (s : ByteArray) (pos : Nat) (ty : TypeId) (hb : w.heap[b]? = some (.stringIter s pos)) (h : ¬ pos < s.size) :
    (Instr.next (.pointer (some ⟨b, 0, none⟩)) true ty).run P w = .ok (.tuple #[.bool false]) w := by
  simp [Instr.next, getObj, Sem.run, hb, h]
theorem nxt_size (w : World) (b : Nat) (s : ByteArray) (p : Nat) : (nxt w b s p).heap.size = w.heap.size := by simp [nxt]
theorem nxt_block (w : World) (b : Nat) (s : ByteArray) (p : Nat) {k : Nat} (h : k ≠ b) : (nxt w b s p).heap[k]? = w.heap[k]? := by
  simp only [nxt]
  rw [Array.getElem?_setIfInBounds_ne (Ne.symm h)]
theorem nxt_at (w : World) (b : Nat) (s : ByteArray) (p : Nat) (h : b < w.heap.size) : (nxt w b s p).heap[b]? = some (.stringIter s p) := by
  simp [nxt, h]
theorem nxt_below (w : World) (b : Nat) (s : ByteArray) (p : Nat) {B : Nat} (h : B ≤ b) : Below B w (nxt w b s p) :=
  ⟨rfl, rfl, rfl, by rw [nxt_size]; exact Nat.le_refl _, fun k hk => nxt_block _ _ _ _ (by omega)⟩
theorem nxt_arr {w : World} {b : Nat} (s : ByteArray) (p : Nat) {g : Nat} {cs : List Value} {t : TypeId} (h : Arr w g cs t) (hne : g ≠ b) : Arr (nxt w b s p) g cs t := (nxt_block _ _ _ _ hne).trans h
theorem it_pos {w : World} {b : Nat} {s : ByteArray} {p : Nat} (h : w.heap[b]? = some (.stringIter s p)) : w.iterPos b = p := by simp [World.iterPos, h]
theorem ext_rng {n : Nat} (h : n ≤ 24) : ext (rng n) = idl := by
  refine list_eq 24 (ext_len _) (tab_len _) fun i hi => ?_
  unfold ext extTo idl
  rw [tab_get _ hi, tab_get _ hi]
  split
  · rename_i h; rw [rng_at (by rwa [rng_len] at h)]
  · rfl
/-- Amid the way. -/
structure Aq (R U : List Int) (n : Nat) (L : List UInt8) (w wr : World) (wb ib k : Nat) : Prop where
  g : Arr wr w.heap.size (V (gl (ext R) (ext U) n)) 64
  res : Arr wr (w.heap.size + 1) (V zeros) 62
  way : Arr wr wb (V (ext (ev n R U (L.take k)))) 62
  it : wr.heap[ib]? = some (.stringIter (wd L) k)
  bel : Below w.heap.size w wr
theorem ev_next {n : Nat} {R U : List Int} (s : Sf n R U) {L : List UInt8} {k : Nat} {c : UInt8} (h : L[k]? = some c) : thenL (ext (ev n R U (L.take k))) (ext (stP R U c)) = ext (ev n R U (L.take (k + 1))) := by
  have o := ev_ok s (L.take k); have t := stP_ok s c
  rw [thn_ext o.1 t.1 (by rw [o.2, t.2]), ← ev_snoc]
  congr 2
  rw [List.take_add_one, h]; rfl
theorem wd_at {L : List UInt8} {k : Nat} (h : k < L.length) (h' : k < (wd L).size) : (wd L)[k]'h' = L[k] := by
  rfl

set_option maxHeartbeats 8000000 in
theorem along_any (R U : List Int) (n : Nat) (L : List UInt8) (w : World) (hs : Sf n R U) (hl : L.length ≤ 12) (hc : ∀ c ∈ L, c = 114 ∨ c = 117) :
    Calls Try.prog 68 #[.agg (V (gl (ext R) (ext U) n)).toArray, .string (wd L)] w fun e w' => e = .returned (.agg (V (ext (ev n R U L))).toArray) ∧ Below w.heap.size w w' := by
  have HS := Lib.hid hs; have HC := Lib.hid hc; clear hs hc
  have hsz := wd_size L
  go_enter Try.func68, Try.ntmps68
  go_wp2_with fail
  generalize hw1 : (w.alloc (.cells (V (gl (ext R) (ext U) n)).toArray 64)).alloc (.cells #[.int .i64 0, .int .i64 0, .int .i64 0, .int .i64 0, .int .i64 0, .int .i64 0, .int .i64 0, .int .i64 0, .int .i64 0, .int .i64 0, .int .i64 0, .int .i64 0, .int .i64 0, .int .i64 0, .int .i64 0, .int .i64 0, .int .i64 0, .int .i64 0, .int .i64 0, .int .i64 0, .int .i64 0, .int .i64 0, .int .i64 0, .int .i64 0] 62) = w1
  have A2 : Hid (Arr w1 w.heap.size (V (gl (ext R) (ext U) n)) 64) := Lib.hid (by rw [← hw1]; exact (Arr.new w _ _ rfl).alloc _)
  have A4 : Hid (Arr w1 (w.heap.size + 1) (V zeros) 62) := Lib.hid (by rw [← hw1]; exact Arr.new _ (V zeros) _ (by simp))
  have B1 : Hid (Below w.heap.size w w1) := Lib.hid (by rw [← hw1]; exact ((Below.refl _ _).alloc (Nat.le_refl _) _).alloc (by simp) _)
  have s1 : w.heap.size + 2 ≤ w1.heap.size := by rw [← hw1]; simp
  clear hw1
  refine (staying_any _).mono ?_
  rintro e w2 ⟨rfl, b1⟩
  replace A2 := Lib.hid (A2.out.keep b1 A2.out.lt)
  replace A4 := Lib.hid (A4.out.keep b1 A4.out.lt)
  replace B1 := Lib.hid (B1.out.trans (b1.mono B1.out.size))
  have s2 := b1.size
  clear b1
  go_wp2_with (refine wpList_store_row rfl 62 _ _ rfl w2.heap.size (V idl).toArray rfl rfl 62 (V zeros).toArray (Arr.new w2 (V zeros) _ rfl) (size_V (tab_len _)) rfl (one_V _) ?_; generalize hw3 : (w2.alloc (.cells #[.int .i64 0, .int .i64 0, .int .i64 0, .int .i64 0, .int .i64 0, .int .i64 0, .int .i64 0, .int .i64 0, .int .i64 0, .int .i64 0, .int .i64 0, .int .i64 0, .int .i64 0, .int .i64 0, .int .i64 0, .int .i64 0, .int .i64 0, .int .i64 0, .int .i64 0, .int .i64 0, .int .i64 0, .int .i64 0, .int .i64 0, .int .i64 0] 62)).setRow w2.heap.size (V idl).toArray = w3; have C2 : Hid (Arr w3 w.heap.size (V (gl (ext R) (ext U) n)) 64) := Lib.hid (by rw [← hw3]; exact (A2.out.alloc _).rowOther (by omega)); have C4 : Hid (Arr w3 (w.heap.size + 1) (V zeros) 62) := Lib.hid (by rw [← hw3]; exact (A4.out.alloc _).rowOther (by omega)); have CW : Hid (Arr w3 w2.heap.size (V idl) 62) := Lib.hid (by rw [← hw3]; exact (Arr.new w2 (V zeros) _ rfl).row); have B3 : Hid (Below w.heap.size w w3) := Lib.hid (by rw [← hw3]; exact arr.below_setRow (B1.out.alloc B1.out.size _) B1.out.size _); have s3 : w2.heap.size + 1 ≤ w3.heap.size := (by rw [← hw3]; simp); clear hw3 A2 A4 B1)
  go_loopw [7] (fun _ wr => ∃ k : Nat, k ≤ L.length ∧ w3.heap.size < wr.heap.size ∧ Aq R U n L w wr w2.heap.size w3.heap.size k) (fun _ wr => L.length - wr.iterPos w3.heap.size)
  case atStart =>
    refine ⟨0, Nat.zero_le _, by simp [World.iter], C2.out.alloc _, C4.out.alloc _, ?_, World.iter_heap _ _ _, B3.out.alloc B3.out.size _⟩
    have e0 : ext (ev n R U (L.take 0)) = idl := ext_rng HS.out.small
    rw [e0]
    exact CW.out.alloc _
  case round =>
    obtain ⟨k, hk, hib, hq⟩ := hrel
    have HQ := Lib.hid hq; clear hq
    by_cases hlt : k < L.length
    · obtain ⟨c, hLc⟩ : ∃ c, L[k]? = some c := ⟨L[k], List.getElem?_eq_getElem hlt⟩
      have EN := Lib.hid (ev_next HS.out hLc)
      have hks : k < (wd L).size := by omega
      have hch : (wd L)[k]'hks = c := by rw [wd_at hlt]; rw [List.getElem?_eq_getElem hlt] at hLc; exact Option.some.inj hLc
      have hcc := HC.out c (List.mem_of_getElem? hLc)
      have OE := Lib.hid (ev_ok HS.out (L.take k))
      have OT := Lib.hid (stP_ok HS.out c)
      have hnx : ∀ ty, (Instr.next (.pointer (some ⟨w3.heap.size, 0, none⟩)) true ty).run Try.prog wr = .ok (.tuple #[.bool true, .int .i64 k, .int .i32 c.toNat]) (nxt wr w3.heap.size (wd L) (k + 1)) := fun ty => by
        have := run_next_at (P := Try.prog) wr w3.heap.size (wd L) k ty HQ.out.it hks (by rw [hch]; rcases hcc with h | h <;> subst h <;> decide)
        rwa [hch] at this
      generalize hw4 : nxt wr w3.heap.size (wd L) (k + 1) = w4 at *
      have D2 : Hid (Arr w4 w.heap.size (V (gl (ext R) (ext U) n)) 64) := Lib.hid (by rw [← hw4]; exact nxt_arr _ _ HQ.out.g (by omega))
      have D4 : Hid (Arr w4 (w.heap.size + 1) (V zeros) 62) := Lib.hid (by rw [← hw4]; exact nxt_arr _ _ HQ.out.res (by omega))
      have DW : Hid (Arr w4 w2.heap.size (V (ext (ev n R U (L.take k)))) 62) := Lib.hid (by rw [← hw4]; exact nxt_arr _ _ HQ.out.way (by omega))
      have DI : Hid (w4.heap[w3.heap.size]? = some (.stringIter (wd L) (k + 1))) := Lib.hid (by rw [← hw4]; exact nxt_at _ _ _ _ hib)
      have DB : Hid (Below w.heap.size w w4) := Lib.hid (by rw [← hw4]; exact HQ.out.bel.trans (nxt_below _ _ _ _ (by omega)))
      have s4 : w3.heap.size < w4.heap.size := by rw [← hw4, nxt_size]; exact hib
      have HP := Lib.hid (it_pos HQ.out.it)
      clear hw4 HQ hch
      generalize ev n R U (L.take k) = E at *
      rcases hcc with hcc | hcc
      · subst hcc
        rw [show stP R U 114 = R from rfl] at OT EN
        go_wp2_with (first | (refine wpList_load_row rfl 62 (.tmp 5) rfl w2.heap.size rfl 62 (V (ext E)).toArray (0, 0) _ DW.out Try.underlying62 rfl (size_V (ext_len _)) ?_) | (refine wpList_load_mid rfl 62 _ rfl w.heap.size 0 rfl (V (ext R)) _ (rg_right (ext_len _) (fun j v hv => by rw [Nat.zero_add]; exact D2.out.cell hv)) Try.underlying62 rfl (hi24 (ext_len _)) ?_))
        refine (inv.then_any (ext E) (ext R) _ OE.out.1.sq OT.out.1.sq).mono ?_
        rintro e w5 ⟨rfl, b5⟩
        rw [EN.out]
        replace D2 := Lib.hid (D2.out.keep b5 D2.out.lt)
        replace D4 := Lib.hid (D4.out.keep b5 D4.out.lt)
        replace DW := Lib.hid (DW.out.keep b5 DW.out.lt)
        replace DI : Hid (w5.heap[w3.heap.size]? = some (.stringIter (wd L) (k + 1))) := Lib.hid ((b5.block _ s4).trans DI.out)
        replace DB := Lib.hid (DB.out.trans (b5.mono DB.out.size))
        have s5 := b5.size
        clear b5
        have l2 : Hid ((ext (ev n R U (L.take (k + 1)))).length = 24) := Lib.hid (ext_len _)
        obtain ⟨E2, hE2⟩ : ∃ E2, ext (ev n R U (L.take (k + 1))) = E2 := ⟨_, rfl⟩
        rw [hE2] at l2 ⊢
        have HE2 := Lib.hid hE2; clear hE2
        go_wp2_with (refine wpList_store_row rfl 62 _ _ rfl w2.heap.size (V E2).toArray rfl rfl 62 (V (ext E)).toArray DW.out (size_V l2.out) (by simp [V_len, ext_len, l2.out]) (one_V _) ?_)
        simp only [Act.put]
        go_roundw
        case rel => exact ⟨k + 1, by omega, by simp; omega, D2.out.rowOther (by omega), D4.out.rowOther (by omega), by rw [HE2.out]; exact DW.out.row, (setRow_other _ _ _ _ (by omega)).trans DI.out, below_setRow DB.out (by omega) _⟩
        case measure => rw [it_pos ((setRow_other _ _ _ _ (by omega)).trans DI.out), HP.out]; omega
      · subst hcc
        rw [show stP R U 117 = U from rfl] at OT EN
        go_wp2_with (first | (refine wpList_load_row rfl 62 (.tmp 5) rfl w2.heap.size rfl 62 (V (ext E)).toArray (0, 0) _ DW.out Try.underlying62 rfl (size_V (ext_len _)) ?_) | (refine wpList_load_mid rfl 62 _ rfl w.heap.size 24 rfl (V (ext U)) _ (rg_up (ext_len _) (ext_len _) (fun j v hv => by rw [Nat.zero_add]; exact D2.out.cell hv)) Try.underlying62 rfl (hi24 (ext_len _)) ?_))
        refine (inv.then_any (ext E) (ext U) _ OE.out.1.sq OT.out.1.sq).mono ?_
        rintro e w5 ⟨rfl, b5⟩
        rw [EN.out]
        replace D2 := Lib.hid (D2.out.keep b5 D2.out.lt)
        replace D4 := Lib.hid (D4.out.keep b5 D4.out.lt)
        replace DW := Lib.hid (DW.out.keep b5 DW.out.lt)
        replace DI : Hid (w5.heap[w3.heap.size]? = some (.stringIter (wd L) (k + 1))) := Lib.hid ((b5.block _ s4).trans DI.out)
        replace DB := Lib.hid (DB.out.trans (b5.mono DB.out.size))
        have s5 := b5.size
        clear b5
        have l2 : Hid ((ext (ev n R U (L.take (k + 1)))).length = 24) := Lib.hid (ext_len _)
        obtain ⟨E2, hE2⟩ : ∃ E2, ext (ev n R U (L.take (k + 1))) = E2 := ⟨_, rfl⟩
        rw [hE2] at l2 ⊢
        have HE2 := Lib.hid hE2; clear hE2
        go_wp2_with (refine wpList_store_row rfl 62 _ _ rfl w2.heap.size (V E2).toArray rfl rfl 62 (V (ext E)).toArray DW.out (size_V l2.out) (by simp [V_len, ext_len, l2.out]) (one_V _) ?_)
        simp only [Act.put]
        go_roundw
        case rel => exact ⟨k + 1, by omega, by simp; omega, D2.out.rowOther (by omega), D4.out.rowOther (by omega), by rw [HE2.out]; exact DW.out.row, (setRow_other _ _ _ _ (by omega)).trans DI.out, below_setRow DB.out (by omega) _⟩
        case measure => rw [it_pos ((setRow_other _ _ _ _ (by omega)).trans DI.out), HP.out]; omega
    · have hnx : ∀ ty, (Instr.next (.pointer (some ⟨w3.heap.size, 0, none⟩)) true ty).run Try.prog wr = .ok (.tuple #[.bool false]) wr := fun ty => run_next_fin wr w3.heap.size (wd L) k ty HQ.out.it (by omega)
      have hkl : L.take k = L := List.take_of_length_le (by omega)
      have FW : Hid (Arr wr w2.heap.size (V (ext (ev n R U L))) 62) := Lib.hid (by have := HQ.out.way; rwa [hkl] at this)
      have F4 := Lib.hid HQ.out.res
      have FB := Lib.hid HQ.out.bel
      clear HQ
      obtain ⟨E, hE⟩ : ∃ E, ev n R U L = E := ⟨_, rfl⟩
      rw [hE] at FW
      have HE := Lib.hid hE; clear hE
      go_wp2_with (first | (refine wpList_load_row rfl 62 (.tmp 5) rfl w2.heap.size rfl 62 (V (ext E)).toArray (0, 0) _ FW.out Try.underlying62 rfl (size_V (ext_len _)) ?_) | (refine wpList_store_row rfl 62 _ _ rfl (w.heap.size + 1) (V (ext E)).toArray rfl rfl 62 (V zeros).toArray F4.out (size_V (ext_len _)) (by simp [V_len, ext_len, zeros]) (one_V _) ?_))
      exact bodyPost_ret (v := .agg (V (ext E)).toArray) (results_cell_row rfl _ _ (w.heap.size + 1) 62 (V (ext E)).toArray (0, 0) _ rfl F4.out.row Try.underlying62 rfl (size_V (ext_len _))) rfl ⟨by rw [HE.out], below_setRow FB.out (by omega) _⟩
end Go.Proofs.Ytkkklpchkkdhfaa.dr
