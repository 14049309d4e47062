/-
  Contracts of the model's FormatInt: the decimal digits, behind a minus sign if the number is negative.
-/
import Derived.Test.YtdoohnphgembdaaDoorMem
import Derived.Lib.ItoaNum
import Derived.Outline
import Derived.Laws.Concat
namespace Go.Proofs.YtdoohnphgembdaaDoor.fmt
open Go.ChangeShapes Go.WideShapes Go.ChangeAt Go.RowKit
open Go.Proofs.YtdoohnphgembdaaDoor.mem
set_option linter.unusedVariables false
set_option maxRecDepth 100000

def B (l : List UInt8) : ByteArray := ⟨l.toArray⟩
theorem B_append (x y : List UInt8) : B x ++ B y = B (x ++ y) := ByteArray.mk_append_mk x y
theorem B_size (x : List UInt8) : (B x).size = x.length := by show x.toArray.size = _; simp

theorem dec_big {u : Nat} (h : ¬ u < 10) : Lib.decDigits u = Lib.decDigits (u / 10) ++ [UInt8.ofNat (48 + u % 10)] := by rw [Lib.decDigits, dif_neg h]
theorem dec_small {u : Nat} (h : u < 10) : Lib.decDigits u = [UInt8.ofNat (48 + u)] := by rw [Lib.decDigits, dif_pos h]

theorem byte_pos {k : Int} (h0 : 0 ≤ k) (h1 : k ≤ 9) : UInt8.ofNat (48 + k).toNat = UInt8.ofNat (48 + k.toNat) := by
  congr 1; omega

theorem dec_len (u : Nat) : ∀ k, u < 10 ^ k → (Lib.decDigits u).length ≤ k + 1 := by
  intro k
  induction k generalizing u with
  | zero => intro h; rw [dec_small (by omega)]; simp
  | succ k ih =>
    intro h
    by_cases h' : u < 10
    · rw [dec_small h']; simp
    · rw [dec_big h']
      have := ih (u / 10) (by rw [Nat.pow_succ] at h; omega)
      simp; omega
theorem dec_len20 {u : Nat} (h : u ≤ 9223372036854775808) : (Lib.decDigits u).length ≤ 20 :=
  dec_len u 19 (by have : (10 : Nat) ^ 19 = 10000000000000000000 := by decide
                   omega)

set_option maxHeartbeats 400000 in
theorem pos_any (n : Int) (w : World) (h1 : 0 ≤ n) (h2 : n ≤ 9223372036854775807) :
    Calls Tryd.prog 28 #[.int .i64 n] w fun e w' => e = .returned (.string (B (Lib.decDigits n.toNat))) ∧ Below w.heap.size w w' := by
  have kc := fun (W : World) (n : Int) => run_byte_string (P := Tryd.prog) W 58 9 5 5 n Tryd.underlying58 Tryd.underlying5 Tryd.underlying9
  have hk0 : decide (n < 0) = false := by simp; omega
  have hL := dec_len20 (u := n.toNat) (by omega)
  have HL := Lib.hid hL; clear hL
  go_enter Tryd.func28, Tryd.ntmps28
  go_wp2
  go_loopw [0, 3] (fun i s wr => ∃ (j : Int) (acc : List UInt8), 0 ≤ j ∧ j ≤ n ∧ i = .int .i64 j ∧ s = .string (B acc) ∧ Lib.decDigits j.toNat ++ acc = Lib.decDigits n.toNat ∧ Below w.heap.size w wr) (fun i _ _ => (intOf i).toNat)
  case atStart => exact ⟨n, [], by omega, by omega, rfl, rfl, by simp, Below.refl _ _⟩
  case round =>
    obtain ⟨j, acc, hj0, hjn, rfl, rfl, hdg, hbl⟩ := hrel
    have hal : acc.length ≤ 20 := by have := congrArg List.length hdg; rw [List.length_append] at this; have := HL.out; omega
    have hsz := B_size acc
    have hal2 : (B acc).size ≤ 20 := by omega
    have HD := Lib.hid hdg; have HB := Lib.hid hbl; clear hdg hbl hsz
    by_cases hlt : 9 < j
    · go_wp2
      go_roundw
      case rel =>
        refine ⟨j / 10, UInt8.ofNat (48 + j % 10).toNat :: acc, by omega, by omega, rfl, ?_, ?_, HB.out.alloc HB.out.size _⟩
        · exact congrArg Value.string (B_append [UInt8.ofNat (48 + j % 10).toNat] acc)
        · rw [← HD.out, dec_big (u := j.toNat) (by omega), show j.toNat / 10 = (j / 10).toNat by omega, byte_pos (by omega) (by omega), show (j % 10).toNat = j.toNat % 10 by omega]
          simp
      case measure => simp [intOf]; omega
    · go_wp2
      go_ret
      refine ⟨ret_str ?_, HB.out.alloc HB.out.size _⟩
      rw [← HD.out, dec_small (u := j.toNat) (by omega), ← byte_pos (by omega) (by omega)]
      exact B_append [UInt8.ofNat (48 + j).toNat] acc

theorem tdiv_neg (u : Nat) : (-(u : Int)).tdiv 10 = -((u / 10 : Nat) : Int) := by
  rw [Int.neg_tdiv, Int.tdiv_eq_ediv_of_nonneg (by omega)]; rfl
theorem tmod_neg (u : Nat) : (-(u : Int)).tmod 10 = -((u % 10 : Nat) : Int) := by
  rw [Int.neg_tmod, Int.tmod_eq_emod_of_nonneg (by omega)]; rfl

theorem neg_small (n : Int) (w : World) (h0 : n < 0) (h1 : -10 < n) :
    Calls Tryd.prog 28 #[.int .i64 n] w fun e w' => e = .returned (.string (B (45 :: Lib.decDigits n.natAbs))) ∧ Below w.heap.size w w' := by
  have kc := fun (W : World) (b : Nat) (n : Int) => run_byte_cell (P := Tryd.prog) W 58 9 5 b n Tryd.underlying58 Tryd.underlying5 Tryd.underlying9
  have hq : (n.tdiv 10 == 0) = true := by
    obtain ⟨u, rfl⟩ : ∃ u : Nat, n = -(u : Int) := ⟨n.natAbs, by omega⟩
    rw [tdiv_neg]; simp; omega
  have E : B (45 :: Lib.decDigits n.natAbs) = ⟨#[45]⟩ ++ ⟨#[UInt8.ofNat (48 - n).toNat]⟩ := by
    rw [dec_small (u := n.natAbs) (by omega), show (48 - n).toNat = 48 + n.natAbs by omega]
    exact (B_append [45] _).symm
  have HE := Lib.hid E; clear E
  go_enter Tryd.func28, Tryd.ntmps28
  go_wp2_with fail
  go_ret
  exact ⟨ret_str HE.out.symm, (Below.refl _ _).alloc (Nat.le_refl _) _⟩

theorem cell_new_drew {W w' : World} {v : Value} {t : TypeId} (hb : Below (W.alloc (.cells #[v] t)).drew.heap.size (W.alloc (.cells #[v] t)).drew w') : w'.cell? ⟨W.heap.size, 0, none⟩ = some v := by
  rw [hb.cell (p := ⟨W.heap.size, 0, none⟩) (by simp)]
  simp [go_sem]
def Want (n : Int) (w : World) (e : Ending) (w' : World) : Prop := e = .returned (.string (B (45 :: Lib.decDigits n.natAbs))) ∧ Below w.heap.size w w'

set_option maxHeartbeats 800000 in
theorem neg_any (k : Nat) : ∀ (n : Int) (w : World), n < 0 → -9223372036854775808 ≤ n → n.natAbs < 10 ^ (k + 1) →
    Calls Tryd.prog 28 #[.int .i64 n] w (Want n w) := by
  induction k with
  | zero =>
    intro n w h0 h1 h2
    exact neg_small n w h0 (by omega)
  | succ k ih =>
    intro n w h0 h1 h2
    by_cases hs : -10 < n
    · exact neg_small n w h0 hs
    have kc := fun (W : World) (b : Nat) (n : Int) => run_byte_cell (P := Tryd.prog) W 58 9 5 b n Tryd.underlying58 Tryd.underlying5 Tryd.underlying9
    obtain ⟨u, hu⟩ : ∃ u : Nat, n = -(u : Int) := ⟨n.natAbs, by omega⟩
    have hq : n.tdiv 10 = -((u / 10 : Nat) : Int) := by rw [hu, tdiv_neg]
    have hr : n.tmod 10 = -((u % 10 : Nat) : Int) := by rw [hu, tmod_neg]
    have hua : n.natAbs = u := by omega
    rw [hua, Nat.pow_succ] at h2
    have hz : (n.tdiv 10 == 0) = false := by rw [beq_eq_false_iff_ne, hq]; omega
    have q0 : n.tdiv 10 < 0 := by rw [hq]; omega
    have q1 : -9223372036854775808 ≤ n.tdiv 10 := by rw [hq]; omega
    have r0 : n.tmod 10 ≤ 0 := by rw [hr]; omega
    have r1 : -9 ≤ n.tmod 10 := by rw [hr]; omega
    have qa : (n.tdiv 10).natAbs = u / 10 := by rw [hq]; omega
    have HI := Lib.hid (fun W => ih (n.tdiv 10) W q0 q1 (by rw [qa]; omega))
    have hl := dec_len20 (u := (n.tdiv 10).natAbs) (by omega)
    have hsz : (B (45 :: Lib.decDigits (n.tdiv 10).natAbs)).size ≤ 21 := by rw [B_size, List.length_cons]; omega
    have E : B (45 :: Lib.decDigits n.natAbs) = B (45 :: Lib.decDigits (n.tdiv 10).natAbs) ++ ⟨#[UInt8.ofNat (48 - n.tmod 10).toNat]⟩ := by
      rw [hua, qa, dec_big (u := u) (by omega), hr, show (48 - -((u % 10 : Nat) : Int)).toNat = 48 + u % 10 by omega]
      exact (B_append (45 :: Lib.decDigits (u / 10)) [_]).symm
    have HE := Lib.hid E
    clear E hl qa hua hr hq hu ih h2
    generalize HG : B (45 :: Lib.decDigits (n.tdiv 10).natAbs) = g at *
    have HG' := Lib.hid HG; clear HG
    go_enter Tryd.func28, Tryd.ntmps28
    go_wp2_with fail
    have hw3 : IntKind.u8.wrap (48 - n.tmod 10) = 48 - n.tmod 10 := by rw [IntKind.wrap_u8]; omega
    have hw1 := IntWalk.i64_in (n.tdiv 10) (by omega)
    have hw2 := IntWalk.i64_in (48 - n.tmod 10) (by omega)
    go_region_with (first | (go_at_call 28; refine (HI.out _).mono ?_; rintro e w' ⟨rfl, hb⟩; rw [HG'.out]; first | (have hcb := cell_new hb) | (have hcb := cell_new_drew hb) | skip))
    all_goals clear hw1 hw2 hw3
    all_goals
      go_wp2_with fail
      go_ret
      refine ⟨ret_str HE.out.symm, ?_⟩
      first
        | exact (Below.trans (Below.drew (Below.refl _ _)) hb).alloc hb.size _
        | exact Below.trans (Below.drew ((Below.refl _ _).alloc (Nat.le_refl _) _)) (hb.mono (by simp))
        | exact Below.trans ((Below.refl _ _).alloc (Nat.le_refl _) _) (hb.mono (by simp))
        | exact (Below.trans (Below.drew (Below.refl _ _)) hb).alloc (by simpa using hb.size) _

/-- The model's FormatInt at every int. -/
theorem spec_any (n : Int) (w : World) (h1 : -9223372036854775808 ≤ n) (h2 : n ≤ 9223372036854775807) :
    Calls Tryd.prog 28 #[.int .i64 n] w fun e w' => e = .returned (.string (B (Lib.itoa n))) ∧ Below w.heap.size w w' := by
  by_cases h : n < 0
  · have e : Lib.itoa n = 45 :: Lib.decDigits n.natAbs := by unfold Lib.itoa; rw [if_pos h]
    rw [e]
    exact neg_any 18 n w h h1 (by have : (10 : Nat) ^ (18 + 1) = 10000000000000000000 := by decide
                                  omega)
  · have e : Lib.itoa n = Lib.decDigits n.toNat := by unfold Lib.itoa; rw [if_neg h]
    rw [e]
    exact pos_any n w (by omega) h2

end Go.Proofs.YtdoohnphgembdaaDoor.fmt
