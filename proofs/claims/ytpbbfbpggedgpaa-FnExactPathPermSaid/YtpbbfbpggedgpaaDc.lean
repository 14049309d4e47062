/-
  DirectionWord of the specification and of the program.
-/
import Derived.Test.YtpbbfbpggedgpaaDb
import Derived.WalkMore
namespace Go.Proofs.Ytpbbfbpggedgpaa.dr
open Go.ChangeShapes Go.WideShapes Go.ChangeAt Go.RowKit
open Go.Proofs.Ytpbbfbpggedgpaa.mem Go.Proofs.Ytpbbfbpggedgpaa.ints Go.Proofs.Ytpbbfbpggedgpaa.arr Go.Proofs.Ytpbbfbpggedgpaa.pm Go.Proofs.Ytpbbfbpggedgpaa.permOk
set_option linter.unusedVariables false
set_option maxRecDepth 100000

theorem wd_3 (L : List UInt8) : wd L ++ ⟨#[115, 84, 83]⟩ = wd (L ++ [115, 84, 83]) := by
  apply ByteArray.ext
  simp [wd]
/-- Amid the word. -/
structure Dq (a b x y f : Nat) (L : List UInt8) : Prop where
  sum : x + y ≤ f
  len : L.length + 3 * f ≤ 36
  word : L ++ dwN f x y = dwL a b
theorem Dq.start {a b : Nat} (h : a + b ≤ 12) : Dq a b a b (a + b) [] := ⟨Nat.le_refl _, by simp; omega, rfl⟩
theorem Dq.t {a b x y f : Nat} {L : List UInt8} (h : Dq a b x y f L) (hy : 0 < y) (hx : y < x) : Dq a b (x - y) y (f - 1) (L ++ [116]) := by
  have := h.sum
  refine ⟨by omega, by have := h.len; simp; omega, ?_⟩
  rw [← h.word, dwN_t (by omega) hy hx]; simp
theorem Dq.s3 {a b x y f : Nat} {L : List UInt8} (h : Dq a b x y f L) (hx : 0 < x) (hy : x ≤ y) : Dq a b x (y - x) (f - 1) (L ++ [115, 84, 83]) := by
  have := h.sum
  refine ⟨by omega, by have := h.len; simp; omega, ?_⟩
  rw [← h.word, dwN_S (by omega) hx hy]; simp
theorem Dq.fin {a b x f : Nat} {L : List UInt8} (h : Dq a b x 0 f L) : wd L = wd (dwL a b) := by rw [← h.word, dwN_0, List.append_nil]
theorem Dq.fin0 {a b y f : Nat} {L : List UInt8} (h : Dq a b 0 y f L) (hy : 0 < y) : wd L ++ ⟨#[115]⟩ = wd (dwL a b) := by
  have := h.sum
  rw [← h.word, dwN_s (by omega) hy, wd_snoc]

set_option maxHeartbeats 1000000 in
theorem dw_spec (p q : Int) (w : World) (p0 : -9223372036854775808 ≤ p) (p1 : p ≤ 9223372036854775807) (q0 : -9223372036854775808 ≤ q) (q1 : q ≤ 9223372036854775807) :
    Calls Try.prog 11 #[.int .i64 p, .int .i64 q] w fun e w' => e = .returned (.string (dwF p q)) ∧ Below w.heap.size w w' := by
  go_enter Try.func11, Try.ntmps11
  go_wp2_with fail
  refine (so_spec p q _ p0 p1 q0 q1).mono ?_
  rintro e w1 ⟨rfl, b1⟩
  have B1 := Lib.hid b1; clear b1
  cases hq : slB p q
  · have HF := Lib.hid (dwF_no hq); clear hq
    go_wp2_with fail
    go_ret
    exact ⟨ret_str HF.out.symm, B1.out⟩
  · obtain ⟨a, b, rfl, rfl, hab, hg, h1⟩ := slB_nat hq
    have HF := Lib.hid (dwF_yes hq); clear hq p0 p1 q0 q1 hg
    go_wp2
    go_loop [0, 1, 5] (fun xv yv sv => ∃ (x y f : Nat) (L : List UInt8), xv = .int .i64 x ∧ yv = .int .i64 y ∧ sv = .string (wd L) ∧ Dq a b x y f L) (fun xv yv _ => (intOf xv).toNat + (intOf yv).toNat)
    case atStart => exact ⟨a, b, a + b, [], rfl, rfl, rfl, Dq.start hab⟩
    case round =>
      obtain ⟨x, y, f, L, rfl, rfl, rfl, hd⟩ := hrel
      have HD := Lib.hid hd
      have hz := wd_size L
      have hsum := hd.sum; have hlen := hd.len
      have x12 : x ≤ 12 := by omega
      have y12 : y ≤ 12 := by omega
      clear hd
      by_cases h0 : y = 0
      · subst h0
        have HE := Lib.hid (HD.out.fin.trans HF.out.symm)
        go_wp2
        go_ret
        exact ⟨ret_str HE.out, B1.out⟩
      · by_cases hx : x = 0
        · subst hx
          have HE := Lib.hid ((HD.out.fin0 (by omega)).trans HF.out.symm)
          go_wp2
          go_ret
          exact ⟨ret_str HE.out, B1.out⟩
        · by_cases hlt : y < x
          · have ND := Lib.hid (HD.out.t (by omega) hlt)
            clear hsum
            go_wp2
            go_round
            case rel => exact ⟨x - y, y, f - 1, L ++ [116], by first | rfl | (congr 1; omega), rfl, congrArg Value.string (wd_snoc L 116), ND.out⟩
            case measure => simp [intOf]; omega
          · have ND := Lib.hid (HD.out.s3 (by omega) (by omega))
            clear hsum
            go_wp2
            go_round
            case rel => exact ⟨x, y - x, f - 1, L ++ [115, 84, 83], rfl, by first | rfl | (congr 1; omega), congrArg Value.string (wd_3 L), ND.out⟩
            case measure => simp [intOf]; omega

set_option maxHeartbeats 1000000 in
theorem dw_impl (p q : Int) (w : World) (p0 : -9223372036854775808 ≤ p) (p1 : p ≤ 9223372036854775807) (q0 : -9223372036854775808 ≤ q) (q1 : q ≤ 9223372036854775807) :
    Calls Try.prog 12 #[.int .i64 p, .int .i64 q] w fun e w' => e = .returned (.string (dwF p q)) ∧ Below w.heap.size w w' := by
  go_enter Try.func12, Try.ntmps12
  go_wp2_with fail
  go_step3
  go_wp2_with fail
  refine (so_impl p q _ p0 p1 q0 q1).mono ?_
  rintro e w1 ⟨rfl, b1⟩
  have B1 := Lib.hid b1; clear b1
  cases hq : slB p q
  · have HF := Lib.hid (dwF_no hq); clear hq
    go_wp2_with fail
    (first | rw [Exit.noGoto_ret] | skip)
    go_ret
    exact ⟨ret_str HF.out.symm, B1.out⟩
  · obtain ⟨a, b, rfl, rfl, hab, hg, h1⟩ := slB_nat hq
    have HF := Lib.hid (dwF_yes hq); clear hq p0 p1 q0 q1 hg
    go_wp2
    go_step3
    go_wp2
    go_loop [0, 1, 5, 13] (fun xv yv sv iv => ∃ (x y i : Nat) (L : List UInt8), i ≤ a + b ∧ xv = .int .i64 x ∧ yv = .int .i64 y ∧ sv = .string (wd L) ∧ iv = .int .i64 i ∧ Dq a b x y (a + b - i) L) (fun _ _ _ iv => a + b - (intOf iv).toNat)
    case atStart => exact ⟨a, b, 0, [], Nat.zero_le _, rfl, rfl, rfl, rfl, Dq.start hab⟩
    case round =>
      obtain ⟨x, y, i, L, hi, rfl, rfl, rfl, rfl, hd⟩ := hrel
      have HD := Lib.hid hd
      have hz := wd_size L
      have hsum := hd.sum; have hlen := hd.len
      have x12 : x ≤ 12 := by omega
      have y12 : y ≤ 12 := by omega
      clear hd
      by_cases hlt : i < a + b
      · have hd1 : decide ((i : Int) < a + b) = true := by simp; omega
        by_cases h0 : y = 0
        · subst h0
          have HE := Lib.hid (HD.out.fin.trans HF.out.symm)
          go_wp2
          (first | rw [Exit.noGoto_ret] | skip)
          go_ret
          exact ⟨ret_str HE.out, B1.out⟩
        · by_cases hx : x = 0
          · subst hx
            have HE := Lib.hid ((HD.out.fin0 (by omega)).trans HF.out.symm)
            go_wp2
            (first | rw [Exit.noGoto_ret] | skip)
            go_ret
            exact ⟨ret_str HE.out, B1.out⟩
          · by_cases hlt2 : y < x
            · have ND := Lib.hid (HD.out.t (by omega) hlt2)
              clear hsum
              go_wp2
              go_round
              case rel => exact ⟨x - y, y, i + 1, L ++ [116], by omega, by first | rfl | (congr 1; omega), rfl, congrArg Value.string (wd_snoc L 116), by first | rfl | (congr 1; omega), ND.out⟩
              case measure => simp [intOf]; omega
            · have ND := Lib.hid (HD.out.s3 (by omega) (by omega))
              clear hsum
              go_wp2
              go_round
              case rel => exact ⟨x, y - x, i + 1, L ++ [115, 84, 83], by omega, rfl, by first | rfl | (congr 1; omega), congrArg Value.string (wd_3 L), by first | rfl | (congr 1; omega), ND.out⟩
              case measure => simp [intOf]; omega
      · have hd1 : decide ((i : Int) < a + b) = false := by simp; omega
        have hy0 : y = 0 := by omega
        subst hy0
        have HE := Lib.hid (HD.out.fin.trans HF.out.symm)
        go_wp2
        (first | rw [Exit.noGoto_ret] | skip)
        go_ret
        exact ⟨ret_str HE.out, B1.out⟩
end Go.Proofs.Ytpbbfbpggedgpaa.dr
