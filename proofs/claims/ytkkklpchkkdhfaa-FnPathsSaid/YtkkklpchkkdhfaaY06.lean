import Derived.Test.YtkkklpchkkdhfaaY05
import Derived.Laws.IdiomStrings
import Derived.Laws.BytesArg
/-
  SlopeWord of the specification and of the program.
-/
namespace Go.Proofs.Ytkkklpchkkdhfaa.dr
open Go.ChangeShapes Go.WideShapes Go.ChangeAt Go.RowKit
open Go.Proofs.Ytkkklpchkkdhfaa.mem Go.Proofs.Ytkkklpchkkdhfaa.ints Go.Proofs.Ytkkklpchkkdhfaa.arr Go.Proofs.Ytkkklpchkkdhfaa.pm Go.Proofs.Ytkkklpchkkdhfaa.permOk
set_option linter.unusedVariables false
set_option maxRecDepth 100000

theorem infoU8 : (Try.prog.info? 5).map (fun i => (i.zero, i.size, i.bytes)) = some (some (.int .u8 0), 1, 1) := by kernel_rfl
/-- Bytes as the program holds them. -/
def BV (L : List UInt8) : List Value := L.map fun c => Value.int .u8 (c.toNat : Int)
theorem conv_b {W : World} {b : Nat} {v : Value} {L : List UInt8} (hrow : W.ownsRow b 5 1 v L.length (BV L)) :
    (convert 22 9 v).run Try.prog W = .ok (.string (wd L)) W := by
  rcases hrow.2 with ⟨rfl, h0⟩ | ⟨g, cap, cur, rfl, _, _⟩
  · have hz : L = [] := List.eq_nil_of_length_eq_zero (by simpa using h0)
    subst hz
    exact run_convert_bytes_nil W 22 5 Try.underlying22 Try.underlying5 0 0 9 Try.underlying9
  · refine run_convert_bytes_back W _ _ 5 _ cap L Try.underlying22 Try.underlying5 Try.underlying9 fun j hj => ?_
    have := hrow.cellAt j (by omega)
    rw [show (⟨g, 0, none⟩ : Addr).add j = ⟨g, j, none⟩ by unfold Addr.add; split <;> simp_all]
    rw [this]
    unfold BV
    rw [List.getElem?_map, List.getElem?_eq_getElem hj]
    rfl
/-- The numbers of a round. -/
theorem sw_nums {a b i N : Nat} (hN : a + b = N) (hi : i < N) (h12 : N ≤ 12) : ∃ X Z Y T : Nat, X ≤ 144 ∧ Z ≤ 156 ∧ Y < N ∧ T < N ∧ (i : Int) * b = X ∧ ((i : Int) + 1) * b = Z ∧ (X : Int).tmod N = Y ∧ (Z : Int).tmod N = T ∧ swC a b i = (if b = 0 ∨ Y < T then 114 else 117) := by
  have hb : b ≤ 12 := by omega
  have h1 : i * b ≤ 12 * 12 := Nat.mul_le_mul (by omega) hb
  have h2 : (i + 1) * b ≤ 13 * 12 := Nat.mul_le_mul (by omega) hb
  refine ⟨i * b, (i + 1) * b, i * b % N, (i + 1) * b % N, h1, h2, Nat.mod_lt _ (by omega), Nat.mod_lt _ (by omega), by push_cast; rfl, by push_cast; rfl, by rw [← Int.ofNat_tmod], by rw [← Int.ofNat_tmod], ?_⟩
  unfold swC
  rw [hN]
theorem sw_start (a b : Nat) : (swL a b).take 0 = [] := rfl
theorem BV_snoc (L : List UInt8) (c : UInt8) : BV L ++ [.int .u8 (c.toNat : Int)] = BV (L ++ [c]) := by simp [BV]

set_option maxHeartbeats 1000000 in
theorem sw_spec (p q : Int) (w : World) (p0 : -9223372036854775808 ≤ p) (p1 : p ≤ 9223372036854775807) (q0 : -9223372036854775808 ≤ q) (q1 : q ≤ 9223372036854775807) :
    Calls Try.prog 52 #[.int .i64 p, .int .i64 q] w fun e w' => e = .returned (.string (swF p q)) ∧ Below w.heap.size w w' := by
  go_enter Try.func52, Try.ntmps52
  go_wp2_with fail
  refine (so_spec p q _ p0 p1 q0 q1).mono ?_
  rintro e w1 ⟨rfl, b1⟩
  have B1 := Lib.hid b1; clear b1
  cases hq : slB p q
  · have HF := Lib.hid (swF_no hq); clear hq
    go_wp2_with fail
    go_ret
    exact ⟨ret_str HF.out.symm, B1.out⟩
  · obtain ⟨a, b, rfl, rfl, hab, hg, h1⟩ := slB_nat hq
    have HF := Lib.hid (swF_yes hq); clear hq p0 p1 q0 q1 hg
    obtain ⟨N, hN⟩ : ∃ N, a + b = N := ⟨_, rfl⟩
    have N12 : N ≤ 12 := by omega
    have N1 : 1 ≤ N := by omega
    have HN := Lib.hid hN
    have hs : (a : Int) + b = N := by omega
    clear hab h1 hN
    go_wp2
    go_loopw [5, 7] (fun sv iv wr => ∃ (i : Nat), i ≤ N ∧ sv = .string (wd ((swL a b).take i)) ∧ iv = .int .i64 i ∧ Below w.heap.size w wr) (fun _ iv _ => N - (intOf iv).toNat)
    case atStart => exact ⟨0, Nat.zero_le _, rfl, rfl, B1.out⟩
    case round =>
      obtain ⟨i, hi, rfl, rfl, hb⟩ := hrel
      have HB := Lib.hid hb; clear hb
      have hz := wd_size ((swL a b).take i)
      have hz2 : ((swL a b).take i).length ≤ 12 := by rw [List.length_take]; omega
      by_cases hlt : i < N
      · obtain ⟨X, Z, Y, T, x1, z1, y1, t1, e1, e2, e3, e4, hc⟩ := sw_nums HN.out hlt N12
        have SN := Lib.hid (swL_snoc (p := a) (q := b) (i := i) (by have := HN.out; omega))
        have HC := Lib.hid hc; clear hc
        have hwX := IntWalk.i64_in (X : Int) (by omega); have hwZ := IntWalk.i64_in (Z : Int) (by omega)
        have hwY := IntWalk.i64_in (Y : Int) (by omega); have hwT := IntWalk.i64_in (T : Int) (by omega)
        have hN0 : ¬ (N : Int) = 0 := by omega
        generalize (swL a b).take i = L at *
        by_cases hb0 : b = 0
        · have HB0 : Hid ((b : Int) = 0) := Lib.hid (by omega)
          have HE : Hid (wd L ++ ⟨#[114]⟩ = wd ((swL a b).take (i + 1))) := Lib.hid (by rw [SN.out, HC.out, if_pos (.inl hb0), wd_snoc])
          clear e1 e2 e3 e4 hb0
          go_wp2
          refine wp_region_held_drew (S := fun W => W = wr.drew) (by kernel_rfl) rfl (fun hHeld => ?_)
          refine wpAnyH_take (i := 0) (v := .int .i64 (b : Int)) rfl (by kernel_rfl) (by kernel_rfl) (by kernel_rfl) (fun _ _ _ h => h) (Or.inl ⟨by kernel_rfl, fun w hSw => by (go_simp <;> first | omega | exact IntWalk.i64_in _ (by omega) | simpa using hd)⟩) hHeld ?_
          refine wpAnyH_take (i := 1) (v := .bool true) rfl (by kernel_rfl) (by kernel_rfl) (by kernel_rfl) (fun _ _ _ h => h) (Or.inl ⟨by kernel_rfl, fun w hSw => by have hb1 := HB0.out; (go_simp <;> first | omega | exact IntWalk.i64_in _ (by omega) | simpa using hd)⟩) hHeld ?_
          refine wpAnyH_take (i := 2) (v := .bool true) rfl (by kernel_rfl) (by kernel_rfl) (by kernel_rfl) (fun _ _ _ h => h) (Or.inl ⟨by kernel_rfl, fun w hSw => by (go_simp <;> first | omega | exact IntWalk.i64_in _ (by omega) | simpa using hd)⟩) hHeld ?_
          refine wpAnyH_take (i := 3) (v := undef) rfl (by kernel_rfl) (by kernel_rfl) (by kernel_rfl) (fun _ _ _ h => h) (Or.inr ⟨by kernel_rfl, rfl⟩) hHeld ?_
          refine wpAnyH_take (i := 4) (v := undef) rfl (by kernel_rfl) (by kernel_rfl) (by kernel_rfl) (fun _ _ _ h => h) (Or.inr ⟨by kernel_rfl, rfl⟩) hHeld ?_
          refine wpAnyH_take (i := 5) (v := undef) rfl (by kernel_rfl) (by kernel_rfl) (by kernel_rfl) (fun _ _ _ h => h) (Or.inr ⟨by kernel_rfl, rfl⟩) hHeld ?_
          refine wpAnyH_take (i := 6) (v := undef) rfl (by kernel_rfl) (by kernel_rfl) (by kernel_rfl) (fun _ _ _ h => h) (Or.inr ⟨by kernel_rfl, rfl⟩) hHeld ?_
          refine wpAnyH_take (i := 7) (v := undef) rfl (by kernel_rfl) (by kernel_rfl) (by kernel_rfl) (fun _ _ _ h => h) (Or.inr ⟨by kernel_rfl, rfl⟩) hHeld ?_
          refine wpAnyH_take (i := 8) (v := undef) rfl (by kernel_rfl) (by kernel_rfl) (by kernel_rfl) (fun _ _ _ h => h) (Or.inr ⟨by kernel_rfl, rfl⟩) hHeld ?_
          refine wpAnyH_take (i := 9) (v := undef) rfl (by kernel_rfl) (by kernel_rfl) (by kernel_rfl) (fun _ _ _ h => h) (Or.inr ⟨by kernel_rfl, rfl⟩) hHeld ?_
          refine wpAnyH_take (i := 10) (v := undef) rfl (by kernel_rfl) (by kernel_rfl) (by kernel_rfl) (fun _ _ _ h => h) (Or.inr ⟨by kernel_rfl, rfl⟩) hHeld ?_
          refine wpAnyH_take (i := 11) (v := undef) rfl (by kernel_rfl) (by kernel_rfl) (by kernel_rfl) (fun _ _ _ h => h) (Or.inr ⟨by kernel_rfl, rfl⟩) hHeld ?_
          refine wpAnyH_take (i := 12) (v := undef) rfl (by kernel_rfl) (by kernel_rfl) (by kernel_rfl) (fun _ _ _ h => h) (Or.inr ⟨by kernel_rfl, rfl⟩) hHeld ?_
          refine wpAnyH_take (i := 13) (v := undef) rfl (by kernel_rfl) (by kernel_rfl) (by kernel_rfl) (fun _ _ _ h => h) (Or.inr ⟨by kernel_rfl, rfl⟩) hHeld ?_
          refine wpAnyH_take (i := 14) (v := undef) rfl (by kernel_rfl) (by kernel_rfl) (by kernel_rfl) (fun _ _ _ h => h) (Or.inr ⟨by kernel_rfl, rfl⟩) hHeld ?_
          refine wpAnyH_take (i := 15) (v := .bool true) rfl (by kernel_rfl) (by kernel_rfl) (by kernel_rfl) (fun _ _ _ h => h) (Or.inl ⟨by kernel_rfl, fun w hSw => by (go_simp <;> first | omega | exact IntWalk.i64_in _ (by omega) | simpa using hd)⟩) hHeld ?_
          refine wpAnyH_done (by kernel_rfl) ?_ _
          clear hHeld
          dsimp only [List.getElem_toArray, List.getElem_cons_zero, List.getElem_cons_succ]
          go_simp
          go_wp2
          go_roundw
          case rel => exact ⟨i + 1, by omega, congrArg Value.string HE.out, by first | rfl | (congr 1), by first | exact HB.out | exact HB.out.drew | exact below_drewN HB.out _⟩
          case measure => simp [intOf]; omega
        · have hb1 : ¬ (b : Int) = 0 := by omega
          obtain ⟨d, hd⟩ : ∃ d, decide ((Y : Int) < T) = d := ⟨_, rfl⟩
          have HE : Hid (wd L ++ (if d then ⟨#[114]⟩ else ⟨#[117]⟩) = wd ((swL a b).take (i + 1))) := Lib.hid (by
            rw [SN.out, HC.out]
            cases d
            · rw [if_neg (show ¬ (b = 0 ∨ Y < T) by simp at hd; omega)]; exact wd_snoc _ _
            · rw [if_pos (show b = 0 ∨ Y < T by simp at hd; omega)]; exact wd_snoc _ _)
          clear hb0
          go_wp2
          refine wp_region_held_drew (S := fun W => W = wr.drew) (by kernel_rfl) rfl (fun hHeld => ?_)
          refine wpAnyH_take (i := 0) (v := .int .i64 (b : Int)) rfl (by kernel_rfl) (by kernel_rfl) (by kernel_rfl) (fun _ _ _ h => h) (Or.inl ⟨by kernel_rfl, fun w hSw => by (go_simp <;> first | omega | exact IntWalk.i64_in _ (by omega) | simpa using hd)⟩) hHeld ?_
          refine wpAnyH_take (i := 1) (v := .bool false) rfl (by kernel_rfl) (by kernel_rfl) (by kernel_rfl) (fun _ _ _ h => h) (Or.inl ⟨by kernel_rfl, fun w hSw => by (go_simp <;> first | omega | exact IntWalk.i64_in _ (by omega) | simpa using hd)⟩) hHeld ?_
          refine wpAnyH_take (i := 2) (v := .bool false) rfl (by kernel_rfl) (by kernel_rfl) (by kernel_rfl) (fun _ _ _ h => h) (Or.inl ⟨by kernel_rfl, fun w hSw => by (go_simp <;> first | omega | exact IntWalk.i64_in _ (by omega) | simpa using hd)⟩) hHeld ?_
          refine wpAnyH_take (i := 3) (v := .int .i64 (i : Int)) rfl (by kernel_rfl) (by kernel_rfl) (by kernel_rfl) (fun _ _ _ h => h) (Or.inl ⟨by kernel_rfl, fun w hSw => by (go_simp <;> first | omega | exact IntWalk.i64_in _ (by omega) | simpa using hd)⟩) hHeld ?_
          refine wpAnyH_take (i := 4) (v := .int .i64 (b : Int)) rfl (by kernel_rfl) (by kernel_rfl) (by kernel_rfl) (fun _ _ _ h => h) (Or.inl ⟨by kernel_rfl, fun w hSw => by (go_simp <;> first | omega | exact IntWalk.i64_in _ (by omega) | simpa using hd)⟩) hHeld ?_
          refine wpAnyH_take (i := 5) (v := .int .i64 (X : Int)) rfl (by kernel_rfl) (by kernel_rfl) (by kernel_rfl) (fun _ _ _ h => h) (Or.inl ⟨by kernel_rfl, fun w hSw => by (go_simp <;> first | omega | exact IntWalk.i64_in _ (by omega) | simpa using hd)⟩) hHeld ?_
          refine wpAnyH_take (i := 6) (v := .int .i64 (N : Int)) rfl (by kernel_rfl) (by kernel_rfl) (by kernel_rfl) (fun _ _ _ h => h) (Or.inl ⟨by kernel_rfl, fun w hSw => by (go_simp <;> first | omega | exact IntWalk.i64_in _ (by omega) | simpa using hd)⟩) hHeld ?_
          refine wpAnyH_take (i := 7) (v := .int .i64 (Y : Int)) rfl (by kernel_rfl) (by kernel_rfl) (by kernel_rfl) (fun _ _ _ h => h) (Or.inl ⟨by kernel_rfl, fun w hSw => by (go_simp <;> first | omega | exact IntWalk.i64_in _ (by omega) | simpa using hd)⟩) hHeld ?_
          refine wpAnyH_take (i := 8) (v := .int .i64 (i : Int)) rfl (by kernel_rfl) (by kernel_rfl) (by kernel_rfl) (fun _ _ _ h => h) (Or.inl ⟨by kernel_rfl, fun w hSw => by (go_simp <;> first | omega | exact IntWalk.i64_in _ (by omega) | simpa using hd)⟩) hHeld ?_
          refine wpAnyH_take (i := 9) (v := .int .i64 ((i : Int) + 1)) rfl (by kernel_rfl) (by kernel_rfl) (by kernel_rfl) (fun _ _ _ h => h) (Or.inl ⟨by kernel_rfl, fun w hSw => by (go_simp <;> first | omega | exact IntWalk.i64_in _ (by omega) | simpa using hd)⟩) hHeld ?_
          refine wpAnyH_take (i := 10) (v := .int .i64 (b : Int)) rfl (by kernel_rfl) (by kernel_rfl) (by kernel_rfl) (fun _ _ _ h => h) (Or.inl ⟨by kernel_rfl, fun w hSw => by (go_simp <;> first | omega | exact IntWalk.i64_in _ (by omega) | simpa using hd)⟩) hHeld ?_
          refine wpAnyH_take (i := 11) (v := .int .i64 (Z : Int)) rfl (by kernel_rfl) (by kernel_rfl) (by kernel_rfl) (fun _ _ _ h => h) (Or.inl ⟨by kernel_rfl, fun w hSw => by (go_simp <;> first | omega | exact IntWalk.i64_in _ (by omega) | simpa using hd)⟩) hHeld ?_
          refine wpAnyH_take (i := 12) (v := .int .i64 (N : Int)) rfl (by kernel_rfl) (by kernel_rfl) (by kernel_rfl) (fun _ _ _ h => h) (Or.inl ⟨by kernel_rfl, fun w hSw => by (go_simp <;> first | omega | exact IntWalk.i64_in _ (by omega) | simpa using hd)⟩) hHeld ?_
          refine wpAnyH_take (i := 13) (v := .int .i64 (T : Int)) rfl (by kernel_rfl) (by kernel_rfl) (by kernel_rfl) (fun _ _ _ h => h) (Or.inl ⟨by kernel_rfl, fun w hSw => by (go_simp <;> first | omega | exact IntWalk.i64_in _ (by omega) | simpa using hd)⟩) hHeld ?_
          refine wpAnyH_take (i := 14) (v := .bool d) rfl (by kernel_rfl) (by kernel_rfl) (by kernel_rfl) (fun _ _ _ h => h) (Or.inl ⟨by kernel_rfl, fun w hSw => by (go_simp <;> first | omega | exact IntWalk.i64_in _ (by omega) | simpa using hd)⟩) hHeld ?_
          refine wpAnyH_take (i := 15) (v := .bool d) rfl (by kernel_rfl) (by kernel_rfl) (by kernel_rfl) (fun _ _ _ h => h) (Or.inl ⟨by kernel_rfl, fun w hSw => by (go_simp <;> first | omega | exact IntWalk.i64_in _ (by omega) | simpa using hd)⟩) hHeld ?_
          refine wpAnyH_done (by kernel_rfl) ?_ _
          clear hHeld
          dsimp only [List.getElem_toArray, List.getElem_cons_zero, List.getElem_cons_succ]
          go_simp
          cases d
          · go_wp2
            go_roundw
            case rel => exact ⟨i + 1, by omega, congrArg Value.string HE.out, by first | rfl | (congr 1), HB.out.drew⟩
            case measure => simp [intOf]; omega
          · go_wp2
            go_roundw
            case rel => exact ⟨i + 1, by omega, congrArg Value.string HE.out, by first | rfl | (congr 1), HB.out.drew⟩
            case measure => simp [intOf]; omega
      · have HE : Hid (wd ((swL a b).take i) = swF a b) := Lib.hid (by rw [HF.out, List.take_of_length_le (by rw [swL_len]; have := HN.out; omega)])
        go_wp2
        go_ret
        exact ⟨ret_str HE.out, HB.out⟩
/-- The program's word, amid. -/
structure Wq (w wr : World) (v : Value) (L : List UInt8) : Prop where
  own : wr.ownsRow w.heap.size 5 1 v L.length (BV L)
  bel : Below w.heap.size w wr

set_option maxHeartbeats 1000000 in
theorem sw_impl (p q : Int) (w : World) (p0 : -9223372036854775808 ≤ p) (p1 : p ≤ 9223372036854775807) (q0 : -9223372036854775808 ≤ q) (q1 : q ≤ 9223372036854775807) :
    Calls Try.prog 12 #[.int .i64 p, .int .i64 q] w fun e w' => e = .returned (.string (swF p q)) ∧ Below w.heap.size w w' := by
  obtain ⟨i0, hi0, hz0, hz1, hz2⟩ := info_parts infoU8
  go_enter Try.func12, Try.ntmps12
  go_wp2_with fail
  refine (so_impl p q _ p0 p1 q0 q1).mono ?_
  rintro e w1 ⟨rfl, b1⟩
  have B1 := Lib.hid b1; clear b1
  cases hq : slB p q
  · have HF := Lib.hid (swF_no hq); clear hq
    go_wp2_with fail
    go_ret
    exact ⟨ret_str HF.out.symm, B1.out⟩
  · obtain ⟨a, b, rfl, rfl, hab, hg, h1⟩ := slB_nat hq
    have HF := Lib.hid (swF_yes hq); clear hq p0 p1 q0 q1 hg
    obtain ⟨N, hN⟩ : ∃ N, a + b = N := ⟨_, rfl⟩
    have N12 : N ≤ 12 := by omega
    have N1 : 1 ≤ N := by omega
    have HN := Lib.hid hN
    have hs : (a : Int) + b = N := by omega
    clear hab h1 hN
    go_wp2
    go_loopw [6, 7, 16] (fun sv _ iv wr => ∃ (i : Nat), i ≤ N ∧ iv = .int .i64 i ∧ Wq w wr sv ((swL a b).take i)) (fun _ _ iv _ => N - (intOf iv).toNat)
    case atStart => exact ⟨0, Nat.zero_le _, rfl, World.ownsRow_nil _ _ _ _, B1.out⟩
    case round =>
      obtain ⟨i, hi, rfl, hwq⟩ := hrel
      have HW := Lib.hid hwq; clear hwq
      have hsz := HW.out.bel.size
      by_cases hlt : i < N
      · obtain ⟨X, Z, Y, T, x1, z1, y1, t1, e1, e2, e3, e4, hc⟩ := sw_nums HN.out hlt N12
        have SN := Lib.hid (swL_snoc (p := a) (q := b) (i := i) (by have := HN.out; omega))
        have HC := Lib.hid hc; clear hc
        have hwX := IntWalk.i64_in (X : Int) (by omega); have hwZ := IntWalk.i64_in (Z : Int) (by omega)
        have hwY := IntWalk.i64_in (Y : Int) (by omega); have hwT := IntWalk.i64_in (T : Int) (by omega)
        have hN0 : ¬ (N : Int) = 0 := by omega
        have hL : ((swL a b).take i).length ≤ 12 := by rw [List.length_take]; omega
        generalize (swL a b).take i = L at *
        by_cases hb0 : b = 0
        · have HB0 : Hid ((b : Int) = 0) := Lib.hid (by omega)
          have HE : Hid (L ++ [114] = (swL a b).take (i + 1)) := Lib.hid (by rw [SN.out, HC.out, if_pos (.inl hb0)])
          clear e1 e2 e3 e4 hb0
          go_wp2
          refine wp_region_held_drew (S := fun W => W = wr.drew) (by kernel_rfl) rfl (fun hHeld => ?_)
          refine wpAnyH_take (i := 0) (v := .int .i64 (b : Int)) rfl (by kernel_rfl) (by kernel_rfl) (by kernel_rfl) (fun _ _ _ h => h) (Or.inl ⟨by kernel_rfl, fun w hSw => by (go_simp <;> first | omega | exact IntWalk.i64_in _ (by omega) | simpa using hd)⟩) hHeld ?_
          refine wpAnyH_take (i := 1) (v := .bool true) rfl (by kernel_rfl) (by kernel_rfl) (by kernel_rfl) (fun _ _ _ h => h) (Or.inl ⟨by kernel_rfl, fun w hSw => by have hb1 := HB0.out; (go_simp <;> first | omega | exact IntWalk.i64_in _ (by omega) | simpa using hd)⟩) hHeld ?_
          refine wpAnyH_take (i := 2) (v := .bool true) rfl (by kernel_rfl) (by kernel_rfl) (by kernel_rfl) (fun _ _ _ h => h) (Or.inl ⟨by kernel_rfl, fun w hSw => by (go_simp <;> first | omega | exact IntWalk.i64_in _ (by omega) | simpa using hd)⟩) hHeld ?_
          refine wpAnyH_take (i := 3) (v := undef) rfl (by kernel_rfl) (by kernel_rfl) (by kernel_rfl) (fun _ _ _ h => h) (Or.inr ⟨by kernel_rfl, rfl⟩) hHeld ?_
          refine wpAnyH_take (i := 4) (v := undef) rfl (by kernel_rfl) (by kernel_rfl) (by kernel_rfl) (fun _ _ _ h => h) (Or.inr ⟨by kernel_rfl, rfl⟩) hHeld ?_
          refine wpAnyH_take (i := 5) (v := undef) rfl (by kernel_rfl) (by kernel_rfl) (by kernel_rfl) (fun _ _ _ h => h) (Or.inr ⟨by kernel_rfl, rfl⟩) hHeld ?_
          refine wpAnyH_take (i := 6) (v := undef) rfl (by kernel_rfl) (by kernel_rfl) (by kernel_rfl) (fun _ _ _ h => h) (Or.inr ⟨by kernel_rfl, rfl⟩) hHeld ?_
          refine wpAnyH_take (i := 7) (v := undef) rfl (by kernel_rfl) (by kernel_rfl) (by kernel_rfl) (fun _ _ _ h => h) (Or.inr ⟨by kernel_rfl, rfl⟩) hHeld ?_
          refine wpAnyH_take (i := 8) (v := undef) rfl (by kernel_rfl) (by kernel_rfl) (by kernel_rfl) (fun _ _ _ h => h) (Or.inr ⟨by kernel_rfl, rfl⟩) hHeld ?_
          refine wpAnyH_take (i := 9) (v := undef) rfl (by kernel_rfl) (by kernel_rfl) (by kernel_rfl) (fun _ _ _ h => h) (Or.inr ⟨by kernel_rfl, rfl⟩) hHeld ?_
          refine wpAnyH_take (i := 10) (v := undef) rfl (by kernel_rfl) (by kernel_rfl) (by kernel_rfl) (fun _ _ _ h => h) (Or.inr ⟨by kernel_rfl, rfl⟩) hHeld ?_
          refine wpAnyH_take (i := 11) (v := undef) rfl (by kernel_rfl) (by kernel_rfl) (by kernel_rfl) (fun _ _ _ h => h) (Or.inr ⟨by kernel_rfl, rfl⟩) hHeld ?_
          refine wpAnyH_take (i := 12) (v := undef) rfl (by kernel_rfl) (by kernel_rfl) (by kernel_rfl) (fun _ _ _ h => h) (Or.inr ⟨by kernel_rfl, rfl⟩) hHeld ?_
          refine wpAnyH_take (i := 13) (v := undef) rfl (by kernel_rfl) (by kernel_rfl) (by kernel_rfl) (fun _ _ _ h => h) (Or.inr ⟨by kernel_rfl, rfl⟩) hHeld ?_
          refine wpAnyH_take (i := 14) (v := undef) rfl (by kernel_rfl) (by kernel_rfl) (by kernel_rfl) (fun _ _ _ h => h) (Or.inr ⟨by kernel_rfl, rfl⟩) hHeld ?_
          refine wpAnyH_take (i := 15) (v := .bool true) rfl (by kernel_rfl) (by kernel_rfl) (by kernel_rfl) (fun _ _ _ h => h) (Or.inl ⟨by kernel_rfl, fun w hSw => by (go_simp <;> first | omega | exact IntWalk.i64_in _ (by omega) | simpa using hd)⟩) hHeld ?_
          refine wpAnyH_done (by kernel_rfl) ?_ _
          clear hHeld
          dsimp only [List.getElem_toArray, List.getElem_cons_zero, List.getElem_cons_succ]
          go_simp
          have O1 : Hid (wr.drew.ownsRow w.heap.size 5 1 u6 L.length (BV L)) := Lib.hid HW.out.own
          have B2 : Hid (Below w.heap.size w wr.drew) := Lib.hid HW.out.bel.drew
          have s2 : w.heap.size ≤ wr.drew.heap.size := B2.out.size
          generalize wr.drew = w2 at *
          go_wp2_with (at_builtin; refine wpList_append_one w2 _ _ rfl _ _ 22 rfl w.heap.size 5 i0 _ 1 Try.underlying22 hi0 hz0 hz1 hz2 rfl _ _ _ rfl O1.out rfl rfl ?c4 (by decide) (by omega) ?_)
          case c4 => omega
          intro v' w3 hown hg
          have H1 := Lib.hid hown; have HG := Lib.hid (own_below (B := w.heap.size) O1.out hg (Nat.le_refl _) (by omega)); clear hown hg
          go_wp2
          go_roundw
          case rel => exact ⟨i + 1, by omega, by first | rfl | go_num, by rw [← HE.out]; simpa [BV] using H1.out, B2.out.trans HG.out⟩
          case measure => simp [intOf]; omega
        · have hb1 : ¬ (b : Int) = 0 := by omega
          obtain ⟨d, hd⟩ : ∃ d, decide ((Y : Int) < T) = d := ⟨_, rfl⟩
          have HE0 : Hid (L ++ [if d then 114 else 117] = (swL a b).take (i + 1)) := Lib.hid (by
            rw [SN.out, HC.out]
            cases d
            · rw [if_neg (show ¬ (b = 0 ∨ Y < T) by simp at hd; omega)]; rfl
            · rw [if_pos (show b = 0 ∨ Y < T by simp at hd; omega)]; rfl)
          clear hb0
          go_wp2
          refine wp_region_held_drew (S := fun W => W = wr.drew) (by kernel_rfl) rfl (fun hHeld => ?_)
          refine wpAnyH_take (i := 0) (v := .int .i64 (b : Int)) rfl (by kernel_rfl) (by kernel_rfl) (by kernel_rfl) (fun _ _ _ h => h) (Or.inl ⟨by kernel_rfl, fun w hSw => by (go_simp <;> first | omega | exact IntWalk.i64_in _ (by omega) | simpa using hd)⟩) hHeld ?_
          refine wpAnyH_take (i := 1) (v := .bool false) rfl (by kernel_rfl) (by kernel_rfl) (by kernel_rfl) (fun _ _ _ h => h) (Or.inl ⟨by kernel_rfl, fun w hSw => by (go_simp <;> first | omega | exact IntWalk.i64_in _ (by omega) | simpa using hd)⟩) hHeld ?_
          refine wpAnyH_take (i := 2) (v := .bool false) rfl (by kernel_rfl) (by kernel_rfl) (by kernel_rfl) (fun _ _ _ h => h) (Or.inl ⟨by kernel_rfl, fun w hSw => by (go_simp <;> first | omega | exact IntWalk.i64_in _ (by omega) | simpa using hd)⟩) hHeld ?_
          refine wpAnyH_take (i := 3) (v := .int .i64 (i : Int)) rfl (by kernel_rfl) (by kernel_rfl) (by kernel_rfl) (fun _ _ _ h => h) (Or.inl ⟨by kernel_rfl, fun w hSw => by (go_simp <;> first | omega | exact IntWalk.i64_in _ (by omega) | simpa using hd)⟩) hHeld ?_
          refine wpAnyH_take (i := 4) (v := .int .i64 (b : Int)) rfl (by kernel_rfl) (by kernel_rfl) (by kernel_rfl) (fun _ _ _ h => h) (Or.inl ⟨by kernel_rfl, fun w hSw => by (go_simp <;> first | omega | exact IntWalk.i64_in _ (by omega) | simpa using hd)⟩) hHeld ?_
          refine wpAnyH_take (i := 5) (v := .int .i64 (X : Int)) rfl (by kernel_rfl) (by kernel_rfl) (by kernel_rfl) (fun _ _ _ h => h) (Or.inl ⟨by kernel_rfl, fun w hSw => by (go_simp <;> first | omega | exact IntWalk.i64_in _ (by omega) | simpa using hd)⟩) hHeld ?_
          refine wpAnyH_take (i := 6) (v := .int .i64 (N : Int)) rfl (by kernel_rfl) (by kernel_rfl) (by kernel_rfl) (fun _ _ _ h => h) (Or.inl ⟨by kernel_rfl, fun w hSw => by (go_simp <;> first | omega | exact IntWalk.i64_in _ (by omega) | simpa using hd)⟩) hHeld ?_
          refine wpAnyH_take (i := 7) (v := .int .i64 (Y : Int)) rfl (by kernel_rfl) (by kernel_rfl) (by kernel_rfl) (fun _ _ _ h => h) (Or.inl ⟨by kernel_rfl, fun w hSw => by (go_simp <;> first | omega | exact IntWalk.i64_in _ (by omega) | simpa using hd)⟩) hHeld ?_
          refine wpAnyH_take (i := 8) (v := .int .i64 (i : Int)) rfl (by kernel_rfl) (by kernel_rfl) (by kernel_rfl) (fun _ _ _ h => h) (Or.inl ⟨by kernel_rfl, fun w hSw => by (go_simp <;> first | omega | exact IntWalk.i64_in _ (by omega) | simpa using hd)⟩) hHeld ?_
          refine wpAnyH_take (i := 9) (v := .int .i64 ((i : Int) + 1)) rfl (by kernel_rfl) (by kernel_rfl) (by kernel_rfl) (fun _ _ _ h => h) (Or.inl ⟨by kernel_rfl, fun w hSw => by (go_simp <;> first | omega | exact IntWalk.i64_in _ (by omega) | simpa using hd)⟩) hHeld ?_
          refine wpAnyH_take (i := 10) (v := .int .i64 (b : Int)) rfl (by kernel_rfl) (by kernel_rfl) (by kernel_rfl) (fun _ _ _ h => h) (Or.inl ⟨by kernel_rfl, fun w hSw => by (go_simp <;> first | omega | exact IntWalk.i64_in _ (by omega) | simpa using hd)⟩) hHeld ?_
          refine wpAnyH_take (i := 11) (v := .int .i64 (Z : Int)) rfl (by kernel_rfl) (by kernel_rfl) (by kernel_rfl) (fun _ _ _ h => h) (Or.inl ⟨by kernel_rfl, fun w hSw => by (go_simp <;> first | omega | exact IntWalk.i64_in _ (by omega) | simpa using hd)⟩) hHeld ?_
          refine wpAnyH_take (i := 12) (v := .int .i64 (N : Int)) rfl (by kernel_rfl) (by kernel_rfl) (by kernel_rfl) (fun _ _ _ h => h) (Or.inl ⟨by kernel_rfl, fun w hSw => by (go_simp <;> first | omega | exact IntWalk.i64_in _ (by omega) | simpa using hd)⟩) hHeld ?_
          refine wpAnyH_take (i := 13) (v := .int .i64 (T : Int)) rfl (by kernel_rfl) (by kernel_rfl) (by kernel_rfl) (fun _ _ _ h => h) (Or.inl ⟨by kernel_rfl, fun w hSw => by (go_simp <;> first | omega | exact IntWalk.i64_in _ (by omega) | simpa using hd)⟩) hHeld ?_
          refine wpAnyH_take (i := 14) (v := .bool d) rfl (by kernel_rfl) (by kernel_rfl) (by kernel_rfl) (fun _ _ _ h => h) (Or.inl ⟨by kernel_rfl, fun w hSw => by (go_simp <;> first | omega | exact IntWalk.i64_in _ (by omega) | simpa using hd)⟩) hHeld ?_
          refine wpAnyH_take (i := 15) (v := .bool d) rfl (by kernel_rfl) (by kernel_rfl) (by kernel_rfl) (fun _ _ _ h => h) (Or.inl ⟨by kernel_rfl, fun w hSw => by (go_simp <;> first | omega | exact IntWalk.i64_in _ (by omega) | simpa using hd)⟩) hHeld ?_
          refine wpAnyH_done (by kernel_rfl) ?_ _
          clear hHeld
          dsimp only [List.getElem_toArray, List.getElem_cons_zero, List.getElem_cons_succ]
          go_simp
          cases d
          · have HE : Hid (L ++ [117] = (swL a b).take (i + 1)) := HE0
            have O1 : Hid (wr.drew.ownsRow w.heap.size 5 1 u6 L.length (BV L)) := Lib.hid HW.out.own
            have B2 : Hid (Below w.heap.size w wr.drew) := Lib.hid HW.out.bel.drew
            have s2 : w.heap.size ≤ wr.drew.heap.size := B2.out.size
            generalize wr.drew = w2 at *
            go_wp2_with (at_builtin; refine wpList_append_one w2 _ _ rfl _ _ 22 rfl w.heap.size 5 i0 _ 1 Try.underlying22 hi0 hz0 hz1 hz2 rfl _ _ _ rfl O1.out rfl rfl ?c4 (by decide) (by omega) ?_)
            case c4 => omega
            intro v' w3 hown hg
            have H1 := Lib.hid hown; have HG := Lib.hid (own_below (B := w.heap.size) O1.out hg (Nat.le_refl _) (by omega)); clear hown hg
            go_wp2
            go_roundw
            case rel => exact ⟨i + 1, by omega, by first | rfl | go_num, by rw [← HE.out]; simpa [BV] using H1.out, B2.out.trans HG.out⟩
            case measure => simp [intOf]; omega
          · have HE : Hid (L ++ [114] = (swL a b).take (i + 1)) := HE0
            have O1 : Hid (wr.drew.ownsRow w.heap.size 5 1 u6 L.length (BV L)) := Lib.hid HW.out.own
            have B2 : Hid (Below w.heap.size w wr.drew) := Lib.hid HW.out.bel.drew
            have s2 : w.heap.size ≤ wr.drew.heap.size := B2.out.size
            generalize wr.drew = w2 at *
            go_wp2_with (at_builtin; refine wpList_append_one w2 _ _ rfl _ _ 22 rfl w.heap.size 5 i0 _ 1 Try.underlying22 hi0 hz0 hz1 hz2 rfl _ _ _ rfl O1.out rfl rfl ?c4 (by decide) (by omega) ?_)
            case c4 => omega
            intro v' w3 hown hg
            have H1 := Lib.hid hown; have HG := Lib.hid (own_below (B := w.heap.size) O1.out hg (Nat.le_refl _) (by omega)); clear hown hg
            go_wp2
            go_roundw
            case rel => exact ⟨i + 1, by omega, by first | rfl | go_num, by rw [← HE.out]; simpa [BV] using H1.out, B2.out.trans HG.out⟩
            case measure => simp [intOf]; omega
      · have HE : Hid ((swL a b).take i = swL a b) := Lib.hid (List.take_of_length_le (by rw [swL_len]; have := HN.out; omega))
        have hcv := conv_b HW.out.own
        rw [HE.out] at hcv
        go_wp2
        go_ret
        exact ⟨ret_str HF.out.symm, HW.out.bel⟩
end Go.Proofs.Ytkkklpchkkdhfaa.dr
