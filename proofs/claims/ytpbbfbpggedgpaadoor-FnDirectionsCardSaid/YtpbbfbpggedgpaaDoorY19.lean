import Derived.Test.YtpbbfbpggedgpaaDoorY18
import Derived.Laws.IdiomStrings
import Derived.Laws.BytesArg
import Derived.Test.YtpbbfbpggedgpaaDoorY08
import Derived.Laws.RangeString
import Derived.Test.YtpbbfbpggedgpaaDoorY07
import Derived.Test.YtpbbfbpggedgpaaDoorY05
/-
  SlopeWord of the specification and of the program.
-/
namespace Go.Proofs.YtpbbfbpggedgpaaDoor.dr
open Go.ChangeShapes Go.WideShapes Go.ChangeAt Go.RowKit
open Go.Proofs.YtpbbfbpggedgpaaDoor.mem Go.Proofs.YtpbbfbpggedgpaaDoor.ints Go.Proofs.YtpbbfbpggedgpaaDoor.arr Go.Proofs.YtpbbfbpggedgpaaDoor.pm Go.Proofs.YtpbbfbpggedgpaaDoor.permOk
set_option linter.unusedVariables false
set_option maxRecDepth 100000

theorem infoU8 : (Tryd.prog.info? 5).map (fun i => (i.zero, i.size, i.bytes)) = some (some (.int .u8 0), 1, 1) := by kernel_rfl
/-- Bytes as the program holds them. -/
def BV (L : List UInt8) : List Value := L.map fun c => Value.int .u8 (c.toNat : Int)
theorem conv_b {W : World} {b : Nat} {v : Value} {L : List UInt8} (hrow : W.ownsRow b 5 1 v L.length (BV L)) :
    (convert 22 9 v).run Tryd.prog W = .ok (.string (wd L)) W := by
  rcases hrow.2 with ⟨rfl, h0⟩ | ⟨g, cap, cur, rfl, _, _⟩
  · have hz : L = [] := List.eq_nil_of_length_eq_zero (by simpa using h0)
    subst hz
    exact run_convert_bytes_nil W 22 5 Tryd.underlying22 Tryd.underlying5 0 0 9 Tryd.underlying9
  · refine run_convert_bytes_back W _ _ 5 _ cap L Tryd.underlying22 Tryd.underlying5 Tryd.underlying9 fun j hj => ?_
    have := hrow.cellAt j (by omega)
    rw [show (⟨g, 0, none⟩ : Addr).add j = ⟨g, j, none⟩ by unfold Addr.add; split <;> simp_all]
    rw [this]
    unfold BV
    rw [List.getElem?_map, List.getElem?_eq_getElem hj]
    rfl
/-- The numbers of a round. -/
theorem sw_nums {a b i N : Nat} (hN : a + b = N) (hi : i < N) (h12 : N ≤ 12) : ∃ X Z Y T : Nat, X ≤ 144 ∧ Z ≤ 156 ∧ Y < N ∧ T < N ∧ (i : Int) * b = X ∧ ((i : Int) + 1) * b = Z ∧ (X : Int).tmod N = Y ∧ (Z : Int).tmod N = T ∧ swC a b i = (if b = 0 ∨ Y < T then 114 else 117) := by
  have hb : b ≤ 12 := by omega
  have h1 : i * b ≤ 12 * 12 := Nat.mul_le_mul (by omega) hb
  have h2 : (i + 1) * b ≤ 13 * 12 := Nat.mul_le_mul (by omega) hb
  refine ⟨i * b, (i + 1) * b, i * b % N, (i + 1) * b % N, h1, h2, Nat.mod_lt _ (by omega), Nat.mod_lt _ (by omega), by push_cast; rfl, by push_cast; rfl, by rw [← Int.ofNat_tmod], by rw [← Int.ofNat_tmod], ?_⟩
  unfold swC
  rw [hN]
theorem sw_start (a b : Nat) : (swL a b).take 0 = [] := rfl
theorem BV_snoc (L : List UInt8) (c : UInt8) : BV L ++ [.int .u8 (c.toNat : Int)] = BV (L ++ [c]) := by simp [BV]

/-- The program's word, amid. -/
structure Wq (w wr : World) (v : Value) (L : List UInt8) : Prop where
  own : wr.ownsRow w.heap.size 5 1 v L.length (BV L)
  bel : Below w.heap.size w wr

set_option maxHeartbeats 1000000 in
theorem sw_impl (p q : Int) (w : World) (p0 : -9223372036854775808 ≤ p) (p1 : p ≤ 9223372036854775807) (q0 : -9223372036854775808 ≤ q) (q1 : q ≤ 9223372036854775807) :
    Calls Tryd.prog 32 #[.int .i64 p, .int .i64 q] w fun e w' => e = .returned (.string (swF p q)) ∧ Below w.heap.size w w' := by
  obtain ⟨i0, hi0, hz0, hz1, hz2⟩ := info_parts infoU8
  go_enter Tryd.func32, Tryd.ntmps32
  go_wp2_with fail
  refine (so_impl p q _ p0 p1 q0 q1).mono ?_
  rintro e w1 ⟨rfl, b1⟩
  have B1 := Lib.hid b1; clear b1
  cases hq : slB p q
  · have HF := Lib.hid (swF_no hq); clear hq
    go_wp2_with fail
    go_ret
    exact ⟨ret_str HF.out.symm, B1.out⟩
  · obtain ⟨a, b, rfl, rfl, hab, hg, h1⟩ := slB_nat hq
    have HF := Lib.hid (swF_yes hq); clear hq p0 p1 q0 q1 hg
    obtain ⟨N, hN⟩ : ∃ N, a + b = N := ⟨_, rfl⟩
    have N12 : N ≤ 12 := by omega
    have N1 : 1 ≤ N := by omega
    have HN := Lib.hid hN
    have hs : (a : Int) + b = N := by omega
    clear hab h1 hN
    go_wp2
    go_loopw [6, 7, 16] (fun sv _ iv wr => ∃ (i : Nat), i ≤ N ∧ iv = .int .i64 i ∧ Wq w wr sv ((swL a b).take i)) (fun _ _ iv _ => N - (intOf iv).toNat)
    case atStart => exact ⟨0, Nat.zero_le _, rfl, World.ownsRow_nil _ _ _ _, B1.out⟩
    case round =>
      obtain ⟨i, hi, rfl, hwq⟩ := hrel
      have HW := Lib.hid hwq; clear hwq
      have hsz := HW.out.bel.size
      by_cases hlt : i < N
      · obtain ⟨X, Z, Y, T, x1, z1, y1, t1, e1, e2, e3, e4, hc⟩ := sw_nums HN.out hlt N12
        have SN := Lib.hid (swL_snoc (p := a) (q := b) (i := i) (by have := HN.out; omega))
        have HC := Lib.hid hc; clear hc
        have hwX := IntWalk.i64_in (X : Int) (by omega); have hwZ := IntWalk.i64_in (Z : Int) (by omega)
        have hwY := IntWalk.i64_in (Y : Int) (by omega); have hwT := IntWalk.i64_in (T : Int) (by omega)
        have hN0 : ¬ (N : Int) = 0 := by omega
        have hL : ((swL a b).take i).length ≤ 12 := by rw [List.length_take]; omega
        generalize (swL a b).take i = L at *
        by_cases hb0 : b = 0
        · have HB0 : Hid ((b : Int) = 0) := Lib.hid (by omega)
          have HE : Hid (L ++ [114] = (swL a b).take (i + 1)) := Lib.hid (by rw [SN.out, HC.out, if_pos (.inl hb0)])
          clear e1 e2 e3 e4 hb0
          go_wp2
          refine wp_region_held_drew (S := fun W => W = wr.drew) (by kernel_rfl) rfl (fun hHeld => ?_)
          refine wpAnyH_take (i := 0) (v := .int .i64 (b : Int)) rfl (by kernel_rfl) (by kernel_rfl) (by kernel_rfl) (fun _ _ _ h => h) (Or.inl ⟨by kernel_rfl, fun w hSw => by (go_simp <;> first | omega | exact IntWalk.i64_in _ (by omega) | simpa using hd)⟩) hHeld ?_
          refine wpAnyH_take (i := 1) (v := .bool true) rfl (by kernel_rfl) (by kernel_rfl) (by kernel_rfl) (fun _ _ _ h => h) (Or.inl ⟨by kernel_rfl, fun w hSw => by have hb1 := HB0.out; (go_simp <;> first | omega | exact IntWalk.i64_in _ (by omega) | simpa using hd)⟩) hHeld ?_
          refine wpAnyH_take (i := 2) (v := .bool true) rfl (by kernel_rfl) (by kernel_rfl) (by kernel_rfl) (fun _ _ _ h => h) (Or.inl ⟨by kernel_rfl, fun w hSw => by (go_simp <;> first | omega | exact IntWalk.i64_in _ (by omega) | simpa using hd)⟩) hHeld ?_
          refine wpAnyH_take (i := 3) (v := undef) rfl (by kernel_rfl) (by kernel_rfl) (by kernel_rfl) (fun _ _ _ h => h) (Or.inr ⟨by kernel_rfl, rfl⟩) hHeld ?_
          refine wpAnyH_take (i := 4) (v := undef) rfl (by kernel_rfl) (by kernel_rfl) (by kernel_rfl) (fun _ _ _ h => h) (Or.inr ⟨by kernel_rfl, rfl⟩) hHeld ?_
          refine wpAnyH_take (i := 5) (v := undef) rfl (by kernel_rfl) (by kernel_rfl) (by kernel_rfl) (fun _ _ _ h => h) (Or.inr ⟨by kernel_rfl, rfl⟩) hHeld ?_
          refine wpAnyH_take (i := 6) (v := undef) rfl (by kernel_rfl) (by kernel_rfl) (by kernel_rfl) (fun _ _ _ h => h) (Or.inr ⟨by kernel_rfl, rfl⟩) hHeld ?_
          refine wpAnyH_take (i := 7) (v := undef) rfl (by kernel_rfl) (by kernel_rfl) (by kernel_rfl) (fun _ _ _ h => h) (Or.inr ⟨by kernel_rfl, rfl⟩) hHeld ?_
          refine wpAnyH_take (i := 8) (v := undef) rfl (by kernel_rfl) (by kernel_rfl) (by kernel_rfl) (fun _ _ _ h => h) (Or.inr ⟨by kernel_rfl, rfl⟩) hHeld ?_
          refine wpAnyH_take (i := 9) (v := undef) rfl (by kernel_rfl) (by kernel_rfl) (by kernel_rfl) (fun _ _ _ h => h) (Or.inr ⟨by kernel_rfl, rfl⟩) hHeld ?_
          refine wpAnyH_take (i := 10) (v := undef) rfl (by kernel_rfl) (by kernel_rfl) (by kernel_rfl) (fun _ _ _ h => h) (Or.inr ⟨by kernel_rfl, rfl⟩) hHeld ?_
          refine wpAnyH_take (i := 11) (v := undef) rfl (by kernel_rfl) (by kernel_rfl) (by kernel_rfl) (fun _ _ _ h => h) (Or.inr ⟨by kernel_rfl, rfl⟩) hHeld ?_
          refine wpAnyH_take (i := 12) (v := undef) rfl (by kernel_rfl) (by kernel_rfl) (by kernel_rfl) (fun _ _ _ h => h) (Or.inr ⟨by kernel_rfl, rfl⟩) hHeld ?_
          refine wpAnyH_take (i := 13) (v := undef) rfl (by kernel_rfl) (by kernel_rfl) (by kernel_rfl) (fun _ _ _ h => h) (Or.inr ⟨by kernel_rfl, rfl⟩) hHeld ?_
          refine wpAnyH_take (i := 14) (v := undef) rfl (by kernel_rfl) (by kernel_rfl) (by kernel_rfl) (fun _ _ _ h => h) (Or.inr ⟨by kernel_rfl, rfl⟩) hHeld ?_
          refine wpAnyH_take (i := 15) (v := .bool true) rfl (by kernel_rfl) (by kernel_rfl) (by kernel_rfl) (fun _ _ _ h => h) (Or.inl ⟨by kernel_rfl, fun w hSw => by (go_simp <;> first | omega | exact IntWalk.i64_in _ (by omega) | simpa using hd)⟩) hHeld ?_
          refine wpAnyH_done (by kernel_rfl) ?_ _
          clear hHeld
          dsimp only [List.getElem_toArray, List.getElem_cons_zero, List.getElem_cons_succ]
          go_simp
          have O1 : Hid (wr.drew.ownsRow w.heap.size 5 1 u6 L.length (BV L)) := Lib.hid HW.out.own
          have B2 : Hid (Below w.heap.size w wr.drew) := Lib.hid HW.out.bel.drew
          have s2 : w.heap.size ≤ wr.drew.heap.size := B2.out.size
          generalize wr.drew = w2 at *
          go_wp2_with (at_builtin; refine wpList_append_one w2 _ _ rfl _ _ 22 rfl w.heap.size 5 i0 _ 1 Tryd.underlying22 hi0 hz0 hz1 hz2 rfl _ _ _ rfl O1.out rfl rfl ?c4 (by decide) (by omega) ?_)
          case c4 => omega
          intro v' w3 hown hg
          have H1 := Lib.hid hown; have HG := Lib.hid (own_below (B := w.heap.size) O1.out hg (Nat.le_refl _) (by omega)); clear hown hg
          go_wp2
          go_roundw
          case rel => exact ⟨i + 1, by omega, by first | rfl | go_num, by rw [← HE.out]; simpa [BV] using H1.out, B2.out.trans HG.out⟩
          case measure => simp [intOf]; omega
        · have hb1 : ¬ (b : Int) = 0 := by omega
          obtain ⟨d, hd⟩ : ∃ d, decide ((Y : Int) < T) = d := ⟨_, rfl⟩
          have HE0 : Hid (L ++ [if d then 114 else 117] = (swL a b).take (i + 1)) := Lib.hid (by
            rw [SN.out, HC.out]
            cases d
            · rw [if_neg (show ¬ (b = 0 ∨ Y < T) by simp at hd; omega)]; rfl
            · rw [if_pos (show b = 0 ∨ Y < T by simp at hd; omega)]; rfl)
          clear hb0
          go_wp2
          refine wp_region_held_drew (S := fun W => W = wr.drew) (by kernel_rfl) rfl (fun hHeld => ?_)
          refine wpAnyH_take (i := 0) (v := .int .i64 (b : Int)) rfl (by kernel_rfl) (by kernel_rfl) (by kernel_rfl) (fun _ _ _ h => h) (Or.inl ⟨by kernel_rfl, fun w hSw => by (go_simp <;> first | omega | exact IntWalk.i64_in _ (by omega) | simpa using hd)⟩) hHeld ?_
          refine wpAnyH_take (i := 1) (v := .bool false) rfl (by kernel_rfl) (by kernel_rfl) (by kernel_rfl) (fun _ _ _ h => h) (Or.inl ⟨by kernel_rfl, fun w hSw => by (go_simp <;> first | omega | exact IntWalk.i64_in _ (by omega) | simpa using hd)⟩) hHeld ?_
          refine wpAnyH_take (i := 2) (v := .bool false) rfl (by kernel_rfl) (by kernel_rfl) (by kernel_rfl) (fun _ _ _ h => h) (Or.inl ⟨by kernel_rfl, fun w hSw => by (go_simp <;> first | omega | exact IntWalk.i64_in _ (by omega) | simpa using hd)⟩) hHeld ?_
          refine wpAnyH_take (i := 3) (v := .int .i64 (i : Int)) rfl (by kernel_rfl) (by kernel_rfl) (by kernel_rfl) (fun _ _ _ h => h) (Or.inl ⟨by kernel_rfl, fun w hSw => by (go_simp <;> first | omega | exact IntWalk.i64_in _ (by omega) | simpa using hd)⟩) hHeld ?_
          refine wpAnyH_take (i := 4) (v := .int .i64 (b : Int)) rfl (by kernel_rfl) (by kernel_rfl) (by kernel_rfl) (fun _ _ _ h => h) (Or.inl ⟨by kernel_rfl, fun w hSw => by (go_simp <;> first | omega | exact IntWalk.i64_in _ (by omega) | simpa using hd)⟩) hHeld ?_
          refine wpAnyH_take (i := 5) (v := .int .i64 (X : Int)) rfl (by kernel_rfl) (by kernel_rfl) (by kernel_rfl) (fun _ _ _ h => h) (Or.inl ⟨by kernel_rfl, fun w hSw => by (go_simp <;> first | omega | exact IntWalk.i64_in _ (by omega) | simpa using hd)⟩) hHeld ?_
          refine wpAnyH_take (i := 6) (v := .int .i64 (N : Int)) rfl (by kernel_rfl) (by kernel_rfl) (by kernel_rfl) (fun _ _ _ h => h) (Or.inl ⟨by kernel_rfl, fun w hSw => by (go_simp <;> first | omega | exact IntWalk.i64_in _ (by omega) | simpa using hd)⟩) hHeld ?_
          refine wpAnyH_take (i := 7) (v := .int .i64 (Y : Int)) rfl (by kernel_rfl) (by kernel_rfl) (by kernel_rfl) (fun _ _ _ h => h) (Or.inl ⟨by kernel_rfl, fun w hSw => by (go_simp <;> first | omega | exact IntWalk.i64_in _ (by omega) | simpa using hd)⟩) hHeld ?_
          refine wpAnyH_take (i := 8) (v := .int .i64 (i : Int)) rfl (by kernel_rfl) (by kernel_rfl) (by kernel_rfl) (fun _ _ _ h => h) (Or.inl ⟨by kernel_rfl, fun w hSw => by (go_simp <;> first | omega | exact IntWalk.i64_in _ (by omega) | simpa using hd)⟩) hHeld ?_
          refine wpAnyH_take (i := 9) (v := .int .i64 ((i : Int) + 1)) rfl (by kernel_rfl) (by kernel_rfl) (by kernel_rfl) (fun _ _ _ h => h) (Or.inl ⟨by kernel_rfl, fun w hSw => by (go_simp <;> first | omega | exact IntWalk.i64_in _ (by omega) | simpa using hd)⟩) hHeld ?_
          refine wpAnyH_take (i := 10) (v := .int .i64 (b : Int)) rfl (by kernel_rfl) (by kernel_rfl) (by kernel_rfl) (fun _ _ _ h => h) (Or.inl ⟨by kernel_rfl, fun w hSw => by (go_simp <;> first | omega | exact IntWalk.i64_in _ (by omega) | simpa using hd)⟩) hHeld ?_
          refine wpAnyH_take (i := 11) (v := .int .i64 (Z : Int)) rfl (by kernel_rfl) (by kernel_rfl) (by kernel_rfl) (fun _ _ _ h => h) (Or.inl ⟨by kernel_rfl, fun w hSw => by (go_simp <;> first | omega | exact IntWalk.i64_in _ (by omega) | simpa using hd)⟩) hHeld ?_
          refine wpAnyH_take (i := 12) (v := .int .i64 (N : Int)) rfl (by kernel_rfl) (by kernel_rfl) (by kernel_rfl) (fun _ _ _ h => h) (Or.inl ⟨by kernel_rfl, fun w hSw => by (go_simp <;> first | omega | exact IntWalk.i64_in _ (by omega) | simpa using hd)⟩) hHeld ?_
          refine wpAnyH_take (i := 13) (v := .int .i64 (T : Int)) rfl (by kernel_rfl) (by kernel_rfl) (by kernel_rfl) (fun _ _ _ h => h) (Or.inl ⟨by kernel_rfl, fun w hSw => by (go_simp <;> first | omega | exact IntWalk.i64_in _ (by omega) | simpa using hd)⟩) hHeld ?_
          refine wpAnyH_take (i := 14) (v := .bool d) rfl (by kernel_rfl) (by kernel_rfl) (by kernel_rfl) (fun _ _ _ h => h) (Or.inl ⟨by kernel_rfl, fun w hSw => by (go_simp <;> first | omega | exact IntWalk.i64_in _ (by omega) | simpa using hd)⟩) hHeld ?_
          refine wpAnyH_take (i := 15) (v := .bool d) rfl (by kernel_rfl) (by kernel_rfl) (by kernel_rfl) (fun _ _ _ h => h) (Or.inl ⟨by kernel_rfl, fun w hSw => by (go_simp <;> first | omega | exact IntWalk.i64_in _ (by omega) | simpa using hd)⟩) hHeld ?_
          refine wpAnyH_done (by kernel_rfl) ?_ _
          clear hHeld
          dsimp only [List.getElem_toArray, List.getElem_cons_zero, List.getElem_cons_succ]
          go_simp
          cases d
          · have HE : Hid (L ++ [117] = (swL a b).take (i + 1)) := HE0
            have O1 : Hid (wr.drew.ownsRow w.heap.size 5 1 u6 L.length (BV L)) := Lib.hid HW.out.own
            have B2 : Hid (Below w.heap.size w wr.drew) := Lib.hid HW.out.bel.drew
            have s2 : w.heap.size ≤ wr.drew.heap.size := B2.out.size
            generalize wr.drew = w2 at *
            go_wp2_with (at_builtin; refine wpList_append_one w2 _ _ rfl _ _ 22 rfl w.heap.size 5 i0 _ 1 Tryd.underlying22 hi0 hz0 hz1 hz2 rfl _ _ _ rfl O1.out rfl rfl ?c4 (by decide) (by omega) ?_)
            case c4 => omega
            intro v' w3 hown hg
            have H1 := Lib.hid hown; have HG := Lib.hid (own_below (B := w.heap.size) O1.out hg (Nat.le_refl _) (by omega)); clear hown hg
            go_wp2
            go_roundw
            case rel => exact ⟨i + 1, by omega, by first | rfl | go_num, by rw [← HE.out]; simpa [BV] using H1.out, B2.out.trans HG.out⟩
            case measure => simp [intOf]; omega
          · have HE : Hid (L ++ [114] = (swL a b).take (i + 1)) := HE0
            have O1 : Hid (wr.drew.ownsRow w.heap.size 5 1 u6 L.length (BV L)) := Lib.hid HW.out.own
            have B2 : Hid (Below w.heap.size w wr.drew) := Lib.hid HW.out.bel.drew
            have s2 : w.heap.size ≤ wr.drew.heap.size := B2.out.size
            generalize wr.drew = w2 at *
            go_wp2_with (at_builtin; refine wpList_append_one w2 _ _ rfl _ _ 22 rfl w.heap.size 5 i0 _ 1 Tryd.underlying22 hi0 hz0 hz1 hz2 rfl _ _ _ rfl O1.out rfl rfl ?c4 (by decide) (by omega) ?_)
            case c4 => omega
            intro v' w3 hown hg
            have H1 := Lib.hid hown; have HG := Lib.hid (own_below (B := w.heap.size) O1.out hg (Nat.le_refl _) (by omega)); clear hown hg
            go_wp2
            go_roundw
            case rel => exact ⟨i + 1, by omega, by first | rfl | go_num, by rw [← HE.out]; simpa [BV] using H1.out, B2.out.trans HG.out⟩
            case measure => simp [intOf]; omega
      · have HE : Hid ((swL a b).take i = swL a b) := Lib.hid (List.take_of_length_le (by rw [swL_len]; have := HN.out; omega))
        have hcv := conv_b HW.out.own
        rw [HE.out] at hcv
        go_wp2
        go_ret
        exact ⟨ret_str HF.out.symm, HW.out.bel⟩
end Go.Proofs.YtpbbfbpggedgpaaDoor.dr

/-
  The program's way along a word of r and u: a permutation of all 24.
-/
namespace Go.Proofs.YtpbbfbpggedgpaaDoor.dr
open Go.ChangeShapes Go.WideShapes Go.ChangeAt Go.RowKit
open Go.Proofs.YtpbbfbpggedgpaaDoor.mem Go.Proofs.YtpbbfbpggedgpaaDoor.ints Go.Proofs.YtpbbfbpggedgpaaDoor.arr Go.Proofs.YtpbbfbpggedgpaaDoor.pm Go.Proofs.YtpbbfbpggedgpaaDoor.permOk Go.Proofs.YtpbbfbpggedgpaaDoor.permOf Go.Proofs.YtpbbfbpggedgpaaDoor.inv Go.Proofs.YtpbbfbpggedgpaaDoor.fns Go.Proofs.YtpbbfbpggedgpaaDoor.sf Go.Proofs.YtpbbfbpggedgpaaDoor.gl
set_option linter.unusedVariables false
set_option maxRecDepth 100000

/-- The world in which a string's iterator at a block stands at a place. -/
def nxt (w : World) (b : Nat) (s : ByteArray) (p : Nat) : World := { w with heap := w.heap.setIfInBounds b (.stringIter s p) }
theorem run_next_at {P : Program} (w : World) (b : Nat) (s : ByteArray) (pos : Nat) (ty : TypeId) (hb : w.heap[b]? = some (.stringIter s pos)) (h : pos < s.size) (ha : (s[pos]'h).toNat < 128) :
    (Instr.next (.pointer (some ⟨b, 0, none⟩)) true ty).run P w = .ok (.tuple #[.bool true, .int .i64 pos, .int .i32 (s[pos]'h).toNat]) (nxt w b s (pos + 1)) := by
  simp only [Instr.next, getObj, setObj, Sem.run_bind, Sem.run, hb, Result.andThen, h, if_true, decode_ascii s pos h ha]
  simp [goInt, nxt]
theorem run_next_fin {P : Program} (w : World) (b : Nat) (s : ByteArray) (pos : Nat) (ty : TypeId) (hb : w.heap[b]? = some (.stringIter s pos)) (h : ¬ pos < s.size) :
    (Instr.next (.pointer (some ⟨b, 0, none⟩)) true ty).run P w = .ok (.tuple #[.bool false]) w := by
  simp [Instr.next, getObj, Sem.run, hb, h]
theorem nxt_size (w : World) (b : Nat) (s : ByteArray) (p : Nat) : (nxt w b s p).heap.size = w.heap.size := by simp [nxt]
theorem nxt_block (w : World) (b : Nat) (s : ByteArray) (p : Nat) {k : Nat} (h : k ≠ b) : (nxt w b s p).heap[k]? = w.heap[k]? := by
  simp only [nxt]
  rw [Array.getElem?_setIfInBounds_ne (Ne.symm h)]
theorem nxt_at (w : World) (b : Nat) (s : ByteArray) (p : Nat) (h : b < w.heap.size) : (nxt w b s p).heap[b]? = some (.stringIter s p) := by
  simp [nxt, h]
theorem nxt_below (w : World) (b : Nat) (s : ByteArray) (p : Nat) {B : Nat} (h : B ≤ b) : Below B w (nxt w b s p) :=
  ⟨rfl, rfl, rfl, by rw [nxt_size]; exact Nat.le_refl _, fun k hk => nxt_block _ _ _ _ (by omega)⟩
theorem nxt_arr {w : World} {b : Nat} (s : ByteArray) (p : Nat) {g : Nat} {cs : List Value} {t : TypeId} (h : Arr w g cs t) (hne : g ≠ b) : Arr (nxt w b s p) g cs t := (nxt_block _ _ _ _ hne).trans h
theorem it_pos {w : World} {b : Nat} {s : ByteArray} {p : Nat} (h : w.heap[b]? = some (.stringIter s p)) : w.iterPos b = p := by simp [World.iterPos, h]
theorem ext_rng {n : Nat} (h : n ≤ 24) : ext (rng n) = idl := by
  refine list_eq 24 (ext_len _) (tab_len _) fun i hi => ?_
  unfold ext extTo idl
  rw [tab_get _ hi, tab_get _ hi]
  split
  · rename_i h; rw [rng_at (by rwa [rng_len] at h)]
  · rfl
/-- Amid the way. -/
structure Aq (R U : List Int) (n : Nat) (L : List UInt8) (w wr : World) (wb ib k : Nat) : Prop where
  g : Arr wr w.heap.size (V (gl (ext R) (ext U) n)) 69
  res : Arr wr (w.heap.size + 1) (V zeros) 67
  way : Arr wr wb (V (ext (ev n R U (L.take k)))) 67
  it : wr.heap[ib]? = some (.stringIter (wd L) k)
  bel : Below w.heap.size w wr
theorem ev_next {n : Nat} {R U : List Int} (s : Sf n R U) {L : List UInt8} {k : Nat} {c : UInt8} (h : L[k]? = some c) : thenL (ext (ev n R U (L.take k))) (ext (stP R U c)) = ext (ev n R U (L.take (k + 1))) := by
  have o := ev_ok s (L.take k); have t := stP_ok s c
  rw [thn_ext o.1 t.1 (by rw [o.2, t.2]), ← ev_snoc]
  congr 2
  rw [List.take_add_one, h]; rfl
theorem wd_at {L : List UInt8} {k : Nat} (h : k < L.length) (h' : k < (wd L).size) : (wd L)[k]'h' = L[k] := by
  rfl

set_option maxHeartbeats 8000000 in
theorem along_any (R U : List Int) (n : Nat) (L : List UInt8) (w : World) (hs : Sf n R U) (hl : L.length ≤ 12) (hc : ∀ c ∈ L, c = 114 ∨ c = 117) :
    Calls Tryd.prog 31 #[.agg (V (gl (ext R) (ext U) n)).toArray, .string (wd L)] w fun e w' => e = .returned (.agg (V (ext (ev n R U L))).toArray) ∧ Below w.heap.size w w' := by
  have HS := Lib.hid hs; have HC := Lib.hid hc; clear hs hc
  have hsz := wd_size L
  go_enter Tryd.func31, Tryd.ntmps31
  go_wp2_with fail
  generalize hw1 : (w.alloc (.cells (V (gl (ext R) (ext U) n)).toArray 69)).alloc (.cells #[.int .i64 0, .int .i64 0, .int .i64 0, .int .i64 0, .int .i64 0, .int .i64 0, .int .i64 0, .int .i64 0, .int .i64 0, .int .i64 0, .int .i64 0, .int .i64 0, .int .i64 0, .int .i64 0, .int .i64 0, .int .i64 0, .int .i64 0, .int .i64 0, .int .i64 0, .int .i64 0, .int .i64 0, .int .i64 0, .int .i64 0, .int .i64 0] 67) = w1
  have A2 : Hid (Arr w1 w.heap.size (V (gl (ext R) (ext U) n)) 69) := Lib.hid (by rw [← hw1]; exact (Arr.new w _ _ rfl).alloc _)
  have A4 : Hid (Arr w1 (w.heap.size + 1) (V zeros) 67) := Lib.hid (by rw [← hw1]; exact Arr.new _ (V zeros) _ (by simp))
  have B1 : Hid (Below w.heap.size w w1) := Lib.hid (by rw [← hw1]; exact ((Below.refl _ _).alloc (Nat.le_refl _) _).alloc (by simp) _)
  have s1 : w.heap.size + 2 ≤ w1.heap.size := by rw [← hw1]; simp
  clear hw1
  refine (staying_any _).mono ?_
  rintro e w2 ⟨rfl, b1⟩
  replace A2 := Lib.hid (A2.out.keep b1 A2.out.lt)
  replace A4 := Lib.hid (A4.out.keep b1 A4.out.lt)
  replace B1 := Lib.hid (B1.out.trans (b1.mono B1.out.size))
  have s2 := b1.size
  clear b1
  go_wp2_with (refine wpList_store_row rfl 67 _ _ rfl w2.heap.size (V idl).toArray rfl rfl 67 (V zeros).toArray (Arr.new w2 (V zeros) _ rfl) (size_V (tab_len _)) rfl (one_V _) ?_; generalize hw3 : (w2.alloc (.cells #[.int .i64 0, .int .i64 0, .int .i64 0, .int .i64 0, .int .i64 0, .int .i64 0, .int .i64 0, .int .i64 0, .int .i64 0, .int .i64 0, .int .i64 0, .int .i64 0, .int .i64 0, .int .i64 0, .int .i64 0, .int .i64 0, .int .i64 0, .int .i64 0, .int .i64 0, .int .i64 0, .int .i64 0, .int .i64 0, .int .i64 0, .int .i64 0] 67)).setRow w2.heap.size (V idl).toArray = w3; have C2 : Hid (Arr w3 w.heap.size (V (gl (ext R) (ext U) n)) 69) := Lib.hid (by rw [← hw3]; exact (A2.out.alloc _).rowOther (by omega)); have C4 : Hid (Arr w3 (w.heap.size + 1) (V zeros) 67) := Lib.hid (by rw [← hw3]; exact (A4.out.alloc _).rowOther (by omega)); have CW : Hid (Arr w3 w2.heap.size (V idl) 67) := Lib.hid (by rw [← hw3]; exact (Arr.new w2 (V zeros) _ rfl).row); have B3 : Hid (Below w.heap.size w w3) := Lib.hid (by rw [← hw3]; exact arr.below_setRow (B1.out.alloc B1.out.size _) B1.out.size _); have s3 : w2.heap.size + 1 ≤ w3.heap.size := (by rw [← hw3]; simp); clear hw3 A2 A4 B1)
  go_loopw [7] (fun _ wr => ∃ k : Nat, k ≤ L.length ∧ w3.heap.size < wr.heap.size ∧ Aq R U n L w wr w2.heap.size w3.heap.size k) (fun _ wr => L.length - wr.iterPos w3.heap.size)
  case atStart =>
    refine ⟨0, Nat.zero_le _, by simp [World.iter], C2.out.alloc _, C4.out.alloc _, ?_, World.iter_heap _ _ _, B3.out.alloc B3.out.size _⟩
    have e0 : ext (ev n R U (L.take 0)) = idl := ext_rng HS.out.small
    rw [e0]
    exact CW.out.alloc _
  case round =>
    obtain ⟨k, hk, hib, hq⟩ := hrel
    have HQ := Lib.hid hq; clear hq
    by_cases hlt : k < L.length
    · obtain ⟨c, hLc⟩ : ∃ c, L[k]? = some c := ⟨L[k], List.getElem?_eq_getElem hlt⟩
      have EN := Lib.hid (ev_next HS.out hLc)
      have hks : k < (wd L).size := by omega
      have hch : (wd L)[k]'hks = c := by rw [wd_at hlt]; rw [List.getElem?_eq_getElem hlt] at hLc; exact Option.some.inj hLc
      have hcc := HC.out c (List.mem_of_getElem? hLc)
      have OE := Lib.hid (ev_ok HS.out (L.take k))
      have OT := Lib.hid (stP_ok HS.out c)
      have hnx : ∀ ty, (Instr.next (.pointer (some ⟨w3.heap.size, 0, none⟩)) true ty).run Tryd.prog wr = .ok (.tuple #[.bool true, .int .i64 k, .int .i32 c.toNat]) (nxt wr w3.heap.size (wd L) (k + 1)) := fun ty => by
        have := run_next_at (P := Tryd.prog) wr w3.heap.size (wd L) k ty HQ.out.it hks (by rw [hch]; rcases hcc with h | h <;> subst h <;> decide)
        rwa [hch] at this
      generalize hw4 : nxt wr w3.heap.size (wd L) (k + 1) = w4 at *
      have D2 : Hid (Arr w4 w.heap.size (V (gl (ext R) (ext U) n)) 69) := Lib.hid (by rw [← hw4]; exact nxt_arr _ _ HQ.out.g (by omega))
      have D4 : Hid (Arr w4 (w.heap.size + 1) (V zeros) 67) := Lib.hid (by rw [← hw4]; exact nxt_arr _ _ HQ.out.res (by omega))
      have DW : Hid (Arr w4 w2.heap.size (V (ext (ev n R U (L.take k)))) 67) := Lib.hid (by rw [← hw4]; exact nxt_arr _ _ HQ.out.way (by omega))
      have DI : Hid (w4.heap[w3.heap.size]? = some (.stringIter (wd L) (k + 1))) := Lib.hid (by rw [← hw4]; exact nxt_at _ _ _ _ hib)
      have DB : Hid (Below w.heap.size w w4) := Lib.hid (by rw [← hw4]; exact HQ.out.bel.trans (nxt_below _ _ _ _ (by omega)))
      have s4 : w3.heap.size < w4.heap.size := by rw [← hw4, nxt_size]; exact hib
      have HP := Lib.hid (it_pos HQ.out.it)
      clear hw4 HQ hch
      generalize ev n R U (L.take k) = E at *
      rcases hcc with hcc | hcc
      · subst hcc
        rw [show stP R U 114 = R from rfl] at OT EN
        go_wp2_with (first | (refine wpList_load_row rfl 67 (.tmp 5) rfl w2.heap.size rfl 67 (V (ext E)).toArray (0, 0) _ DW.out Tryd.underlying67 rfl (size_V (ext_len _)) ?_) | (refine wpList_load_mid rfl 67 _ rfl w.heap.size 0 rfl (V (ext R)) _ (rg_right (ext_len _) (fun j v hv => by rw [Nat.zero_add]; exact D2.out.cell hv)) Tryd.underlying67 rfl (hi24 (ext_len _)) ?_))
        refine (inv.then_any (ext E) (ext R) _ OE.out.1.sq OT.out.1.sq).mono ?_
        rintro e w5 ⟨rfl, b5⟩
        rw [EN.out]
        replace D2 := Lib.hid (D2.out.keep b5 D2.out.lt)
        replace D4 := Lib.hid (D4.out.keep b5 D4.out.lt)
        replace DW := Lib.hid (DW.out.keep b5 DW.out.lt)
        replace DI : Hid (w5.heap[w3.heap.size]? = some (.stringIter (wd L) (k + 1))) := Lib.hid ((b5.block _ s4).trans DI.out)
        replace DB := Lib.hid (DB.out.trans (b5.mono DB.out.size))
        have s5 := b5.size
        clear b5
        have l2 : Hid ((ext (ev n R U (L.take (k + 1)))).length = 24) := Lib.hid (ext_len _)
        obtain ⟨E2, hE2⟩ : ∃ E2, ext (ev n R U (L.take (k + 1))) = E2 := ⟨_, rfl⟩
        rw [hE2] at l2 ⊢
        have HE2 := Lib.hid hE2; clear hE2
        go_wp2_with (refine wpList_store_row rfl 67 _ _ rfl w2.heap.size (V E2).toArray rfl rfl 67 (V (ext E)).toArray DW.out (size_V l2.out) (by simp [V_len, ext_len, l2.out]) (one_V _) ?_)
        simp only [Act.put]
        go_roundw
        case rel => exact ⟨k + 1, by omega, by simp; omega, D2.out.rowOther (by omega), D4.out.rowOther (by omega), by rw [HE2.out]; exact DW.out.row, (setRow_other _ _ _ _ (by omega)).trans DI.out, below_setRow DB.out (by omega) _⟩
        case measure => rw [it_pos ((setRow_other _ _ _ _ (by omega)).trans DI.out), HP.out]; omega
      · subst hcc
        rw [show stP R U 117 = U from rfl] at OT EN
        go_wp2_with (first | (refine wpList_load_row rfl 67 (.tmp 5) rfl w2.heap.size rfl 67 (V (ext E)).toArray (0, 0) _ DW.out Tryd.underlying67 rfl (size_V (ext_len _)) ?_) | (refine wpList_load_mid rfl 67 _ rfl w.heap.size 24 rfl (V (ext U)) _ (rg_up (ext_len _) (ext_len _) (fun j v hv => by rw [Nat.zero_add]; exact D2.out.cell hv)) Tryd.underlying67 rfl (hi24 (ext_len _)) ?_))
        refine (inv.then_any (ext E) (ext U) _ OE.out.1.sq OT.out.1.sq).mono ?_
        rintro e w5 ⟨rfl, b5⟩
        rw [EN.out]
        replace D2 := Lib.hid (D2.out.keep b5 D2.out.lt)
        replace D4 := Lib.hid (D4.out.keep b5 D4.out.lt)
        replace DW := Lib.hid (DW.out.keep b5 DW.out.lt)
        replace DI : Hid (w5.heap[w3.heap.size]? = some (.stringIter (wd L) (k + 1))) := Lib.hid ((b5.block _ s4).trans DI.out)
        replace DB := Lib.hid (DB.out.trans (b5.mono DB.out.size))
        have s5 := b5.size
        clear b5
        have l2 : Hid ((ext (ev n R U (L.take (k + 1)))).length = 24) := Lib.hid (ext_len _)
        obtain ⟨E2, hE2⟩ : ∃ E2, ext (ev n R U (L.take (k + 1))) = E2 := ⟨_, rfl⟩
        rw [hE2] at l2 ⊢
        have HE2 := Lib.hid hE2; clear hE2
        go_wp2_with (refine wpList_store_row rfl 67 _ _ rfl w2.heap.size (V E2).toArray rfl rfl 67 (V (ext E)).toArray DW.out (size_V l2.out) (by simp [V_len, ext_len, l2.out]) (one_V _) ?_)
        simp only [Act.put]
        go_roundw
        case rel => exact ⟨k + 1, by omega, by simp; omega, D2.out.rowOther (by omega), D4.out.rowOther (by omega), by rw [HE2.out]; exact DW.out.row, (setRow_other _ _ _ _ (by omega)).trans DI.out, below_setRow DB.out (by omega) _⟩
        case measure => rw [it_pos ((setRow_other _ _ _ _ (by omega)).trans DI.out), HP.out]; omega
    · have hnx : ∀ ty, (Instr.next (.pointer (some ⟨w3.heap.size, 0, none⟩)) true ty).run Tryd.prog wr = .ok (.tuple #[.bool false]) wr := fun ty => run_next_fin wr w3.heap.size (wd L) k ty HQ.out.it (by omega)
      have hkl : L.take k = L := List.take_of_length_le (by omega)
      have FW : Hid (Arr wr w2.heap.size (V (ext (ev n R U L))) 67) := Lib.hid (by have := HQ.out.way; rwa [hkl] at this)
      have F4 := Lib.hid HQ.out.res
      have FB := Lib.hid HQ.out.bel
      clear HQ
      obtain ⟨E, hE⟩ : ∃ E, ev n R U L = E := ⟨_, rfl⟩
      rw [hE] at FW
      have HE := Lib.hid hE; clear hE
      go_wp2_with (first | (refine wpList_load_row rfl 67 (.tmp 5) rfl w2.heap.size rfl 67 (V (ext E)).toArray (0, 0) _ FW.out Tryd.underlying67 rfl (size_V (ext_len _)) ?_) | (refine wpList_store_row rfl 67 _ _ rfl (w.heap.size + 1) (V (ext E)).toArray rfl rfl 67 (V zeros).toArray F4.out (size_V (ext_len _)) (by simp [V_len, ext_len, zeros]) (one_V _) ?_))
      exact bodyPost_ret (v := .agg (V (ext E)).toArray) (results_cell_row rfl _ _ (w.heap.size + 1) 67 (V (ext E)).toArray (0, 0) _ rfl F4.out.row Tryd.underlying67 rfl (size_V (ext_len _))) rfl ⟨by rw [HE.out], below_setRow FB.out (by omega) _⟩
end Go.Proofs.YtpbbfbpggedgpaaDoor.dr

/-
  PathPerm of the specification and of the program.
-/
namespace Go.Proofs.YtpbbfbpggedgpaaDoor.dr
open Go.ChangeShapes Go.WideShapes Go.ChangeAt Go.RowKit
open Go.Proofs.YtpbbfbpggedgpaaDoor.mem Go.Proofs.YtpbbfbpggedgpaaDoor.ints Go.Proofs.YtpbbfbpggedgpaaDoor.arr Go.Proofs.YtpbbfbpggedgpaaDoor.pm Go.Proofs.YtpbbfbpggedgpaaDoor.permOk Go.Proofs.YtpbbfbpggedgpaaDoor.permOf Go.Proofs.YtpbbfbpggedgpaaDoor.inv Go.Proofs.YtpbbfbpggedgpaaDoor.fns Go.Proofs.YtpbbfbpggedgpaaDoor.sf Go.Proofs.YtpbbfbpggedgpaaDoor.gl
set_option linter.unusedVariables false
set_option maxRecDepth 100000

/-- What PathPerm gives. -/
def ppB (r u : List Int) (p q : Int) : Bool := transB r u && slB p q
def ppF (r u : List Int) (p q : Int) : List Int := if ppB r u p q then ev r.length r u (swL p.toNat q.toNat) else []
theorem ppB_1 {r u : List Int} {p q : Int} (h : transB r u = false) : ppB r u p q = false := by simp [ppB, h]
theorem ppB_2 {r u : List Int} {p q : Int} (h : slB p q = false) : ppB r u p q = false := by simp [ppB, h]
theorem ppF_no {r u : List Int} {p q : Int} (h : ppB r u p q = false) : ppF r u p q = [] := by simp [ppF, h]
theorem ppB_yes {r u : List Int} {p q : Int} (h : transB r u = true) (h2 : slB p q = true) : ppB r u p q = true := by simp [ppB, h, h2]
theorem ppF_yes {r u : List Int} {a b : Nat} (h : transB r u = true) (h2 : slB a b = true) : ppF r u a b = ev r.length r u (swL a b) := by simp [ppF, ppB_yes h h2]
theorem ppF_24 (r u : List Int) (p q : Int) : (ppF r u p q).length ≤ 24 := by
  unfold ppF
  split
  · rename_i h
    have s := transB_iff.1 (by unfold ppB at h; rw [Bool.and_eq_true] at h; exact h.1)
    rw [(ev_ok s _).2]; exact s.small
  · simp
theorem ppF_len (r u : List Int) (p q : Int) : (ppF r u p q).length ≤ 1048576 := by have := ppF_24 r u p q; omega
def PPost (r u : List Int) (p q : Int) (w : World) (e : Ending) (w' : World) : Prop :=
  ∃ A c, e = .returned (.tuple #[.slice A (ppF r u p q).length c, .bool (ppB r u p q)]) ∧ Row w' w.heap.size w'.heap.size A (ppF r u p q).length (V (ppF r u p q)) ∧ (ppF r u p q).length ≤ c ∧ Below w.heap.size w w'
theorem pp_no {r u : List Int} {p q : Int} {w w' : World} (h : ppB r u p q = false) (hb : Below w.heap.size w w') : PPost r u p q w (.returned (.tuple #[.slice none 0 0, .bool false])) w' := by
  have e := ppF_no h
  refine ⟨none, 0, by rw [e, h]; rfl, ?_, by rw [e]; simp, hb⟩
  rw [e]
  exact ⟨rfl, Nat.le_refl _, fun q => absurd q (by simp)⟩
theorem pp_yes {r u : List Int} {p q : Int} {w w' : World} {A : Option Addr} {l c : Nat} {E : List Int} (hF : ppF r u p q = E) (hB : ppB r u p q = true) (ho : w'.ownsRow w.heap.size 3 1 (.slice A l c) E.length (V E)) (hc : l ≤ c) (hb : Below w.heap.size w w') :
    PPost r u p q w (.returned (.tuple #[.slice A l c, .bool true])) w' := by
  subst hF
  have hl : l = (ppF r u p q).length := by
    rcases ho.2 with ⟨h0, h1⟩ | ⟨g, cap, cur, h1, h2, h3⟩
    · injection h0 with _ h0 _; omega
    · injection h1 with _ h1 _
  subst hl
  refine ⟨A, c, by rw [hB], Row.of_own ho, hc, hb⟩
theorem ix_at {P : Program} {L : List UInt8} {k : Nat} {c : UInt8} (h : L[k]? = some c) (t : TypeId) (ht : P.underlying t = some .string) (w : World) : (Instr.index t (.string (wd L)) (.int .i64 (k : Int))).run P w = .ok (.int .u8 (c.toNat : Int)) w := by
  have hk : k < L.length := (List.getElem?_eq_some_iff.1 h).1
  have hks : k < (wd L).size := by rw [wd_size]; exact hk
  rw [run_index_string _ _ _ _ _ ht, dif_pos (by omega)]
  have : (wd L)[((k : Int)).toNat]'(by omega) = c := by
    have e : (wd L)[k]'hks = c := by rw [wd_at hk]; rw [List.getElem?_eq_getElem hk] at h; exact Option.some.inj h
    simpa using e
  rw [this]
theorem ev_step {n : Nat} {R U : List Int} {L : List UInt8} {k : Nat} {c : UInt8} (h : L[k]? = some c) : ev n R U (L.take (k + 1)) = thn (ev n R U (L.take k)) (stP R U c) := by
  rw [List.take_add_one, h]
  exact ev_snoc n R U (L.take k) c
theorem own_low {w : World} {base base' : Nat} {e : TypeId} {size n : Nat} {v : Value} {xs : List Value} (h : w.ownsRow base e size v n xs) (hb : base' ≤ base) : w.ownsRow base' e size v n xs := by
  refine ⟨h.1, ?_⟩
  rcases h.2 with h0 | ⟨g, cap, cur, h1, h2, h3⟩
  · exact .inl h0
  · exact .inr ⟨g, cap, cur, h1, Nat.le_trans hb h2, h3⟩
/-- Amid the specification's way. -/
structure Pq (r u : List Int) (n : Nat) (L : List UInt8) (w wr : World) (P Q : Option Addr) (c d : Nat) (v : Value) (k : Nat) : Prop where
  own : wr.ownsRow w.heap.size 3 1 v (ev n r u (L.take k)).length (V (ev n r u (L.take k)))
  bel : Below w.heap.size w wr
  box : Arr wr w.heap.size [.slice P n c, .slice Q n d] 25

set_option maxHeartbeats 4000000 in
theorem pp_impl (v : Value) (r u : List Int) (p q : Int) (hi : Nat) (w : World) (hx : Srd w hi v r u) (hn : r.length ≤ 1048576) (hm : u.length ≤ 1048576) (p0 : -9223372036854775808 ≤ p) (p1 : p ≤ 9223372036854775807) (q0 : -9223372036854775808 ≤ q) (q1' : q ≤ 9223372036854775807) :
    Calls Tryd.prog 10 #[v, .int .i64 p, .int .i64 q] w (PPost r u p q w) := by
  have HX := Lib.hid hx; clear hx
  obtain ⟨P, n, c, Q, m, d, rfl, q1, q2, e1, e2, ht, HR⟩ := HX.out.open
  have L1 := Lib.hid q1
  clear HR q1 q2
  go_enter Tryd.func10, Tryd.ntmps10
  go_wp2_with fail
  refine (gluingOf_any _ r u hi _ (HX.out.keep ((Below.refl hi w).alloc ht _) (Nat.le_refl _)) hn hm).mono ?_
  rintro e w1 ⟨rfl, b1⟩
  have B1 := Lib.hid (below1 _ _ b1)
  have hs1 : w.heap.size + 1 ≤ w1.heap.size := by have := b1.size; simpa using this
  clear b1
  cases hq : transB r u
  · have HF := Lib.hid (ppB_1 (p := p) (q := q) hq); clear hq
    go_wp2_with (refine wpList_store_row rfl 69 _ _ rfl w1.heap.size (V (glv r u)).toArray rfl rfl 69 (V zero49).toArray (Arr.new w1 (V zero49) _ rfl) (size49 (glv_len _ _)) (by simp [V_len, glv_len, zero49]) (one_V _) ?_; generalize hw_ : (w1.alloc (.cells #[.int .i64 0, .int .i64 0, .int .i64 0, .int .i64 0, .int .i64 0, .int .i64 0, .int .i64 0, .int .i64 0, .int .i64 0, .int .i64 0, .int .i64 0, .int .i64 0, .int .i64 0, .int .i64 0, .int .i64 0, .int .i64 0, .int .i64 0, .int .i64 0, .int .i64 0, .int .i64 0, .int .i64 0, .int .i64 0, .int .i64 0, .int .i64 0, .int .i64 0, .int .i64 0, .int .i64 0, .int .i64 0, .int .i64 0, .int .i64 0, .int .i64 0, .int .i64 0, .int .i64 0, .int .i64 0, .int .i64 0, .int .i64 0, .int .i64 0, .int .i64 0, .int .i64 0, .int .i64 0, .int .i64 0, .int .i64 0, .int .i64 0, .int .i64 0, .int .i64 0, .int .i64 0, .int .i64 0, .int .i64 0, .int .i64 0] 69)).setRow w1.heap.size (V (glv r u)).toArray = w2; have A2 : Hid (Arr w2 w1.heap.size (V (glv r u)) 69) := Lib.hid (by rw [← hw_]; exact (Arr.new w1 (V zero49) _ rfl).row); have b1 : Below w1.heap.size w1 w2 := (by rw [← hw_]; exact arr.below_setRow ((Below.refl _ _).alloc (Nat.le_refl _) _) (Nat.le_refl _) _); have t_ : w1.heap.size + 1 ≤ w2.heap.size := (by rw [← hw_]; simp); clear hw_; replace B1 := Lib.hid (B1.out.trans (b1.mono B1.out.size)); clear b1)
    go_ret2
    exact pp_no HF.out B1.out
  · have HT := Lib.hid hq
    have HS : Hid (Sf n r u) := Lib.hid (by have := transB_iff.1 HT.out; rwa [L1.out] at this)
    have HG : Hid (glv r u = gl (ext r) (ext u) n) := Lib.hid (by rw [glv_yes hq, L1.out])
    have hn24 : n ≤ 24 := HS.out.small
    clear hq
    rw [HG.out]
    go_wp2_with (refine wpList_store_row rfl 69 _ _ rfl w1.heap.size (V (gl (ext r) (ext u) n)).toArray rfl rfl 69 (V zero49).toArray (Arr.new w1 (V zero49) _ rfl) (size49 (gl_len (ext_len _) (ext_len _) n)) (by simp [V_len, gl_len, ext_len, zero49]) (one_V _) ?_; generalize hw_ : (w1.alloc (.cells #[.int .i64 0, .int .i64 0, .int .i64 0, .int .i64 0, .int .i64 0, .int .i64 0, .int .i64 0, .int .i64 0, .int .i64 0, .int .i64 0, .int .i64 0, .int .i64 0, .int .i64 0, .int .i64 0, .int .i64 0, .int .i64 0, .int .i64 0, .int .i64 0, .int .i64 0, .int .i64 0, .int .i64 0, .int .i64 0, .int .i64 0, .int .i64 0, .int .i64 0, .int .i64 0, .int .i64 0, .int .i64 0, .int .i64 0, .int .i64 0, .int .i64 0, .int .i64 0, .int .i64 0, .int .i64 0, .int .i64 0, .int .i64 0, .int .i64 0, .int .i64 0, .int .i64 0, .int .i64 0, .int .i64 0, .int .i64 0, .int .i64 0, .int .i64 0, .int .i64 0, .int .i64 0, .int .i64 0, .int .i64 0, .int .i64 0] 69)).setRow w1.heap.size (V (gl (ext r) (ext u) n)).toArray = w2; have A2 : Hid (Arr w2 w1.heap.size (V (gl (ext r) (ext u) n)) 69) := Lib.hid (by rw [← hw_]; exact (Arr.new w1 (V zero49) _ rfl).row); have b1 : Below w1.heap.size w1 w2 := (by rw [← hw_]; exact arr.below_setRow ((Below.refl _ _).alloc (Nat.le_refl _) _) (Nat.le_refl _) _); have t_ : w1.heap.size + 1 ≤ w2.heap.size := (by rw [← hw_]; simp); clear hw_; replace B1 := Lib.hid (B1.out.trans (b1.mono B1.out.size)); clear b1)
    refine (so_impl p q _ p0 p1 q0 q1').mono ?_
    rintro e w3 ⟨rfl, b1⟩
    replace A2 := Lib.hid (A2.out.keep b1 A2.out.lt)
    replace B1 := Lib.hid (B1.out.trans (b1.mono B1.out.size))
    have hs3 := b1.size
    clear b1
    cases hq : slB p q
    · have HF := Lib.hid (ppB_2 (r := r) (u := u) hq); clear hq
      go_wp2_with fail
      go_ret2
      exact pp_no HF.out B1.out
    · obtain ⟨a, b, rfl, rfl, hab, hg, h1⟩ := slB_nat hq
      have HF : Hid (ppF r u a b = ev n r u (swL a b)) := Lib.hid (by rw [ppF_yes HT.out hq, L1.out])
      have HB := Lib.hid (ppB_yes HT.out hq)
      have HW := Lib.hid (swF_yes hq)
      clear hq hg
      go_wp2_with fail
      refine wp_region_held_drew (S := Hld w3.heap.size w3.heap.size w3 [(w1.heap.size, V (gl (ext r) (ext u) n))]) (by kernel_rfl) (Hld.start1 A2.out) (fun hHeld => ?_)
      have b1 : Below w3.heap.size w3 w3.drew := ⟨rfl, rfl, rfl, Nat.le_refl _, fun _ _ => rfl⟩
      generalize w3.drew = w4 at *
      replace B1 := Lib.hid (B1.out.trans (b1.mono B1.out.size))
      have hs4 := b1.size
      clear b1
      refine wpAnyH_take (i := 0) (v := .agg (V (gl (ext r) (ext u) n)).toArray) rfl (by kernel_rfl) (by kernel_rfl) (by kernel_rfl) (fun _ _ _ h => h) (yieldsIf_load_mid (by rfl) _ _ rfl (w1.heap.size) 0 rfl (V (gl (ext r) (ext u) n)) _ (fun w h => h.fst) Tryd.underlying69 rfl (hi49 (gl_len (ext_len _) (ext_len _) _))) hHeld ?_
      refine wpAnyH_take (i := 1) (v := .int .i64 (a : Int)) rfl (by kernel_rfl) (by kernel_rfl) (by kernel_rfl) (fun _ _ _ h => h) (Or.inl ⟨by rfl, fun w hSw => by go_simp⟩) hHeld ?_
      refine wpAnyH_take (i := 2) (v := .int .i64 (b : Int)) rfl (by kernel_rfl) (by kernel_rfl) (by kernel_rfl) (fun _ _ _ h => h) (Or.inl ⟨by rfl, fun w hSw => by go_simp⟩) hHeld ?_
      refine wpAnyH_take (i := 5) (v := .pointer (some ⟨w1.heap.size, 48, none⟩)) rfl (by kernel_rfl) (by kernel_rfl) (by kernel_rfl) (fun _ _ _ h => h) (Or.inl ⟨by rfl, fun w hSw => by go_simp⟩) hHeld ?_
      refine wpAnyH_take (i := 6) (v := .int .i64 n) rfl (by kernel_rfl) (by kernel_rfl) (by kernel_rfl) (fun _ _ _ h => h) (Or.inl ⟨by rfl, fun w hSw => by have := rg_count (ext_len r) (ext_len u) hSw.fst; go_simp⟩) hHeld ?_
      refine wpAnyH_ready (rs := [3]) (by kernel_rfl) (by simp) (AllReadyH.cons rfl (fun K hK => ?_) AllReadyH.nil)
      go_simp
      refine (sw_impl a b _ (by omega) (by omega) (by omega) (by omega)).mono ?_
      rintro e w5 ⟨rfl, b1⟩
      rw [HW.out]
      replace B1 := Lib.hid (B1.out.trans (b1.mono B1.out.size))
      have hs5 := b1.size
      go_wp2_with fail
      have hHeld2 := hHeld.later b1 (by omega); clear b1 hHeld
      refine hK.out _ _ hHeld2 (fun hHeld => ?_)
      clear hK K hHeld2
      refine wpAnyH_ready (rs := [4]) (by kernel_rfl) (by simp) (AllReadyH.cons rfl (fun K hK => ?_) AllReadyH.nil)
      go_simp
      refine (along_any r u n (swL a b) _ HS.out (by rw [swL_len]; exact hab) (fun _ h => swL_or h)).mono ?_
      rintro e w6 ⟨rfl, b1⟩
      replace B1 := Lib.hid (B1.out.trans (b1.mono B1.out.size))
      have hs6 := b1.size
      go_wp2_with fail
      have hHeld2 := hHeld.later b1 (by omega); clear b1 hHeld
      refine hK.out _ _ hHeld2 (fun hHeld => ?_)
      clear hK K hHeld2
      refine wpAnyH_ready (rs := [7]) (by kernel_rfl) (by simp) (AllReadyH.cons rfl (fun K hK => ?_) AllReadyH.nil)
      go_simp
      refine (list_gives (ext (ev n r u (swL a b))) n _ (ext_len _) hn24).mono ?_
      rintro e w7 ⟨v7, rfl, o7, b1⟩
      have hE : (ext (ev n r u (swL a b))).take n = ev n r u (swL a b) := by have hl := (ev_ok HS.out (swL a b)).2; have := ext_take (ev n r u (swL a b)) (by rw [hl]; exact hn24); rwa [hl] at this
      rw [hE] at o7
      obtain ⟨P7, c7, rfl⟩ := own_form o7
      have hc7 := (own_cap o7).2
      have O7 : Hid (w7.ownsRow w.heap.size 3 1 (.slice P7 (ev n r u (swL a b)).length c7) (ev n r u (swL a b)).length (V (ev n r u (swL a b)))) := Lib.hid (own_low o7 (by omega)); clear o7 hE
      replace B1 := Lib.hid (B1.out.trans (b1.mono B1.out.size))
      have hs7 := b1.size
      go_wp2_with fail
      have hHeld2 := hHeld.later b1 (by omega); clear b1 hHeld
      refine hK.out _ _ hHeld2 (fun hHeld => ?_)
      clear hK K hHeld2
      refine wpAnyH_take (i := 8) (v := .slice P7 (ev n r u (swL a b)).length c7) rfl (by kernel_rfl) (by kernel_rfl) (by kernel_rfl) (fun _ _ _ h => h) (Or.inl ⟨by rfl, fun w hSw => by go_simp⟩) hHeld ?_
      refine wpAnyH_take (i := 9) (v := .bool true) rfl (by kernel_rfl) (by kernel_rfl) (by kernel_rfl) (fun _ _ _ h => h) (Or.inl ⟨by rfl, fun w hSw => by go_simp⟩) hHeld ?_
      refine wpAnyH_done (by kernel_rfl) ?_ _
      go_wp2_with fail
      go_ret2
      exact pp_yes HF.out HB.out O7.out hc7 B1.out
end Go.Proofs.YtpbbfbpggedgpaaDoor.dr
