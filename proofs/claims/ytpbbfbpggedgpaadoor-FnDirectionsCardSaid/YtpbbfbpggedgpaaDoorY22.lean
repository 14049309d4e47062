import Derived.Test.YtpbbfbpggedgpaaDoorY05
import Derived.StillTailTactics
import Derived.RegionTactic
import Derived.BigRegion
import Derived.Deep.MidRow
import Derived.Test.YtpbbfbpggedgpaaDoorY03
import Derived.Test.YtpbbfbpggedgpaaDoorY18
import Derived.Test.YtpbbfbpggedgpaaDoorY11
/-
  MatrixOf of the model and of the program.
-/
namespace Go.Proofs.YtpbbfbpggedgpaaDoor.mt
open Go.ChangeShapes Go.WideShapes Go.ChangeAt Go.RowKit
open Go.Proofs.YtpbbfbpggedgpaaDoor.mem Go.Proofs.YtpbbfbpggedgpaaDoor.ints Go.Proofs.YtpbbfbpggedgpaaDoor.arr Go.Proofs.YtpbbfbpggedgpaaDoor.pm Go.Proofs.YtpbbfbpggedgpaaDoor.permOf Go.Proofs.YtpbbfbpggedgpaaDoor.mx Go.Proofs.YtpbbfbpggedgpaaDoor.wd Go.Proofs.YtpbbfbpggedgpaaDoor.doorM
set_option linter.unusedVariables false
set_option maxRecDepth 100000
/-- The product of the letters' matrices, each multiplied from the left, as 64 bits hold it. -/
def mxW (l : List UInt8) : mx.Mx := l.foldl (fun m c => mulW (letM c) m) (1, 0, 0, 1)
theorem mxW_take {s : ByteArray} {k : Nat} (h : k < s.size) : mxW (s.data.toList.take (k + 1)) = mulW (letM s[k]) (mxW (s.data.toList.take k)) := by
  rw [take_snoc s k h]; simp [mxW]
/-- What MatrixOf gives. -/
def mtF (s : ByteArray) : mx.Mx := if wok s then mxW s.data.toList else zM
theorem mt_yes {s : ByteArray} (h : wok s = true) : mtF s = mxW s.data.toList := by simp [mtF, h]
theorem mt_no {s : ByteArray} (h : wok s = false) : mtF s = zM := by simp [mtF, h]
def MtPost (s : ByteArray) (w : World) (e : Ending) (w' : World) : Prop := e = .returned (.tuple #[mv (mtF s), .bool (wok s)]) ∧ Below w.heap.size w w'
theorem mt_post {s : ByteArray} {v : mx.Mx} {b : Bool} {w w' : World} (h : mtF s = v) (h' : wok s = b) (hb : Below w.heap.size w w') : MtPost s w (.returned (.tuple #[mv v, .bool b])) w' := by
  subst h; subst h'; exact ⟨rfl, hb⟩
theorem still_take {P : Program} {ops : Array Oper} {w : World} {Q : Act → Prop} {a : Act} {o : Oper} {rest : List Oper} {v : Value} (hy : YieldsIf P ops (fun W => W = w) o v a) (h : wpStill P ops w Q rest (a.put o.dst v)) : wpStill P ops w Q (o :: rest) a := by
  unfold wpStill
  rcases hy with ⟨hw, hv⟩ | ⟨hw, rfl⟩
  · rw [if_pos hw]
    unfold Oper.still
    rw [hv w rfl, Oper.stillUpon_value]
    exact h
  · rw [if_neg (by rw [hw]; decide)]
    exact h
theorem lm84 {c : UInt8} (h : c.toNat = 84) : letM c = (1, 1, 0, 1) := by simp [letM, h]
theorem lm116 {c : UInt8} (h : c.toNat = 116) : letM c = (1, -1, 0, 1) := by simp [letM, h]
theorem lm83 {c : UInt8} (h : c.toNat = 83) : letM c = (0, -1, 1, 0) := by simp [letM, h]
theorem lm115 {c : UInt8} (h : c.toNat = 115) : letM c = (0, 1, -1, 0) := by simp [letM, h]
set_option maxHeartbeats 4000000 in
theorem mt_impl (s : ByteArray) (w : World) (hs : s.size ≤ 1048576) (tab : LM w) : Calls Tryd.prog 7 #[.string s] w (MtPost s w) := by
  have TAB := Lib.hid tab
  have tlt := tab.lt
  clear tab
  cases hq : wok s
  · have HQ := Lib.hid hq; have HT := Lib.hid (mt_no hq)
    go_enter Tryd.func7, Tryd.ntmps7
    go_wp2_with fail
    refine (lets_any s _ hs).mono ?_
    rintro e w1 ⟨v1, L, rfl, _, _, b1⟩
    rw [hq]
    have A2 : Hid (Arr w1 w.heap.size (V (ents zM)) 31) := Lib.hid ((Arr.new _ _ _ rfl).keep b1 (by simp))
    have B1 : Hid (Below w.heap.size w w1) := Lib.hid (((Below.refl _ _).alloc (Nat.le_refl _) _).trans (b1.mono (by simp)))
    clear b1 hq
    go_wp2_with (first | (refine wpList_build rfl 31 _ rfl [] rfl _ builtM ?_) | (refine wpList_store_row rfl 31 _ _ rfl w.heap.size #[.int .i64 zM.1, .int .i64 zM.2.1, .int .i64 zM.2.2.1, .int .i64 zM.2.2.2] rfl rfl 31 #[.int .i64 zM.1, .int .i64 zM.2.1, .int .i64 zM.2.2.1, .int .i64 zM.2.2.2] A2.out (sizeM _) rfl (by simp [Value.oneCell']) ?_))
    exact bodyPost_ret (v := .tuple #[mv zM, .bool false]) (permOf.results_cell_tmp rfl _ _ w.heap.size 31 #[.int .i64 zM.1, .int .i64 zM.2.1, .int .i64 zM.2.2.1, .int .i64 zM.2.2.2] (0, 0) _ _ rfl rfl A2.out.row Tryd.underlying31 rfl (sizeM _)) rfl (mt_post HT.out HQ.out (below_setRow B1.out (by omega) _))
  · have HQ := Lib.hid hq; have HT := Lib.hid (mt_yes hq)
    have h40 := wok_len hq
    go_enter Tryd.func7, Tryd.ntmps7
    go_wp2_with fail
    refine (lets_any s _ hs).mono ?_
    rintro e w1 ⟨v1, L, rfl, ho, hL, b1⟩
    obtain ⟨A, lc, rfl⟩ := own_form ho
    have A2 : Hid (Arr w1 w.heap.size (V (ents zM)) 31) := Lib.hid ((Arr.new _ _ _ rfl).keep b1 (by simp))
    have B1 : Hid (Below w.heap.size w w1) := Lib.hid (((Below.refl _ _).alloc (Nat.le_refl _) _).trans (b1.mono (by simp)))
    have s1 : w.heap.size < w1.heap.size := by have h := b1.size; simp at h; omega
    have hLn : L = nums s := by rw [hL, hq]; rfl
    rw [hq]
    have RL : Hid (Rd w1 w1.heap.size A s.size (V (nums s))) := Lib.hid (by rw [← hLn, ← nums_len, ← hLn]; exact (Row.of_own ho).rd)
    have hLl : L.length = s.size := by rw [hLn, nums_len]
    rw [hLl]
    clear b1 hq hL ho hLn hLl
    go_wp2_with fail
    generalize hw2 : w1.alloc (.cells #[.int .i64 1, .int .i64 0, .int .i64 0, .int .i64 1] 31) = w2
    have A4 : Hid (Arr w2 w1.heap.size (V (ents (mxW (s.data.toList.take 0)))) 31) := Lib.hid (by rw [← hw2]; exact Arr.new _ _ _ rfl)
    have b1 : Below w1.heap.size w1 w2 := by rw [← hw2]; exact (Below.refl _ _).alloc (Nat.le_refl _) _
    replace A2 := Lib.hid (A2.out.keep b1 A2.out.lt)
    replace B1 := Lib.hid (B1.out.trans (b1.mono B1.out.size))
    have BW : Hid (Below w1.heap.size w1 w2) := Lib.hid b1
    clear hw2 b1
    go_loopw [20] (fun i wr => ∃ k : Nat, k ≤ s.size ∧ i = .int .i64 k ∧ Hid (Arr wr w.heap.size (V (ents zM)) 31) ∧ Hid (Arr wr (w1.heap.size) (V (ents (mxW (s.data.toList.take k)))) 31) ∧ Hid (Below w.heap.size w wr) ∧ Hid (Below w1.heap.size w1 wr)) (fun i _ => s.size - (intOf i).toNat)
    case atStart => exact ⟨0, Nat.zero_le _, rfl, A2, A4, B1, BW⟩
    case round =>
      clear A2 A4 B1 BW
      obtain ⟨k, hk, rfl, A2, A4, B1, BW⟩ := hrel
      by_cases hlt : k < s.size
      · have LS := Lib.hid (wok_at HQ.out hlt)
        have ST := Lib.hid (mxW_take hlt)
        generalize (mxW (s.data.toList.take k)) = mk at *
        obtain ⟨go, oo, uo, rfl, hgo, huo, hco⟩ := (RL.out.keep BW.out (Nat.le_refl _)).at_ hlt
        rw [V_get (nums_at hlt)] at huo
        obtain rfl := Option.some.inj huo
        clear huo
        rcases num_cases LS.out with ⟨c1, c2⟩ | ⟨c1, c2⟩ | ⟨c1, c2⟩ | ⟨c1, c2⟩
        · rw [c2] at hco
          rw [lm84 c1] at ST
          clear c1 c2 LS
          go_wp2_with fail
          refine wp_region_still_tail 4 (by kernel_rfl) (by kernel_rfl) ?_
          simp only [List.take_succ_cons, List.take_zero, List.drop_succ_cons, List.drop_zero]
          have b1 : Below wr.heap.size wr wr.drew := ⟨rfl, rfl, rfl, Nat.le_refl _, fun _ _ => rfl⟩
          change wpStill _ _ wr.drew _ _ _
          replace A2 := Lib.hid (A2.out.keep b1 A2.out.lt); replace A4 := Lib.hid (A4.out.keep b1 A4.out.lt); replace B1 := Lib.hid (B1.out.trans (b1.mono B1.out.size)); replace BW := Lib.hid (BW.out.trans (b1.mono BW.out.size))
          have TW := Lib.hid (TAB.out.keep B1.out tlt)
          generalize hw4 : wr.drew = v0 at *
          clear b1 hco
          refine still_take (v := .int .i64 0) (Or.inl ⟨by rfl, fun w hSw => by go_simp⟩) ?_
          refine still_take (v := .pointer (some ⟨0, 0, none⟩)) (Or.inl ⟨by rfl, fun w hSw => by go_simp⟩) ?_
          refine still_take (v := mv (1, 1, 0, 1)) (Or.inl ⟨by rfl, fun W hSw => by subst hSw; have t0 := TW.out.cell (i := 0) rfl; have t1 := TW.out.cell (i := 1) rfl; have t2 := TW.out.cell (i := 2) rfl; have t3 := TW.out.cell (i := 3) rfl; unfold mv; go_simp⟩) ?_
          refine still_take (v := mv mk) (Or.inl ⟨by rfl, fun W hSw => by subst hSw; have t0 := A4.out.cell (k := 0) rfl; have t1 := A4.out.cell (k := 1) rfl; have t2 := A4.out.cell (k := 2) rfl; have t3 := A4.out.cell (k := 3) rfl; unfold mv; go_simp⟩) ?_
          refine wpStill_nil ?_
          change wpList _ _ _ _ _ wr.drew
          rw [hw4]
          clear hw4
          go_wp2_with fail
          refine (times_impl (1, 1, 0, 1) mk _).mono ?_
          rintro e v2 ⟨rfl, b1⟩
          rw [← ST.out]
          replace A2 := Lib.hid (A2.out.keep b1 A2.out.lt); replace A4 := Lib.hid (A4.out.keep b1 A4.out.lt); replace B1 := Lib.hid (B1.out.trans (b1.mono B1.out.size)); replace BW := Lib.hid (BW.out.trans (b1.mono BW.out.size))
          clear b1 TW
          obtain ⟨mk1, hmk1⟩ : ∃ q, q = (mxW (s.data.toList.take (k + 1))) := ⟨_, rfl⟩
          rw [← hmk1]
          rw [← hmk1] at ST
          have HM1 := Lib.hid hmk1; clear hmk1
          unfold mv
          go_wp2_with (refine wpList_store_row rfl 31 _ _ rfl w1.heap.size #[.int .i64 mk1.1, .int .i64 mk1.2.1, .int .i64 mk1.2.2.1, .int .i64 mk1.2.2.2] rfl rfl 31 #[.int .i64 mk.1, .int .i64 mk.2.1, .int .i64 mk.2.2.1, .int .i64 mk.2.2.2] A4.out (sizeM _) rfl (by simp [Value.oneCell']) ?_)
          have HN : Hid (Arr (v2.setRow w1.heap.size #[.int .i64 mk1.1, .int .i64 mk1.2.1, .int .i64 mk1.2.2.1, .int .i64 mk1.2.2.2]) w1.heap.size (V (ents mk1)) 31) := Lib.hid A4.out.row
          replace A2 : Hid (Arr (v2.setRow w1.heap.size #[.int .i64 mk1.1, .int .i64 mk1.2.1, .int .i64 mk1.2.2.1, .int .i64 mk1.2.2.2]) w.heap.size (V (ents zM)) 31) := Lib.hid (A2.out.rowOther (by omega))
          replace B1 : Hid (Below w.heap.size w (v2.setRow w1.heap.size #[.int .i64 mk1.1, .int .i64 mk1.2.1, .int .i64 mk1.2.2.1, .int .i64 mk1.2.2.2])) := Lib.hid (below_setRow B1.out (by omega) _)
          replace BW : Hid (Below w1.heap.size w1 (v2.setRow w1.heap.size #[.int .i64 mk1.1, .int .i64 mk1.2.1, .int .i64 mk1.2.2.1, .int .i64 mk1.2.2.2])) := Lib.hid (below_setRow BW.out (Nat.le_refl _) _)
          generalize v2.setRow w1.heap.size #[.int .i64 mk1.1, .int .i64 mk1.2.1, .int .i64 mk1.2.2.1, .int .i64 mk1.2.2.2] = w9 at *
          clear A4
          go_wp2_with fail
          go_roundw
          case rel => exact ⟨k + 1, by omega, by go_num, A2, by rw [← HM1.out]; exact HN, B1, BW⟩
          case measure => simp [intOf]; omega
        · rw [c2] at hco
          rw [lm116 c1] at ST
          clear c1 c2 LS
          go_wp2_with fail
          refine wp_region_still_tail 4 (by kernel_rfl) (by kernel_rfl) ?_
          simp only [List.take_succ_cons, List.take_zero, List.drop_succ_cons, List.drop_zero]
          have b1 : Below wr.heap.size wr wr.drew := ⟨rfl, rfl, rfl, Nat.le_refl _, fun _ _ => rfl⟩
          change wpStill _ _ wr.drew _ _ _
          replace A2 := Lib.hid (A2.out.keep b1 A2.out.lt); replace A4 := Lib.hid (A4.out.keep b1 A4.out.lt); replace B1 := Lib.hid (B1.out.trans (b1.mono B1.out.size)); replace BW := Lib.hid (BW.out.trans (b1.mono BW.out.size))
          have TW := Lib.hid (TAB.out.keep B1.out tlt)
          generalize hw4 : wr.drew = v0 at *
          clear b1 hco
          refine still_take (v := .int .i64 1) (Or.inl ⟨by rfl, fun w hSw => by go_simp⟩) ?_
          refine still_take (v := .pointer (some ⟨0, 4, none⟩)) (Or.inl ⟨by rfl, fun w hSw => by go_simp⟩) ?_
          refine still_take (v := mv (1, -1, 0, 1)) (Or.inl ⟨by rfl, fun W hSw => by subst hSw; have t0 := TW.out.cell (i := 4) rfl; have t1 := TW.out.cell (i := 5) rfl; have t2 := TW.out.cell (i := 6) rfl; have t3 := TW.out.cell (i := 7) rfl; unfold mv; go_simp⟩) ?_
          refine still_take (v := mv mk) (Or.inl ⟨by rfl, fun W hSw => by subst hSw; have t0 := A4.out.cell (k := 0) rfl; have t1 := A4.out.cell (k := 1) rfl; have t2 := A4.out.cell (k := 2) rfl; have t3 := A4.out.cell (k := 3) rfl; unfold mv; go_simp⟩) ?_
          refine wpStill_nil ?_
          change wpList _ _ _ _ _ wr.drew
          rw [hw4]
          clear hw4
          go_wp2_with fail
          refine (times_impl (1, -1, 0, 1) mk _).mono ?_
          rintro e v2 ⟨rfl, b1⟩
          rw [← ST.out]
          replace A2 := Lib.hid (A2.out.keep b1 A2.out.lt); replace A4 := Lib.hid (A4.out.keep b1 A4.out.lt); replace B1 := Lib.hid (B1.out.trans (b1.mono B1.out.size)); replace BW := Lib.hid (BW.out.trans (b1.mono BW.out.size))
          clear b1 TW
          obtain ⟨mk1, hmk1⟩ : ∃ q, q = (mxW (s.data.toList.take (k + 1))) := ⟨_, rfl⟩
          rw [← hmk1]
          rw [← hmk1] at ST
          have HM1 := Lib.hid hmk1; clear hmk1
          unfold mv
          go_wp2_with (refine wpList_store_row rfl 31 _ _ rfl w1.heap.size #[.int .i64 mk1.1, .int .i64 mk1.2.1, .int .i64 mk1.2.2.1, .int .i64 mk1.2.2.2] rfl rfl 31 #[.int .i64 mk.1, .int .i64 mk.2.1, .int .i64 mk.2.2.1, .int .i64 mk.2.2.2] A4.out (sizeM _) rfl (by simp [Value.oneCell']) ?_)
          have HN : Hid (Arr (v2.setRow w1.heap.size #[.int .i64 mk1.1, .int .i64 mk1.2.1, .int .i64 mk1.2.2.1, .int .i64 mk1.2.2.2]) w1.heap.size (V (ents mk1)) 31) := Lib.hid A4.out.row
          replace A2 : Hid (Arr (v2.setRow w1.heap.size #[.int .i64 mk1.1, .int .i64 mk1.2.1, .int .i64 mk1.2.2.1, .int .i64 mk1.2.2.2]) w.heap.size (V (ents zM)) 31) := Lib.hid (A2.out.rowOther (by omega))
          replace B1 : Hid (Below w.heap.size w (v2.setRow w1.heap.size #[.int .i64 mk1.1, .int .i64 mk1.2.1, .int .i64 mk1.2.2.1, .int .i64 mk1.2.2.2])) := Lib.hid (below_setRow B1.out (by omega) _)
          replace BW : Hid (Below w1.heap.size w1 (v2.setRow w1.heap.size #[.int .i64 mk1.1, .int .i64 mk1.2.1, .int .i64 mk1.2.2.1, .int .i64 mk1.2.2.2])) := Lib.hid (below_setRow BW.out (Nat.le_refl _) _)
          generalize v2.setRow w1.heap.size #[.int .i64 mk1.1, .int .i64 mk1.2.1, .int .i64 mk1.2.2.1, .int .i64 mk1.2.2.2] = w9 at *
          clear A4
          go_wp2_with fail
          go_roundw
          case rel => exact ⟨k + 1, by omega, by go_num, A2, by rw [← HM1.out]; exact HN, B1, BW⟩
          case measure => simp [intOf]; omega
        · rw [c2] at hco
          rw [lm83 c1] at ST
          clear c1 c2 LS
          go_wp2_with fail
          refine wp_region_still_tail 4 (by kernel_rfl) (by kernel_rfl) ?_
          simp only [List.take_succ_cons, List.take_zero, List.drop_succ_cons, List.drop_zero]
          have b1 : Below wr.heap.size wr wr.drew := ⟨rfl, rfl, rfl, Nat.le_refl _, fun _ _ => rfl⟩
          change wpStill _ _ wr.drew _ _ _
          replace A2 := Lib.hid (A2.out.keep b1 A2.out.lt); replace A4 := Lib.hid (A4.out.keep b1 A4.out.lt); replace B1 := Lib.hid (B1.out.trans (b1.mono B1.out.size)); replace BW := Lib.hid (BW.out.trans (b1.mono BW.out.size))
          have TW := Lib.hid (TAB.out.keep B1.out tlt)
          generalize hw4 : wr.drew = v0 at *
          clear b1 hco
          refine still_take (v := .int .i64 2) (Or.inl ⟨by rfl, fun w hSw => by go_simp⟩) ?_
          refine still_take (v := .pointer (some ⟨0, 8, none⟩)) (Or.inl ⟨by rfl, fun w hSw => by go_simp⟩) ?_
          refine still_take (v := mv (0, -1, 1, 0)) (Or.inl ⟨by rfl, fun W hSw => by subst hSw; have t0 := TW.out.cell (i := 8) rfl; have t1 := TW.out.cell (i := 9) rfl; have t2 := TW.out.cell (i := 10) rfl; have t3 := TW.out.cell (i := 11) rfl; unfold mv; go_simp⟩) ?_
          refine still_take (v := mv mk) (Or.inl ⟨by rfl, fun W hSw => by subst hSw; have t0 := A4.out.cell (k := 0) rfl; have t1 := A4.out.cell (k := 1) rfl; have t2 := A4.out.cell (k := 2) rfl; have t3 := A4.out.cell (k := 3) rfl; unfold mv; go_simp⟩) ?_
          refine wpStill_nil ?_
          change wpList _ _ _ _ _ wr.drew
          rw [hw4]
          clear hw4
          go_wp2_with fail
          refine (times_impl (0, -1, 1, 0) mk _).mono ?_
          rintro e v2 ⟨rfl, b1⟩
          rw [← ST.out]
          replace A2 := Lib.hid (A2.out.keep b1 A2.out.lt); replace A4 := Lib.hid (A4.out.keep b1 A4.out.lt); replace B1 := Lib.hid (B1.out.trans (b1.mono B1.out.size)); replace BW := Lib.hid (BW.out.trans (b1.mono BW.out.size))
          clear b1 TW
          obtain ⟨mk1, hmk1⟩ : ∃ q, q = (mxW (s.data.toList.take (k + 1))) := ⟨_, rfl⟩
          rw [← hmk1]
          rw [← hmk1] at ST
          have HM1 := Lib.hid hmk1; clear hmk1
          unfold mv
          go_wp2_with (refine wpList_store_row rfl 31 _ _ rfl w1.heap.size #[.int .i64 mk1.1, .int .i64 mk1.2.1, .int .i64 mk1.2.2.1, .int .i64 mk1.2.2.2] rfl rfl 31 #[.int .i64 mk.1, .int .i64 mk.2.1, .int .i64 mk.2.2.1, .int .i64 mk.2.2.2] A4.out (sizeM _) rfl (by simp [Value.oneCell']) ?_)
          have HN : Hid (Arr (v2.setRow w1.heap.size #[.int .i64 mk1.1, .int .i64 mk1.2.1, .int .i64 mk1.2.2.1, .int .i64 mk1.2.2.2]) w1.heap.size (V (ents mk1)) 31) := Lib.hid A4.out.row
          replace A2 : Hid (Arr (v2.setRow w1.heap.size #[.int .i64 mk1.1, .int .i64 mk1.2.1, .int .i64 mk1.2.2.1, .int .i64 mk1.2.2.2]) w.heap.size (V (ents zM)) 31) := Lib.hid (A2.out.rowOther (by omega))
          replace B1 : Hid (Below w.heap.size w (v2.setRow w1.heap.size #[.int .i64 mk1.1, .int .i64 mk1.2.1, .int .i64 mk1.2.2.1, .int .i64 mk1.2.2.2])) := Lib.hid (below_setRow B1.out (by omega) _)
          replace BW : Hid (Below w1.heap.size w1 (v2.setRow w1.heap.size #[.int .i64 mk1.1, .int .i64 mk1.2.1, .int .i64 mk1.2.2.1, .int .i64 mk1.2.2.2])) := Lib.hid (below_setRow BW.out (Nat.le_refl _) _)
          generalize v2.setRow w1.heap.size #[.int .i64 mk1.1, .int .i64 mk1.2.1, .int .i64 mk1.2.2.1, .int .i64 mk1.2.2.2] = w9 at *
          clear A4
          go_wp2_with fail
          go_roundw
          case rel => exact ⟨k + 1, by omega, by go_num, A2, by rw [← HM1.out]; exact HN, B1, BW⟩
          case measure => simp [intOf]; omega
        · rw [c2] at hco
          rw [lm115 c1] at ST
          clear c1 c2 LS
          go_wp2_with fail
          refine wp_region_still_tail 4 (by kernel_rfl) (by kernel_rfl) ?_
          simp only [List.take_succ_cons, List.take_zero, List.drop_succ_cons, List.drop_zero]
          have b1 : Below wr.heap.size wr wr.drew := ⟨rfl, rfl, rfl, Nat.le_refl _, fun _ _ => rfl⟩
          change wpStill _ _ wr.drew _ _ _
          replace A2 := Lib.hid (A2.out.keep b1 A2.out.lt); replace A4 := Lib.hid (A4.out.keep b1 A4.out.lt); replace B1 := Lib.hid (B1.out.trans (b1.mono B1.out.size)); replace BW := Lib.hid (BW.out.trans (b1.mono BW.out.size))
          have TW := Lib.hid (TAB.out.keep B1.out tlt)
          generalize hw4 : wr.drew = v0 at *
          clear b1 hco
          refine still_take (v := .int .i64 3) (Or.inl ⟨by rfl, fun w hSw => by go_simp⟩) ?_
          refine still_take (v := .pointer (some ⟨0, 12, none⟩)) (Or.inl ⟨by rfl, fun w hSw => by go_simp⟩) ?_
          refine still_take (v := mv (0, 1, -1, 0)) (Or.inl ⟨by rfl, fun W hSw => by subst hSw; have t0 := TW.out.cell (i := 12) rfl; have t1 := TW.out.cell (i := 13) rfl; have t2 := TW.out.cell (i := 14) rfl; have t3 := TW.out.cell (i := 15) rfl; unfold mv; go_simp⟩) ?_
          refine still_take (v := mv mk) (Or.inl ⟨by rfl, fun W hSw => by subst hSw; have t0 := A4.out.cell (k := 0) rfl; have t1 := A4.out.cell (k := 1) rfl; have t2 := A4.out.cell (k := 2) rfl; have t3 := A4.out.cell (k := 3) rfl; unfold mv; go_simp⟩) ?_
          refine wpStill_nil ?_
          change wpList _ _ _ _ _ wr.drew
          rw [hw4]
          clear hw4
          go_wp2_with fail
          refine (times_impl (0, 1, -1, 0) mk _).mono ?_
          rintro e v2 ⟨rfl, b1⟩
          rw [← ST.out]
          replace A2 := Lib.hid (A2.out.keep b1 A2.out.lt); replace A4 := Lib.hid (A4.out.keep b1 A4.out.lt); replace B1 := Lib.hid (B1.out.trans (b1.mono B1.out.size)); replace BW := Lib.hid (BW.out.trans (b1.mono BW.out.size))
          clear b1 TW
          obtain ⟨mk1, hmk1⟩ : ∃ q, q = (mxW (s.data.toList.take (k + 1))) := ⟨_, rfl⟩
          rw [← hmk1]
          rw [← hmk1] at ST
          have HM1 := Lib.hid hmk1; clear hmk1
          unfold mv
          go_wp2_with (refine wpList_store_row rfl 31 _ _ rfl w1.heap.size #[.int .i64 mk1.1, .int .i64 mk1.2.1, .int .i64 mk1.2.2.1, .int .i64 mk1.2.2.2] rfl rfl 31 #[.int .i64 mk.1, .int .i64 mk.2.1, .int .i64 mk.2.2.1, .int .i64 mk.2.2.2] A4.out (sizeM _) rfl (by simp [Value.oneCell']) ?_)
          have HN : Hid (Arr (v2.setRow w1.heap.size #[.int .i64 mk1.1, .int .i64 mk1.2.1, .int .i64 mk1.2.2.1, .int .i64 mk1.2.2.2]) w1.heap.size (V (ents mk1)) 31) := Lib.hid A4.out.row
          replace A2 : Hid (Arr (v2.setRow w1.heap.size #[.int .i64 mk1.1, .int .i64 mk1.2.1, .int .i64 mk1.2.2.1, .int .i64 mk1.2.2.2]) w.heap.size (V (ents zM)) 31) := Lib.hid (A2.out.rowOther (by omega))
          replace B1 : Hid (Below w.heap.size w (v2.setRow w1.heap.size #[.int .i64 mk1.1, .int .i64 mk1.2.1, .int .i64 mk1.2.2.1, .int .i64 mk1.2.2.2])) := Lib.hid (below_setRow B1.out (by omega) _)
          replace BW : Hid (Below w1.heap.size w1 (v2.setRow w1.heap.size #[.int .i64 mk1.1, .int .i64 mk1.2.1, .int .i64 mk1.2.2.1, .int .i64 mk1.2.2.2])) := Lib.hid (below_setRow BW.out (Nat.le_refl _) _)
          generalize v2.setRow w1.heap.size #[.int .i64 mk1.1, .int .i64 mk1.2.1, .int .i64 mk1.2.2.1, .int .i64 mk1.2.2.2] = w9 at *
          clear A4
          go_wp2_with fail
          go_roundw
          case rel => exact ⟨k + 1, by omega, by go_num, A2, by rw [← HM1.out]; exact HN, B1, BW⟩
          case measure => simp [intOf]; omega
      · obtain rfl : k = s.size := by omega
        have e : s.data.toList.take s.size = s.data.toList := List.take_of_length_le (by simp)
        rw [e, ← HT.out] at A4; clear e
        obtain ⟨mk, hmk⟩ : ∃ q, q = mtF s := ⟨_, rfl⟩
        rw [← hmk] at A4
        have HTT := Lib.hid hmk.symm; clear hmk HT
        have A40 := A4.out.cell (k := 0) rfl; have A41 := A4.out.cell (k := 1) rfl; have A42 := A4.out.cell (k := 2) rfl; have A43 := A4.out.cell (k := 3) rfl
        go_wp2_with (refine wpList_store_row rfl 31 _ _ rfl w.heap.size #[.int .i64 mk.1, .int .i64 mk.2.1, .int .i64 mk.2.2.1, .int .i64 mk.2.2.2] rfl rfl 31 #[.int .i64 zM.1, .int .i64 zM.2.1, .int .i64 zM.2.2.1, .int .i64 zM.2.2.2] A2.out (sizeM _) rfl (by simp [Value.oneCell']) ?_)
        exact bodyPost_ret (v := .tuple #[mv mk, .bool true]) (permOf.results_cell_tmp rfl _ _ w.heap.size 31 #[.int .i64 mk.1, .int .i64 mk.2.1, .int .i64 mk.2.2.1, .int .i64 mk.2.2.2] (0, 0) _ _ rfl rfl A2.out.row Tryd.underlying31 rfl (sizeM _)) rfl (mt_post HTT.out HQ.out (below_setRow B1.out (by omega) _))
end Go.Proofs.YtpbbfbpggedgpaaDoor.mt

/-
  FnDirections: a drawn slope (MakeSlope of the model), the numbers of its matrix.
-/
namespace Go.Proofs.YtpbbfbpggedgpaaDoor.dr
open Go.ChangeShapes Go.WideShapes Go.ChangeAt Go.RowKit
open Go.Proofs.YtpbbfbpggedgpaaDoor.mem Go.Proofs.YtpbbfbpggedgpaaDoor.ints Go.Proofs.YtpbbfbpggedgpaaDoor.arr Go.Proofs.YtpbbfbpggedgpaaDoor.pm Go.Proofs.YtpbbfbpggedgpaaDoor.permOk Go.Proofs.YtpbbfbpggedgpaaDoor.cur Go.Proofs.YtpbbfbpggedgpaaDoor.mx
set_option linter.unusedVariables false
set_option maxRecDepth 100000

/-- An entry is small. -/
def sm (x : Int) : Bool := decide (-100 ≤ x) && decide (x ≤ 100)
theorem sm_iff {x : Int} : sm x = true ↔ -100 ≤ x ∧ x ≤ 100 := by simp [sm]
theorem mat13 : ∀ a b : Fin 13, okP a.val b.val = true → ((sm (mt.mxW (dwL a.val b.val)).1 = true ∧ sm (mt.mxW (dwL a.val b.val)).2.1 = true ∧ sm (mt.mxW (dwL a.val b.val)).2.2.1 = true ∧ sm (mt.mxW (dwL a.val b.val)).2.2.2 = true) ∧
    ((mt.mxW (dwL a.val b.val)).1 * (a.val : Int) + (mt.mxW (dwL a.val b.val)).2.1 * (b.val : Int) = 1 ∧ (mt.mxW (dwL a.val b.val)).2.2.1 * (a.val : Int) + (mt.mxW (dwL a.val b.val)).2.2.2 * (b.val : Int) = 0)) := by decide +kernel
/-- The matrix of a slope's word, its entries named. -/
theorem mat_ok {a b : Nat} (h : a + b ≤ 12) (g : Nat.gcd a b = 1) : ∃ A B C D : Int, mt.mxW (dwL a b) = (A, B, C, D) ∧ (-100 ≤ A ∧ A ≤ 100) ∧ (-100 ≤ B ∧ B ≤ 100) ∧ (-100 ≤ C ∧ C ≤ 100) ∧ (-100 ≤ D ∧ D ≤ 100) ∧ A * a + B * b = 1 ∧ C * a + D * b = 0 := by
  obtain ⟨⟨h1, h2, h3, h4⟩, h5, h6⟩ := mat13 ⟨a, by omega⟩ ⟨b, by omega⟩ (okP_of h g)
  exact ⟨_, _, _, _, rfl, sm_iff.1 h1, sm_iff.1 h2, sm_iff.1 h3, sm_iff.1 h4, h5, h6⟩
theorem mul_small {x : Int} {a : Nat} (hx : -100 ≤ x ∧ x ≤ 100) (ha : a ≤ 12) : -1200 ≤ x * a ∧ x * a ≤ 1200 := by
  have h1 : x * a ≤ 100 * a := Int.mul_le_mul_of_nonneg_right hx.2 (by omega)
  have h2 : -100 * (a : Int) ≤ x * a := Int.mul_le_mul_of_nonneg_right hx.1 (by omega)
  omega
theorem slope_of {x y : Nat} (h : 0 < x + y) (hx : x ≤ 6) (hy : y ≤ 5) : ∃ g a b : Nat, Nat.gcd x y = g ∧ 0 < g ∧ (x : Int).tdiv g = a ∧ (y : Int).tdiv g = b ∧ a ≤ 6 ∧ b ≤ 5 ∧ slB a b = true := by
  have hg : 0 < Nat.gcd x y := Nat.gcd_pos_iff.2 (by omega)
  refine ⟨Nat.gcd x y, x / Nat.gcd x y, y / Nat.gcd x y, rfl, hg, by rw [← Int.ofNat_tdiv], by rw [← Int.ofNat_tdiv], Nat.le_trans (Nat.div_le_self _ _) hx, Nat.le_trans (Nat.div_le_self _ _) hy, ?_⟩
  refine slB_iff.2 ⟨Int.natCast_nonneg _, Int.natCast_nonneg _, ?_, ?_⟩
  · have h1 := Nat.le_trans (Nat.div_le_self x (Nat.gcd x y)) hx
    have h2 := Nat.le_trans (Nat.div_le_self y (Nat.gcd x y)) hy
    omega
  · rw [Int.toNat_natCast, Int.toNat_natCast, Nat.gcd_div (Nat.gcd_dvd_left x y) (Nat.gcd_dvd_right x y)]
    exact Nat.div_self hg
def SlPost (w : World) (e : Ending) (w' : World) : Prop := ∃ a b : Nat, e = .returned (.tuple #[.int .i64 a, .int .i64 b]) ∧ a ≤ 6 ∧ b ≤ 5 ∧ slB a b = true ∧ Below w.heap.size w w'

set_option maxHeartbeats 1000000 in
theorem ms_any (w : World) (hi : Nat) (A : Option Addr) (n c : Nat) (l : List Int) (hc : cur.Code w hi A n l) :
    Calls Tryd.prog 5 #[.slice A n c, .int .i64 40] w (SlPost w) := by
  have HC := Lib.hid hc; clear hc
  go_enter Tryd.func5, Tryd.ntmps5
  go_wp2_with fail
  refine (skip_any w hi A n c l 40 (by omega) HC.out).mono ?_
  rintro e w1 ⟨g, hg, hlt, rfl, hcur, hb⟩
  have HCU := Lib.hid hcur; have HB := Lib.hid hb; clear hcur hb HC
  go_wp2_with fail
  refine (below_any w1 g A n c l 7 (by omega) (by omega) HCU.out).mono ?_
  rintro e w2 ⟨x, x0, x1, rfl, hcur, ho⟩
  replace HB := Lib.hid (HB.out.trans (ho.below hg HB.out.size))
  have HC2 := Lib.hid hcur; clear hcur ho HCU
  go_wp2_with fail
  refine (below_any w2 g A n c l 6 (by omega) (by omega) HC2.out).mono ?_
  rintro e w3 ⟨y, y0, y1, rfl, hcur, ho⟩
  replace HB := Lib.hid (HB.out.trans (ho.below hg HB.out.size))
  clear hcur ho HC2
  obtain ⟨X, rfl⟩ := Int.eq_ofNat_of_zero_le x0
  obtain ⟨Y, rfl⟩ := Int.eq_ofNat_of_zero_le y0
  have X6 : X ≤ 6 := by omega
  have Y5 : Y ≤ 5 := by omega
  clear x0 x1 y0 y1 hg hlt
  by_cases h0 : X + Y = 0
  · obtain rfl : X = 0 := by omega
    obtain rfl : Y = 0 := by omega
    go_wp2_with fail
    refine (gcd_spec 1 0 _ (by omega) (by omega)).mono ?_
    rintro e w4 ⟨rfl, dr⟩
    have B4 := Lib.hid (HB.out.trans ((dr.below w3.heap.size).mono HB.out.size)); clear dr
    rw [show Nat.gcd 1 0 = 1 from rfl]
    go_wp2
    go_region
    go_wp2
    go_ret2
    exact ⟨1, 0, rfl, by omega, by omega, by decide, B4.out.drew⟩
  · obtain ⟨G, a, b, eg, g0, ea, eb, a6, b5, hs⟩ := slope_of (x := X) (y := Y) (by omega) X6 Y5
    have hd : (((X : Int) + (Y : Int)) == 0) = false := by rw [beq_eq_false_iff_ne]; omega
    have HS := Lib.hid hs; clear hs
    go_wp2_with fail
    refine (gcd_spec X Y _ (by omega) (by omega)).mono ?_
    rintro e w4 ⟨rfl, dr⟩
    have B4 := Lib.hid (HB.out.trans ((dr.below w3.heap.size).mono HB.out.size)); clear dr
    rw [eg]
    clear eg
    have hG : ¬ (G : Int) = 0 := by omega
    have hwa := IntWalk.i64_in (a : Int) (by omega); have hwb := IntWalk.i64_in (b : Int) (by omega)
    go_wp2
    go_region
    go_wp2
    go_ret2
    exact ⟨a, b, rfl, a6, b5, HS.out, B4.out.drew⟩
end Go.Proofs.YtpbbfbpggedgpaaDoor.dr
