/-
  MatrixOf of the model and of the program.
-/
import Derived.Test.YtdoohnphgembdaaDoorDoorM
import Derived.StillTailTactics
import Derived.RegionTactic
import Derived.BigRegion
import Derived.Deep.MidRow
import Derived.Test.YtdoohnphgembdaaDoorPermsOf
namespace Go.Proofs.YtdoohnphgembdaaDoor.mt
open Go.ChangeShapes Go.WideShapes Go.ChangeAt Go.RowKit
open Go.Proofs.YtdoohnphgembdaaDoor.mem Go.Proofs.YtdoohnphgembdaaDoor.ints Go.Proofs.YtdoohnphgembdaaDoor.arr Go.Proofs.YtdoohnphgembdaaDoor.pm Go.Proofs.YtdoohnphgembdaaDoor.permOf Go.Proofs.YtdoohnphgembdaaDoor.mx Go.Proofs.YtdoohnphgembdaaDoor.wd Go.Proofs.YtdoohnphgembdaaDoor.doorM
set_option linter.unusedVariables false
set_option maxRecDepth 100000
/-- The product of the letters' matrices, each multiplied from the left, as 64 bits hold it. -/
def mxW (l : List UInt8) : mx.Mx := l.foldl (fun m c => mulW (letM c) m) (1, 0, 0, 1)
theorem mxW_take {s : ByteArray} {k : Nat} (h : k < s.size) : mxW (s.data.toList.take (k + 1)) = mulW (letM s[k]) (mxW (s.data.toList.take k)) := by
  rw [take_snoc s k h]; simp [mxW]
/-- What MatrixOf gives. -/
def mtF (s : ByteArray) : mx.Mx := if wok s then mxW s.data.toList else zM
theorem mt_yes {s : ByteArray} (h : wok s = true) : mtF s = mxW s.data.toList := by simp [mtF, h]
theorem mt_no {s : ByteArray} (h : wok s = false) : mtF s = zM := by simp [mtF, h]
def MtPost (s : ByteArray) (w : World) (e : Ending) (w' : World) : Prop := e = .returned (.tuple #[mv (mtF s), .bool (wok s)]) ∧ Below w.heap.size w w'
theorem mt_post {s : ByteArray} {v : mx.Mx} {b : Bool} {w w' : World} (h : mtF s = v) (h' : wok s = b) (hb : Below w.heap.size w w') : MtPost s w (.returned (.tuple #[mv v, .bool b])) w' := by
  subst h; subst h'; exact ⟨rfl, hb⟩
theorem still_take {P : Program} {ops : Array Oper} {w : World} {Q : Act → Prop} {a : Act} {o : Oper} {rest : List Oper} {v : Value} (hy : YieldsIf P ops (fun W => W = w) o v a) (h : wpStill P ops w Q rest (a.put o.dst v)) : wpStill P ops w Q (o :: rest) a := by
  unfold wpStill
  rcases hy with ⟨hw, hv⟩ | ⟨hw, rfl⟩
  · rw [if_pos hw]
    unfold Oper.still
    rw [hv w rfl, Oper.stillUpon_value]
    exact h
  · rw [if_neg (by rw [hw]; decide)]
    exact h
theorem lm84 {c : UInt8} (h : c.toNat = 84) : letM c = (1, 1, 0, 1) := by simp [letM, h]
theorem lm116 {c : UInt8} (h : c.toNat = 116) : letM c = (1, -1, 0, 1) := by simp [letM, h]
theorem lm83 {c : UInt8} (h : c.toNat = 83) : letM c = (0, -1, 1, 0) := by simp [letM, h]
theorem lm115 {c : UInt8} (h : c.toNat = 115) : letM c = (0, 1, -1, 0) := by simp [letM, h]
set_option maxHeartbeats 1000000 in
theorem letm_spec (c : UInt8) (w : World) (hc : isL c = true) : Calls Tryd.prog 15 #[.int .u8 (c.toNat : Int)] w fun e w' => e = .returned (mv (letM c)) ∧ Below w.heap.size w w' := by
  rcases isL_iff.1 hc with h1 | h1 | h1 | h1
  · rw [lm84 h1]
    clear hc
    go_enter Tryd.func15, Tryd.ntmps15
    go_wp2
    exact bodyPost_ret (v := mv (1, 1, 0, 1)) (results_cell_row rfl _ _ w.heap.size 23 #[.int .i64 1, .int .i64 1, .int .i64 0, .int .i64 1] (0, 0) _ rfl (Arr.new w (V [1, 1, 0, 1]) 23 rfl) Tryd.underlying23 rfl (sizeM (1, 1, 0, 1))) rfl ⟨rfl, (Below.refl _ _).alloc (Nat.le_refl _) _⟩
  · rw [lm116 h1]
    clear hc
    go_enter Tryd.func15, Tryd.ntmps15
    go_wp2
    exact bodyPost_ret (v := mv (1, -1, 0, 1)) (results_cell_row rfl _ _ w.heap.size 23 #[.int .i64 1, .int .i64 (-1), .int .i64 0, .int .i64 1] (0, 0) _ rfl (Arr.new w (V [1, -1, 0, 1]) 23 rfl) Tryd.underlying23 rfl (sizeM (1, -1, 0, 1))) rfl ⟨rfl, (Below.refl _ _).alloc (Nat.le_refl _) _⟩
  · rw [lm83 h1]
    clear hc
    go_enter Tryd.func15, Tryd.ntmps15
    go_wp2
    exact bodyPost_ret (v := mv (0, -1, 1, 0)) (results_cell_row rfl _ _ w.heap.size 23 #[.int .i64 0, .int .i64 (-1), .int .i64 1, .int .i64 0] (0, 0) _ rfl (Arr.new w (V [0, -1, 1, 0]) 23 rfl) Tryd.underlying23 rfl (sizeM (0, -1, 1, 0))) rfl ⟨rfl, (Below.refl _ _).alloc (Nat.le_refl _) _⟩
  · rw [lm115 h1]
    clear hc
    go_enter Tryd.func15, Tryd.ntmps15
    go_wp2
    exact bodyPost_ret (v := mv (0, 1, -1, 0)) (results_cell_row rfl _ _ w.heap.size 23 #[.int .i64 0, .int .i64 1, .int .i64 (-1), .int .i64 0] (0, 0) _ rfl (Arr.new w (V [0, 1, -1, 0]) 23 rfl) Tryd.underlying23 rfl (sizeM (0, 1, -1, 0))) rfl ⟨rfl, (Below.refl _ _).alloc (Nat.le_refl _) _⟩
set_option maxHeartbeats 4000000 in
theorem mt_spec (s : ByteArray) (w : World) (hs : s.size ≤ 1048576) : Calls Tryd.prog 5 #[.string s] w (MtPost s w) := by
  cases hq : wok s
  · have HQ := Lib.hid hq; have HT := Lib.hid (mt_no hq)
    go_enter Tryd.func5, Tryd.ntmps5
    go_wp2_with fail
    refine (wok_spec s _ hs).mono ?_
    rintro e w1 ⟨rfl, hw1⟩
    rw [hq]
    have A2 : Hid (Arr w1 w.heap.size (V (ents zM)) 23) := Lib.hid (by rw [hw1]; exact Arr.new _ _ _ rfl)
    have B1 : Hid (Below w.heap.size w w1) := Lib.hid (by rw [hw1]; exact (Below.refl _ _).alloc (Nat.le_refl _) _)
    clear hw1 hq
    go_wp2_with (first | (refine wpList_build rfl 23 _ rfl [] rfl _ builtM ?_) | (refine wpList_store_row rfl 23 _ _ rfl w.heap.size #[.int .i64 zM.1, .int .i64 zM.2.1, .int .i64 zM.2.2.1, .int .i64 zM.2.2.2] rfl rfl 23 #[.int .i64 zM.1, .int .i64 zM.2.1, .int .i64 zM.2.2.1, .int .i64 zM.2.2.2] A2.out (sizeM _) rfl (by simp [Value.oneCell']) ?_))
    exact bodyPost_ret (v := .tuple #[mv zM, .bool false]) (permOf.results_cell_tmp rfl _ _ w.heap.size 23 #[.int .i64 zM.1, .int .i64 zM.2.1, .int .i64 zM.2.2.1, .int .i64 zM.2.2.2] (0, 0) _ _ rfl rfl A2.out.row Tryd.underlying23 rfl (sizeM _)) rfl (mt_post HT.out HQ.out (below_setRow B1.out (by omega) _))
  · have HQ := Lib.hid hq; have HT := Lib.hid (mt_yes hq)
    have h40 := wok_len hq
    go_enter Tryd.func5, Tryd.ntmps5
    go_wp2_with fail
    refine (wok_spec s _ hs).mono ?_
    rintro e w1 ⟨rfl, hw1⟩
    rw [hq]
    have A2 : Hid (Arr w1 w.heap.size (V (ents zM)) 23) := Lib.hid (by rw [hw1]; exact Arr.new _ _ _ rfl)
    have B1 : Hid (Below w.heap.size w w1) := Lib.hid (by rw [hw1]; exact (Below.refl _ _).alloc (Nat.le_refl _) _)
    have s1 : w.heap.size < w1.heap.size := by rw [hw1]; simp
    clear hw1 hq
    go_wp2_with fail
    generalize hw2 : w1.alloc (.cells #[.int .i64 1, .int .i64 0, .int .i64 0, .int .i64 1] 23) = w2
    have A4 : Hid (Arr w2 w1.heap.size (V (ents (mxW (s.data.toList.take 0)))) 23) := Lib.hid (by rw [← hw2]; exact Arr.new _ _ _ rfl)
    have b1 : Below w1.heap.size w1 w2 := by rw [← hw2]; exact (Below.refl _ _).alloc (Nat.le_refl _) _
    replace A2 := Lib.hid (A2.out.keep b1 A2.out.lt)
    replace B1 := Lib.hid (B1.out.trans (b1.mono B1.out.size))
    clear hw2 b1
    go_loopw [5] (fun i wr => ∃ k : Nat, k ≤ s.size ∧ i = .int .i64 k ∧ Hid (Arr wr w.heap.size (V (ents zM)) 23) ∧ Hid (Arr wr (w1.heap.size) (V (ents (mxW (s.data.toList.take k)))) 23) ∧ Hid (Below w.heap.size w wr)) (fun i _ => s.size - (intOf i).toNat)
    case atStart => exact ⟨0, Nat.zero_le _, rfl, A2, A4, B1⟩
    case round =>
      clear A2 A4 B1
      obtain ⟨k, hk, rfl, A2, A4, B1⟩ := hrel
      by_cases hlt : k < s.size
      · have LS := Lib.hid (wok_at HQ.out hlt)
        have ST := Lib.hid (mxW_take hlt)
        generalize (mxW (s.data.toList.take k)) = mk at *
        go_wp2_with fail
        refine wp_region_any (by kernel_rfl) ?_
        change wpAny _ _ _ _ _ _ _ wr.drew
        have b1 : Below wr.heap.size wr wr.drew := ⟨rfl, rfl, rfl, Nat.le_refl _, fun _ _ => rfl⟩
        replace A2 := Lib.hid (A2.out.keep b1 A2.out.lt); replace A4 := Lib.hid (A4.out.keep b1 A4.out.lt); replace B1 := Lib.hid (B1.out.trans (b1.mono B1.out.size))
        generalize wr.drew = v0 at *
        clear b1
        refine wpAny_take (i := 0) (v := .string s) rfl (by kernel_rfl) (by kernel_rfl) (by kernel_rfl) (fun _ _ _ h => h) (Or.inl ⟨by rfl, fun w => by go_simp⟩) ?_
        refine wpAny_take (i := 1) (v := .int .i64 (k : Int)) rfl (by kernel_rfl) (by kernel_rfl) (by kernel_rfl) (fun _ _ _ h => h) (Or.inl ⟨by rfl, fun w => by go_simp⟩) ?_
        refine wpAny_take (i := 2) (v := .int .u8 (s[k].toNat : Int)) rfl (by kernel_rfl) (by kernel_rfl) (by kernel_rfl) (fun _ _ _ h => h) (Or.inl ⟨by rfl, fun w => by go_simp⟩) ?_
        refine wpAny_ready (rs := [3, 4]) (by kernel_rfl) (by simp) (AllReady.cons rfl (fun K hK => ?_) (AllReady.cons rfl (fun K hK => ?_) AllReady.nil))
        · go_simp
          refine (letm_spec s[k] _ LS.out).mono ?_
          rintro e v1 ⟨rfl, b1⟩
          replace A2 := Lib.hid (A2.out.keep b1 A2.out.lt); replace A4 := Lib.hid (A4.out.keep b1 A4.out.lt); replace B1 := Lib.hid (B1.out.trans (b1.mono B1.out.size))
          clear b1
          refine hK _ _ ?_
          clear hK K
          refine wpAny_ready (rs := [4]) (by kernel_rfl) (by simp) (AllReady.cons rfl (fun K hK => ?_) AllReady.nil)
          have A40 := A4.out.cell (k := 0) rfl; have A41 := A4.out.cell (k := 1) rfl; have A42 := A4.out.cell (k := 2) rfl; have A43 := A4.out.cell (k := 3) rfl
          go_simp
          refine hK _ _ ?_
          clear hK K A40 A41 A42 A43
          refine wpAny_ready (rs := [5]) (by kernel_rfl) (by simp) (AllReady.cons rfl (fun K hK => ?_) AllReady.nil)
          go_simp
          refine (times_spec (letM s[k]) mk _).mono ?_
          rintro e v2 ⟨rfl, b1⟩
          replace A2 := Lib.hid (A2.out.keep b1 A2.out.lt); replace A4 := Lib.hid (A4.out.keep b1 A4.out.lt); replace B1 := Lib.hid (B1.out.trans (b1.mono B1.out.size))
          clear b1
          refine hK _ _ ?_
          clear hK K
          refine wpAny_ready (rs := [6]) (by kernel_rfl) (by simp) (AllReady.cons rfl (fun K hK => ?_) AllReady.nil)
          refine step_store_row rfl 23 _ _ rfl w1.heap.size #[.int .i64 (mulW (letM s[k]) mk).1, .int .i64 (mulW (letM s[k]) mk).2.1, .int .i64 (mulW (letM s[k]) mk).2.2.1, .int .i64 (mulW (letM s[k]) mk).2.2.2] rfl rfl 23 #[.int .i64 mk.1, .int .i64 mk.2.1, .int .i64 mk.2.2.1, .int .i64 mk.2.2.2] A4.out (sizeM _) rfl (by simp [Value.oneCell']) ?_
          change K (Act.put _ none _) _
          simp only [Act.put]
          refine hK _ _ ?_
          clear hK K
          refine wpAny_done (by kernel_rfl) ?_ _
          have HN : Hid (Arr (v2.setRow w1.heap.size #[.int .i64 (mulW (letM s[k]) mk).1, .int .i64 (mulW (letM s[k]) mk).2.1, .int .i64 (mulW (letM s[k]) mk).2.2.1, .int .i64 (mulW (letM s[k]) mk).2.2.2]) w1.heap.size (V (ents (mxW (s.data.toList.take (k + 1))))) 23) := Lib.hid (by rw [ST.out]; exact A4.out.row)
          have A2' : Hid (Arr (v2.setRow w1.heap.size #[.int .i64 (mulW (letM s[k]) mk).1, .int .i64 (mulW (letM s[k]) mk).2.1, .int .i64 (mulW (letM s[k]) mk).2.2.1, .int .i64 (mulW (letM s[k]) mk).2.2.2]) w.heap.size (V (ents zM)) 23) := Lib.hid (A2.out.rowOther (by omega))
          have B1' : Hid (Below w.heap.size w (v2.setRow w1.heap.size #[.int .i64 (mulW (letM s[k]) mk).1, .int .i64 (mulW (letM s[k]) mk).2.1, .int .i64 (mulW (letM s[k]) mk).2.2.1, .int .i64 (mulW (letM s[k]) mk).2.2.2])) := Lib.hid (below_setRow B1.out (by omega) _)
          generalize v2.setRow w1.heap.size #[.int .i64 (mulW (letM s[k]) mk).1, .int .i64 (mulW (letM s[k]) mk).2.1, .int .i64 (mulW (letM s[k]) mk).2.2.1, .int .i64 (mulW (letM s[k]) mk).2.2.2] = w9 at *
          clear A2 A4 B1
          go_wp2_with fail
          go_roundw
          case rel => exact ⟨k + 1, by omega, by go_num, A2', HN, B1'⟩
          case measure => simp [intOf]; omega
        · have A40 := A4.out.cell (k := 0) rfl; have A41 := A4.out.cell (k := 1) rfl; have A42 := A4.out.cell (k := 2) rfl; have A43 := A4.out.cell (k := 3) rfl
          go_simp
          refine hK _ _ ?_
          clear hK K A40 A41 A42 A43
          refine wpAny_ready (rs := [3]) (by kernel_rfl) (by simp) (AllReady.cons rfl (fun K hK => ?_) AllReady.nil)
          go_simp
          refine (letm_spec s[k] _ LS.out).mono ?_
          rintro e v1 ⟨rfl, b1⟩
          replace A2 := Lib.hid (A2.out.keep b1 A2.out.lt); replace A4 := Lib.hid (A4.out.keep b1 A4.out.lt); replace B1 := Lib.hid (B1.out.trans (b1.mono B1.out.size))
          clear b1
          refine hK _ _ ?_
          clear hK K
          refine wpAny_ready (rs := [5]) (by kernel_rfl) (by simp) (AllReady.cons rfl (fun K hK => ?_) AllReady.nil)
          go_simp
          refine (times_spec (letM s[k]) mk _).mono ?_
          rintro e v2 ⟨rfl, b1⟩
          replace A2 := Lib.hid (A2.out.keep b1 A2.out.lt); replace A4 := Lib.hid (A4.out.keep b1 A4.out.lt); replace B1 := Lib.hid (B1.out.trans (b1.mono B1.out.size))
          clear b1
          refine hK _ _ ?_
          clear hK K
          refine wpAny_ready (rs := [6]) (by kernel_rfl) (by simp) (AllReady.cons rfl (fun K hK => ?_) AllReady.nil)
          refine step_store_row rfl 23 _ _ rfl w1.heap.size #[.int .i64 (mulW (letM s[k]) mk).1, .int .i64 (mulW (letM s[k]) mk).2.1, .int .i64 (mulW (letM s[k]) mk).2.2.1, .int .i64 (mulW (letM s[k]) mk).2.2.2] rfl rfl 23 #[.int .i64 mk.1, .int .i64 mk.2.1, .int .i64 mk.2.2.1, .int .i64 mk.2.2.2] A4.out (sizeM _) rfl (by simp [Value.oneCell']) ?_
          change K (Act.put _ none _) _
          simp only [Act.put]
          refine hK _ _ ?_
          clear hK K
          refine wpAny_done (by kernel_rfl) ?_ _
          have HN : Hid (Arr (v2.setRow w1.heap.size #[.int .i64 (mulW (letM s[k]) mk).1, .int .i64 (mulW (letM s[k]) mk).2.1, .int .i64 (mulW (letM s[k]) mk).2.2.1, .int .i64 (mulW (letM s[k]) mk).2.2.2]) w1.heap.size (V (ents (mxW (s.data.toList.take (k + 1))))) 23) := Lib.hid (by rw [ST.out]; exact A4.out.row)
          have A2' : Hid (Arr (v2.setRow w1.heap.size #[.int .i64 (mulW (letM s[k]) mk).1, .int .i64 (mulW (letM s[k]) mk).2.1, .int .i64 (mulW (letM s[k]) mk).2.2.1, .int .i64 (mulW (letM s[k]) mk).2.2.2]) w.heap.size (V (ents zM)) 23) := Lib.hid (A2.out.rowOther (by omega))
          have B1' : Hid (Below w.heap.size w (v2.setRow w1.heap.size #[.int .i64 (mulW (letM s[k]) mk).1, .int .i64 (mulW (letM s[k]) mk).2.1, .int .i64 (mulW (letM s[k]) mk).2.2.1, .int .i64 (mulW (letM s[k]) mk).2.2.2])) := Lib.hid (below_setRow B1.out (by omega) _)
          generalize v2.setRow w1.heap.size #[.int .i64 (mulW (letM s[k]) mk).1, .int .i64 (mulW (letM s[k]) mk).2.1, .int .i64 (mulW (letM s[k]) mk).2.2.1, .int .i64 (mulW (letM s[k]) mk).2.2.2] = w9 at *
          clear A2 A4 B1
          go_wp2_with fail
          go_roundw
          case rel => exact ⟨k + 1, by omega, by go_num, A2', HN, B1'⟩
          case measure => simp [intOf]; omega
      · obtain rfl : k = s.size := by omega
        have e : s.data.toList.take s.size = s.data.toList := List.take_of_length_le (by simp)
        rw [e, ← HT.out] at A4; clear e
        obtain ⟨mk, hmk⟩ : ∃ q, q = mtF s := ⟨_, rfl⟩
        rw [← hmk] at A4
        have HTT := Lib.hid hmk.symm; clear hmk HT
        have A40 := A4.out.cell (k := 0) rfl; have A41 := A4.out.cell (k := 1) rfl; have A42 := A4.out.cell (k := 2) rfl; have A43 := A4.out.cell (k := 3) rfl
        go_wp2_with (refine wpList_store_row rfl 23 _ _ rfl w.heap.size #[.int .i64 mk.1, .int .i64 mk.2.1, .int .i64 mk.2.2.1, .int .i64 mk.2.2.2] rfl rfl 23 #[.int .i64 zM.1, .int .i64 zM.2.1, .int .i64 zM.2.2.1, .int .i64 zM.2.2.2] A2.out (sizeM _) rfl (by simp [Value.oneCell']) ?_)
        exact bodyPost_ret (v := .tuple #[mv mk, .bool true]) (permOf.results_cell_tmp rfl _ _ w.heap.size 23 #[.int .i64 mk.1, .int .i64 mk.2.1, .int .i64 mk.2.2.1, .int .i64 mk.2.2.2] (0, 0) _ _ rfl rfl A2.out.row Tryd.underlying23 rfl (sizeM _)) rfl (mt_post HTT.out HQ.out (below_setRow B1.out (by omega) _))
set_option maxHeartbeats 4000000 in
theorem mt_impl (s : ByteArray) (w : World) (hs : s.size ≤ 1048576) (tab : LM w) : Calls Tryd.prog 6 #[.string s] w (MtPost s w) := by
  have TAB := Lib.hid tab
  have tlt := tab.lt
  clear tab
  cases hq : wok s
  · have HQ := Lib.hid hq; have HT := Lib.hid (mt_no hq)
    go_enter Tryd.func6, Tryd.ntmps6
    go_wp2_with fail
    refine (lets_any s _ hs).mono ?_
    rintro e w1 ⟨v1, L, rfl, _, _, b1⟩
    rw [hq]
    have A2 : Hid (Arr w1 w.heap.size (V (ents zM)) 23) := Lib.hid ((Arr.new _ _ _ rfl).keep b1 (by simp))
    have B1 : Hid (Below w.heap.size w w1) := Lib.hid (((Below.refl _ _).alloc (Nat.le_refl _) _).trans (b1.mono (by simp)))
    clear b1 hq
    go_wp2_with (first | (refine wpList_build rfl 23 _ rfl [] rfl _ builtM ?_) | (refine wpList_store_row rfl 23 _ _ rfl w.heap.size #[.int .i64 zM.1, .int .i64 zM.2.1, .int .i64 zM.2.2.1, .int .i64 zM.2.2.2] rfl rfl 23 #[.int .i64 zM.1, .int .i64 zM.2.1, .int .i64 zM.2.2.1, .int .i64 zM.2.2.2] A2.out (sizeM _) rfl (by simp [Value.oneCell']) ?_))
    exact bodyPost_ret (v := .tuple #[mv zM, .bool false]) (permOf.results_cell_tmp rfl _ _ w.heap.size 23 #[.int .i64 zM.1, .int .i64 zM.2.1, .int .i64 zM.2.2.1, .int .i64 zM.2.2.2] (0, 0) _ _ rfl rfl A2.out.row Tryd.underlying23 rfl (sizeM _)) rfl (mt_post HT.out HQ.out (below_setRow B1.out (by omega) _))
  · have HQ := Lib.hid hq; have HT := Lib.hid (mt_yes hq)
    have h40 := wok_len hq
    go_enter Tryd.func6, Tryd.ntmps6
    go_wp2_with fail
    refine (lets_any s _ hs).mono ?_
    rintro e w1 ⟨v1, L, rfl, ho, hL, b1⟩
    obtain ⟨A, lc, rfl⟩ := own_form ho
    have A2 : Hid (Arr w1 w.heap.size (V (ents zM)) 23) := Lib.hid ((Arr.new _ _ _ rfl).keep b1 (by simp))
    have B1 : Hid (Below w.heap.size w w1) := Lib.hid (((Below.refl _ _).alloc (Nat.le_refl _) _).trans (b1.mono (by simp)))
    have s1 : w.heap.size < w1.heap.size := by have h := b1.size; simp at h; omega
    have hLn : L = nums s := by rw [hL, hq]; rfl
    rw [hq]
    have RL : Hid (Rd w1 w1.heap.size A s.size (V (nums s))) := Lib.hid (by rw [← hLn, ← nums_len, ← hLn]; exact (Row.of_own ho).rd)
    have hLl : L.length = s.size := by rw [hLn, nums_len]
    rw [hLl]
    clear b1 hq hL ho hLn hLl
    go_wp2_with fail
    generalize hw2 : w1.alloc (.cells #[.int .i64 1, .int .i64 0, .int .i64 0, .int .i64 1] 23) = w2
    have A4 : Hid (Arr w2 w1.heap.size (V (ents (mxW (s.data.toList.take 0)))) 23) := Lib.hid (by rw [← hw2]; exact Arr.new _ _ _ rfl)
    have b1 : Below w1.heap.size w1 w2 := by rw [← hw2]; exact (Below.refl _ _).alloc (Nat.le_refl _) _
    replace A2 := Lib.hid (A2.out.keep b1 A2.out.lt)
    replace B1 := Lib.hid (B1.out.trans (b1.mono B1.out.size))
    have BW : Hid (Below w1.heap.size w1 w2) := Lib.hid b1
    clear hw2 b1
    go_loopw [20] (fun i wr => ∃ k : Nat, k ≤ s.size ∧ i = .int .i64 k ∧ Hid (Arr wr w.heap.size (V (ents zM)) 23) ∧ Hid (Arr wr (w1.heap.size) (V (ents (mxW (s.data.toList.take k)))) 23) ∧ Hid (Below w.heap.size w wr) ∧ Hid (Below w1.heap.size w1 wr)) (fun i _ => s.size - (intOf i).toNat)
    case atStart => exact ⟨0, Nat.zero_le _, rfl, A2, A4, B1, BW⟩
    case round =>
      clear A2 A4 B1 BW
      obtain ⟨k, hk, rfl, A2, A4, B1, BW⟩ := hrel
      by_cases hlt : k < s.size
      · have LS := Lib.hid (wok_at HQ.out hlt)
        have ST := Lib.hid (mxW_take hlt)
        generalize (mxW (s.data.toList.take k)) = mk at *
        obtain ⟨go, oo, uo, rfl, hgo, huo, hco⟩ := (RL.out.keep BW.out (Nat.le_refl _)).at_ hlt
        rw [V_get (nums_at hlt)] at huo
        obtain rfl := Option.some.inj huo
        clear huo
        rcases num_cases LS.out with ⟨c1, c2⟩ | ⟨c1, c2⟩ | ⟨c1, c2⟩ | ⟨c1, c2⟩
        · rw [c2] at hco
          rw [lm84 c1] at ST
          clear c1 c2 LS
          go_wp2_with fail
          refine wp_region_still_tail 4 (by kernel_rfl) (by kernel_rfl) ?_
          simp only [List.take_succ_cons, List.take_zero, List.drop_succ_cons, List.drop_zero]
          have b1 : Below wr.heap.size wr wr.drew := ⟨rfl, rfl, rfl, Nat.le_refl _, fun _ _ => rfl⟩
          change wpStill _ _ wr.drew _ _ _
          replace A2 := Lib.hid (A2.out.keep b1 A2.out.lt); replace A4 := Lib.hid (A4.out.keep b1 A4.out.lt); replace B1 := Lib.hid (B1.out.trans (b1.mono B1.out.size)); replace BW := Lib.hid (BW.out.trans (b1.mono BW.out.size))
          have TW := Lib.hid (TAB.out.keep B1.out tlt)
          generalize hw4 : wr.drew = v0 at *
          clear b1 hco
          refine still_take (v := .int .i64 0) (Or.inl ⟨by rfl, fun w hSw => by go_simp⟩) ?_
          refine still_take (v := .pointer (some ⟨0, 0, none⟩)) (Or.inl ⟨by rfl, fun w hSw => by go_simp⟩) ?_
          refine still_take (v := mv (1, 1, 0, 1)) (Or.inl ⟨by rfl, fun W hSw => by subst hSw; have t0 := TW.out.cell (i := 0) rfl; have t1 := TW.out.cell (i := 1) rfl; have t2 := TW.out.cell (i := 2) rfl; have t3 := TW.out.cell (i := 3) rfl; unfold mv; go_simp⟩) ?_
          refine still_take (v := mv mk) (Or.inl ⟨by rfl, fun W hSw => by subst hSw; have t0 := A4.out.cell (k := 0) rfl; have t1 := A4.out.cell (k := 1) rfl; have t2 := A4.out.cell (k := 2) rfl; have t3 := A4.out.cell (k := 3) rfl; unfold mv; go_simp⟩) ?_
          refine wpStill_nil ?_
          change wpList _ _ _ _ _ wr.drew
          rw [hw4]
          clear hw4
          go_wp2_with fail
          refine (times_impl (1, 1, 0, 1) mk _).mono ?_
          rintro e v2 ⟨rfl, b1⟩
          rw [← ST.out]
          replace A2 := Lib.hid (A2.out.keep b1 A2.out.lt); replace A4 := Lib.hid (A4.out.keep b1 A4.out.lt); replace B1 := Lib.hid (B1.out.trans (b1.mono B1.out.size)); replace BW := Lib.hid (BW.out.trans (b1.mono BW.out.size))
          clear b1 TW
          obtain ⟨mk1, hmk1⟩ : ∃ q, q = (mxW (s.data.toList.take (k + 1))) := ⟨_, rfl⟩
          rw [← hmk1]
          rw [← hmk1] at ST
          have HM1 := Lib.hid hmk1; clear hmk1
          unfold mv
          go_wp2_with (refine wpList_store_row rfl 23 _ _ rfl w1.heap.size #[.int .i64 mk1.1, .int .i64 mk1.2.1, .int .i64 mk1.2.2.1, .int .i64 mk1.2.2.2] rfl rfl 23 #[.int .i64 mk.1, .int .i64 mk.2.1, .int .i64 mk.2.2.1, .int .i64 mk.2.2.2] A4.out (sizeM _) rfl (by simp [Value.oneCell']) ?_)
          have HN : Hid (Arr (v2.setRow w1.heap.size #[.int .i64 mk1.1, .int .i64 mk1.2.1, .int .i64 mk1.2.2.1, .int .i64 mk1.2.2.2]) w1.heap.size (V (ents mk1)) 23) := Lib.hid A4.out.row
          replace A2 : Hid (Arr (v2.setRow w1.heap.size #[.int .i64 mk1.1, .int .i64 mk1.2.1, .int .i64 mk1.2.2.1, .int .i64 mk1.2.2.2]) w.heap.size (V (ents zM)) 23) := Lib.hid (A2.out.rowOther (by omega))
          replace B1 : Hid (Below w.heap.size w (v2.setRow w1.heap.size #[.int .i64 mk1.1, .int .i64 mk1.2.1, .int .i64 mk1.2.2.1, .int .i64 mk1.2.2.2])) := Lib.hid (below_setRow B1.out (by omega) _)
          replace BW : Hid (Below w1.heap.size w1 (v2.setRow w1.heap.size #[.int .i64 mk1.1, .int .i64 mk1.2.1, .int .i64 mk1.2.2.1, .int .i64 mk1.2.2.2])) := Lib.hid (below_setRow BW.out (Nat.le_refl _) _)
          generalize v2.setRow w1.heap.size #[.int .i64 mk1.1, .int .i64 mk1.2.1, .int .i64 mk1.2.2.1, .int .i64 mk1.2.2.2] = w9 at *
          clear A4
          go_wp2_with fail
          go_roundw
          case rel => exact ⟨k + 1, by omega, by go_num, A2, by rw [← HM1.out]; exact HN, B1, BW⟩
          case measure => simp [intOf]; omega
        · rw [c2] at hco
          rw [lm116 c1] at ST
          clear c1 c2 LS
          go_wp2_with fail
          refine wp_region_still_tail 4 (by kernel_rfl) (by kernel_rfl) ?_
          simp only [List.take_succ_cons, List.take_zero, List.drop_succ_cons, List.drop_zero]
          have b1 : Below wr.heap.size wr wr.drew := ⟨rfl, rfl, rfl, Nat.le_refl _, fun _ _ => rfl⟩
          change wpStill _ _ wr.drew _ _ _
          replace A2 := Lib.hid (A2.out.keep b1 A2.out.lt); replace A4 := Lib.hid (A4.out.keep b1 A4.out.lt); replace B1 := Lib.hid (B1.out.trans (b1.mono B1.out.size)); replace BW := Lib.hid (BW.out.trans (b1.mono BW.out.size))
          have TW := Lib.hid (TAB.out.keep B1.out tlt)
          generalize hw4 : wr.drew = v0 at *
          clear b1 hco
          refine still_take (v := .int .i64 1) (Or.inl ⟨by rfl, fun w hSw => by go_simp⟩) ?_
          refine still_take (v := .pointer (some ⟨0, 4, none⟩)) (Or.inl ⟨by rfl, fun w hSw => by go_simp⟩) ?_
          refine still_take (v := mv (1, -1, 0, 1)) (Or.inl ⟨by rfl, fun W hSw => by subst hSw; have t0 := TW.out.cell (i := 4) rfl; have t1 := TW.out.cell (i := 5) rfl; have t2 := TW.out.cell (i := 6) rfl; have t3 := TW.out.cell (i := 7) rfl; unfold mv; go_simp⟩) ?_
          refine still_take (v := mv mk) (Or.inl ⟨by rfl, fun W hSw => by subst hSw; have t0 := A4.out.cell (k := 0) rfl; have t1 := A4.out.cell (k := 1) rfl; have t2 := A4.out.cell (k := 2) rfl; have t3 := A4.out.cell (k := 3) rfl; unfold mv; go_simp⟩) ?_
          refine wpStill_nil ?_
          change wpList _ _ _ _ _ wr.drew
          rw [hw4]
          clear hw4
          go_wp2_with fail
          refine (times_impl (1, -1, 0, 1) mk _).mono ?_
          rintro e v2 ⟨rfl, b1⟩
          rw [← ST.out]
          replace A2 := Lib.hid (A2.out.keep b1 A2.out.lt); replace A4 := Lib.hid (A4.out.keep b1 A4.out.lt); replace B1 := Lib.hid (B1.out.trans (b1.mono B1.out.size)); replace BW := Lib.hid (BW.out.trans (b1.mono BW.out.size))
          clear b1 TW
          obtain ⟨mk1, hmk1⟩ : ∃ q, q = (mxW (s.data.toList.take (k + 1))) := ⟨_, rfl⟩
          rw [← hmk1]
          rw [← hmk1] at ST
          have HM1 := Lib.hid hmk1; clear hmk1
          unfold mv
          go_wp2_with (refine wpList_store_row rfl 23 _ _ rfl w1.heap.size #[.int .i64 mk1.1, .int .i64 mk1.2.1, .int .i64 mk1.2.2.1, .int .i64 mk1.2.2.2] rfl rfl 23 #[.int .i64 mk.1, .int .i64 mk.2.1, .int .i64 mk.2.2.1, .int .i64 mk.2.2.2] A4.out (sizeM _) rfl (by simp [Value.oneCell']) ?_)
          have HN : Hid (Arr (v2.setRow w1.heap.size #[.int .i64 mk1.1, .int .i64 mk1.2.1, .int .i64 mk1.2.2.1, .int .i64 mk1.2.2.2]) w1.heap.size (V (ents mk1)) 23) := Lib.hid A4.out.row
          replace A2 : Hid (Arr (v2.setRow w1.heap.size #[.int .i64 mk1.1, .int .i64 mk1.2.1, .int .i64 mk1.2.2.1, .int .i64 mk1.2.2.2]) w.heap.size (V (ents zM)) 23) := Lib.hid (A2.out.rowOther (by omega))
          replace B1 : Hid (Below w.heap.size w (v2.setRow w1.heap.size #[.int .i64 mk1.1, .int .i64 mk1.2.1, .int .i64 mk1.2.2.1, .int .i64 mk1.2.2.2])) := Lib.hid (below_setRow B1.out (by omega) _)
          replace BW : Hid (Below w1.heap.size w1 (v2.setRow w1.heap.size #[.int .i64 mk1.1, .int .i64 mk1.2.1, .int .i64 mk1.2.2.1, .int .i64 mk1.2.2.2])) := Lib.hid (below_setRow BW.out (Nat.le_refl _) _)
          generalize v2.setRow w1.heap.size #[.int .i64 mk1.1, .int .i64 mk1.2.1, .int .i64 mk1.2.2.1, .int .i64 mk1.2.2.2] = w9 at *
          clear A4
          go_wp2_with fail
          go_roundw
          case rel => exact ⟨k + 1, by omega, by go_num, A2, by rw [← HM1.out]; exact HN, B1, BW⟩
          case measure => simp [intOf]; omega
        · rw [c2] at hco
          rw [lm83 c1] at ST
          clear c1 c2 LS
          go_wp2_with fail
          refine wp_region_still_tail 4 (by kernel_rfl) (by kernel_rfl) ?_
          simp only [List.take_succ_cons, List.take_zero, List.drop_succ_cons, List.drop_zero]
          have b1 : Below wr.heap.size wr wr.drew := ⟨rfl, rfl, rfl, Nat.le_refl _, fun _ _ => rfl⟩
          change wpStill _ _ wr.drew _ _ _
          replace A2 := Lib.hid (A2.out.keep b1 A2.out.lt); replace A4 := Lib.hid (A4.out.keep b1 A4.out.lt); replace B1 := Lib.hid (B1.out.trans (b1.mono B1.out.size)); replace BW := Lib.hid (BW.out.trans (b1.mono BW.out.size))
          have TW := Lib.hid (TAB.out.keep B1.out tlt)
          generalize hw4 : wr.drew = v0 at *
          clear b1 hco
          refine still_take (v := .int .i64 2) (Or.inl ⟨by rfl, fun w hSw => by go_simp⟩) ?_
          refine still_take (v := .pointer (some ⟨0, 8, none⟩)) (Or.inl ⟨by rfl, fun w hSw => by go_simp⟩) ?_
          refine still_take (v := mv (0, -1, 1, 0)) (Or.inl ⟨by rfl, fun W hSw => by subst hSw; have t0 := TW.out.cell (i := 8) rfl; have t1 := TW.out.cell (i := 9) rfl; have t2 := TW.out.cell (i := 10) rfl; have t3 := TW.out.cell (i := 11) rfl; unfold mv; go_simp⟩) ?_
          refine still_take (v := mv mk) (Or.inl ⟨by rfl, fun W hSw => by subst hSw; have t0 := A4.out.cell (k := 0) rfl; have t1 := A4.out.cell (k := 1) rfl; have t2 := A4.out.cell (k := 2) rfl; have t3 := A4.out.cell (k := 3) rfl; unfold mv; go_simp⟩) ?_
          refine wpStill_nil ?_
          change wpList _ _ _ _ _ wr.drew
          rw [hw4]
          clear hw4
          go_wp2_with fail
          refine (times_impl (0, -1, 1, 0) mk _).mono ?_
          rintro e v2 ⟨rfl, b1⟩
          rw [← ST.out]
          replace A2 := Lib.hid (A2.out.keep b1 A2.out.lt); replace A4 := Lib.hid (A4.out.keep b1 A4.out.lt); replace B1 := Lib.hid (B1.out.trans (b1.mono B1.out.size)); replace BW := Lib.hid (BW.out.trans (b1.mono BW.out.size))
          clear b1 TW
          obtain ⟨mk1, hmk1⟩ : ∃ q, q = (mxW (s.data.toList.take (k + 1))) := ⟨_, rfl⟩
          rw [← hmk1]
          rw [← hmk1] at ST
          have HM1 := Lib.hid hmk1; clear hmk1
          unfold mv
          go_wp2_with (refine wpList_store_row rfl 23 _ _ rfl w1.heap.size #[.int .i64 mk1.1, .int .i64 mk1.2.1, .int .i64 mk1.2.2.1, .int .i64 mk1.2.2.2] rfl rfl 23 #[.int .i64 mk.1, .int .i64 mk.2.1, .int .i64 mk.2.2.1, .int .i64 mk.2.2.2] A4.out (sizeM _) rfl (by simp [Value.oneCell']) ?_)
          have HN : Hid (Arr (v2.setRow w1.heap.size #[.int .i64 mk1.1, .int .i64 mk1.2.1, .int .i64 mk1.2.2.1, .int .i64 mk1.2.2.2]) w1.heap.size (V (ents mk1)) 23) := Lib.hid A4.out.row
          replace A2 : Hid (Arr (v2.setRow w1.heap.size #[.int .i64 mk1.1, .int .i64 mk1.2.1, .int .i64 mk1.2.2.1, .int .i64 mk1.2.2.2]) w.heap.size (V (ents zM)) 23) := Lib.hid (A2.out.rowOther (by omega))
          replace B1 : Hid (Below w.heap.size w (v2.setRow w1.heap.size #[.int .i64 mk1.1, .int .i64 mk1.2.1, .int .i64 mk1.2.2.1, .int .i64 mk1.2.2.2])) := Lib.hid (below_setRow B1.out (by omega) _)
          replace BW : Hid (Below w1.heap.size w1 (v2.setRow w1.heap.size #[.int .i64 mk1.1, .int .i64 mk1.2.1, .int .i64 mk1.2.2.1, .int .i64 mk1.2.2.2])) := Lib.hid (below_setRow BW.out (Nat.le_refl _) _)
          generalize v2.setRow w1.heap.size #[.int .i64 mk1.1, .int .i64 mk1.2.1, .int .i64 mk1.2.2.1, .int .i64 mk1.2.2.2] = w9 at *
          clear A4
          go_wp2_with fail
          go_roundw
          case rel => exact ⟨k + 1, by omega, by go_num, A2, by rw [← HM1.out]; exact HN, B1, BW⟩
          case measure => simp [intOf]; omega
        · rw [c2] at hco
          rw [lm115 c1] at ST
          clear c1 c2 LS
          go_wp2_with fail
          refine wp_region_still_tail 4 (by kernel_rfl) (by kernel_rfl) ?_
          simp only [List.take_succ_cons, List.take_zero, List.drop_succ_cons, List.drop_zero]
          have b1 : Below wr.heap.size wr wr.drew := ⟨rfl, rfl, rfl, Nat.le_refl _, fun _ _ => rfl⟩
          change wpStill _ _ wr.drew _ _ _
          replace A2 := Lib.hid (A2.out.keep b1 A2.out.lt); replace A4 := Lib.hid (A4.out.keep b1 A4.out.lt); replace B1 := Lib.hid (B1.out.trans (b1.mono B1.out.size)); replace BW := Lib.hid (BW.out.trans (b1.mono BW.out.size))
          have TW := Lib.hid (TAB.out.keep B1.out tlt)
          generalize hw4 : wr.drew = v0 at *
          clear b1 hco
          refine still_take (v := .int .i64 3) (Or.inl ⟨by rfl, fun w hSw => by go_simp⟩) ?_
          refine still_take (v := .pointer (some ⟨0, 12, none⟩)) (Or.inl ⟨by rfl, fun w hSw => by go_simp⟩) ?_
          refine still_take (v := mv (0, 1, -1, 0)) (Or.inl ⟨by rfl, fun W hSw => by subst hSw; have t0 := TW.out.cell (i := 12) rfl; have t1 := TW.out.cell (i := 13) rfl; have t2 := TW.out.cell (i := 14) rfl; have t3 := TW.out.cell (i := 15) rfl; unfold mv; go_simp⟩) ?_
          refine still_take (v := mv mk) (Or.inl ⟨by rfl, fun W hSw => by subst hSw; have t0 := A4.out.cell (k := 0) rfl; have t1 := A4.out.cell (k := 1) rfl; have t2 := A4.out.cell (k := 2) rfl; have t3 := A4.out.cell (k := 3) rfl; unfold mv; go_simp⟩) ?_
          refine wpStill_nil ?_
          change wpList _ _ _ _ _ wr.drew
          rw [hw4]
          clear hw4
          go_wp2_with fail
          refine (times_impl (0, 1, -1, 0) mk _).mono ?_
          rintro e v2 ⟨rfl, b1⟩
          rw [← ST.out]
          replace A2 := Lib.hid (A2.out.keep b1 A2.out.lt); replace A4 := Lib.hid (A4.out.keep b1 A4.out.lt); replace B1 := Lib.hid (B1.out.trans (b1.mono B1.out.size)); replace BW := Lib.hid (BW.out.trans (b1.mono BW.out.size))
          clear b1 TW
          obtain ⟨mk1, hmk1⟩ : ∃ q, q = (mxW (s.data.toList.take (k + 1))) := ⟨_, rfl⟩
          rw [← hmk1]
          rw [← hmk1] at ST
          have HM1 := Lib.hid hmk1; clear hmk1
          unfold mv
          go_wp2_with (refine wpList_store_row rfl 23 _ _ rfl w1.heap.size #[.int .i64 mk1.1, .int .i64 mk1.2.1, .int .i64 mk1.2.2.1, .int .i64 mk1.2.2.2] rfl rfl 23 #[.int .i64 mk.1, .int .i64 mk.2.1, .int .i64 mk.2.2.1, .int .i64 mk.2.2.2] A4.out (sizeM _) rfl (by simp [Value.oneCell']) ?_)
          have HN : Hid (Arr (v2.setRow w1.heap.size #[.int .i64 mk1.1, .int .i64 mk1.2.1, .int .i64 mk1.2.2.1, .int .i64 mk1.2.2.2]) w1.heap.size (V (ents mk1)) 23) := Lib.hid A4.out.row
          replace A2 : Hid (Arr (v2.setRow w1.heap.size #[.int .i64 mk1.1, .int .i64 mk1.2.1, .int .i64 mk1.2.2.1, .int .i64 mk1.2.2.2]) w.heap.size (V (ents zM)) 23) := Lib.hid (A2.out.rowOther (by omega))
          replace B1 : Hid (Below w.heap.size w (v2.setRow w1.heap.size #[.int .i64 mk1.1, .int .i64 mk1.2.1, .int .i64 mk1.2.2.1, .int .i64 mk1.2.2.2])) := Lib.hid (below_setRow B1.out (by omega) _)
          replace BW : Hid (Below w1.heap.size w1 (v2.setRow w1.heap.size #[.int .i64 mk1.1, .int .i64 mk1.2.1, .int .i64 mk1.2.2.1, .int .i64 mk1.2.2.2])) := Lib.hid (below_setRow BW.out (Nat.le_refl _) _)
          generalize v2.setRow w1.heap.size #[.int .i64 mk1.1, .int .i64 mk1.2.1, .int .i64 mk1.2.2.1, .int .i64 mk1.2.2.2] = w9 at *
          clear A4
          go_wp2_with fail
          go_roundw
          case rel => exact ⟨k + 1, by omega, by go_num, A2, by rw [← HM1.out]; exact HN, B1, BW⟩
          case measure => simp [intOf]; omega
      · obtain rfl : k = s.size := by omega
        have e : s.data.toList.take s.size = s.data.toList := List.take_of_length_le (by simp)
        rw [e, ← HT.out] at A4; clear e
        obtain ⟨mk, hmk⟩ : ∃ q, q = mtF s := ⟨_, rfl⟩
        rw [← hmk] at A4
        have HTT := Lib.hid hmk.symm; clear hmk HT
        have A40 := A4.out.cell (k := 0) rfl; have A41 := A4.out.cell (k := 1) rfl; have A42 := A4.out.cell (k := 2) rfl; have A43 := A4.out.cell (k := 3) rfl
        go_wp2_with (refine wpList_store_row rfl 23 _ _ rfl w.heap.size #[.int .i64 mk.1, .int .i64 mk.2.1, .int .i64 mk.2.2.1, .int .i64 mk.2.2.2] rfl rfl 23 #[.int .i64 zM.1, .int .i64 zM.2.1, .int .i64 zM.2.2.1, .int .i64 zM.2.2.2] A2.out (sizeM _) rfl (by simp [Value.oneCell']) ?_)
        exact bodyPost_ret (v := .tuple #[mv mk, .bool true]) (permOf.results_cell_tmp rfl _ _ w.heap.size 23 #[.int .i64 mk.1, .int .i64 mk.2.1, .int .i64 mk.2.2.1, .int .i64 mk.2.2.2] (0, 0) _ _ rfl rfl A2.out.row Tryd.underlying23 rfl (sizeM _)) rfl (mt_post HTT.out HQ.out (below_setRow B1.out (by omega) _))
theorem eqM2_any (m : mx.Mx) (w : World) : Calls Tryd.prog 7 #[mv m, mv m] w fun e w' => e = .returned (.bool true) ∧ Below w.heap.size w w' := eqM_any m w
end Go.Proofs.YtdoohnphgembdaaDoor.mt
