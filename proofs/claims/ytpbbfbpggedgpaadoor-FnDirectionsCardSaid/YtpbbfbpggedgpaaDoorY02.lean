import Derived.Test.YtpbbfbpggedgpaaDoorY01
import Derived.Lib.SmallJoins
import Derived.Laws.CopyOwn
/-
  Contracts of impl.permOf, impl.permsOf.
-/
namespace Go.Proofs.YtpbbfbpggedgpaaDoor.permOf
open Go.ChangeShapes Go.WideShapes Go.ChangeAt Go.RowKit
open Go.Proofs.YtpbbfbpggedgpaaDoor.mem Go.Proofs.YtpbbfbpggedgpaaDoor.ints Go.Proofs.YtpbbfbpggedgpaaDoor.arr Go.Proofs.YtpbbfbpggedgpaaDoor.pm Go.Proofs.YtpbbfbpggedgpaaDoor.permOk
set_option linter.unusedVariables false
set_option maxRecDepth 100000

theorem results_cell_tmp {P : Program} {fn : Func} {p q : Tmp} {ty : TypeId} (h : fn.results = #[.cell p ty, .tmp q]) (tmps : Array Value) (w : World) (g : Nat) (t : TypeId) (cs : Array Value) (fr : Nat × Nat) (d : TypeDesc) (v : Value)
    (hp : tmps.getD p undef = .pointer (some ⟨g, 0, none⟩)) (hq : tmps.getD q undef = v) (hg : w.heap[g]? = some (.cells cs t fr))
    (hu : P.underlying ty = some d) (hd : (match d with | .struct _ | .array _ _ => true | _ => false) = true) (hi : (P.info? ty).map (·.size) = some cs.size) :
    (results fn tmps).run P w = .ok (.tuple #[.agg cs, v]) w := by
  have hp' : tmps[p]?.getD undef = .pointer (some ⟨g, 0, none⟩) := by simpa using hp
  have hq' : tmps[q]?.getD undef = v := by simpa using hq
  simp [results, h, hp', hq', asAddr, run_loadVar_row w g t ty cs fr d hg hu hd hi]
theorem results_cell2_tmp {P : Program} {fn : Func} {p p2 q : Tmp} {ty : TypeId} (h : fn.results = #[.cell p ty, .cell p2 ty, .tmp q]) (tmps : Array Value) (w : World) (g g2 : Nat) (t : TypeId) (cs cs2 : Array Value) (fr : Nat × Nat) (d : TypeDesc) (v : Value)
    (hp : tmps.getD p undef = .pointer (some ⟨g, 0, none⟩)) (hp2 : tmps.getD p2 undef = .pointer (some ⟨g2, 0, none⟩)) (hq : tmps.getD q undef = v) (hg : w.heap[g]? = some (.cells cs t fr)) (hg2 : w.heap[g2]? = some (.cells cs2 t fr))
    (hu : P.underlying ty = some d) (hd : (match d with | .struct _ | .array _ _ => true | _ => false) = true) (hi : (P.info? ty).map (·.size) = some cs.size) (hi2 : (P.info? ty).map (·.size) = some cs2.size) :
    (results fn tmps).run P w = .ok (.tuple #[.agg cs, .agg cs2, v]) w := by
  have hp' : tmps[p]?.getD undef = .pointer (some ⟨g, 0, none⟩) := by simpa using hp
  have hp2' : tmps[p2]?.getD undef = .pointer (some ⟨g2, 0, none⟩) := by simpa using hp2
  have hq' : tmps[q]?.getD undef = v := by simpa using hq
  simp [results, h, hp', hp2', hq', asAddr, run_loadVar_row w g t ty cs fr d hg hu hd hi, run_loadVar_row w g2 t ty cs2 fr d hg2 hu hd hi2]

def VB (l : List Bool) : List Value := l.map Value.bool
theorem VB_set (l : List Bool) (k : Nat) (b : Bool) : (VB l).set k (.bool b) = VB (l.set k b) := by simp [VB, List.map_set]
theorem flags_cell {w : World} {g : Nat} {f : Nat → Bool} {t : TypeId} (h : Arr w g (VB (tabB f)) t) {k : Nat} (hk : k < 24) {b : Bool} (hb : f k = b) : w.cell? ⟨g, k, none⟩ = some (.bool b) :=
  h.cell (by simp [VB, tabB_at f hk, hb])

def PRel (xs : List Int) (R G : Nat) (w wr : World) (k : Nat) : Prop :=
  Arr wr R (V zeros) 67 ∧ Arr wr G (V (extTo xs k)) 67 ∧ Arr wr (G + 1) (VB (flags xs k)) 95 ∧ Below w.heap.size w wr ∧ OkTo xs k
def PermPost (xs : List Int) (w : World) (e : Ending) (w' : World) : Prop := e = .returned (.tuple #[.agg (V (pv xs)).toArray, .bool (okB xs)]) ∧ Below w.heap.size w w'
theorem post_no {xs : List Int} {w w' : World} (h : okB xs = false) (hb : Below w.heap.size w w') : PermPost xs w (.returned (.tuple #[.agg (V zeros).toArray, .bool false])) w' := by
  refine ⟨?_, hb⟩
  unfold pv
  simp [h]
theorem post_yes {xs : List Int} {w w' : World} (h : okB xs = true) (hb : Below w.heap.size w w') : PermPost xs w (.returned (.tuple #[.agg (V (ext xs)).toArray, .bool true])) w' := by
  refine ⟨?_, hb⟩
  unfold pv
  simp [h]
theorem flags_zero (xs : List Int) : flags xs 0 = List.replicate 24 false := by
  simp only [flags, List.take_zero, List.not_mem_nil, decide_false]; decide

set_option maxHeartbeats 1000000 in
theorem permOf_any (A : Option Addr) (n c : Nat) (xs : List Int) (hi : Nat) (w : World) (hx : Rd w hi A n (V xs)) (hn : n ≤ 1048576) :
    Calls Tryd.prog 37 #[.slice A n c] w (PermPost xs w) := by
  have lx : xs.length = n := by simpa [V] using hx.1
  have LX := Lib.hid lx; clear lx
  have HX := Lib.hid hx; clear hx
  by_cases h24 : 24 < n
  · have E := Lib.hid (okB_long (xs := xs) (by rw [LX.out]; exact h24))
    have N := Lib.hid (Arr.new w (V zeros) 67 rfl)
    go_enter Tryd.func37, Tryd.ntmps37
    go_wp2_with (refine wpList_store_row rfl 67 _ _ rfl w.heap.size (V zeros).toArray rfl rfl 67 (V zeros).toArray N.out (size_V zeros_len) rfl (one_V _) ?_)
    exact bodyPost_ret (v := .tuple #[.agg (V zeros).toArray, .bool false]) (results_cell_tmp rfl _ _ w.heap.size 67 (V zeros).toArray (0, 0) _ _ rfl rfl N.out.row Tryd.underlying67 rfl (size_V zeros_len)) rfl (post_no E.out (below_setRow ((Below.refl _ _).alloc (Nat.le_refl _) _) (Nat.le_refl _) _))
  have N := Lib.hid (Arr.new w (V zeros) 67 rfl)
  go_enter Tryd.func37, Tryd.ntmps37
  go_wp2_with fail
  refine (staying_any _).mono ?_
  rintro e w1 ⟨rfl, b1⟩
  have hs1 : w.heap.size + 1 ≤ w1.heap.size := by have := b1.size; simpa using this
  have A1 := Lib.hid (N.out.keep b1 (by simp))
  have B1 : Hid (Below w.heap.size w w1) := Lib.hid (((Below.refl _ _).alloc (Nat.le_refl _) _).trans (b1.mono (by simp)))
  clear b1
  go_wp2_with (refine wpList_store_row rfl 67 _ _ rfl w1.heap.size (V idl).toArray rfl rfl 67 (V zeros).toArray (Arr.new w1 (V zeros) _ rfl) (size_V (tab_len _)) rfl (one_V _) ?_)
  go_loopw [15] (fun i wr => ∃ k : Nat, k ≤ n ∧ i = .int .i64 k ∧ PRel xs w.heap.size w1.heap.size w wr k) (fun i _ => n - (intOf i).toNat)
  case atStart =>
    refine ⟨0, Nat.zero_le _, rfl, ((A1.out.alloc _).rowOther (by omega)).alloc _, ?_, ?_, (below_setRow (B1.out.alloc B1.out.size _) (by omega) _).alloc (by simp; omega) _, fun i hi => by omega⟩
    · rw [extTo_zero]
      exact (Arr.new w1 (V zeros) _ rfl).row.alloc _
    · rw [flags_zero]
      exact Arr.new _ (VB (List.replicate 24 false)) _ (by simp)
  case round =>
    obtain ⟨k, hk, rfl, hp⟩ := hrel
    have HP := Lib.hid hp; clear hp
    by_cases hlt : k < n
    · obtain ⟨g, off, u, rfl, hgl, hxu, hcx⟩ := HX.out.at_ hlt
      obtain ⟨s, hxs, rfl⟩ := V_at hxu
      have HG := Lib.hid (getD_of hxs)
      clear hxs hxu
      have hgw : g < w.heap.size := Nat.lt_of_lt_of_le hgl HX.out.2.1
      rw [← HP.out.2.2.2.1.cell (p := ⟨g, off + k, none⟩) hgw] at hcx
      clear hgl hgw
      have arm := HP.out.1
      have ARM := Lib.hid arm; clear arm
      by_cases hbad : s < 0 ∨ (n : Int) ≤ s
      · have HF : Hid (okB xs = false) := Lib.hid (okB_bad (k := k) (by rw [LX.out]; exact hlt) (by rw [HG.out, LX.out]; omega))
        by_cases hneg : s < 0
        · clear hbad
          go_wp2_with (refine wpList_store_row rfl 67 _ _ rfl w.heap.size (V zeros).toArray rfl rfl 67 (V zeros).toArray ARM.out (size_V zeros_len) rfl (one_V _) ?_)
          exact bodyPost_ret (v := .tuple #[.agg (V zeros).toArray, .bool false]) (results_cell_tmp rfl _ _ w.heap.size 67 (V zeros).toArray (0, 0) _ _ rfl rfl ARM.out.row Tryd.underlying67 rfl (size_V zeros_len)) rfl (post_no HF.out (below_setRow HP.out.2.2.2.1 (Nat.le_refl _) _))
        · have hge : (n : Int) ≤ s := by omega
          have hd : decide (s < 0) = false := by simp; omega
          clear hbad
          go_wp2_with (refine wpList_store_row rfl 67 _ _ rfl w.heap.size (V zeros).toArray rfl rfl 67 (V zeros).toArray ARM.out (size_V zeros_len) rfl (one_V _) ?_)
          exact bodyPost_ret (v := .tuple #[.agg (V zeros).toArray, .bool false]) (results_cell_tmp rfl _ _ w.heap.size 67 (V zeros).toArray (0, 0) _ _ rfl rfl ARM.out.row Tryd.underlying67 rfl (size_V zeros_len)) rfl (post_no HF.out (below_setRow HP.out.2.2.2.1 (Nat.le_refl _) _))
      · have i1 : 0 ≤ s := by omega
        have i2 : s < n := by omega
        clear hbad
        obtain ⟨z, rfl⟩ := Int.eq_ofNat_of_zero_le i1
        have hz : z < n := by omega
        have hz24 : z < 24 := by omega
        clear i1 i2
        by_cases hin : (z : Int) ∈ xs.take k
        · have HF : Hid (okB xs = false) := Lib.hid (okB_dup (k := k) (by rw [LX.out]; exact hlt) (by rw [HG.out]; exact hin))
          have hfl : wr.cell? ⟨w1.heap.size + 1, z, none⟩ = some (.bool true) := flags_cell HP.out.2.2.1 hz24 (by simpa using hin)
          clear hin
          go_wp2_with (refine wpList_store_row rfl 67 _ _ rfl w.heap.size (V zeros).toArray rfl rfl 67 (V zeros).toArray ARM.out (size_V zeros_len) rfl (one_V _) ?_)
          exact bodyPost_ret (v := .tuple #[.agg (V zeros).toArray, .bool false]) (results_cell_tmp rfl _ _ w.heap.size 67 (V zeros).toArray (0, 0) _ _ rfl rfl ARM.out.row Tryd.underlying67 rfl (size_V zeros_len)) rfl (post_no HF.out (below_setRow HP.out.2.2.2.1 (Nat.le_refl _) _))
        · have hfl : wr.cell? ⟨w1.heap.size + 1, z, none⟩ = some (.bool false) := flags_cell HP.out.2.2.1 hz24 (by simpa using hin)
          have hff := HP.out.2.2.1.frozen z
          have hc2 : wr.cell? ⟨w1.heap.size, k, none⟩ = some (.int .i64 ((extTo xs k).getD k 0)) := HP.out.2.1.cell (V_getD (by rw [extTo, tab_len]; omega))
          have hf2 := HP.out.2.1.frozen k
          have HIN := Lib.hid hin; clear hin
          go_wp2
          go_roundw
          case rel =>
            refine ⟨k + 1, by omega, by go_num, (HP.out.1.other (by omega) _).other (by omega) _, ?_, ?_, (HP.out.2.2.2.1.setCell (by simp; omega) _).setCell (by simp; omega) _, HP.out.2.2.2.2.step (by rw [LX.out]; exact hlt) (by rw [HG.out]; omega) (by rw [HG.out, LX.out]; omega) (by rw [HG.out]; exact HIN.out)⟩
            · have h := (HP.out.2.1.other (k := z) (g' := w1.heap.size + 1) (by omega) (.bool true)).set_ k (.int .i64 (z : Int))
              rw [V_set, ← HG.out, extTo_step] at h
              rw [← HG.out]
              exact h
            · have h := HP.out.2.2.1.set_ z (.bool true)
              rw [VB_set, flags_step (by rw [LX.out]; exact hlt) HG.out] at h
              exact h.other (by omega) _
          case measure => simp [intOf]; omega
    · obtain rfl : k = n := by omega
      have HY : Hid (okB xs = true) := Lib.hid (okB_yes (by rw [LX.out]; omega) (by rw [LX.out]; exact HP.out.2.2.2.2))
      have h2 := HP.out.2.1
      rw [← LX.out] at h2
      have H2 : Hid (Arr wr w1.heap.size (V (ext xs)) 67) := Lib.hid h2
      have H1 := Lib.hid HP.out.1; have HB := Lib.hid HP.out.2.2.2.1
      clear h2 HP
      go_wp2_with (first | (refine wpList_load_row rfl 67 _ rfl w1.heap.size rfl 67 (V (ext xs)).toArray (0, 0) _ H2.out Tryd.underlying67 rfl (size_V (ext_len _)) ?_) | (refine wpList_store_row rfl 67 _ _ rfl w.heap.size (V (ext xs)).toArray rfl rfl 67 (V zeros).toArray H1.out (size_V (ext_len _)) (by simp [V_len, ext_len, zeros]) (one_V _) ?_))
      exact bodyPost_ret (v := .tuple #[.agg (V (ext xs)).toArray, .bool true]) (results_cell_tmp rfl _ _ w.heap.size 67 (V (ext xs)).toArray (0, 0) _ _ rfl rfl H1.out.row Tryd.underlying67 rfl (size_V (ext_len _))) rfl (post_yes HY.out (below_setRow HB.out (Nat.le_refl _) _))

end Go.Proofs.YtpbbfbpggedgpaaDoor.permOf

/-
  A matrix: a struct of four ints by value, as it comes in; TimesMatrix and DeterminantOf, of the model and of the program.
-/
namespace Go.Proofs.YtpbbfbpggedgpaaDoor.mx
open Go.ChangeShapes Go.WideShapes Go.ChangeAt Go.RowKit Go.Joins Go.Deep
open Go.Proofs.YtpbbfbpggedgpaaDoor.mem Go.Proofs.YtpbbfbpggedgpaaDoor.ints Go.Proofs.YtpbbfbpggedgpaaDoor.arr
set_option linter.unusedVariables false
set_option maxRecDepth 100000
/-- The four entries, row by row. -/
abbrev Mx := Int × Int × Int × Int
def mv (m : Mx) : Value := .agg #[.int .i64 m.1, .int .i64 m.2.1, .int .i64 m.2.2.1, .int .i64 m.2.2.2]
def i64 (n : Int) : Prop := -9223372036854775808 ≤ n ∧ n ≤ 9223372036854775807
def Fit (m : Mx) : Prop := i64 m.1 ∧ i64 m.2.1 ∧ i64 m.2.2.1 ∧ i64 m.2.2.2
theorem fit1 {a : Int} (h : (Lit.int .i64 a).wf = true) : i64 a := by simpa [i64, Lit.wf, IntKind.min, IntKind.max, IntKind.signed, IntKind.bits] using h
theorem open_M {H : Type} {enc : TypeId × Value → H} {P : Program} {W : World} {r : Reach} {b0 : Nat} {t : TypeId} {f0 f1 f2 f3 : Field} {v : Value} {d : DataW H} {p : List MemPlace} (hs : P.underlying t = some (.struct #[f0, f1, f2, f3])) (hone : oneCellFields P #[f0, f1, f2, f3] = true) (hC : P.cellsOf t = 4)
    (t0 : P.underlying f0.type = some (.int .i64)) (t1 : P.underlying f1.type = some (.int .i64)) (t2 : P.underlying f2.type = some (.int .i64)) (t3 : P.underlying f3.type = some (.int .i64))
    (hv : Value.okWide P W r b0 t v) (h : DataW.Trod enc P W 0 (fun _ => true) true t v d p) : ∃ m : Mx, v = mv m ∧ Fit m := by
  obtain ⟨v0, v1, v2, v3, y0, y1, y2, y3, n, rfl, _, _, h0, h1, h2, h3⟩ := open_agg4 hs hone hC hv h
  obtain ⟨a, e0, _, wa⟩ := DataW.trod_int t0 h0
  obtain ⟨b, e1, _, wb⟩ := DataW.trod_int t1 h1
  obtain ⟨c, e2, _, wc⟩ := DataW.trod_int t2 h2
  obtain ⟨e, e3, _, we⟩ := DataW.trod_int t3 h3
  simp at e0 e1 e2 e3
  subst e0 e1 e2 e3
  exact ⟨(a, b, c, e), rfl, fit1 wa, fit1 wb, fit1 wc, fit1 we⟩
def sm1 (x : Int) : Bool := decide (-1000000000 ≤ x) && decide (x ≤ 1000000000)
def ents (m : Mx) : List Int := [m.1, m.2.1, m.2.2.1, m.2.2.2]
/-- All four entries lie from -MaxEntry to MaxEntry. -/
def smallM (m : Mx) : Bool := (ents m).all sm1
theorem sm_yes {x : Int} (h1 : -1000000000 ≤ x) (h2 : x ≤ 1000000000) : sm1 x = true := by simp [sm1, h1, h2]
theorem sm_no {x : Int} (h : x < -1000000000 ∨ 1000000000 < x) : sm1 x = false := by unfold sm1; rcases h with h | h <;> simp <;> omega
theorem ents_at (m : Mx) {k : Nat} (h : k < 4) : (ents m)[k]? = some ((ents m).getD k 0) := by
  rw [List.getD, List.getElem?_eq_getElem (by simpa [ents] using h)]; rfl
theorem all_snoc {l : List Int} {k : Nat} {x : Int} (h : (l.take k).all sm1 = true) (hx : l[k]? = some x) (hs : sm1 x = true) : (l.take (k + 1)).all sm1 = true := by
  rw [List.take_add_one, hx]
  simp [h, hs]
theorem small_no {m : Mx} {k : Nat} {x : Int} (hx : (ents m)[k]? = some x) (hs : sm1 x = false) : smallM m = false := by
  unfold smallM
  rw [List.all_eq_false]
  exact ⟨x, List.mem_of_getElem? hx, by rw [hs]; decide⟩
theorem small_yes {m : Mx} (h : ((ents m).take 4).all sm1 = true) : smallM m = true := h
theorem ents_fit {m : Mx} (h : Fit m) {k : Nat} (hk : k < 4) : i64 ((ents m).getD k 0) := by
  obtain ⟨a, b, c, d⟩ := h
  match k, hk with
  | 0, _ => exact a
  | 1, _ => exact b
  | 2, _ => exact c
  | 3, _ => exact d
theorem ret_bool {a b : Bool} (h : a = b) : Ending.returned (.bool a) = .returned (.bool b) := by rw [h]
/-- A sum of two products, as 64 bits hold it. -/
def w64 (x y : Int) : Int := wrap64 (wrap64 x + wrap64 y)
def mulW (m k : Mx) : Mx := (w64 (m.1 * k.1) (m.2.1 * k.2.2.1), w64 (m.1 * k.2.1) (m.2.1 * k.2.2.2), w64 (m.2.2.1 * k.1) (m.2.2.2 * k.2.2.1), w64 (m.2.2.1 * k.2.1) (m.2.2.2 * k.2.2.2))
def okM (m k : Mx) : Bool := smallM m && smallM k
/-- What TimesMatrix gives. -/
def tmF (m k : Mx) : Mx := if okM m k then mulW m k else (0, 0, 0, 0)
def detF (m : Mx) : Int := if smallM m then wrap64 (wrap64 (m.1 * m.2.2.2) - wrap64 (m.2.1 * m.2.2.1)) else 0
theorem okM_yes {m k : Mx} (h : smallM m = true) (h' : smallM k = true) : okM m k = true := by simp [okM, h, h']
theorem okM_no {m k : Mx} (h : smallM m = false ∨ smallM k = false) : okM m k = false := by rcases h with h | h <;> simp [okM, h]
theorem tm_yes {m k : Mx} (h : okM m k = true) : tmF m k = mulW m k := by simp [tmF, h]
theorem tm_no {m k : Mx} (h : okM m k = false) : tmF m k = (0, 0, 0, 0) := by simp [tmF, h]
theorem det_yes {m : Mx} (h : smallM m = true) : detF m = wrap64 (wrap64 (m.1 * m.2.2.2) - wrap64 (m.2.1 * m.2.2.1)) := by simp [detF, h]
theorem det_no {m : Mx} (h : smallM m = false) : detF m = 0 := by simp [detF, h]
theorem sizeM (m : Mx) : (Tryd.prog.info? 31).map (·.size) = some (#[Value.int .i64 m.1, .int .i64 m.2.1, .int .i64 m.2.2.1, .int .i64 m.2.2.2]).size := by kernel_rfl
def zM : Mx := (0, 0, 0, 0)
set_option maxHeartbeats 2000000 in
theorem times_impl (m k : Mx) (w : World) : Calls Tryd.prog 27 #[mv m, mv k] w fun e w' => e = .returned (mv (mulW m k)) ∧ Below w.heap.size w w' := by
  unfold mv
  go_enter Tryd.func27, Tryd.ntmps27
  go_wp2
  exact bodyPost_ret (v := mv (mulW m k)) (results_cell_row rfl _ _ (w.heap.size + 1 + 1) 31 #[.int .i64 (mulW m k).1, .int .i64 (mulW m k).2.1, .int .i64 (mulW m k).2.2.1, .int .i64 (mulW m k).2.2.2] (0, 0) _ rfl (Arr.new _ (V (ents (mulW m k))) 31 (by simp)) Tryd.underlying31 rfl (sizeM (mulW m k))) rfl ⟨rfl, (((Below.refl _ _).alloc (Nat.le_refl _) _).alloc (by simp) _).alloc (by simp; omega) _⟩
theorem builtM : Tryd.prog.built 31 [] = some #[.int .i64 zM.1, .int .i64 zM.2.1, .int .i64 zM.2.2.1, .int .i64 zM.2.2.2] := by kernel_rfl
def TPost (m k : Mx) (w : World) (e : Ending) (w' : World) : Prop := e = .returned (.tuple #[mv (tmF m k), .bool (okM m k)]) ∧ Below w.heap.size w w'
theorem tm_post {m k v : Mx} {b : Bool} {w w' : World} (h : tmF m k = v) (h' : okM m k = b) (hb : Below w.heap.size w w') : TPost m k w (.returned (.tuple #[mv v, .bool b])) w' := by
  subst h; subst h'; exact ⟨rfl, hb⟩
end Go.Proofs.YtpbbfbpggedgpaaDoor.mx

/-
  Contracts of the methods of impl.perm: list, inverse, then.
-/
namespace Go.Proofs.YtpbbfbpggedgpaaDoor.inv
open Go.ChangeShapes Go.WideShapes Go.ChangeAt Go.RowKit
open Go.Proofs.YtpbbfbpggedgpaaDoor.mem Go.Proofs.YtpbbfbpggedgpaaDoor.ints Go.Proofs.YtpbbfbpggedgpaaDoor.arr Go.Proofs.YtpbbfbpggedgpaaDoor.pm Go.Proofs.YtpbbfbpggedgpaaDoor.permOk Go.Proofs.YtpbbfbpggedgpaaDoor.permOf
set_option linter.unusedVariables false
set_option maxRecDepth 100000

/-- All numbers are from 0 up to 24. -/
structure Sq (qs : List Int) : Prop where
  len : qs.length = 24
  lo : ∀ i, i < 24 → 0 ≤ qs.getD i 0
  hi : ∀ i, i < 24 → qs.getD i 0 < 24
theorem Sq.at_ {qs : List Int} (h : Sq qs) {i : Nat} (hi : i < 24) : ∃ z : Nat, z < 24 ∧ qs[i]? = some (z : Int) ∧ qs.getD i 0 = (z : Int) := by
  have h1 := h.lo i hi; have h2 := h.hi i hi
  have e : qs[i]? = some (qs.getD i 0) := by rw [List.getD, List.getElem?_eq_getElem (by rw [h.len]; exact hi)]; rfl
  exact ⟨(qs.getD i 0).toNat, by omega, by rw [e]; congr 1; omega, by omega⟩

theorem index_row (l : List Int) (k : Nat) (z : Int) (hk : k < 24) (hz : l[k]? = some z) (w : World) :
    (Instr.index 67 (.agg (V l).toArray) (.int .i64 (k : Int))).run Tryd.prog w = .ok (.int .i64 z) w := by
  have hs : (sizeOf 3).run Tryd.prog w = .ok 1 w := by kernel_rfl
  have h2 : (V l)[k]? = some (.int .i64 z) := V_get hz
  simp [Instr.index, asIntOf, run_underlying Tryd.underlying67, hk, hs, part, h2]

/-- Where k up to n goes under the inverse of qs, as far as the first k elements say. -/
def invTo (n : Nat) (qs : List Int) : Nat → List Int
  | 0 => List.replicate n 0
  | k + 1 => (invTo n qs k).set (qs.getD k 0).toNat (k : Int)
theorem invTo_len (n : Nat) (qs : List Int) (k : Nat) : (invTo n qs k).length = n := by
  induction k with
  | zero => simp [invTo]
  | succ k ih => simp [invTo, ih]
def InvRel (qs : List Int) (w wr : World) (k : Nat) : Prop :=
  Arr wr (w.heap.size + 1) (V zeros) 67 ∧ Arr wr (w.heap.size + 2) (V (invTo 24 qs k)) 67 ∧ Below w.heap.size w wr

set_option maxHeartbeats 1000000 in
theorem inverse_any (qs : List Int) (w : World) (hq : Sq qs) :
    Calls Tryd.prog 64 #[.agg (V qs).toArray] w fun e w' => e = .returned (.agg (V (invTo 24 qs 24)).toArray) ∧ Below w.heap.size w w' := by
  have HQ := Lib.hid hq; clear hq
  go_enter Tryd.func64, Tryd.ntmps64
  go_wp2_with (refine wpList_load_row rfl 67 _ rfl w.heap.size rfl 67 (V qs).toArray (0, 0) _ (((Arr.new w (V qs) 67 rfl).alloc _).alloc _) Tryd.underlying67 rfl (size_V HQ.out.len) ?_)
  go_loopw [7] (fun i wr => ∃ k : Nat, k ≤ 24 ∧ i = .int .i64 k ∧ InvRel qs w wr k) (fun i _ => 24 - (intOf i).toNat)
  case atStart =>
    exact ⟨0, Nat.zero_le _, rfl, (Arr.new _ (V zeros) _ (by simp)).alloc _, Arr.new _ (V zeros) _ (by simp), (((Below.refl _ _).alloc (Nat.le_refl _) _).alloc (by simp) _).alloc (by simp; omega) _⟩
  case round =>
    obtain ⟨k, hk, rfl, hr⟩ := hrel
    have HR := Lib.hid hr; clear hr
    by_cases hlt : k < 24
    · obtain ⟨z, hz, hqz, hqd⟩ := HQ.out.at_ hlt
      have hvz := index_row qs k z hlt hqz
      have HD := Lib.hid hqd; clear hqz hqd
      have hc : wr.cell? ⟨w.heap.size + 2, z, none⟩ = some (.int .i64 ((invTo 24 qs k).getD z 0)) := HR.out.2.1.cell (V_getD (by rw [invTo_len]; exact hz))
      have hf := HR.out.2.1.frozen z
      go_wp2
      go_roundw
      case rel =>
        refine ⟨k + 1, by omega, by go_num, HR.out.1.other (by omega) _, ?_, HR.out.2.2.setCell (by simp; omega) _⟩
        have h := HR.out.2.1.set_ z (.int .i64 (k : Int))
        rw [V_set] at h
        have e : invTo 24 qs (k + 1) = (invTo 24 qs k).set z (k : Int) := by rw [invTo, HD.out]; rfl
        rw [e]
        exact h
      case measure => simp [intOf]; omega
    · obtain rfl : k = 24 := by omega
      have H1 := Lib.hid HR.out.1; have H2 := Lib.hid HR.out.2.1; have HB := Lib.hid HR.out.2.2; clear HR
      have HL := Lib.hid (invTo_len 24 qs 24)
      generalize hr : invTo 24 qs 24 = r at H2 HL
      have HRR := Lib.hid hr; clear hr
      go_wp2_with (first | (refine wpList_load_row rfl 67 (.tmp 3) rfl (w.heap.size + 2) rfl 67 (V r).toArray (0, 0) _ H2.out Tryd.underlying67 rfl (size_V HL.out) ?_) | (refine wpList_store_row rfl 67 (.tmp 2) (.tmp 15) rfl (w.heap.size + 1) (V r).toArray rfl rfl 67 (V zeros).toArray H1.out (size_V HL.out) (by simp [V_len, HL.out, zeros]) (one_V _) ?_))
      exact bodyPost_ret (v := .agg (V r).toArray) (results_cell_row rfl _ _ (w.heap.size + 1) 67 (V r).toArray (0, 0) _ rfl H1.out.row Tryd.underlying67 rfl (size_V HL.out)) rfl ⟨by rw [HRR.out], arr.below_setRow HB.out (by omega) _⟩

/-- First ps, then qs. -/
def thenL (ps qs : List Int) : List Int := tab fun i => qs.getD (ps.getD i 0).toNat 0
def ThenRel (ps qs : List Int) (w wr : World) (k : Nat) : Prop :=
  Arr wr (w.heap.size + 1) (V qs) 67 ∧ Arr wr (w.heap.size + 2) (V zeros) 67 ∧ Arr wr (w.heap.size + 3) (V (tab fun i => if i < k then qs.getD (ps.getD i 0).toNat 0 else 0)) 67 ∧ Below w.heap.size w wr

set_option maxHeartbeats 1000000 in
theorem then_any (ps qs : List Int) (w : World) (hp : Sq ps) (hq : Sq qs) :
    Calls Tryd.prog 52 #[.agg (V ps).toArray, .agg (V qs).toArray] w fun e w' => e = .returned (.agg (V (thenL ps qs)).toArray) ∧ Below w.heap.size w w' := by
  have HP := Lib.hid hp; have HQ := Lib.hid hq; clear hp hq
  go_enter Tryd.func52, Tryd.ntmps52
  go_wp2_with (refine wpList_load_row rfl 67 _ rfl w.heap.size rfl 67 (V ps).toArray (0, 0) _ ((((Arr.new w (V ps) 67 rfl).alloc _).alloc _).alloc _) Tryd.underlying67 rfl (size_V HP.out.len) ?_)
  go_loopw [9] (fun i wr => ∃ k : Nat, k ≤ 24 ∧ i = .int .i64 k ∧ ThenRel ps qs w wr k) (fun i _ => 24 - (intOf i).toNat)
  case atStart =>
    exact ⟨0, Nat.zero_le _, rfl, ((Arr.new _ (V qs) _ (by simp)).alloc _).alloc _, (Arr.new _ (V zeros) _ (by simp)).alloc _, Arr.new _ (V zeros) _ (by simp), ((((Below.refl _ _).alloc (Nat.le_refl _) _).alloc (by simp) _).alloc (by simp; omega) _).alloc (by simp; omega) _⟩
  case round =>
    obtain ⟨k, hk, rfl, hr⟩ := hrel
    have HR := Lib.hid hr; clear hr
    by_cases hlt : k < 24
    · obtain ⟨z, hz, hqz, hqd⟩ := HP.out.at_ hlt
      have hvz := index_row ps k z hlt hqz
      have HD := Lib.hid hqd; clear hqz hqd
      have hcq : wr.cell? ⟨w.heap.size + 1, z, none⟩ = some (.int .i64 (qs.getD z 0)) := HR.out.1.cell (V_getD (by rw [HQ.out.len]; exact hz))
      have hc : wr.cell? ⟨w.heap.size + 3, k, none⟩ = some (.int .i64 ((tab fun i => if i < k then qs.getD (ps.getD i 0).toNat 0 else 0).getD k 0)) := HR.out.2.2.1.cell (V_getD (by rw [tab_len]; exact hlt))
      have hf := HR.out.2.2.1.frozen k
      go_wp2
      go_roundw
      case rel =>
        refine ⟨k + 1, by omega, by go_num, HR.out.1.other (by omega) _, HR.out.2.1.other (by omega) _, ?_, HR.out.2.2.2.setCell (by simp; omega) _⟩
        have h := HR.out.2.2.1.set_ k (.int .i64 (qs.getD z 0))
        rw [V_set] at h
        have e := tab_set (fun i => if i < k then qs.getD (ps.getD i 0).toNat 0 else 0) (fun i => if i < k + 1 then qs.getD (ps.getD i 0).toNat 0 else 0) (k := k) (fun j hj => by
          by_cases e : j = k
          · subst e; simp
          · simp only [if_neg e]; split <;> split <;> first | rfl | omega)
        simp only [Nat.lt_succ_self, if_true] at e
        rw [HD.out, Int.toNat_natCast] at e
        rw [e] at h
        exact h
      case measure => simp [intOf]; omega
    · obtain rfl : k = 24 := by omega
      have er : (tab fun i => if i < 24 then qs.getD (ps.getD i 0).toNat 0 else 0) = thenL ps qs := by
        unfold thenL tab
        refine List.map_congr_left fun i hi => ?_
        simp at hi
        simp [hi]
      have H1 := Lib.hid HR.out.2.1; have h2 := HR.out.2.2.1; have HB := Lib.hid HR.out.2.2.2; clear HR
      rw [er] at h2
      have H2 := Lib.hid h2; clear h2 er
      have HL : Hid ((thenL ps qs).length = 24) := Lib.hid (tab_len _)
      generalize hr : thenL ps qs = r at H2 HL
      have HRR := Lib.hid hr; clear hr
      go_wp2_with (first | (refine wpList_load_row rfl 67 (.tmp 5) rfl (w.heap.size + 3) rfl 67 (V r).toArray (0, 0) _ H2.out Tryd.underlying67 rfl (size_V HL.out) ?_) | (refine wpList_store_row rfl 67 (.tmp 4) (.tmp 19) rfl (w.heap.size + 2) (V r).toArray rfl rfl 67 (V zeros).toArray H1.out (size_V HL.out) (by simp [V_len, HL.out, zeros]) (one_V _) ?_))
      exact bodyPost_ret (v := .agg (V r).toArray) (results_cell_row rfl _ _ (w.heap.size + 2) 67 (V r).toArray (0, 0) _ rfl H1.out.row Tryd.underlying67 rfl (size_V HL.out)) rfl ⟨by rw [HRR.out], arr.below_setRow HB.out (by omega) _⟩

theorem slice_row (b n : Nat) (w : World) (hn : n ≤ 24) :
    (Instr.sliceAt 67 (.pointer (some ⟨b, 0, none⟩)) none (some (.int .i64 (n : Int))) none).run Tryd.prog w = .ok (.slice (some ⟨b, 0, none⟩) n 24) w := by
  have h := run_sliceAt_array_h (P := Tryd.prog) (t := 67) (w := w) (a := ⟨b, 0, none⟩) Tryd.underlying67 .i64 (n : Int) (by omega) (by show (n : Int) ≤ 24; omega)
  exact h.trans (by kernel_rfl)
set_option maxHeartbeats 1000000 in
theorem list_any (qs : List Int) (n : Nat) (w : World) (hl : qs.length = 24) (hn : n ≤ 24) :
    Calls Tryd.prog 33 #[.agg (V qs).toArray, .int .i64 n] w fun e w' => ∃ v, e = .returned v ∧ w'.ownsRow w.heap.size 3 1 v (qs.take n).length (V (qs.take n)) ∧ Below w.heap.size w w' := by
  obtain ⟨i0, hi0, hz0, hz1, hz2⟩ := info_parts infoI
  have HL := Lib.hid hl; clear hl
  have HZ2 := Lib.hid hz2; clear hz2
  go_enter Tryd.func33, Tryd.ntmps33
  go_wp2_with (at_make; refine wpList_make_full _ rfl _ _ 23 rfl (w.heap.size + 1) 3 i0 _ 1 Tryd.underlying23 hi0 hz0 hz1 _ _ _ _ n rfl rfl rfl rfl ?b2 ?b3 (by simp) ?_)
  case b2 => rw [HZ2.out]; omega
  case b3 => unfold maxLen; omega
  intro w1 hown hg
  have hb1 : Below (w.heap.size + 1) (w.alloc (.cells (V qs).toArray 67)) w1 := (Below.refl _ _).grown hg (by simp) (by simp)
  have hcu : ∃ cur : Array Value, w1.heap[w.heap.size + 1]? = some (.cells cur 3 (0, 0)) ∧ cur.size = n := by
    rcases hown.2 with ⟨hv, _⟩ | ⟨g, cap, cur, hv, _, hh, _, _, hsz, _⟩
    · cases hv
    · injection hv with e1 e2 e3
      injection e1 with e1
      injection e1 with e1
      subst e1; subst e3
      exact ⟨cur, hh, by simpa using hsz⟩
  obtain ⟨cur, hh, hsz⟩ := hcu
  have HH := Lib.hid hh; have HSZ := Lib.hid hsz; clear hh hsz hown hg
  have A1 := Lib.hid ((Arr.new w (V qs) 67 rfl).keep hb1 (by simp))
  have hs1 : w.heap.size + 1 ≤ w1.heap.size := by have := hb1.size; simpa using this
  have B1 : Hid (Below w.heap.size w w1) := Lib.hid (((Below.refl _ _).alloc (Nat.le_refl _) _).trans (hb1.mono (by omega)))
  clear hb1
  have HT : Hid ((qs.take n).length = n) := Lib.hid (by simp [HL.out]; omega)
  have hin : Hid (∀ j v, (V (qs.take n))[j]? = some v → w1.cell? ((⟨w.heap.size, 0, none⟩ : Addr).add j) = some v) := Lib.hid (by
    intro j v hv
    obtain ⟨z, hz, rfl⟩ := V_at hv
    have hj : j < n := by
      rcases Nat.lt_or_ge j n with h | h
      · exact h
      · rw [List.getElem?_eq_none (by rw [HT.out]; exact h)] at hz; cases hz
    have hadd : (⟨w.heap.size, 0, none⟩ : Addr).add j = ⟨w.heap.size, j, none⟩ := by unfold Addr.add; split <;> simp_all
    rw [hadd]
    refine A1.out.cell (V_get ?_)
    simpa [List.getElem?_take, hj] using hz)
  have hsl := fun W => slice_row w.heap.size n W hn
  have hsz3 : (Tryd.prog.info? 3).map (·.size) = some 1 := by kernel_rfl
  go_wp2_with (refine wpList_copy_own rfl (.tmp 8) (.tmp 10) 23 23 rfl 3 Tryd.underlying23 hsz3 (w.heap.size + 1) 0 n n ⟨w.heap.size, 0, none⟩ n 24 rfl rfl cur 3 HH.out (V (qs.take n)) ?c1 hin.out ?c2 ?c3 ?_)
  case c1 => rw [V_len, HT.out]; exact (Nat.min_self n).symm
  case c2 => rw [V_len, HT.out, HSZ.out]; omega
  case c3 => intro v hv; unfold V at hv; rw [List.mem_map] at hv; obtain ⟨z, _, rfl⟩ := hv; rfl
  go_ret
  refine ⟨_, rfl, ⟨by simp [V_len], .inr ⟨w.heap.size + 1, n, _, ?_, by omega, setRow_heap _ _ _ _ _ _ HH.out, ?_, ?_, ?_, ?_⟩⟩, arr.below_setRow B1.out (by omega) _⟩
  · rw [HT.out]; rfl
  · rw [HT.out]; exact Nat.le_refl _
  · unfold maxLen; omega
  · have h1 := HT.out; have h2 := HSZ.out
    simp [V_len]; omega
  · have h1 := HT.out; have h2 := HSZ.out
    simp only [Nat.mul_one]
    rw [V_len, h1, List.drop_of_length_le (by simp [h2]), List.append_nil, List.take_of_length_le (by rw [V_len, h1]; exact Nat.le_refl _)]
end Go.Proofs.YtpbbfbpggedgpaaDoor.inv
