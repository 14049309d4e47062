/-
  InverseWord of the program: the letters backwards, each inverted.
-/
import Derived.Test.YtdoohnphgembdaaIw
import Derived.OrdersIn
import Derived.Maps.AppendAt
import Derived.RegionTactic
import Derived.Laws.IdiomStrings
import Derived.Laws.BytesArg
namespace Go.Proofs.Ytdoohnphgembdaa.iw
open Go.ChangeShapes Go.WideShapes Go.ChangeAt Go.RowKit Go.Shelf
open Go.Proofs.Ytdoohnphgembdaa.mem Go.Proofs.Ytdoohnphgembdaa.ints Go.Proofs.Ytdoohnphgembdaa.arr Go.Proofs.Ytdoohnphgembdaa.pm Go.Proofs.Ytdoohnphgembdaa.wd
set_option linter.unusedVariables false
set_option maxRecDepth 100000
attribute [local go_sem] Oper.semAt_some
theorem callsIn_any {P : Program} {f : FuncId} {args : Array Value} {w : World} {R : Ending → World → Prop} (n l : Nat) (h : Calls P f args w R) : CallsIn (Fence.wide.inRound l) n P f args w R := CallsIn.inRound l (callsIn_wide.2 h)
theorem rowsIn_any {P : Program} {row : String} {args : Array Value} {w : World} {R : Value → World → Prop} (n : Nat) (h : Rows P row args w R) : RowsIn Fence.wide n P row args w R :=
  fun c cs _ => let ⟨v, w', r, s⟩ := h c cs; ⟨v, w', r, stepsIn_wide.2 s⟩
/-- At the fence that asks nothing an operation that is no defer is walked in a round as everywhere. -/
theorem rf_wpIn {P : Program} {o : Oper} {a : Act} {w : World} {next : Act → World → Prop} {Q : Exit → Act → World → Prop} (n l : Nat) (hd : ∀ c, o.op ≠ .defer c) (h : o.wp P a w next Q) : o.wpIn (Fence.wide.inRound l) n P a w next Q := by
  unfold Oper.wpIn
  refine ⟨fun _ _ => trivial, ?_⟩
  have e : o.semAt (Fence.wide.inRound l).round a.eval = execOp a.eval o := Oper.semAt_some l _ _ hd
  rw [e]
  unfold Oper.wp at h
  generalize (execOp a.eval o).run P w = r at *
  cases r with
  | halt hh w' => cases hh <;> first | exact h | exact h.elim
  | ok nx w' =>
    cases nx with
    | value v => exact h
    | skip => exact h
    | defer d => exact h
    | enter f args => exact ⟨(fun q => by cases q), (callsIn_any _ l h).mono fun e w'' q => by cases e <;> exact q⟩
    | row row args => exact ⟨(fun q => by cases q), rowsIn_any _ h⟩
    | _ => exact h.elim
/-- What InverseWord gives. -/
def iwF (s : ByteArray) : ByteArray := if wok s then ⟨(invW s.data.toList).toArray⟩ else ⟨#[]⟩
/-- The byte of a number's inverse letter, in "TtSs". -/
def lbU (z : Fin 4) : UInt8 := match z with | 0 => 116 | 1 => 84 | 2 => 115 | 3 => 83
def lbI (z : Fin 4) : Int := ((lbU z).toNat : Int)
def lbs (pre : List NL) : List Int := pre.map fun x => lbI x.2
def finN (c : UInt8) : Fin 4 := if c.toNat = 84 then 0 else if c.toNat = 116 then 1 else if c.toNat = 83 then 2 else 3
theorem finN_val {c : UInt8} (h : isL c = true) : ((finN c).val : Int) = num c := by
  rcases num_cases h with ⟨a, b⟩ | ⟨a, b⟩ | ⟨a, b⟩ | ⟨a, b⟩ <;> rw [b] <;> simp [finN, a] <;> rfl
theorem finN_lb {c : UInt8} (h : isL c = true) : lbU (finN c) = inL c := by
  rcases num_cases h with ⟨a, b⟩ | ⟨a, b⟩ | ⟨a, b⟩ | ⟨a, b⟩ <;> simp [finN, a, inL] <;> rfl
def zsOf (s : ByteArray) : List (Fin 4) := s.data.toList.map finN
theorem zs_nums {s : ByteArray} (h : wok s = true) : nums s = (zsOf s).map fun z => (z.val : Int) := by
  unfold nums zsOf
  rw [List.map_map]
  refine List.map_congr_left fun c hc => ?_
  exact (finN_val (List.all_eq_true.1 (wok_all h) c hc)).symm
theorem zs_len (s : ByteArray) : (zsOf s).length = s.size := by simp [zsOf]
theorem zs_inv {s : ByteArray} (h : wok s = true) : ((back (zsOf s) (zsOf s).length).map fun x => lbU x.2) = invW s.data.toList := by
  have e : ((back (zsOf s) (zsOf s).length).map fun x => lbU x.2) = ((back (zsOf s) (zsOf s).length).map Prod.snd).map lbU := by rw [List.map_map]; rfl
  rw [e, back_all, invW, List.map_reverse]
  refine congrArg List.reverse ?_
  show (s.data.toList.map finN).map lbU = _
  rw [List.map_map]
  refine List.map_congr_left fun c hc => ?_
  exact finN_lb (List.all_eq_true.1 (wok_all h) c hc)
theorem infoB : (Try.prog.info? 5).map (fun i => (i.zero, i.size, i.bytes)) = some (some (.int .u8 0), 1, 1) := by kernel_rfl
theorem linv0 (w : World) : Calls Try.prog 53 #[.int .i64 0] w fun e w' => e = .returned (.int .i64 1) ∧ w' = w := by
  go_enter Try.func53, Try.ntmps53
  go_wp2
  go_ret
  exact ⟨rfl, rfl⟩
theorem linv1 (w : World) : Calls Try.prog 53 #[.int .i64 1] w fun e w' => e = .returned (.int .i64 0) ∧ w' = w := by
  go_enter Try.func53, Try.ntmps53
  go_wp2
  go_ret
  exact ⟨rfl, rfl⟩
theorem linv2 (w : World) : Calls Try.prog 53 #[.int .i64 2] w fun e w' => e = .returned (.int .i64 3) ∧ w' = w := by
  go_enter Try.func53, Try.ntmps53
  go_wp2
  go_ret
  exact ⟨rfl, rfl⟩
theorem linv3 (w : World) : Calls Try.prog 53 #[.int .i64 3] w fun e w' => e = .returned (.int .i64 2) ∧ w' = w := by
  go_enter Try.func53, Try.ntmps53
  go_wp2
  go_ret
  exact ⟨rfl, rfl⟩
/-- What the body does with a letter: its inverse's number, that number's byte in "TtSs". -/
theorem tab4 (z : Fin 4) : ∃ r : Int, (∀ w, Calls Try.prog 53 #[.int .i64 (z.val : Int)] w fun e w' => e = .returned (.int .i64 r) ∧ w' = w) ∧
    (∀ w, (Instr.index 9 (.string { data := #[84, 116, 83, 115] }) (.int .i64 r)).run Try.prog w = .ok (.int .u8 (lbI z)) w) := by
  match z with
  | 0 => exact ⟨1, linv0, fun w => by kernel_rfl⟩
  | 1 => exact ⟨0, linv1, fun w => by kernel_rfl⟩
  | 2 => exact ⟨3, linv2, fun w => by kernel_rfl⟩
  | 3 => exact ⟨2, linv3, fun w => by kernel_rfl⟩
/-- An operation of a region in a round, walked as anywhere. -/
theorem in_step {P : Program} {ops : Array Oper} {o : Oper} {a : Act} {w : World} {K : Act → World → Prop} {Q : Exit → Act → World → Prop} {n l : Nat} {E : Prop} (hw : Region.wanted o (yielded ops a.tmps) = true) (hd : ∀ c, o.op ≠ .defer c)
    (h : o.wp P a w K Q) : if Region.wanted o (yielded ops a.tmps) = true then Oper.wpIn (Fence.wide.inRound l) n P o a w K Q else E := by
  rw [if_pos hw]; exact rf_wpIn n l hd h
theorem bw_any (A : Option Addr) (n c : Nat) (w : World) : Calls Try.prog 52 #[.slice A n c] w fun e w' => e = .returned (.func (.func 81) #[] #[.pointer (some ⟨w.heap.size, 0, none⟩)]) ∧ w' = w.alloc (.cells #[.slice A n c] 59) := by
  go_enter Try.func52, Try.ntmps52
  go_wp2
  go_ret
  exact ⟨rfl, rfl⟩
theorem lets_zs (s : ByteArray) (w : World) (h : wok s = true) : Calls Try.prog 50 #[.string s] w fun e w' => ∃ A c, e = .returned (.tuple #[.slice A (zsOf s).length c, .bool true]) ∧
    Rd w' w'.heap.size A (zsOf s).length (V ((zsOf s).map fun z => (z.val : Int))) ∧ Below w.heap.size w w' := by
  refine (lets_any s w (by have := wok_len h; omega)).mono ?_
  rintro e w' ⟨v, L, rfl, ho, hL, hb⟩
  rw [h, if_pos rfl] at hL
  obtain ⟨A, c, rfl⟩ := own_form ho
  have hl : L.length = (zsOf s).length := by rw [hL, nums_len, zs_len]
  refine ⟨A, c, by rw [h, hl], ?_, hb⟩
  rw [← zs_nums h, ← hL, ← hl]
  exact (Row.of_own ho).rd
theorem rd_wider {w : World} {hi hi' n : Nat} {A : Option Addr} {xs : List Value} (h : Rd w hi A n xs) (h1 : hi ≤ hi') (h2 : hi' ≤ w.heap.size) : Rd w hi' A n xs :=
  ⟨h.1, h2, fun hn => by obtain ⟨g, off, e, hlt, hc⟩ := h.2.2 hn; exact ⟨g, off, e, by omega, hc⟩⟩
theorem lbs_snoc (pre : List NL) (x : NL) : lbs (pre ++ [x]) = lbs pre ++ [lbI x.2] := by simp [lbs]
theorem body_end {W W0 W' : World} {b : Nat} {w2 : World} {A : Option Addr} {n c : Nat} {v' : Value} {pre : List NL} {x : NL} (hk0 : KeepsOthers W W0) (hb0 : Below b W W0) (hk2 : KeepsOthers W0 W') (hb2 : Below b W0 W')
    (hv2 : Boxed W' b 22 v') (hr2 : W'.ownsRow b 5 1 v' (lbs (pre ++ [x])).length ((lbs (pre ++ [x])).map (Value.int .u8))) (hs2 : Boxed W' (b + 1) 59 (.slice A n c)) (hB : Below b w2 W0) (hsl : Boxed W0 (b + 1) 59 (.slice A n c))
    (hw : Boxed W (b + 1) 59 (.slice A n c)) :
    KeepsOthers W W' ∧ Kp b (b + 1) W W' ∧ (∃ v, Boxed W' b 22 v ∧ W'.ownsRow b 5 1 v (lbs (pre ++ [x])).length ((lbs (pre ++ [x])).map (Value.int .u8)) ∧ True) ∧ Boxed W' (b + 1) 59 (.slice A n c) ∧ Below b w2 W' := by
  have hb := hb0.trans (hb2.mono (Nat.le_refl _))
  exact ⟨hk0.trans hk2, ⟨hb.size, fun k hk => hb.block k hk, hs2.trans hw.symm⟩, ⟨v', hv2, hr2, trivial⟩, hs2, hB.trans hb2⟩
theorem conv_any {W : World} {b : Nat} {v : Value} {zs : List (Fin 4)} (hrow : W.ownsRow b 5 1 v (lbs (back zs zs.length)).length ((lbs (back zs zs.length)).map (Value.int .u8))) :
    (convert 22 9 v).run Try.prog W = .ok (.string ⟨((back zs zs.length).map fun x => lbU x.2).toArray⟩) W := by
  have hl : (lbs (back zs zs.length)).length = ((back zs zs.length).map fun x => lbU x.2).length := by simp [lbs]
  rcases hrow.2 with ⟨rfl, h0⟩ | ⟨g, cap, cur, rfl, _, _⟩
  · have hz : back zs zs.length = [] := by
      have : (lbs (back zs zs.length)).length = 0 := by simpa using h0
      unfold lbs at this; rw [List.length_map] at this; exact List.eq_nil_of_length_eq_zero this
    rw [hz]
    exact run_convert_bytes_nil W 22 5 Try.underlying22 Try.underlying5 0 0 9 Try.underlying9
  · rw [hl]
    refine run_convert_bytes_back W _ _ 5 _ cap ((back zs zs.length).map fun x => lbU x.2) Try.underlying22 Try.underlying5 Try.underlying9 fun j hj => ?_
    have := hrow.cellAt j (by rw [hl]; omega)
    rw [show (⟨g, 0, none⟩ : Addr).add j = ⟨g, j, none⟩ by unfold Addr.add; split <;> simp_all]
    rw [this]
    have hj2 : j < (back zs zs.length).length := by simpa using hj
    unfold lbs
    rw [List.getElem?_map, List.getElem?_map, List.getElem?_eq_getElem hj2, List.getElem_map]
    rfl
set_option maxRecDepth 100000 in
set_option maxHeartbeats 1000000 in
theorem iw_impl (s : ByteArray) (w : World) (hs : s.size ≤ 1048576) : Calls Try.prog 16 #[.string s] w fun e w' => e = .returned (.string (iwF s)) ∧ Below w.heap.size w w' := by
  cases hq : wok s
  · have HF : Hid (iwF s = ⟨#[]⟩) := Lib.hid (by simp [iwF, hq])
    go_enter Try.func16, Try.ntmps16
    go_wp2_with fail
    refine (lets_any s _ hs).mono ?_
    rintro e w' ⟨v, L, rfl, _, _, hb⟩
    rw [hq]
    go_wp2_with fail
    go_ret
    exact ⟨by rw [HF.out]; rfl, hb⟩
  · have HF : Hid (iwF s = ⟨(invW s.data.toList).toArray⟩) := Lib.hid (by simp [iwF, hq])
    have HZ := Lib.hid (zs_inv hq)
    have HN := Lib.hid (zs_nums hq)
    have h40 := wok_len hq
    obtain ⟨i0, hi, hz0, hz1, hz2⟩ := info_parts infoB
    have f1 : Fence.wide.fn 52 := trivial
    have f2 : Fence.wide.fn 50 := trivial
    have f3 : Fence.wide.fn 53 := trivial
    refine (callsIn_wide (n := 9)).1 ?_
    refine callsIn_of_wp_marks Try.func16 rfl trivial ?_ rfl
    simp only [Try.ntmps16, List.size_toArray, List.length_cons, List.length_nil, Nat.reduceAdd, Nat.reduceSub, Array.replicate_succ, Array.replicate_zero, List.push_toArray, List.append_toArray, List.nil_append, List.cons_append]
    have LZ := Lib.hid (lets_zs s w hq)
    have hz40 : (zsOf s).length ≤ 40 := by rw [zs_len]; exact h40
    clear h40 hq HN hs
    generalize zsOf s = zs at *
    gi_wp2_with (gi_at_call 50; refine (callsIn_wide.2 LZ.out).mono ?_; rintro e w1 ⟨A, c, rfl, ho, hb⟩)
    have HO := Lib.hid ho; have HB := Lib.hid hb; clear ho hb
    refine (callsIn_wide.2 (bw_any A zs.length c _)).mono ?_
    rintro e w2 ⟨rfl, hw2⟩
    have bO := Boxed.new w1 22 (.slice none 0 0)
    have bN := Boxed.new (w1.alloc (.cells #[.slice none 0 0] 22)) 59 (.slice A zs.length c)
    have b2 : Below w1.heap.size w1 w2 := by rw [hw2]; exact ((Below.refl _ _).alloc (Nat.le_refl _) _).alloc (by simp) _
    have hs2 : w2.heap.size = w1.heap.size + 2 := by rw [hw2]; simp
    have e1 : (w1.alloc (.cells #[.slice none 0 0] 22)).heap.size = w1.heap.size + 1 := by simp
    replace bO : Boxed w2 w1.heap.size 22 (.slice none 0 0) := by rw [hw2]; exact bO.alloc _
    replace bN : Boxed w2 (w1.heap.size + 1) 59 (.slice A zs.length c) := by rw [hw2, ← e1]; exact bN
    rw [e1]
    clear hw2 e1
    have RD : Rd w2 w1.heap.size A zs.length (V (zs.map fun z => (z.val : Int))) := HO.out.keep b2 (Nat.le_refl _)
    have HS2 := Lib.hid hs2
    have HBB := Lib.hid (HB.out.trans (b2.mono HB.out.size))
    gi_wp2
    have hs2' : w2.heap.size ≥ w1.heap.size + 2 := by omega
    refine wpIn_rangeFunc_ownF (n := 9) rfl (by omega) (gf := 81) (lb := #[.pointer (some ⟨w1.heap.size + 1, 0, none⟩)]) rfl trivial (enters_of Try.func81 (by kernel_rfl) rfl)
      (seq_any Fence.wide 8 trivial rfl (by omega) (w1.heap.size + 1) w1.heap.size A c zs hz40 w2 (by omega) (by omega) bN.cell RD) Kp.trans (fun W l o o' hl _ _ _ => Kp.put o' (by omega) (by omega)) (Below.refl _ _) (fun _ => rfl)
      (fun (pre : List NL) W => (∃ v, Boxed W w1.heap.size 22 v ∧ W.ownsRow w1.heap.size 5 1 v (lbs pre).length ((lbs pre).map (Value.int .u8)) ∧ True) ∧ Boxed W (w1.heap.size + 1) 59 (.slice A zs.length c) ∧ Below w1.heap.size w2 W)
      (fun _ _ _ => False)
      (OwnFrom.and (Own.from (holdsRow_own w1.heap.size w1.heap.size 22 5 1 (fun (pre : List NL) => (lbs pre).length) (fun (pre : List NL) => (lbs pre).map (Value.int .u8)) (fun (_ : List NL) _ => True)) _) (OwnFrom.and (Own.from (boxed_own (w1.heap.size + 1) 59 (fun (_ : List NL) => .slice A zs.length c)) _) (ownFrom_below (by omega) (by omega))))
      (fun _ _ _ _ _ hs _ _ => hs)
      ⟨⟨_, bO, World.ownsRow_nil _ _ _ _, trivial⟩, bN, Below.refl _ _⟩
      (fun x => { tmps := #[.string s, undef, .string { data := #[] }, .slice A zs.length c, .bool true, .pointer (some ⟨w1.heap.size, 0, none⟩), undef, .int .i64 (x.2.val : Int), .tuple #[.slice A zs.length c, .bool true], .string s, .tuple #[.slice A zs.length c, .bool true], .slice A zs.length c, .bool true, .bool true, .bool false, .slice A zs.length c, .func (.func 81) #[] #[.pointer (some ⟨w1.heap.size + 1, 0, none⟩)], .int .i64 (x.1 : Int), .int .i64 (x.2.val : Int), undef, undef, undef, undef, undef, undef, undef, undef], defers := [] }) ?assign ?body ?done ?stop
    case assign =>
      intro l x W K hK
      simp only [enc]
      gi_wp2
      exact hK
    case body =>
      rintro l pre ⟨p, z⟩ W ⟨⟨v, hv, hrow, _⟩, hsl, hB⟩ hlt
      obtain ⟨r, hl4, hx4⟩ := tab4 z
      have HL := Lib.hid hl4; clear hl4
      have hpl : (lbs pre).length + 1 ≤ 40 := by unfold lbs; rw [List.length_map]; omega
      gi_wp2
      refine wpIn_region_any (by kernel_rfl) ?_
      change wpAnyIn _ _ _ _ _ _ _ _ _ W.drew
      have hk0 : KeepsOthers W W.drew := KeepsOthers.drew W
      have hb0 : Below w1.heap.size W W.drew := ⟨rfl, rfl, rfl, Nat.le_refl _, fun _ _ => rfl⟩
      replace hv : Boxed W.drew w1.heap.size 22 v := hv
      replace hrow : W.drew.ownsRow w1.heap.size 5 1 v (lbs pre).length ((lbs pre).map (Value.int .u8)) := hrow
      have hslW := hsl
      replace hsl : Boxed W.drew (w1.heap.size + 1) 59 (.slice A zs.length c) := hsl
      replace hB : Below w1.heap.size w2 W.drew := hB.trans hb0
      generalize W.drew = W0 at *
      have hbs : w1.heap.size ≤ W0.heap.size := by have := hB.size; omega
      have hc := hv.cell
      refine wpAnyIn_ready (rs := [0, 1]) (by kernel_rfl) (by simp) (AllReadyIn.cons rfl (fun K hK => ?_) (AllReadyIn.cons rfl (fun K hK => ?_) AllReadyIn.nil))
      · refine in_step (by kernel_rfl) (fun c h => by cases h) ?_
        go_simp
        refine hK _ _ ?_
        clear hK K
        refine wpAnyIn_ready (rs := [1]) (by kernel_rfl) (by simp) (AllReadyIn.cons rfl (fun K hK => ?_) AllReadyIn.nil)
        refine in_step (by kernel_rfl) (fun c h => by cases h) ?_
        go_simp
        refine hK _ _ ?_
        clear hK K
        refine wpAnyIn_ready (rs := [2]) (by kernel_rfl) (by simp) (AllReadyIn.cons rfl (fun K hK => ?_) AllReadyIn.nil)
        refine in_step (by kernel_rfl) (fun c h => by cases h) ?_
        go_simp
        refine (HL.out _).mono ?_
        rintro e w' ⟨rfl, hw⟩
        rw [hw]
        clear hw
        refine hK _ _ ?_
        clear hK K
        refine wpAnyIn_ready (rs := [3]) (by kernel_rfl) (by simp) (AllReadyIn.cons rfl (fun K hK => ?_) AllReadyIn.nil)
        refine in_step (by kernel_rfl) (fun c h => by cases h) ?_
        go_simp
        refine hK _ _ ?_
        clear hK K
        refine wpAnyIn_ready (rs := [4]) (by kernel_rfl) (by simp) (AllReadyIn.cons rfl (fun K hK => ?_) AllReadyIn.nil)
        refine in_step (by kernel_rfl) (fun c h => by cases h) ?_
        go_simp
        refine hK _ _ ?_
        clear hK K
        change wpAnyIn _ _ _ _ _ _ _ _ _ (W0.alloc (.cells #[.int .u8 (lbI z)] 5))
        have hc := (hv.alloc (.cells #[.int .u8 (lbI z)] 5)).cell
        refine wpAnyIn_ready (rs := [5]) (by kernel_rfl) (by simp) (AllReadyIn.cons rfl (fun K hK => ?_) AllReadyIn.nil)
        refine in_step (by kernel_rfl) (fun c h => by cases h) ?_
        refine wp_append_lies _ _ _ 22 rfl w1.heap.size 5 i0 _ 1 1 Try.underlying22 hi hz0 hz1 hz2 rfl (by decide) v (lbs pre).length ((lbs pre).map (Value.int .u8)) rfl (hrow.alloc _) ⟨W0.heap.size, 0, none⟩ 1 1 [.int .u8 (lbI z)] rfl rfl (cell_one_new _ _ _) (by simp [Value.oneCell']) (by omega) (by unfold maxLen; omega) (by omega) (by have := hB.size; simp; omega) _ rfl ?_
        intro g3 c3 W2 ho hg _ _
        obtain ⟨hv1, hv2, hr2, hk2, hb2⟩ := hv.appended (by decide) hrow hbs (Nat.le_refl _) ho hg
        have hs2x : Boxed (W2.setCell ⟨w1.heap.size, 0, none⟩ (.slice (some ⟨g3, 0, none⟩) ((lbs pre).length + 1) c3)) (w1.heap.size + 1) 59 (.slice A zs.length c) := Boxed.other ((hsl.alloc _).kept hg (hsl.not_row (by decide) hrow)) (by omega) _
        have hc := hv1.cell; have hf := hv1.frozen
        refine hK _ _ ?_
        clear hK K
        refine wpAnyIn_ready (rs := [6]) (by kernel_rfl) (by simp) (AllReadyIn.cons rfl (fun K hK => ?_) AllReadyIn.nil)
        refine in_step (by kernel_rfl) (fun c h => by cases h) ?_
        go_simp
        refine hK _ _ ?_
        clear hK K
        refine wpAnyIn_done (by kernel_rfl) ?_ _
        gi_wp2
        exact body_end hk0 hb0 hk2 hb2 hv2 (by rw [lbs_snoc]; simpa using hr2) hs2x hB hsl hslW
      · refine in_step (by kernel_rfl) (fun c h => by cases h) ?_
        go_simp
        refine hK _ _ ?_
        clear hK K
        refine wpAnyIn_ready (rs := [0, 2]) (by kernel_rfl) (by simp) (AllReadyIn.cons rfl (fun K hK => ?_) (AllReadyIn.cons rfl (fun K hK => ?_) AllReadyIn.nil))
        · refine in_step (by kernel_rfl) (fun c h => by cases h) ?_
          go_simp
          refine hK _ _ ?_
          clear hK K
          refine wpAnyIn_ready (rs := [2]) (by kernel_rfl) (by simp) (AllReadyIn.cons rfl (fun K hK => ?_) AllReadyIn.nil)
          refine in_step (by kernel_rfl) (fun c h => by cases h) ?_
          go_simp
          refine (HL.out _).mono ?_
          rintro e w' ⟨rfl, hw⟩
          rw [hw]
          clear hw
          refine hK _ _ ?_
          clear hK K
          refine wpAnyIn_ready (rs := [3]) (by kernel_rfl) (by simp) (AllReadyIn.cons rfl (fun K hK => ?_) AllReadyIn.nil)
          refine in_step (by kernel_rfl) (fun c h => by cases h) ?_
          go_simp
          refine hK _ _ ?_
          clear hK K
          refine wpAnyIn_ready (rs := [4]) (by kernel_rfl) (by simp) (AllReadyIn.cons rfl (fun K hK => ?_) AllReadyIn.nil)
          refine in_step (by kernel_rfl) (fun c h => by cases h) ?_
          go_simp
          refine hK _ _ ?_
          clear hK K
          change wpAnyIn _ _ _ _ _ _ _ _ _ (W0.alloc (.cells #[.int .u8 (lbI z)] 5))
          have hc := (hv.alloc (.cells #[.int .u8 (lbI z)] 5)).cell
          refine wpAnyIn_ready (rs := [5]) (by kernel_rfl) (by simp) (AllReadyIn.cons rfl (fun K hK => ?_) AllReadyIn.nil)
          refine in_step (by kernel_rfl) (fun c h => by cases h) ?_
          refine wp_append_lies _ _ _ 22 rfl w1.heap.size 5 i0 _ 1 1 Try.underlying22 hi hz0 hz1 hz2 rfl (by decide) v (lbs pre).length ((lbs pre).map (Value.int .u8)) rfl (hrow.alloc _) ⟨W0.heap.size, 0, none⟩ 1 1 [.int .u8 (lbI z)] rfl rfl (cell_one_new _ _ _) (by simp [Value.oneCell']) (by omega) (by unfold maxLen; omega) (by omega) (by have := hB.size; simp; omega) _ rfl ?_
          intro g3 c3 W2 ho hg _ _
          obtain ⟨hv1, hv2, hr2, hk2, hb2⟩ := hv.appended (by decide) hrow hbs (Nat.le_refl _) ho hg
          have hs2x : Boxed (W2.setCell ⟨w1.heap.size, 0, none⟩ (.slice (some ⟨g3, 0, none⟩) ((lbs pre).length + 1) c3)) (w1.heap.size + 1) 59 (.slice A zs.length c) := Boxed.other ((hsl.alloc _).kept hg (hsl.not_row (by decide) hrow)) (by omega) _
          have hc := hv1.cell; have hf := hv1.frozen
          refine hK _ _ ?_
          clear hK K
          refine wpAnyIn_ready (rs := [6]) (by kernel_rfl) (by simp) (AllReadyIn.cons rfl (fun K hK => ?_) AllReadyIn.nil)
          refine in_step (by kernel_rfl) (fun c h => by cases h) ?_
          go_simp
          refine hK _ _ ?_
          clear hK K
          refine wpAnyIn_done (by kernel_rfl) ?_ _
          gi_wp2
          exact body_end hk0 hb0 hk2 hb2 hv2 (by rw [lbs_snoc]; simpa using hr2) hs2x hB hsl hslW
        · refine in_step (by kernel_rfl) (fun c h => by cases h) ?_
          go_simp
          refine (HL.out _).mono ?_
          rintro e w' ⟨rfl, hw⟩
          rw [hw]
          clear hw
          refine hK _ _ ?_
          clear hK K
          refine wpAnyIn_ready (rs := [0, 3]) (by kernel_rfl) (by simp) (AllReadyIn.cons rfl (fun K hK => ?_) (AllReadyIn.cons rfl (fun K hK => ?_) AllReadyIn.nil))
          · refine in_step (by kernel_rfl) (fun c h => by cases h) ?_
            go_simp
            refine hK _ _ ?_
            clear hK K
            refine wpAnyIn_ready (rs := [3]) (by kernel_rfl) (by simp) (AllReadyIn.cons rfl (fun K hK => ?_) AllReadyIn.nil)
            refine in_step (by kernel_rfl) (fun c h => by cases h) ?_
            go_simp
            refine hK _ _ ?_
            clear hK K
            refine wpAnyIn_ready (rs := [4]) (by kernel_rfl) (by simp) (AllReadyIn.cons rfl (fun K hK => ?_) AllReadyIn.nil)
            refine in_step (by kernel_rfl) (fun c h => by cases h) ?_
            go_simp
            refine hK _ _ ?_
            clear hK K
            change wpAnyIn _ _ _ _ _ _ _ _ _ (W0.alloc (.cells #[.int .u8 (lbI z)] 5))
            have hc := (hv.alloc (.cells #[.int .u8 (lbI z)] 5)).cell
            refine wpAnyIn_ready (rs := [5]) (by kernel_rfl) (by simp) (AllReadyIn.cons rfl (fun K hK => ?_) AllReadyIn.nil)
            refine in_step (by kernel_rfl) (fun c h => by cases h) ?_
            refine wp_append_lies _ _ _ 22 rfl w1.heap.size 5 i0 _ 1 1 Try.underlying22 hi hz0 hz1 hz2 rfl (by decide) v (lbs pre).length ((lbs pre).map (Value.int .u8)) rfl (hrow.alloc _) ⟨W0.heap.size, 0, none⟩ 1 1 [.int .u8 (lbI z)] rfl rfl (cell_one_new _ _ _) (by simp [Value.oneCell']) (by omega) (by unfold maxLen; omega) (by omega) (by have := hB.size; simp; omega) _ rfl ?_
            intro g3 c3 W2 ho hg _ _
            obtain ⟨hv1, hv2, hr2, hk2, hb2⟩ := hv.appended (by decide) hrow hbs (Nat.le_refl _) ho hg
            have hs2x : Boxed (W2.setCell ⟨w1.heap.size, 0, none⟩ (.slice (some ⟨g3, 0, none⟩) ((lbs pre).length + 1) c3)) (w1.heap.size + 1) 59 (.slice A zs.length c) := Boxed.other ((hsl.alloc _).kept hg (hsl.not_row (by decide) hrow)) (by omega) _
            have hc := hv1.cell; have hf := hv1.frozen
            refine hK _ _ ?_
            clear hK K
            refine wpAnyIn_ready (rs := [6]) (by kernel_rfl) (by simp) (AllReadyIn.cons rfl (fun K hK => ?_) AllReadyIn.nil)
            refine in_step (by kernel_rfl) (fun c h => by cases h) ?_
            go_simp
            refine hK _ _ ?_
            clear hK K
            refine wpAnyIn_done (by kernel_rfl) ?_ _
            gi_wp2
            exact body_end hk0 hb0 hk2 hb2 hv2 (by rw [lbs_snoc]; simpa using hr2) hs2x hB hsl hslW
          · refine in_step (by kernel_rfl) (fun c h => by cases h) ?_
            go_simp
            refine hK _ _ ?_
            clear hK K
            refine wpAnyIn_ready (rs := [0, 4]) (by kernel_rfl) (by simp) (AllReadyIn.cons rfl (fun K hK => ?_) (AllReadyIn.cons rfl (fun K hK => ?_) AllReadyIn.nil))
            · refine in_step (by kernel_rfl) (fun c h => by cases h) ?_
              go_simp
              refine hK _ _ ?_
              clear hK K
              refine wpAnyIn_ready (rs := [4]) (by kernel_rfl) (by simp) (AllReadyIn.cons rfl (fun K hK => ?_) AllReadyIn.nil)
              refine in_step (by kernel_rfl) (fun c h => by cases h) ?_
              go_simp
              refine hK _ _ ?_
              clear hK K
              change wpAnyIn _ _ _ _ _ _ _ _ _ (W0.alloc (.cells #[.int .u8 (lbI z)] 5))
              have hc := (hv.alloc (.cells #[.int .u8 (lbI z)] 5)).cell
              refine wpAnyIn_ready (rs := [5]) (by kernel_rfl) (by simp) (AllReadyIn.cons rfl (fun K hK => ?_) AllReadyIn.nil)
              refine in_step (by kernel_rfl) (fun c h => by cases h) ?_
              refine wp_append_lies _ _ _ 22 rfl w1.heap.size 5 i0 _ 1 1 Try.underlying22 hi hz0 hz1 hz2 rfl (by decide) v (lbs pre).length ((lbs pre).map (Value.int .u8)) rfl (hrow.alloc _) ⟨W0.heap.size, 0, none⟩ 1 1 [.int .u8 (lbI z)] rfl rfl (cell_one_new _ _ _) (by simp [Value.oneCell']) (by omega) (by unfold maxLen; omega) (by omega) (by have := hB.size; simp; omega) _ rfl ?_
              intro g3 c3 W2 ho hg _ _
              obtain ⟨hv1, hv2, hr2, hk2, hb2⟩ := hv.appended (by decide) hrow hbs (Nat.le_refl _) ho hg
              have hs2x : Boxed (W2.setCell ⟨w1.heap.size, 0, none⟩ (.slice (some ⟨g3, 0, none⟩) ((lbs pre).length + 1) c3)) (w1.heap.size + 1) 59 (.slice A zs.length c) := Boxed.other ((hsl.alloc _).kept hg (hsl.not_row (by decide) hrow)) (by omega) _
              have hc := hv1.cell; have hf := hv1.frozen
              refine hK _ _ ?_
              clear hK K
              refine wpAnyIn_ready (rs := [6]) (by kernel_rfl) (by simp) (AllReadyIn.cons rfl (fun K hK => ?_) AllReadyIn.nil)
              refine in_step (by kernel_rfl) (fun c h => by cases h) ?_
              go_simp
              refine hK _ _ ?_
              clear hK K
              refine wpAnyIn_done (by kernel_rfl) ?_ _
              gi_wp2
              exact body_end hk0 hb0 hk2 hb2 hv2 (by rw [lbs_snoc]; simpa using hr2) hs2x hB hsl hslW
            · refine in_step (by kernel_rfl) (fun c h => by cases h) ?_
              go_simp
              refine hK _ _ ?_
              clear hK K
              change wpAnyIn _ _ _ _ _ _ _ _ _ (W0.alloc (.cells #[.int .u8 (lbI z)] 5))
              have hc := (hv.alloc (.cells #[.int .u8 (lbI z)] 5)).cell
              refine wpAnyIn_ready (rs := [0]) (by kernel_rfl) (by simp) (AllReadyIn.cons rfl (fun K hK => ?_) AllReadyIn.nil)
              refine in_step (by kernel_rfl) (fun c h => by cases h) ?_
              go_simp
              refine hK _ _ ?_
              clear hK K
              refine wpAnyIn_ready (rs := [5]) (by kernel_rfl) (by simp) (AllReadyIn.cons rfl (fun K hK => ?_) AllReadyIn.nil)
              refine in_step (by kernel_rfl) (fun c h => by cases h) ?_
              refine wp_append_lies _ _ _ 22 rfl w1.heap.size 5 i0 _ 1 1 Try.underlying22 hi hz0 hz1 hz2 rfl (by decide) v (lbs pre).length ((lbs pre).map (Value.int .u8)) rfl (hrow.alloc _) ⟨W0.heap.size, 0, none⟩ 1 1 [.int .u8 (lbI z)] rfl rfl (cell_one_new _ _ _) (by simp [Value.oneCell']) (by omega) (by unfold maxLen; omega) (by omega) (by have := hB.size; simp; omega) _ rfl ?_
              intro g3 c3 W2 ho hg _ _
              obtain ⟨hv1, hv2, hr2, hk2, hb2⟩ := hv.appended (by decide) hrow hbs (Nat.le_refl _) ho hg
              have hs2x : Boxed (W2.setCell ⟨w1.heap.size, 0, none⟩ (.slice (some ⟨g3, 0, none⟩) ((lbs pre).length + 1) c3)) (w1.heap.size + 1) 59 (.slice A zs.length c) := Boxed.other ((hsl.alloc _).kept hg (hsl.not_row (by decide) hrow)) (by omega) _
              have hc := hv1.cell; have hf := hv1.frozen
              refine hK _ _ ?_
              clear hK K
              refine wpAnyIn_ready (rs := [6]) (by kernel_rfl) (by simp) (AllReadyIn.cons rfl (fun K hK => ?_) AllReadyIn.nil)
              refine in_step (by kernel_rfl) (fun c h => by cases h) ?_
              go_simp
              refine hK _ _ ?_
              clear hK K
              refine wpAnyIn_done (by kernel_rfl) ?_ _
              gi_wp2
              exact body_end hk0 hb0 hk2 hb2 hv2 (by rw [lbs_snoc]; simpa using hr2) hs2x hB hsl hslW
    case done =>
      rintro D ys W hD rfl ⟨⟨v, hv, hrow, _⟩, hsl, hB⟩ hK
      have hc := hv.cell
      have hcv := conv_any (W := W) (zs := zs) hrow
      gi_wp2
      refine ⟨by simp, .inl ⟨_, _, rfl, run_takeDeferred hK, ?_⟩⟩
      refine ⟨_, results_tmp rfl _ _ _, ?_, (HBB.out.trans (hB.mono HB.out.size)).trans (belowK_b (w := w) (Nat.le_refl _) W D _ _ (by have := HB.out.size; omega) hK rfl rfl)⟩
      rw [HF.out, ← HZ.out]
      rfl
    case stop =>
      rintro D c' pre W _ _ h _
      exact h.elim
end Go.Proofs.Ytdoohnphgembdaa.iw
