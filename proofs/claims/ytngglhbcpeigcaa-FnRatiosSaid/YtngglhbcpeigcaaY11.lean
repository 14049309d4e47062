import Derived.Test.YtngglhbcpeigcaaY08
import Derived.Test.YtngglhbcpeigcaaY10
import Derived.Laws.StructEq
import Derived.Test.YtngglhbcpeigcaaY06
/-
  Fractions of the program: commonDivisor (large), reduced, RatioOf, RatioOk.
-/
namespace Go.Proofs.Ytngglhbcpeigcaa.rat
open Go.ChangeShapes Go.WideShapes Go.ChangeAt Go.RowKit
open Go.Proofs.Ytngglhbcpeigcaa.mem Go.Proofs.Ytngglhbcpeigcaa.ints Go.Proofs.Ytngglhbcpeigcaa.arr Go.Proofs.Ytngglhbcpeigcaa.pm Go.Proofs.Ytngglhbcpeigcaa.permOk Go.Proofs.Ytngglhbcpeigcaa.sf Go.Proofs.Ytngglhbcpeigcaa.gl
set_option linter.unusedVariables false
set_option maxRecDepth 100000
set_option linter.unusedSimpArgs false

set_option maxHeartbeats 1000000 in
theorem gcdI (a b g : Nat) (w : World) (hg : g = Nat.gcd a b) (ha : a ≤ 4611686018427387904) (hb : b ≤ 4611686018427387904) :
    Calls Try.prog 55 #[.int .i64 a, .int .i64 b] w fun e w' => e = .returned (.int .i64 (g : Nat)) ∧ Drawn w w' := by
  subst hg
  go_enter Try.func55, Try.ntmps55
  go_wp2
  go_loopw [0, 1] (fun av bv wr => ∃ x y : Nat, x ≤ 4611686018427387904 ∧ y ≤ 4611686018427387904 ∧ av = .int .i64 x ∧ bv = .int .i64 y ∧ Drawn w wr ∧ Hid (Nat.gcd x y = Nat.gcd a b)) (fun _ bv _ => (intOf bv).toNat)
  case atStart => exact ⟨a, b, ha, hb, rfl, rfl, ⟨0, rfl⟩, Lib.hid rfl⟩
  case round =>
    obtain ⟨x, y, hx, hy, rfl, rfl, hdr, HG⟩ := hrel
    have HD := Lib.hid hdr; clear hdr
    by_cases h0 : y = 0
    · subst h0
      have HE : Hid (x = Nat.gcd a b) := Lib.hid (by rw [← HG.out, Nat.gcd_zero_right])
      go_wp2
      go_ret
      exact ⟨ret_int (by rw [← HE.out]), HD.out⟩
    · have hb0 : ((y : Int) != 0) = true := by simp; omega
      have hm : x % y < y := Nat.mod_lt _ (by omega)
      have e1 : (x : Int).tmod y = ((x % y : Nat) : Int) := by rw [← Int.ofNat_tmod]
      have NG : Hid (Nat.gcd y (x % y) = Nat.gcd a b) := Lib.hid (by rw [← HG.out, Nat.gcd_comm x y, Nat.gcd_rec y x, Nat.gcd_comm])
      generalize hz : x % y = z at *
      have hw := IntWalk.i64_in (z : Int) (by omega)
      go_wp2
      go_region
      go_wp2
      go_roundw
      case rel => exact ⟨y, z, by omega, by omega, rfl, by first | rfl | (congr 1), by first | exact HD.out | exact HD.out.more 1 | exact (HD.out.more 1).more 1, NG⟩
      case measure => simp [intOf]; omega
set_option maxHeartbeats 4000000 in
theorem red_impl (n d : Int) (w : World) (hn : -2000000000000000000 ≤ n ∧ n ≤ 2000000000000000000) (hd : 1 ≤ d ∧ d ≤ 2000000000000000000) :
    Calls Try.prog 35 #[.agg #[.int .i64 n, .int .i64 d]] w fun e w' => e = .returned (rv (nrm n d)) ∧ Below w.heap.size w w' := by
  obtain ⟨a, ha⟩ : ∃ a : Nat, n.natAbs = a := ⟨_, rfl⟩
  obtain ⟨b, rfl⟩ : ∃ b : Nat, d = (b : Int) := ⟨d.toNat, by omega⟩
  have hneg : IntKind.i64.wrap (-n) = -n := IntWalk.i64_in _ (by omega)
  have hmx : (if -n > n then -n else n) = (a : Int) := by split <;> omega
  have hal : a ≤ 2000000000000000000 := by omega
  have hbl : b ≤ 2000000000000000000 := by omega
  have hb1 : 1 ≤ b := by omega
  obtain ⟨g, hgg⟩ : ∃ g, g = Nat.gcd b a := ⟨_, rfl⟩
  have hgc : gc n (b : Int) = g := by rw [gc_nat, ha, hgg, Nat.gcd_comm]
  have hgp : 0 < g := by rw [hgg]; exact Nat.gcd_pos_of_pos_left _ (by omega)
  have HF : Hid (nrm n (b : Int) = (n.tdiv (g : Int), (b : Int).tdiv (g : Int))) := Lib.hid (by unfold nrm; rw [hgc])
  have f1 := tdiv_fit (n := n) hgp
  have f2 := tdiv_fit (n := (b : Int)) hgp
  rw [ha] at f1
  rw [Int.natAbs_natCast] at f2
  clear hgc hn hd ha
  go_enter Try.func35, Try.ntmps35
  have C2 : Hid (∀ (x : Obj), Arr ((w.alloc (.cells #[.int .i64 n, .int .i64 (b : Int)] 24)).alloc x) w.heap.size [.int .i64 n, .int .i64 (b : Int)] 24) := Lib.hid (fun x => (Arr.new w _ _ rfl).alloc _)
  have cc0 := (C2.out (.cells #[.int .i64 0, .int .i64 0] 24)).cell (k := 0) rfl
  have cc1 := (C2.out (.cells #[.int .i64 0, .int .i64 0] 24)).cell (k := 1) rfl
  go_wp2_with fail
  clear cc0 cc1
  generalize hw1 : (w.alloc (.cells #[.int .i64 n, .int .i64 (b : Int)] 24)).alloc (.cells #[.int .i64 0, .int .i64 0] 24) = w1
  have A2 : Hid (Arr w1 w.heap.size [.int .i64 n, .int .i64 (b : Int)] 24) := Lib.hid (by rw [← hw1]; exact C2.out _)
  have A4 : Hid (Arr w1 (w.heap.size + 1) [.int .i64 0, .int .i64 0] 24) := Lib.hid (by rw [← hw1]; exact Arr.new _ _ _ (by simp))
  have B1 : Hid (Below w.heap.size w w1) := Lib.hid (by rw [← hw1]; exact ((Below.refl _ _).alloc (Nat.le_refl _) _).alloc (by simp) _)
  have s1 : w1.heap.size = w.heap.size + 2 := by rw [← hw1]; simp
  clear hw1 C2
  refine (gcdI b a g _ hgg (by omega) (by omega)).mono ?_
  rintro e w3 ⟨rfl, hdr⟩
  have b3 := drawn_below hdr; clear hdr hgg
  have s3 := b3.size
  replace A2 := Lib.hid (A2.out.keep b3 A2.out.lt)
  replace A4 := Lib.hid (A4.out.keep b3 A4.out.lt)
  replace B1 := Lib.hid (B1.out.trans (b3.mono B1.out.size)); clear b3
  have hg0 : ¬ ((g : Int) = 0) := by omega
  generalize hx : n.tdiv (g : Int) = x at *
  generalize hy : (b : Int).tdiv (g : Int) = y at *
  have wx : IntKind.i64.wrap x = x := IntWalk.i64_in _ (by omega)
  have wy : IntKind.i64.wrap y = y := IntWalk.i64_in _ (by omega)
  go_wp2_with fail
  refine wp_region_held_drew (S := Hld (w.heap.size + 1) w3.heap.size w3 [(w.heap.size, [.int .i64 n, .int .i64 (b : Int)])]) (by kernel_rfl) ((Hld.start1 A2.out).lower (by omega)) (fun hHeld => ?_)
  have b1 : Below w3.heap.size w3 w3.drew := ⟨rfl, rfl, rfl, Nat.le_refl _, fun _ _ => rfl⟩
  generalize w3.drew = w4 at *
  have s4 := b1.size
  replace A4 := Lib.hid (A4.out.keep b1 A4.out.lt)
  have B4 := Lib.hid (B1.out.trans (b1.mono B1.out.size)); clear b1
  refine wpAnyH_take (i := 0) (v := .pointer (some ⟨w.heap.size, 0, none⟩)) rfl (by kernel_rfl) (by kernel_rfl) (by kernel_rfl) (fun _ _ _ h => h) (Or.inl ⟨by first | rfl | kernel_rfl, fun w hSw => by go_simp⟩) hHeld ?_
  refine wpAnyH_take (i := 1) (v := .int .i64 n) rfl (by kernel_rfl) (by kernel_rfl) (by kernel_rfl) (fun _ _ _ h => h) (Or.inl ⟨by first | rfl | kernel_rfl, fun w hSw => by have h := hSw.c0; go_simp⟩) hHeld ?_
  refine wpAnyH_take (i := 2) (v := .int .i64 (g : Int)) rfl (by kernel_rfl) (by kernel_rfl) (by kernel_rfl) (fun _ _ _ h => h) (Or.inl ⟨by first | rfl | kernel_rfl, fun w hSw => by go_simp⟩) hHeld ?_
  refine wpAnyH_take (i := 4) (v := .pointer (some ⟨w.heap.size, 1, none⟩)) rfl (by kernel_rfl) (by kernel_rfl) (by kernel_rfl) (fun _ _ _ h => h) (Or.inl ⟨by first | rfl | kernel_rfl, fun w hSw => by go_simp⟩) hHeld ?_
  refine wpAnyH_take (i := 5) (v := .int .i64 (b : Int)) rfl (by kernel_rfl) (by kernel_rfl) (by kernel_rfl) (fun _ _ _ h => h) (Or.inl ⟨by first | rfl | kernel_rfl, fun w hSw => by have h := hSw.c1; go_simp⟩) hHeld ?_
  refine wpAnyH_take (i := 6) (v := .int .i64 (g : Int)) rfl (by kernel_rfl) (by kernel_rfl) (by kernel_rfl) (fun _ _ _ h => h) (Or.inl ⟨by first | rfl | kernel_rfl, fun w hSw => by go_simp⟩) hHeld ?_
  refine wpAnyH_take (i := 3) (v := .int .i64 x) rfl (by kernel_rfl) (by kernel_rfl) (by kernel_rfl) (fun _ _ _ h => h) (Or.inl ⟨by first | rfl | kernel_rfl, fun w hSw => by go_simp; omega⟩) hHeld ?_
  refine wpAnyH_take (i := 7) (v := .int .i64 y) rfl (by kernel_rfl) (by kernel_rfl) (by kernel_rfl) (fun _ _ _ h => h) (Or.inl ⟨by first | rfl | kernel_rfl, fun w hSw => by go_simp; omega⟩) hHeld ?_
  try dsimp only [List.getElem_toArray, List.getElem_cons_zero, List.getElem_cons_succ]
  try simp only [Act.put, List.setIfInBounds_toArray, List.set_cons_zero, List.set_cons_succ]
  refine wpAnyH_ready (rs := [8]) (by kernel_rfl) (by simp) (AllReadyH.cons rfl (fun K hK => ?_) AllReadyH.nil)
  refine step_build rfl 24 _ rfl [(0, .int .i64 x), (1, .int .i64 y)] rfl #[.int .i64 x, .int .i64 y] (builtR x y) ?_
  refine hK.out _ _ hHeld (fun hHeld2 => ?_)
  clear hK K hHeld2
  refine wpAnyH_ready (rs := [9]) (by kernel_rfl) (by simp) (AllReadyH.cons rfl (fun K hK => ?_) AllReadyH.nil)
  refine permOf.step_store_row rfl 24 _ _ rfl (w.heap.size + 1) #[.int .i64 x, .int .i64 y] rfl rfl 24 #[.int .i64 0, .int .i64 0] A4.out (sizeR (.int .i64 x) (.int .i64 y)) rfl (by simp [Value.oneCell']) ?_
  refine hK.out _ _ (hHeld.other (by omega) (by simp) _) (fun hHeld2 => ?_)
  clear hK K hHeld2
  refine wpAnyH_done (by kernel_rfl) ?_ _
  go_wp2_with fail
  exact bodyPost_ret (v := .agg #[.int .i64 x, .int .i64 y]) (results_cell_row rfl _ _ (w.heap.size + 1) 24 #[.int .i64 x, .int .i64 y] (0, 0) _ rfl A4.out.row Try.underlying24 rfl (sizeR _ _)) rfl ⟨by rw [HF.out]; rfl, below_setRow B4.out (by omega) _⟩
theorem ofB_no1 {n d : Int} (h : n < -1000000000000 ∨ 1000000000000 < n ∨ d < 1 ∨ 1000000000000 < d) : ofB n d = false := by
  cases q : ofB n d
  · rfl
  · simp only [ofB, Bool.and_eq_true, decide_eq_true_eq, MP] at q; omega
set_option maxHeartbeats 4000000 in
theorem rof_impl (n d : Int) (w : World) (n1 : -9223372036854775808 ≤ n) (n2 : n ≤ 9223372036854775807) (d1 : -9223372036854775808 ≤ d) (d2 : d ≤ 9223372036854775807) :
    Calls Try.prog 11 #[.int .i64 n, .int .i64 d] w fun e w' => e = .returned (rv (ofF n d)) ∧ Below w.heap.size w w' := by
  have A0 : Hid (Arr (w.alloc (.cells #[.int .i64 0, .int .i64 0] 24)) w.heap.size [.int .i64 0, .int .i64 0] 24) := Lib.hid (Arr.new w _ _ rfl)
  have B1 : Hid (Below w.heap.size w (w.alloc (.cells #[.int .i64 0, .int .i64 0] 24))) := Lib.hid ((Below.refl _ _).alloc (Nat.le_refl _) _)
  have s1 : (w.alloc (.cells #[.int .i64 0, .int .i64 0] 24)).heap.size = w.heap.size + 1 := by simp
  by_cases h : n < -1000000000000 ∨ 1000000000000 < n ∨ d < 1 ∨ 1000000000000 < d
  · have HF := Lib.hid (ofF_no (ofB_no1 h))
    rcases Classical.em (n < -1000000000000) with g1 | g1
    · have e1 : decide (n < -1000000000000) = true := by simp; omega
      clear h
      go_enter Try.func11, Try.ntmps11
      go_wp2_with (first | (refine wpList_build rfl 24 _ rfl [] rfl #[.int .i64 0, .int .i64 0] builtR0 ?_) | (refine wpList_store_row rfl 24 _ _ rfl w.heap.size #[.int .i64 0, .int .i64 0] rfl rfl 24 #[.int .i64 0, .int .i64 0] A0.out (sizeR _ _) rfl (by simp [Value.oneCell']) ?_) | fail)
      exact bodyPost_ret (v := .agg #[.int .i64 0, .int .i64 0]) (results_cell_row rfl _ _ w.heap.size 24 #[.int .i64 0, .int .i64 0] (0, 0) _ rfl A0.out.row Try.underlying24 rfl (sizeR _ _)) rfl ⟨by rw [HF.out]; rfl, below_setRow B1.out (Nat.le_refl _) _⟩
    · have e1 : decide (n < -1000000000000) = false := by simp; omega
      rcases Classical.em (1000000000000 < n) with g2 | g2
      · have e2 : decide (1000000000000 < n) = true := by simp; omega
        clear h
        go_enter Try.func11, Try.ntmps11
        go_wp2_with (first | (refine wpList_build rfl 24 _ rfl [] rfl #[.int .i64 0, .int .i64 0] builtR0 ?_) | (refine wpList_store_row rfl 24 _ _ rfl w.heap.size #[.int .i64 0, .int .i64 0] rfl rfl 24 #[.int .i64 0, .int .i64 0] A0.out (sizeR _ _) rfl (by simp [Value.oneCell']) ?_) | fail)
        exact bodyPost_ret (v := .agg #[.int .i64 0, .int .i64 0]) (results_cell_row rfl _ _ w.heap.size 24 #[.int .i64 0, .int .i64 0] (0, 0) _ rfl A0.out.row Try.underlying24 rfl (sizeR _ _)) rfl ⟨by rw [HF.out]; rfl, below_setRow B1.out (Nat.le_refl _) _⟩
      · have e2 : decide (1000000000000 < n) = false := by simp; omega
        rcases Classical.em (d < 1) with g3 | g3
        · have e3 : decide (d < 1) = true := by simp; omega
          clear h
          go_enter Try.func11, Try.ntmps11
          go_wp2_with (first | (refine wpList_build rfl 24 _ rfl [] rfl #[.int .i64 0, .int .i64 0] builtR0 ?_) | (refine wpList_store_row rfl 24 _ _ rfl w.heap.size #[.int .i64 0, .int .i64 0] rfl rfl 24 #[.int .i64 0, .int .i64 0] A0.out (sizeR _ _) rfl (by simp [Value.oneCell']) ?_) | fail)
          exact bodyPost_ret (v := .agg #[.int .i64 0, .int .i64 0]) (results_cell_row rfl _ _ w.heap.size 24 #[.int .i64 0, .int .i64 0] (0, 0) _ rfl A0.out.row Try.underlying24 rfl (sizeR _ _)) rfl ⟨by rw [HF.out]; rfl, below_setRow B1.out (Nat.le_refl _) _⟩
        · have e3 : decide (d < 1) = false := by simp; omega
          have e4 : decide (1000000000000 < d) = true := by simp; omega
          clear h
          go_enter Try.func11, Try.ntmps11
          go_wp2_with (first | (refine wpList_build rfl 24 _ rfl [] rfl #[.int .i64 0, .int .i64 0] builtR0 ?_) | (refine wpList_store_row rfl 24 _ _ rfl w.heap.size #[.int .i64 0, .int .i64 0] rfl rfl 24 #[.int .i64 0, .int .i64 0] A0.out (sizeR _ _) rfl (by simp [Value.oneCell']) ?_) | fail)
          exact bodyPost_ret (v := .agg #[.int .i64 0, .int .i64 0]) (results_cell_row rfl _ _ w.heap.size 24 #[.int .i64 0, .int .i64 0] (0, 0) _ rfl A0.out.row Try.underlying24 rfl (sizeR _ _)) rfl ⟨by rw [HF.out]; rfl, below_setRow B1.out (Nat.le_refl _) _⟩
  · have e1 : decide (n < -1000000000000) = false := by simp; omega
    have e2 : decide (1000000000000 < n) = false := by simp; omega
    have e3 : decide (d < 1) = false := by simp; omega
    have e4 : decide (1000000000000 < d) = false := by simp; omega
    have HB : ofB n d = true := by simp only [ofB, Bool.and_eq_true, decide_eq_true_eq, MP]; omega
    have HF := Lib.hid (ofF_yes HB)
    have q1 : -1000000000000 ≤ n ∧ n ≤ 1000000000000 := by omega
    have q2 : 1 ≤ d ∧ d ≤ 1000000000000 := by omega
    clear h HB
    go_enter Try.func11, Try.ntmps11
    go_wp2_with (first | (refine wpList_build rfl 24 _ rfl [(0, .int .i64 n), (1, .int .i64 d)] rfl #[.int .i64 n, .int .i64 d] (builtR _ _) ?_) | fail)
    generalize w.alloc (.cells #[.int .i64 0, .int .i64 0] 24) = w1 at *
    refine (red_impl n d _ (by omega) (by omega)).mono ?_
    rintro e w2 ⟨rfl, b1⟩
    have s2 := b1.size
    replace A0 := Lib.hid (A0.out.keep b1 A0.out.lt)
    replace B1 := Lib.hid (B1.out.trans (b1.mono B1.out.size)); clear b1
    rw [← HF.out]
    obtain ⟨⟨x, y⟩, hxy⟩ : ∃ q, q = ofF n d := ⟨_, rfl⟩
    rw [← hxy]
    have HXY := Lib.hid hxy; clear hxy HF
    unfold rv
    go_wp2_with (refine wpList_store_row rfl 24 _ _ rfl w.heap.size #[.int .i64 x, .int .i64 y] rfl rfl 24 #[.int .i64 0, .int .i64 0] A0.out (sizeR _ _) rfl (by simp [Value.oneCell']) ?_)
    exact bodyPost_ret (v := .agg #[.int .i64 x, .int .i64 y]) (results_cell_row rfl _ _ w.heap.size 24 #[.int .i64 x, .int .i64 y] (0, 0) _ rfl A0.out.row Try.underlying24 rfl (sizeR _ _)) rfl ⟨by rw [← HXY.out]; rfl, below_setRow B1.out (Nat.le_refl _) _⟩
theorem yb {P : Program} {ops : Array Oper} {S : World → Prop} {op : Oper} {a : Act} (hw : Region.wanted op (yielded ops a.tmps) = true) (t : TypeId) (parts : Array (Nat × Operand)) (ho : op.op = .build t parts)
    (l : List (Nat × Value)) (hl : (parts.toList.map fun p => (p.1, a.eval p.2)) = l) (cells : Array Value) (hb : P.built t l = some cells) : YieldsIf P ops S op (.agg cells) a :=
  .inl ⟨hw, fun w _ => by
    have hb' : P.built t (parts.map fun (i, x) => (i, a.eval x)).toList = some cells := by rw [Array.toList_map]; subst hl; exact hb
    unfold execOp
    simp only [ho, Sem.run_bind, run_build w t _ cells hb', Result.andThen_ok]
    rfl⟩
theorem eqN (n d n' d' : Int) (w : World) : (Op.equalIn 10000 24 (.agg #[.int .i64 n, .int .i64 d]) (.agg #[.int .i64 n', .int .i64 d'])).run Try.prog w = .ok (n == n' && d == d') w := by
  have hf : (Try.prog.fieldsOf 24).toList.map (fun f => (f.name, f.type, f.offset)) = [("N", 3, 0), ("D", 3, 1)] := by kernel_rfl
  have part_I : ∀ {cs : Array Value} {off : Nat} {v : Value} (h : cs[off]? = some v) (w : World), (part 3 cs off).run Try.prog w = .ok v w := fun h w => run_part_plain w (by kernel_rfl) h
  rw [run_equalIn_struct w 9999 _ _ _ (by kernel_rfl) (by kernel_rfl)]
  generalize (Try.prog.fieldsOf 24).toList = fs at hf
  have hl : fs.length = 2 := by have := congrArg List.length hf; simpa using this
  match fs, hl, hf with
  | [f0, f1], _, hf =>
    simp only [List.map_cons, List.map_nil, List.cons.injEq, Prod.mk.injEq, and_true] at hf
    obtain ⟨⟨a1, a2, a3⟩, b1, b2, b3⟩ := hf
    have x1 : (#[.int .i64 n, .int .i64 d] : Array Value)[0]? = some (.int .i64 n) := rfl
    have x2 : (#[.int .i64 n, .int .i64 d] : Array Value)[1]? = some (.int .i64 d) := rfl
    have y1 : (#[.int .i64 n', .int .i64 d'] : Array Value)[0]? = some (.int .i64 n') := rfl
    have y2 : (#[.int .i64 n', .int .i64 d'] : Array Value)[1]? = some (.int .i64 d') := rfl
    have e1 : (Op.equalIn 9999 3 (.int .i64 n) (.int .i64 n')).run Try.prog w = .ok ((n : Int) == (n' : Int)) w := run_equalIn_int w 9998 _ .i64 .i64 _ _ Try.underlying3
    have e2 : (Op.equalIn 9999 3 (.int .i64 d) (.int .i64 d')).run Try.prog w = .ok ((d : Int) == (d' : Int)) w := run_equalIn_int w 9998 _ .i64 .i64 _ _ Try.underlying3
    have n1 : (("N" : String) ≠ "_") = True := by simp
    have n2 : (("D" : String) ≠ "_") = True := by simp
    cases q : ((n : Int) == (n' : Int)) <;> cases q2 : ((d : Int) == (d' : Int)) <;> rw [q] at e1 <;> rw [q2] at e2 <;>
      simp only [Op.eqFields, n1, n2, if_true, a1, a2, a3, b1, b2, b3, Sem.run_bind, part_I x1, part_I x2, part_I y1, part_I y2, Result.andThen_ok, e1, e2, Bool.not_true, Bool.not_false, Bool.false_eq_true, if_false, Sem.run_pure, Bool.and_true, Bool.and_false, Bool.true_and, Bool.false_and, Bool.and_self]
theorem eqgN : Try.prog.eqGuardType Try.prog.depth 24 = false := by kernel_rfl
theorem okR_zero {n d : Int} (h : (n == 0 && d == 0) = true) : okR n d = false := by
  simp only [Bool.and_eq_true, beq_iff_eq] at h
  obtain ⟨rfl, rfl⟩ := h; decide
theorem okR_of {n d : Int} (h : (n == 0 && d == 0) = false) : okR n d = (n == (ofF n d).1 && d == (ofF n d).2) := by
  cases hb : ofB n d
  · rw [ofF_no hb]
    show _ = (n == 0 && d == 0)
    rw [h]
    cases q : okR n d
    · rfl
    · simp only [okR, Bool.and_eq_true, decide_eq_true_eq] at q
      simp only [ofB, Bool.and_eq_false_iff, decide_eq_false_iff_not] at hb
      omega
  · rw [ofF_yes hb]
    simp only [ofB, Bool.and_eq_true, decide_eq_true_eq] at hb
    rw [okR_3 hb.2 hb.1]
    have hg := gc_pos (n := n) hb.2.1
    unfold nrm
    dsimp only
    generalize gc n d = g at *
    by_cases h1 : g = 1
    · subst h1; simp
    · have e1 : (g == 1) = false := by simp [h1]
      rw [e1]
      have e2 : (d == d.tdiv (g : Int)) = false := by
        have hd := hb.2.1
        rw [beq_eq_false_iff_ne]
        intro hq
        obtain ⟨b, rfl⟩ : ∃ b : Nat, d = (b : Int) := ⟨d.toNat, by omega⟩
        have : (b : Int).tdiv (g : Int) = ((b / g : Nat) : Int) := rfl
        rw [this] at hq
        have : b / g < b := Nat.div_lt_self (by omega) (by omega)
        omega
      rw [e2, Bool.and_false]
set_option maxHeartbeats 4000000 in
theorem rok_impl (n d : Int) (w : World) (n1 : -9223372036854775808 ≤ n) (n2 : n ≤ 9223372036854775807) (d1 : -9223372036854775808 ≤ d) (d2 : d ≤ 9223372036854775807) :
    Calls Try.prog 12 #[.agg #[.int .i64 n, .int .i64 d]] w fun e w' => e = .returned (.bool (okR n d)) ∧ Below w.heap.size w w' := by
  go_enter Try.func12, Try.ntmps12
  go_wp2_with fail
  have A0 : Hid (Arr (w.alloc (.cells #[.int .i64 n, .int .i64 d] 24)) w.heap.size [.int .i64 n, .int .i64 d] 24) := Lib.hid (Arr.new w _ _ rfl)
  have B1 : Hid (Below w.heap.size w (w.alloc (.cells #[.int .i64 n, .int .i64 d] 24))) := Lib.hid ((Below.refl _ _).alloc (Nat.le_refl _) _)
  have s1 : (w.alloc (.cells #[.int .i64 n, .int .i64 d] 24)).heap.size = w.heap.size + 1 := by simp
  generalize w.alloc (.cells #[.int .i64 n, .int .i64 d] 24) = w1 at *
  refine wp_region_held_drew (S := Hld w1.heap.size w1.heap.size w1 [(w.heap.size, [.int .i64 n, .int .i64 d])]) (by kernel_rfl) (Hld.start1 A0.out) (fun hHeld => ?_)
  have b1 : Below w1.heap.size w1 w1.drew := ⟨rfl, rfl, rfl, Nat.le_refl _, fun _ _ => rfl⟩
  generalize w1.drew = w2 at *
  have s2 := b1.size
  replace A0 := Lib.hid (A0.out.keep b1 A0.out.lt)
  replace B1 := Lib.hid (B1.out.trans (b1.mono B1.out.size)); clear b1
  refine wpAnyH_take (i := 0) (v := .agg #[.int .i64 n, .int .i64 d]) rfl (by kernel_rfl) (by kernel_rfl) (by kernel_rfl) (fun _ _ _ h => h) (yieldsIf_load_mid (by kernel_rfl) 24 _ rfl w.heap.size 0 rfl [.int .i64 n, .int .i64 d] _ (fun w h => h.fst) Try.underlying24 rfl (sizeRL _ _)) hHeld ?_
  refine wpAnyH_take (i := 1) (v := .agg #[.int .i64 0, .int .i64 0]) rfl (by kernel_rfl) (by kernel_rfl) (by kernel_rfl) (fun _ _ _ h => h) (yb (by kernel_rfl) 24 _ rfl [] rfl _ builtR0) hHeld ?_
  try dsimp only [List.getElem_toArray, List.getElem_cons_zero, List.getElem_cons_succ]
  try simp only [Act.put, List.setIfInBounds_toArray, List.set_cons_zero, List.set_cons_succ]
  cases hz : (n == 0 && d == 0)
  · refine wpAnyH_take (i := 2) (v := .bool true) rfl (by kernel_rfl) (by kernel_rfl) (by kernel_rfl) (fun _ _ _ h => h) (Or.inl ⟨by first | rfl | kernel_rfl, fun w hSw => by (have hm := eqgN; go_simp; simpa using hz)⟩) hHeld ?_
    refine wpAnyH_take (i := 3) (v := .bool true) rfl (by kernel_rfl) (by kernel_rfl) (by kernel_rfl) (fun _ _ _ h => h) (Or.inl ⟨by first | rfl | kernel_rfl, fun w hSw => by go_simp⟩) hHeld ?_
    refine wpAnyH_take (i := 4) (v := .agg #[.int .i64 n, .int .i64 d]) rfl (by kernel_rfl) (by kernel_rfl) (by kernel_rfl) (fun _ _ _ h => h) (yieldsIf_load_mid (by kernel_rfl) 24 _ rfl w.heap.size 0 rfl [.int .i64 n, .int .i64 d] _ (fun w h => h.fst) Try.underlying24 rfl (sizeRL _ _)) hHeld ?_
    refine wpAnyH_take (i := 5) (v := .pointer (some ⟨w.heap.size, 0, none⟩)) rfl (by kernel_rfl) (by kernel_rfl) (by kernel_rfl) (fun _ _ _ h => h) (Or.inl ⟨by first | rfl | kernel_rfl, fun w hSw => by go_simp⟩) hHeld ?_
    refine wpAnyH_take (i := 6) (v := .int .i64 n) rfl (by kernel_rfl) (by kernel_rfl) (by kernel_rfl) (fun _ _ _ h => h) (Or.inl ⟨by first | rfl | kernel_rfl, fun w hSw => by have h := hSw.c0; go_simp⟩) hHeld ?_
    refine wpAnyH_take (i := 7) (v := .pointer (some ⟨w.heap.size, 1, none⟩)) rfl (by kernel_rfl) (by kernel_rfl) (by kernel_rfl) (fun _ _ _ h => h) (Or.inl ⟨by first | rfl | kernel_rfl, fun w hSw => by go_simp⟩) hHeld ?_
    refine wpAnyH_take (i := 8) (v := .int .i64 d) rfl (by kernel_rfl) (by kernel_rfl) (by kernel_rfl) (fun _ _ _ h => h) (Or.inl ⟨by first | rfl | kernel_rfl, fun w hSw => by have h := hSw.c1; go_simp⟩) hHeld ?_
    try dsimp only [List.getElem_toArray, List.getElem_cons_zero, List.getElem_cons_succ]
    try simp only [Act.put, List.setIfInBounds_toArray, List.set_cons_zero, List.set_cons_succ]
    refine wpAnyH_ready (rs := [9]) (by kernel_rfl) (by simp) (AllReadyH.cons rfl (fun K hK => ?_) AllReadyH.nil)
    go_simp
    refine (rof_impl n d _ (by omega) (by omega) (by omega) (by omega)).mono ?_
    rintro e w3 ⟨rfl, b1⟩
    have s3 := b1.size
    replace B1 := Lib.hid (B1.out.trans (b1.mono B1.out.size))
    have hHeld2 := hHeld.later b1 (by omega); clear b1 hHeld
    have HF := Lib.hid (okR_of hz)
    clear hz
    obtain ⟨⟨x, y⟩, hxy⟩ : ∃ q, q = ofF n d := ⟨_, rfl⟩
    rw [← hxy] at HF ⊢
    clear hxy
    unfold rv
    go_wp2_with fail
    refine hK.out _ _ hHeld2 (fun hHeld => ?_)
    clear hK K hHeld2
    obtain ⟨bb, hbb⟩ : ∃ bb, bb = (n == x && d == y) := ⟨_, rfl⟩
    refine wpAnyH_take (i := 10) (v := .bool bb) rfl (by kernel_rfl) (by kernel_rfl) (by kernel_rfl) (fun _ _ _ h => h) (Or.inl ⟨by first | rfl | kernel_rfl, fun w hSw => by (have hm := eqgN; go_simp; by_cases a1 : n = x <;> by_cases a2 : d = y <;> simp [a1, a2])⟩) hHeld ?_
    refine wpAnyH_take (i := 11) (v := .bool bb) rfl (by kernel_rfl) (by kernel_rfl) (by kernel_rfl) (fun _ _ _ h => h) (Or.inl ⟨by first | rfl | kernel_rfl, fun w hSw => by go_simp⟩) hHeld ?_
    refine wpAnyH_take (i := 12) (v := .bool bb) rfl (by kernel_rfl) (by kernel_rfl) (by kernel_rfl) (fun _ _ _ h => h) (Or.inl ⟨by first | rfl | kernel_rfl, fun w hSw => by go_simp⟩) hHeld ?_
    refine wpAnyH_done (by kernel_rfl) ?_ _
    try dsimp only [List.getElem_toArray, List.getElem_cons_zero, List.getElem_cons_succ]
    try simp only [Act.put, List.setIfInBounds_toArray, List.set_cons_zero, List.set_cons_succ]
    go_wp2_with fail
    go_ret
    exact ⟨ret_bool (by rw [HF.out, ← hbb]), B1.out⟩
  · refine wpAnyH_take (i := 2) (v := .bool false) rfl (by kernel_rfl) (by kernel_rfl) (by kernel_rfl) (fun _ _ _ h => h) (Or.inl ⟨by first | rfl | kernel_rfl, fun w hSw => by (have hm := eqgN; go_simp; simp at hz; simp [hz.1, hz.2])⟩) hHeld ?_
    refine wpAnyH_take (i := 3) (v := .bool false) rfl (by kernel_rfl) (by kernel_rfl) (by kernel_rfl) (fun _ _ _ h => h) (Or.inl ⟨by first | rfl | kernel_rfl, fun w hSw => by go_simp⟩) hHeld ?_
    have HF := Lib.hid (okR_zero hz)
    clear hz
    refine wpAnyH_take (i := 4) (v := undef) rfl (by kernel_rfl) (by kernel_rfl) (by kernel_rfl) (fun _ _ _ h => h) (Or.inr ⟨by kernel_rfl, rfl⟩) hHeld ?_
    refine wpAnyH_take (i := 5) (v := undef) rfl (by kernel_rfl) (by kernel_rfl) (by kernel_rfl) (fun _ _ _ h => h) (Or.inr ⟨by kernel_rfl, rfl⟩) hHeld ?_
    refine wpAnyH_take (i := 6) (v := undef) rfl (by kernel_rfl) (by kernel_rfl) (by kernel_rfl) (fun _ _ _ h => h) (Or.inr ⟨by kernel_rfl, rfl⟩) hHeld ?_
    refine wpAnyH_take (i := 7) (v := undef) rfl (by kernel_rfl) (by kernel_rfl) (by kernel_rfl) (fun _ _ _ h => h) (Or.inr ⟨by kernel_rfl, rfl⟩) hHeld ?_
    refine wpAnyH_take (i := 8) (v := undef) rfl (by kernel_rfl) (by kernel_rfl) (by kernel_rfl) (fun _ _ _ h => h) (Or.inr ⟨by kernel_rfl, rfl⟩) hHeld ?_
    refine wpAnyH_take (i := 9) (v := undef) rfl (by kernel_rfl) (by kernel_rfl) (by kernel_rfl) (fun _ _ _ h => h) (Or.inr ⟨by kernel_rfl, rfl⟩) hHeld ?_
    refine wpAnyH_take (i := 10) (v := undef) rfl (by kernel_rfl) (by kernel_rfl) (by kernel_rfl) (fun _ _ _ h => h) (Or.inr ⟨by kernel_rfl, rfl⟩) hHeld ?_
    refine wpAnyH_take (i := 11) (v := .bool false) rfl (by kernel_rfl) (by kernel_rfl) (by kernel_rfl) (fun _ _ _ h => h) (Or.inl ⟨by first | rfl | kernel_rfl, fun w hSw => by go_simp⟩) hHeld ?_
    refine wpAnyH_take (i := 12) (v := .bool false) rfl (by kernel_rfl) (by kernel_rfl) (by kernel_rfl) (fun _ _ _ h => h) (Or.inl ⟨by first | rfl | kernel_rfl, fun w hSw => by go_simp⟩) hHeld ?_
    refine wpAnyH_done (by kernel_rfl) ?_ _
    try dsimp only [List.getElem_toArray, List.getElem_cons_zero, List.getElem_cons_succ]
    try simp only [Act.put, List.setIfInBounds_toArray, List.set_cons_zero, List.set_cons_succ]
    go_wp2_with fail
    go_ret
    exact ⟨ret_bool HF.out.symm, B1.out⟩
end Go.Proofs.Ytngglhbcpeigcaa.rat

/-
  Rows above rows: a partial injection on places, the least closed set about a place, and the two walks that mark it; mathematics alone.
-/
namespace Go.Proofs.Ytngglhbcpeigcaa.cy
set_option linter.unusedVariables false
set_option maxRecDepth 100000

/-- The place above, or -1. -/
def at_ (ab : List Int) (i : Nat) : Int := ab.getD i (-1)
structure Inj (N : Nat) (ab : List Int) : Prop where
  len : ab.length = N
  rng : ∀ i, i < N → at_ ab i < N
  low : ∀ i, i < N → -1 ≤ at_ ab i
  inj : ∀ i j x : Nat, i < N → j < N → at_ ab i = x → at_ ab j = x → i = j
def Closed (N : Nat) (ab : List Int) (T : Nat → Prop) : Prop := ∀ i x : Nat, i < N → at_ ab i = x → (T i ↔ T x)
def on (M : List Bool) (i : Nat) : Prop := M[i]? = some true
theorem on_lt {M : List Bool} {i : Nat} (h : on M i) : i < M.length := (List.getElem?_eq_some_iff.1 h).1
theorem on_not {M : List Bool} {i : Nat} (h : M[i]? = some false) : ¬ on M i := fun k => by rw [on, h] at k; cases k
theorem not_on {M : List Bool} {i : Nat} (hi : i < M.length) (h : ¬ on M i) : M[i]? = some false := by
  have e := List.getElem?_eq_getElem hi
  cases hb : M[i] with
  | true => rw [hb] at e; exact absurd e h
  | false => rw [hb] at e; exact e
theorem on_set {M : List Bool} {k i : Nat} (hk : k < M.length) : on (M.set k true) i ↔ i = k ∨ on M i := by
  unfold on
  by_cases e : i = k
  · subst e; simp [hk]
  · rw [List.getElem?_set_ne (Ne.symm e)]; simp [e]
def cnt (M : List Bool) : Nat := M.count true
theorem cnt_le (M : List Bool) : cnt M ≤ M.length := List.count_le_length
theorem cnt_set {M : List Bool} {k : Nat} (h : M[k]? = some false) : cnt (M.set k true) = cnt M + 1 := by
  induction M generalizing k with
  | nil => simp at h
  | cons b t ih =>
    cases k with
    | zero =>
      have : b = false := by simpa using h
      subst this
      simp [cnt]
    | succ k =>
      have := ih (k := k) (by simpa using h)
      unfold cnt at this ⊢
      rw [List.set_cons_succ, List.count_cons, List.count_cons, this]
      omega

open Classical in
/-- The least closed set that holds M and r, as marks. -/
noncomputable def clos (N : Nat) (ab : List Int) (M : List Bool) (r : Nat) : List Bool :=
  (List.range N).map fun i => decide (∀ T : Nat → Prop, Closed N ab T → (∀ j, on M j → T j) → T r → T i)
theorem clos_len (N : Nat) (ab : List Int) (M : List Bool) (r : Nat) : (clos N ab M r).length = N := by simp [clos]
theorem clos_on {N : Nat} {ab : List Int} {M : List Bool} {r i : Nat} (hi : i < N) : on (clos N ab M r) i ↔ ∀ T : Nat → Prop, Closed N ab T → (∀ j, on M j → T j) → T r → T i := by
  show (clos N ab M r)[i]? = some true ↔ _
  unfold clos
  simp [hi]
theorem clos_closed {N : Nat} {ab : List Int} (h : Inj N ab) (M : List Bool) (r : Nat) : Closed N ab (on (clos N ab M r)) := by
  intro i x hi hx
  have hxN : x < N := by have := h.rng i hi; omega
  rw [clos_on hi, clos_on hxN]
  exact ⟨fun q T a b c => (a i x hi hx).1 (q T a b c), fun q T a b c => (a i x hi hx).2 (q T a b c)⟩
theorem clos_sub {N : Nat} {ab : List Int} {M : List Bool} {r : Nat} (hl : M.length = N) {j : Nat} (hj : on M j) : on (clos N ab M r) j :=
  (clos_on (by have := on_lt hj; omega)).2 fun T a b c => b j hj
theorem clos_self {N : Nat} {ab : List Int} {M : List Bool} {r : Nat} (hr : r < N) : on (clos N ab M r) r := (clos_on hr).2 fun T a b c => c
theorem clos_eq {N : Nat} {ab : List Int} {M M' : List Bool} {r : Nat} (hl : M'.length = N) (hc : Closed N ab (on M')) (hs : ∀ j, on M j → on M' j) (hr : on M' r)
    (hm : ∀ T : Nat → Prop, Closed N ab T → (∀ j, on M j → T j) → T r → ∀ i, on M' i → T i) : M' = clos N ab M r := by
  refine List.ext_getElem? fun i => ?_
  by_cases hi : i < N
  · have e1 := List.getElem?_eq_getElem (l := M') (i := i) (by omega)
    have e2 := List.getElem?_eq_getElem (l := clos N ab M r) (i := i) (by rw [clos_len]; exact hi)
    have e3 : on M' i ↔ on (clos N ab M r) i := by
      rw [clos_on hi]
      exact ⟨fun q T a b c => hm T a b c i q, fun q => q (on M') hc hs hr⟩
    unfold on at e3
    rw [e1, e2] at e3
    rw [e1, e2]
    congr 1
    have e4 : M'[i] = true ↔ (clos N ab M r)[i]'(by rw [clos_len]; exact hi) = true := by simpa using e3
    exact Bool.eq_iff_iff.2 e4
  · rw [List.getElem?_eq_none (by omega), List.getElem?_eq_none (by rw [clos_len]; omega)]

/-- On the way up from r: S was marked, M is, cur comes next. -/
structure Up (N : Nat) (ab : List Int) (S : List Bool) (r : Nat) (M : List Bool) (cur : Int) : Prop where
  len : M.length = N
  sub : ∀ j, on S j → on M j
  min : ∀ T : Nat → Prop, Closed N ab T → (∀ j, on S j → T j) → T r → (∀ i, on M i → T i) ∧ ∀ c : Nat, cur = c → T c
  up : ∀ i, on M i → ∀ x : Nat, at_ ab i = x → on M x ∨ cur = x
  pre : ∀ x, on M x → on S x ∨ x = r ∨ ∃ i, on M i ∧ at_ ab i = x
  cpre : ∀ c : Nat, cur = c → c = r ∨ ∃ i, on M i ∧ at_ ab i = c
  hi : cur < N
  lo : -1 ≤ cur
  row : on M r ∨ cur = r
theorem Up.start {N : Nat} {ab : List Int} {S : List Bool} {r : Nat} (hl : S.length = N) (hr : r < N) (hS : Closed N ab (on S)) : Up N ab S r S r :=
  ⟨hl, fun j h => h, fun T a b c => ⟨b, fun c' e => by have : c' = r := by omega
                                                       subst this; exact c⟩, fun i hi x hx => .inl ((hS i x (by have := on_lt hi; omega) hx).1 hi), fun x h => .inl h, fun c e => .inl (by omega), by omega, by omega, .inr rfl⟩
theorem Up.step {N : Nat} {ab : List Int} {S M : List Bool} {r c : Nat} (h : Up N ab S r M (c : Int)) (hi : Inj N ab) (hc : M[c]? = some false) : Up N ab S r (M.set c true) (at_ ab c) := by
  have hcl : c < M.length := (List.getElem?_eq_some_iff.1 hc).1
  have hcN : c < N := by have := h.len; omega
  refine ⟨by rw [List.length_set]; exact h.len, fun j hj => (on_set hcl).2 (.inr (h.sub j hj)), fun T a b d => ?_, fun i hi' x hx => ?_, fun x hx => ?_, fun c' e => ?_, hi.rng c hcN, hi.low c hcN, .inl ?_⟩
  · obtain ⟨q1, q2⟩ := h.min T a b d
    have tc := q2 c rfl
    refine ⟨fun i hi' => ?_, fun c' e => (a c c' hcN e).1 tc⟩
    rcases (on_set hcl).1 hi' with rfl | q
    · exact tc
    · exact q1 i q
  · rcases (on_set hcl).1 hi' with rfl | q
    · exact .inr hx
    · rcases h.up i q x hx with z | z
      · exact .inl ((on_set hcl).2 (.inr z))
      · exact .inl ((on_set hcl).2 (.inl (by omega)))
  · rcases (on_set hcl).1 hx with rfl | q
    · rcases h.cpre x rfl with z | ⟨i, z1, z2⟩
      · exact .inr (.inl z)
      · exact .inr (.inr ⟨i, (on_set hcl).2 (.inr z1), z2⟩)
    · rcases h.pre x q with z | z | ⟨i, z1, z2⟩
      · exact .inl z
      · exact .inr (.inl z)
      · exact .inr (.inr ⟨i, (on_set hcl).2 (.inr z1), z2⟩)
  · exact .inr ⟨c, (on_set hcl).2 (.inl rfl), e⟩
  · rcases h.row with z | z
    · exact (on_set hcl).2 (.inr z)
    · exact (on_set hcl).2 (.inl (by omega))
/-- The way up is done. -/
structure Ud (N : Nat) (ab : List Int) (S : List Bool) (r : Nat) (M : List Bool) : Prop where
  len : M.length = N
  sub : ∀ j, on S j → on M j
  min : ∀ T : Nat → Prop, Closed N ab T → (∀ j, on S j → T j) → T r → ∀ i, on M i → T i
  up : ∀ i, on M i → ∀ x : Nat, at_ ab i = x → on M x
  pre : ∀ x, on M x → on S x ∨ x = r ∨ ∃ i, on M i ∧ at_ ab i = x
  row : on M r
theorem Up.done {N : Nat} {ab : List Int} {S M : List Bool} {r : Nat} {cur : Int} (h : Up N ab S r M cur) (hd : cur < 0 ∨ ∃ c : Nat, cur = c ∧ on M c) : Ud N ab S r M := by
  refine ⟨h.len, h.sub, fun T a b c => (h.min T a b c).1, fun i hi x hx => ?_, h.pre, ?_⟩
  · rcases h.up i hi x hx with z | z
    · exact z
    · rcases hd with q | ⟨c, q1, q2⟩
      · omega
      · have : c = x := by omega
        subst this; exact q2
  · rcases h.row with z | z
    · exact z
    · rcases hd with q | ⟨c, q1, q2⟩
      · omega
      · have : c = r := by omega
        subst this; exact q2

/-- Is 'to' reached from k by going up, with fuel? -/
def jn (ab : List Int) (tz : Int) : Nat → Int → Bool
  | 0, _ => false
  | f + 1, k => if k < 0 then false else if k = tz then true else jn ab tz f (at_ ab k.toNat)
theorem jn_more {ab : List Int} {tz : Int} : ∀ {f : Nat} {k : Int}, jn ab tz f k = true → jn ab tz (f + 1) k = true
  | 0, k, h => by simp [jn] at h
  | f + 1, k, h => by
    rw [jn] at h ⊢
    split
    · rename_i q; rw [if_pos q] at h; cases h
    · rename_i q
      rw [if_neg q] at h
      split
      · rfl
      · rename_i q2
        rw [if_neg q2] at h
        exact jn_more h
theorem jn_le {ab : List Int} {tz : Int} {f g : Nat} {k : Int} (h : jn ab tz f k = true) (hg : f ≤ g) : jn ab tz g k = true := by
  induction hg with
  | refl => exact h
  | step _ ih => exact jn_more ih
theorem jn_step {ab : List Int} {tz : Int} {f k x : Nat} (hx : at_ ab k = x) (h : jn ab tz f (x : Int) = true) : jn ab tz (f + 1) (k : Int) = true := by
  rw [jn, if_neg (by omega)]
  split
  · rfl
  · rw [Int.toNat_natCast, hx]; exact h
/-- The specification's second phase: n new marks. -/
structure Sd (N : Nat) (ab : List Int) (S : List Bool) (r : Nat) (M : List Bool) (n : Nat) : Prop where
  len : M.length = N
  sub : ∀ j, on S j → on M j
  min : ∀ T : Nat → Prop, Closed N ab T → (∀ j, on S j → T j) → T r → ∀ i, on M i → T i
  up : ∀ i, on M i → ∀ x : Nat, at_ ab i = x → on M x
  tag : ∀ x, on M x → on S x ∨ (∃ i, on M i ∧ at_ ab i = x) ∨ jn ab r n (x : Int) = true
  row : on M r
  cnt : n + cnt S = cnt M
theorem Ud.sd {N : Nat} {ab : List Int} {S M : List Bool} {r n : Nat} (h : Ud N ab S r M) (hc : n + cnt S = cnt M) (hn : 0 < n) : Sd N ab S r M n := by
  refine ⟨h.len, h.sub, h.min, h.up, fun x hx => ?_, h.row, hc⟩
  rcases h.pre x hx with z | z | z
  · exact .inl z
  · subst z
    obtain ⟨m, rfl⟩ : ∃ m, n = m + 1 := ⟨n - 1, by omega⟩
    refine .inr (.inr ?_)
    rw [jn, if_neg (by omega), if_pos rfl]
  · exact .inr (.inl z)
theorem Sd.le {N : Nat} {ab : List Int} {S M : List Bool} {r n : Nat} (h : Sd N ab S r M n) : n ≤ N := by
  have := cnt_le M; have := h.cnt; have := h.len; omega
theorem Sd.join {N : Nat} {ab : List Int} {S M : List Bool} {r n k x : Nat} (h : Sd N ab S r M n) (hi : Inj N ab) (hS : Closed N ab (on S)) (hk : k < N) (hx : at_ ab k = x) (hox : on M x) (hno : ¬ on M k) : jn ab r (n + 1) (k : Int) = true := by
  rcases h.tag x hox with z | ⟨i, z1, z2⟩ | z
  · exact absurd (h.sub k ((hS k x hk hx).2 z)) hno
  · have : i = k := hi.inj i k x (by have := on_lt z1; have := h.len; omega) hk z2 hx
    subst this
    exact absurd z1 hno
  · exact jn_step hx z
theorem Sd.step {N : Nat} {ab : List Int} {S M : List Bool} {r n k x : Nat} (h : Sd N ab S r M n) (hi : Inj N ab) (hS : Closed N ab (on S)) (hk : M[k]? = some false) (hx : at_ ab k = x) (hox : on M x) : Sd N ab S r (M.set k true) (n + 1) := by
  have hkl : k < M.length := (List.getElem?_eq_some_iff.1 hk).1
  have hkN : k < N := by have := h.len; omega
  have hj := h.join hi hS hkN hx hox (on_not hk)
  refine ⟨by rw [List.length_set]; exact h.len, fun j hj => (on_set hkl).2 (.inr (h.sub j hj)), fun T a b c i hi' => ?_, fun i hi' y hy => ?_, fun y hy => ?_, (on_set hkl).2 (.inr h.row), by rw [cnt_set hk]; have := h.cnt; omega⟩
  · rcases (on_set hkl).1 hi' with rfl | q
    · exact (a i x hkN hx).2 (h.min T a b c x hox)
    · exact h.min T a b c i q
  · rcases (on_set hkl).1 hi' with rfl | q
    · have : y = x := by omega
      subst this; exact (on_set hkl).2 (.inr hox)
    · exact (on_set hkl).2 (.inr (h.up i q y hy))
  · rcases (on_set hkl).1 hy with rfl | q
    · exact .inr (.inr hj)
    · rcases h.tag y q with z | ⟨i, z1, z2⟩ | z
      · exact .inl z
      · exact .inr (.inl ⟨i, (on_set hkl).2 (.inr z1), z2⟩)
      · exact .inr (.inr (jn_more z))
theorem Sd.done {N : Nat} {ab : List Int} {S M : List Bool} {r n : Nat} (h : Sd N ab S r M n) (hf : ∀ k x : Nat, k < N → at_ ab k = x → on M x → on M k) : M = clos N ab S r :=
  clos_eq h.len (fun i x hi hx => ⟨fun q => h.up i q x hx, fun q => hf i x hi hx q⟩) h.sub h.row h.min

/-- The program's way down. -/
structure Dw (N : Nat) (ab : List Int) (S : List Bool) (r : Nat) (M : List Bool) (cur : Int) : Prop where
  len : M.length = N
  sub : ∀ j, on S j → on M j
  min : ∀ T : Nat → Prop, Closed N ab T → (∀ j, on S j → T j) → T r → (∀ i, on M i → T i) ∧ ∀ c : Nat, cur = c → T c
  up : ∀ i, on M i → ∀ x : Nat, at_ ab i = x → on M x
  dn : ∀ x, on M x → ∀ k, k < N → at_ ab k = x → on M k ∨ cur = k
  cab : ∀ c : Nat, cur = c → ∃ x : Nat, at_ ab c = x ∧ on M x
  hi : cur < N
  lo : -1 ≤ cur
  row : on M r
/-- bl is the way back. -/
structure Back (N : Nat) (ab bl : List Int) : Prop where
  len : bl.length = N
  rng : ∀ i, i < N → at_ bl i < N
  low : ∀ i, i < N → -1 ≤ at_ bl i
  iff : ∀ x k : Nat, x < N → k < N → (at_ bl x = k ↔ at_ ab k = x)
theorem Ud.dw {N : Nat} {ab bl : List Int} {S M : List Bool} {r : Nat} (h : Ud N ab S r M) (hi : Inj N ab) (hb : Back N ab bl) (hS : Closed N ab (on S)) (hr : r < N) : Dw N ab S r M (at_ bl r) := by
  refine ⟨h.len, h.sub, fun T a b c => ⟨h.min T a b c, fun k e => ?_⟩, h.up, fun x hx k hk e => ?_, fun c e => ?_, hb.rng r hr, hb.low r hr, h.row⟩
  · have hk : k < N := by have := hb.rng r hr; omega
    exact (a k r hk ((hb.iff r k hr hk).1 e)).2 c
  · rcases h.pre x hx with z | z | ⟨i, z1, z2⟩
    · exact .inl (h.sub k ((hS k x hk e).2 z))
    · subst z; exact .inr ((hb.iff x k hr hk).2 e)
    · have : i = k := hi.inj i k x (by have := on_lt z1; have := h.len; omega) hk z2 e
      subst this; exact .inl z1
  · have hc : c < N := by have := hb.rng r hr; omega
    exact ⟨r, (hb.iff r c hr hc).1 e, h.row⟩
theorem Dw.step {N : Nat} {ab bl : List Int} {S M : List Bool} {r c : Nat} (h : Dw N ab S r M (c : Int)) (hb : Back N ab bl) (hc : M[c]? = some false) : Dw N ab S r (M.set c true) (at_ bl c) := by
  have hcl : c < M.length := (List.getElem?_eq_some_iff.1 hc).1
  have hcN : c < N := by have := h.len; omega
  refine ⟨by rw [List.length_set]; exact h.len, fun j hj => (on_set hcl).2 (.inr (h.sub j hj)), fun T a b d => ?_, fun i hi' x hx => ?_, fun x hx k hk e => ?_, fun c' e => ?_, hb.rng c hcN, hb.low c hcN, (on_set hcl).2 (.inr h.row)⟩
  · obtain ⟨q1, q2⟩ := h.min T a b d
    have tc := q2 c rfl
    refine ⟨fun i hi' => ?_, fun k e => ?_⟩
    · rcases (on_set hcl).1 hi' with rfl | q
      · exact tc
      · exact q1 i q
    · have hk : k < N := by have := hb.rng c hcN; omega
      exact (a k c hk ((hb.iff c k hcN hk).1 e)).2 tc
  · rcases (on_set hcl).1 hi' with rfl | q
    · obtain ⟨y, y1, y2⟩ := h.cab i rfl
      have : y = x := by omega
      subst this; exact (on_set hcl).2 (.inr y2)
    · exact (on_set hcl).2 (.inr (h.up i q x hx))
  · rcases (on_set hcl).1 hx with rfl | q
    · exact .inr ((hb.iff x k hcN hk).2 e)
    · rcases h.dn x q k hk e with z | z
      · exact .inl ((on_set hcl).2 (.inr z))
      · exact .inl ((on_set hcl).2 (.inl (by omega)))
  · have hc' : c' < N := by have := hb.rng c hcN; omega
    exact ⟨c, (hb.iff c c' hcN hc').1 e, (on_set hcl).2 (.inl rfl)⟩
theorem Dw.done {N : Nat} {ab : List Int} {S M : List Bool} {r : Nat} {cur : Int} (h : Dw N ab S r M cur) (hd : cur < 0 ∨ ∃ c : Nat, cur = c ∧ on M c) : M = clos N ab S r := by
  refine clos_eq h.len (fun i x hi hx => ⟨fun q => h.up i q x hx, fun q => ?_⟩) h.sub h.row fun T a b c => (h.min T a b c).1
  rcases h.dn x q i hi hx with z | z
  · exact z
  · rcases hd with w | ⟨c, w1, w2⟩
    · omega
    · have : c = i := by omega
      subst this; exact w2

/-- Marks and cylinders behind the first i rows. -/
noncomputable def cyS (ab : List Int) (rr : List (List Int)) : Nat → List Bool × List (Int × Int)
  | 0 => (List.replicate rr.length false, [])
  | i + 1 => if (cyS ab rr i).1[i]? = some true then cyS ab rr i else
      (clos rr.length ab (cyS ab rr i).1 i, (cyS ab rr i).2 ++ [(((rr.getD i []).length : Int), ((cnt (clos rr.length ab (cyS ab rr i).1 i) - cnt (cyS ab rr i).1 : Nat) : Int))])
noncomputable def cyL (ab : List Int) (rr : List (List Int)) : List (Int × Int) := (cyS ab rr rr.length).2
theorem cyS_yes {ab : List Int} {rr : List (List Int)} {i : Nat} (h : (cyS ab rr i).1[i]? = some true) : cyS ab rr (i + 1) = cyS ab rr i := by rw [cyS, if_pos h]
theorem cyS_no {ab : List Int} {rr : List (List Int)} {i : Nat} (h : (cyS ab rr i).1[i]? = some false) : cyS ab rr (i + 1) = (clos rr.length ab (cyS ab rr i).1 i, (cyS ab rr i).2 ++ [(((rr.getD i []).length : Int), ((cnt (clos rr.length ab (cyS ab rr i).1 i) - cnt (cyS ab rr i).1 : Nat) : Int))]) := by
  rw [cyS, if_neg (by rw [h]; simp)]
theorem cyS_ok {ab : List Int} {rr : List (List Int)} (h : Inj rr.length ab) : ∀ i, i ≤ rr.length → (cyS ab rr i).1.length = rr.length ∧ Closed rr.length ab (on (cyS ab rr i).1) ∧ (cyS ab rr i).2.length ≤ i
  | 0, _ => by
    refine ⟨by simp [cyS], fun i x hi hx => ?_, by simp [cyS]⟩
    have hn : ∀ j, ¬ on (cyS ab rr 0).1 j := fun j q => by
      unfold on at q
      simp only [cyS, List.getElem?_replicate] at q
      split at q <;> simp at q
    exact ⟨fun q => absurd q (hn _), fun q => absurd q (hn _)⟩
  | i + 1, hi => by
    obtain ⟨a, b, c⟩ := cyS_ok h i (by omega)
    by_cases q : (cyS ab rr i).1[i]? = some true
    · rw [cyS_yes q]; exact ⟨a, b, by omega⟩
    · rw [cyS_no (not_on (by omega) q)]
      exact ⟨clos_len _ _ _ _, clos_closed h _ _, by simp; omega⟩
end Go.Proofs.Ytngglhbcpeigcaa.cy
