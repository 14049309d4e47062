/-
  The program's BallOk.
-/
import Derived.Test.YtajkfkpnjbkhhaaYl
namespace Go.Proofs.Ytajkfkpnjbkhhaa.bal
open Go.ChangeShapes Go.WideShapes Go.ChangeAt Go.RowKit
open Go.Proofs.Ytajkfkpnjbkhhaa.mem Go.Proofs.Ytajkfkpnjbkhhaa.ints Go.Proofs.Ytajkfkpnjbkhhaa.arr Go.Proofs.Ytajkfkpnjbkhhaa.pm Go.Proofs.Ytajkfkpnjbkhhaa.permOk Go.Proofs.Ytajkfkpnjbkhhaa.sf
set_option linter.unusedVariables false
set_option maxRecDepth 100000
set_option linter.unusedSimpArgs false
/-- '==' of two balls. -/
def eqF (x y : Bal) : Bool := x.1 == y.1 && (x.2.1 == y.2.1 && (x.2.2.1 == y.2.2.1 && x.2.2.2 == y.2.2.2))
theorem eqBal (x y : Bal) (w : World) : (Op.equalIn 10000 24 (bv x) (bv y)).run Try.prog w = .ok (eqF x y) w := by
  obtain ⟨a, b, c, d⟩ := x
  obtain ⟨a', b', c', d'⟩ := y
  unfold bv eqF
  have hf : (Try.prog.fieldsOf 24).toList.map (fun f => (f.name, f.type, f.offset)) = [("X", 3, 0), ("Y", 3, 1), ("DX", 3, 2), ("DY", 3, 3)] := by kernel_rfl
  have part_I : ∀ {cs : Array Value} {off : Nat} {v : Value} (h : cs[off]? = some v) (w : World), (part 3 cs off).run Try.prog w = .ok v w := fun h w => run_part_plain w (by kernel_rfl) h
  rw [run_equalIn_struct w 9999 _ _ _ (by kernel_rfl) (by kernel_rfl)]
  generalize (Try.prog.fieldsOf 24).toList = fs at hf
  have hl : fs.length = 4 := by have := congrArg List.length hf; simpa using this
  match fs, hl, hf with
  | [f0, f1, f2, f3], _, hf =>
    simp only [List.map_cons, List.map_nil, List.cons.injEq, Prod.mk.injEq, and_true] at hf
    obtain ⟨⟨a1, a2, a3⟩, ⟨b1, b2, b3⟩, ⟨c1, c2, c3⟩, d1, d2, d3⟩ := hf
    have x1 : ∀ a b c d : Int, (#[.int .i64 a, .int .i64 b, .int .i64 c, .int .i64 d] : Array Value)[0]? = some (.int .i64 a) := fun _ _ _ _ => rfl
    have x2 : ∀ a b c d : Int, (#[.int .i64 a, .int .i64 b, .int .i64 c, .int .i64 d] : Array Value)[1]? = some (.int .i64 b) := fun _ _ _ _ => rfl
    have x3 : ∀ a b c d : Int, (#[.int .i64 a, .int .i64 b, .int .i64 c, .int .i64 d] : Array Value)[2]? = some (.int .i64 c) := fun _ _ _ _ => rfl
    have x4 : ∀ a b c d : Int, (#[.int .i64 a, .int .i64 b, .int .i64 c, .int .i64 d] : Array Value)[3]? = some (.int .i64 d) := fun _ _ _ _ => rfl
    have e : ∀ n m : Int, (Op.equalIn 9999 3 (.int .i64 n) (.int .i64 m)).run Try.prog w = .ok (n == m) w := fun n m => run_equalIn_int (P := Try.prog) w 9998 3 .i64 .i64 n m Try.underlying3
    have n1 : (("X" : String) ≠ "_") = True := by simp
    have n2 : (("Y" : String) ≠ "_") = True := by simp
    have n3 : (("DX" : String) ≠ "_") = True := by simp
    have n4 : (("DY" : String) ≠ "_") = True := by simp
    simp only [Op.eqFields, n1, n2, n3, n4, if_true, a1, a2, a3, b1, b2, b3, c1, c2, c3, d1, d2, d3, Sem.run_bind, part_I (x1 _ _ _ _), part_I (x2 _ _ _ _), part_I (x3 _ _ _ _), part_I (x4 _ _ _ _), Result.andThen_ok, e, Sem.run_pure, Bool.not_true, Bool.not_false, Bool.false_eq_true, if_false, Bool.true_and, Bool.false_and, Bool.and_true, Bool.and_false]
    cases h1 : a == a'
    · simp only [Op.eqFields, n1, n2, n3, n4, if_true, a1, a2, a3, b1, b2, b3, c1, c2, c3, d1, d2, d3, Sem.run_bind, part_I (x1 _ _ _ _), part_I (x2 _ _ _ _), part_I (x3 _ _ _ _), part_I (x4 _ _ _ _), Result.andThen_ok, e, Sem.run_pure, Bool.not_true, Bool.not_false, Bool.false_eq_true, if_false, Bool.true_and, Bool.false_and, Bool.and_true, Bool.and_false]
    simp only [Op.eqFields, n1, n2, n3, n4, if_true, a1, a2, a3, b1, b2, b3, c1, c2, c3, d1, d2, d3, Sem.run_bind, part_I (x1 _ _ _ _), part_I (x2 _ _ _ _), part_I (x3 _ _ _ _), part_I (x4 _ _ _ _), Result.andThen_ok, e, Sem.run_pure, Bool.not_true, Bool.not_false, Bool.false_eq_true, if_false, Bool.true_and, Bool.false_and, Bool.and_true, Bool.and_false]
    cases h2 : b == b'
    · simp only [Op.eqFields, n1, n2, n3, n4, if_true, a1, a2, a3, b1, b2, b3, c1, c2, c3, d1, d2, d3, Sem.run_bind, part_I (x1 _ _ _ _), part_I (x2 _ _ _ _), part_I (x3 _ _ _ _), part_I (x4 _ _ _ _), Result.andThen_ok, e, Sem.run_pure, Bool.not_true, Bool.not_false, Bool.false_eq_true, if_false, Bool.true_and, Bool.false_and, Bool.and_true, Bool.and_false]
    simp only [Op.eqFields, n1, n2, n3, n4, if_true, a1, a2, a3, b1, b2, b3, c1, c2, c3, d1, d2, d3, Sem.run_bind, part_I (x1 _ _ _ _), part_I (x2 _ _ _ _), part_I (x3 _ _ _ _), part_I (x4 _ _ _ _), Result.andThen_ok, e, Sem.run_pure, Bool.not_true, Bool.not_false, Bool.false_eq_true, if_false, Bool.true_and, Bool.false_and, Bool.and_true, Bool.and_false]
    cases h3 : c == c'
    · simp only [Op.eqFields, n1, n2, n3, n4, if_true, a1, a2, a3, b1, b2, b3, c1, c2, c3, d1, d2, d3, Sem.run_bind, part_I (x1 _ _ _ _), part_I (x2 _ _ _ _), part_I (x3 _ _ _ _), part_I (x4 _ _ _ _), Result.andThen_ok, e, Sem.run_pure, Bool.not_true, Bool.not_false, Bool.false_eq_true, if_false, Bool.true_and, Bool.false_and, Bool.and_true, Bool.and_false]
    simp only [Op.eqFields, n1, n2, n3, n4, if_true, a1, a2, a3, b1, b2, b3, c1, c2, c3, d1, d2, d3, Sem.run_bind, part_I (x1 _ _ _ _), part_I (x2 _ _ _ _), part_I (x3 _ _ _ _), part_I (x4 _ _ _ _), Result.andThen_ok, e, Sem.run_pure, Bool.not_true, Bool.not_false, Bool.false_eq_true, if_false, Bool.true_and, Bool.false_and, Bool.and_true, Bool.and_false]
    cases h4 : d == d' <;> simp only [Op.eqFields, n1, n2, n3, n4, if_true, a1, a2, a3, b1, b2, b3, c1, c2, c3, d1, d2, d3, Sem.run_bind, part_I (x1 _ _ _ _), part_I (x2 _ _ _ _), part_I (x3 _ _ _ _), part_I (x4 _ _ _ _), Result.andThen_ok, e, Sem.run_pure, Bool.not_true, Bool.not_false, Bool.false_eq_true, if_false, Bool.true_and, Bool.false_and, Bool.and_true, Bool.and_false]
theorem eqgB2 (x y : Bal) (o1 o2 : Operand) (w : World) : (eqGuard .eql 24 o1 o2 (bv x) (bv y)).run Try.prog w = .ok () w := by
  have hm := eqgB
  obtain ⟨a, b, c, d⟩ := x; obtain ⟨a', b', c', d'⟩ := y
  unfold bv
  go_simp
theorem eqoB2 (x y : Bal) (w : World) : (binOp .eql 24 (bv x) (bv y)).run Try.prog w = .ok (.bool (eqF x y)) w := by
  have e := eqBal x y w
  generalize eqF x y = q at *
  obtain ⟨a, b, c, d⟩ := x; obtain ⟨a', b', c', d'⟩ := y
  unfold bv at *
  go_simp
theorem ph_pos {a x d : Int} (h : phB a x d = true) : 0 ≤ phF a x d := by
  unfold phF; rw [h, if_pos rfl]
  have hh := of_decide_eq_true h
  split
  · omega
  · exact Int.emod_nonneg _ (by omega)
theorem ph_neg {a x d : Int} (h : phB a x d = false) : phF a x d = -1 := by unfold phF; rw [h]; rfl
theorem ln_ph {a x d : Int} : (tlB a && lnB a x d) = (phB a x d && ((if inF x a = 0 then d else inF x a) == d)) := by
  unfold tlB lnB phB inF
  rw [Bool.eq_iff_iff]
  simp only [Bool.and_eq_true, Bool.or_eq_true, decide_eq_true_eq, beq_iff_eq]
  by_cases h0 : x = 0
  · simp only [h0, if_true]; split <;> omega
  · by_cases h1 : x = a
    · simp only [h0, h1, if_true, if_false]; split <;> (try split) <;> omega
    · simp only [h0, h1, if_false, if_true, eq_self, and_true]
      constructor
      · rintro ⟨ha, hx, ⟨hd, _⟩ | ⟨hd, _⟩⟩
        · exact ⟨ha, hx, Or.inl hd⟩
        · exact ⟨ha, hx, Or.inr hd⟩
      · rintro ⟨ha, hx, hd | hd⟩
        · exact ⟨ha, hx, Or.inl ⟨hd, by omega⟩⟩
        · exact ⟨ha, hx, Or.inr ⟨hd, by omega⟩⟩
theorem bl_ph (a b : Int) (x : Bal) : blB a b x = (phB a x.1 x.2.2.1 && (phB b x.2.1 x.2.2.2 && eqF (trF a b x) x)) := by
  have e : blB a b x = ((tlB a && lnB a x.1 x.2.2.1) && (tlB b && lnB b x.2.1 x.2.2.2)) := by
    unfold blB tbB tlB
    generalize decide (1 ≤ a ∧ a ≤ 50) = p; generalize decide (1 ≤ b ∧ b ≤ 50) = q; generalize lnB a x.1 x.2.2.1 = r; generalize lnB b x.2.1 x.2.2.2 = s
    cases p <;> cases q <;> cases r <;> cases s <;> rfl
  rw [e, ln_ph, ln_ph]
  unfold eqF trF trU
  simp only [beq_self_eq_true, Bool.true_and]
  generalize phB a x.1 x.2.2.1 = p; generalize phB b x.2.1 x.2.2.2 = q; generalize ((if inF x.1 a = 0 then x.2.2.1 else inF x.1 a) == x.2.2.1) = r; generalize ((if inF x.2.1 b = 0 then x.2.2.2 else inF x.2.1 b) == x.2.2.2) = s
  cases p <;> cases q <;> cases r <;> cases s <;> rfl
set_option maxHeartbeats 8000000 in
theorem ok_impl (a b : Int) (x : Bal) (w : World) (fa : mx.i64 a) (fb : mx.i64 b) (fx : mx.Fit x) :
    Calls Try.prog 17 #[.int .i64 a, .int .i64 b, bv x] w fun e w' => e = .returned (.bool (blB a b x)) ∧ Below w.heap.size w w' := by
  have HB := Lib.hid (bl_ph a b x)
  have P1 := Lib.hid (fun w => ph_impl a x.1 x.2.2.1 w fa.1 fa.2 fx.1.1 fx.1.2 fx.2.2.1.1 fx.2.2.1.2)
  have P2 := Lib.hid (fun w => ph_impl b x.2.1 x.2.2.2 w fb.1 fb.2 fx.2.1.1 fx.2.1.2 fx.2.2.2.1 fx.2.2.2.2)
  clear fa fb fx
  rw [bvV x]
  go_enter Try.func17, Try.ntmps17
  go_wp2_with fail
  generalize hw1 : w.alloc _ = w1
  have GX : Hid (Arr w1 w.heap.size (V (be x)) 24) := Lib.hid (by rw [← hw1]; exact Arr.new w (V (be x)) 24 rfl)
  have BB : Hid (Below w.heap.size w w1) := Lib.hid (by rw [← hw1]; exact (Below.refl _ _).alloc (Nat.le_refl _) _)
  clear hw1
  have s_b := BB.out.size
  refine wp_region_held_drew (S := Hld w.heap.size w1.heap.size w1 [(w.heap.size, V (be x))]) (by kernel_rfl) (Hlow (start_allB (fun p hp => by simp only [List.mem_cons, List.not_mem_nil, or_false] at hp; subst hp; exact ⟨_, GX.out⟩)) (by have := BB.out.size; omega)) (fun hHeld => ?_)
  have RGX : Hid (∀ W, Hld w.heap.size w1.heap.size w1 [(w.heap.size, V (be x))] W → W.rangeAt w.heap.size 0 (V (be x))) := Lib.hid (fun W h => (h.at_ (w.heap.size, V (be x)) (by simp)).2)
  have b1 : Below w1.heap.size w1 w1.drew := ⟨rfl, rfl, rfl, Nat.le_refl _, fun _ _ => rfl⟩
  generalize w1.drew = v0 at *
  have s_v0 := b1.size
  replace BB := Lib.hid (BB.out.trans (b1.mono BB.out.size)); clear b1
  clear GX
  refine wpAnyH_take (i := 0) (v := .int .i64 a) rfl (by kernel_rfl) (by kernel_rfl) (by kernel_rfl) (fun _ _ _ h => h) (Or.inl ⟨by kernel_rfl, fun w hSw => by go_simp⟩) hHeld ?_
  refine wpAnyH_take (i := 1) (v := .pointer (some ⟨w.heap.size, 0, none⟩)) rfl (by kernel_rfl) (by kernel_rfl) (by kernel_rfl) (fun _ _ _ h => h) (Or.inl ⟨by kernel_rfl, fun w hSw => by go_simp⟩) hHeld ?_
  refine wpAnyH_take (i := 2) (v := .int .i64 x.1) rfl (by kernel_rfl) (by kernel_rfl) (by kernel_rfl) (fun _ _ _ h => h) (Or.inl ⟨by kernel_rfl, fun w hSw => by have hc := RGX.out _ hSw 0 (.int .i64 x.1) rfl; go_simp⟩) hHeld ?_
  refine wpAnyH_take (i := 3) (v := .pointer (some ⟨w.heap.size, 2, none⟩)) rfl (by kernel_rfl) (by kernel_rfl) (by kernel_rfl) (fun _ _ _ h => h) (Or.inl ⟨by kernel_rfl, fun w hSw => by go_simp⟩) hHeld ?_
  refine wpAnyH_take (i := 4) (v := .int .i64 x.2.2.1) rfl (by kernel_rfl) (by kernel_rfl) (by kernel_rfl) (fun _ _ _ h => h) (Or.inl ⟨by kernel_rfl, fun w hSw => by have hc := RGX.out _ hSw 2 (.int .i64 x.2.2.1) rfl; go_simp⟩) hHeld ?_
  dsimp only [List.append, List.getElem_toArray, List.getElem_cons_zero, List.getElem_cons_succ, Act.put]
  try simp only [List.setIfInBounds_toArray, List.set_cons_zero, List.set_cons_succ]
  refine wpAnyH_ready (rs := [5]) (by kernel_rfl) (by simp) (AllReadyH.cons rfl (fun K hK => ?_) AllReadyH.nil)
  go_simp
  refine (P1.out _).mono ?_
  rintro e v1 ⟨rfl, b1⟩
  have s_v1 := b1.size
  have hHeld2 := hHeld.later b1 (by have := hHeld.size; have := BB.out.size; omega); clear hHeld
  replace BB := Lib.hid (BB.out.trans (b1.mono BB.out.size)); clear b1
  go_wp2_with fail
  refine hK.out _ _ hHeld2 (fun hHeld => ?_)
  clear hK K hHeld2
  cases h1 : phB a x.1 x.2.2.1
  · have HE : Hid (blB a b x = false) := Lib.hid (by rw [HB.out, h1]; rfl)
    rw [ph_neg h1]
    clear HB h1 P2 RGX
    refine wpAnyH_take (i := 6) (v := .bool false) rfl (by kernel_rfl) (by kernel_rfl) (by kernel_rfl) (fun _ _ _ h => h) (Or.inl ⟨by kernel_rfl, fun w hSw => by go_simp⟩) hHeld ?_
    refine wpAnyH_take (i := 7) (v := .bool false) rfl (by kernel_rfl) (by kernel_rfl) (by kernel_rfl) (fun _ _ _ h => h) (Or.inl ⟨by kernel_rfl, fun w hSw => by go_simp⟩) hHeld ?_
    refine wpAnyH_take (i := 8) (v := undef) rfl (by kernel_rfl) (by kernel_rfl) (by kernel_rfl) (fun _ _ _ h => h) (Or.inr ⟨by kernel_rfl, rfl⟩) hHeld ?_
    refine wpAnyH_take (i := 9) (v := undef) rfl (by kernel_rfl) (by kernel_rfl) (by kernel_rfl) (fun _ _ _ h => h) (Or.inr ⟨by kernel_rfl, rfl⟩) hHeld ?_
    refine wpAnyH_take (i := 10) (v := undef) rfl (by kernel_rfl) (by kernel_rfl) (by kernel_rfl) (fun _ _ _ h => h) (Or.inr ⟨by kernel_rfl, rfl⟩) hHeld ?_
    refine wpAnyH_take (i := 11) (v := undef) rfl (by kernel_rfl) (by kernel_rfl) (by kernel_rfl) (fun _ _ _ h => h) (Or.inr ⟨by kernel_rfl, rfl⟩) hHeld ?_
    refine wpAnyH_take (i := 12) (v := undef) rfl (by kernel_rfl) (by kernel_rfl) (by kernel_rfl) (fun _ _ _ h => h) (Or.inr ⟨by kernel_rfl, rfl⟩) hHeld ?_
    refine wpAnyH_take (i := 13) (v := undef) rfl (by kernel_rfl) (by kernel_rfl) (by kernel_rfl) (fun _ _ _ h => h) (Or.inr ⟨by kernel_rfl, rfl⟩) hHeld ?_
    refine wpAnyH_take (i := 14) (v := undef) rfl (by kernel_rfl) (by kernel_rfl) (by kernel_rfl) (fun _ _ _ h => h) (Or.inr ⟨by kernel_rfl, rfl⟩) hHeld ?_
    refine wpAnyH_take (i := 15) (v := .bool false) rfl (by kernel_rfl) (by kernel_rfl) (by kernel_rfl) (fun _ _ _ h => h) (Or.inl ⟨by kernel_rfl, fun w hSw => by go_simp⟩) hHeld ?_
    refine wpAnyH_take (i := 16) (v := .bool false) rfl (by kernel_rfl) (by kernel_rfl) (by kernel_rfl) (fun _ _ _ h => h) (Or.inl ⟨by kernel_rfl, fun w hSw => by go_simp⟩) hHeld ?_
    refine wpAnyH_take (i := 17) (v := undef) rfl (by kernel_rfl) (by kernel_rfl) (by kernel_rfl) (fun _ _ _ h => h) (Or.inr ⟨by kernel_rfl, rfl⟩) hHeld ?_
    refine wpAnyH_take (i := 18) (v := undef) rfl (by kernel_rfl) (by kernel_rfl) (by kernel_rfl) (fun _ _ _ h => h) (Or.inr ⟨by kernel_rfl, rfl⟩) hHeld ?_
    refine wpAnyH_take (i := 19) (v := undef) rfl (by kernel_rfl) (by kernel_rfl) (by kernel_rfl) (fun _ _ _ h => h) (Or.inr ⟨by kernel_rfl, rfl⟩) hHeld ?_
    refine wpAnyH_take (i := 20) (v := undef) rfl (by kernel_rfl) (by kernel_rfl) (by kernel_rfl) (fun _ _ _ h => h) (Or.inr ⟨by kernel_rfl, rfl⟩) hHeld ?_
    refine wpAnyH_take (i := 21) (v := undef) rfl (by kernel_rfl) (by kernel_rfl) (by kernel_rfl) (fun _ _ _ h => h) (Or.inr ⟨by kernel_rfl, rfl⟩) hHeld ?_
    refine wpAnyH_take (i := 22) (v := undef) rfl (by kernel_rfl) (by kernel_rfl) (by kernel_rfl) (fun _ _ _ h => h) (Or.inr ⟨by kernel_rfl, rfl⟩) hHeld ?_
    refine wpAnyH_take (i := 23) (v := undef) rfl (by kernel_rfl) (by kernel_rfl) (by kernel_rfl) (fun _ _ _ h => h) (Or.inr ⟨by kernel_rfl, rfl⟩) hHeld ?_
    refine wpAnyH_take (i := 24) (v := undef) rfl (by kernel_rfl) (by kernel_rfl) (by kernel_rfl) (fun _ _ _ h => h) (Or.inr ⟨by kernel_rfl, rfl⟩) hHeld ?_
    refine wpAnyH_take (i := 25) (v := .bool false) rfl (by kernel_rfl) (by kernel_rfl) (by kernel_rfl) (fun _ _ _ h => h) (Or.inl ⟨by kernel_rfl, fun w hSw => by go_simp⟩) hHeld ?_
    refine wpAnyH_take (i := 26) (v := .bool false) rfl (by kernel_rfl) (by kernel_rfl) (by kernel_rfl) (fun _ _ _ h => h) (Or.inl ⟨by kernel_rfl, fun w hSw => by go_simp⟩) hHeld ?_
    refine wpAnyH_done (by kernel_rfl) ?_ _
    dsimp only [List.append, List.getElem_toArray, List.getElem_cons_zero, List.getElem_cons_succ, Act.put]
    try simp only [List.setIfInBounds_toArray, List.set_cons_zero, List.set_cons_succ]
    go_wp2_with fail
    go_ret
    exact ⟨by rw [HE.out]; rfl, BB.out⟩
  have p1 := ph_pos h1
  rw [h1, Bool.true_and] at HB
  clear h1
  generalize phF a x.1 x.2.2.1 = z1 at *
  refine wpAnyH_take (i := 6) (v := .bool true) rfl (by kernel_rfl) (by kernel_rfl) (by kernel_rfl) (fun _ _ _ h => h) (Or.inl ⟨by kernel_rfl, fun w hSw => by go_simp⟩) hHeld ?_
  refine wpAnyH_take (i := 7) (v := .bool true) rfl (by kernel_rfl) (by kernel_rfl) (by kernel_rfl) (fun _ _ _ h => h) (Or.inl ⟨by kernel_rfl, fun w hSw => by go_simp⟩) hHeld ?_
  refine wpAnyH_take (i := 8) (v := .int .i64 b) rfl (by kernel_rfl) (by kernel_rfl) (by kernel_rfl) (fun _ _ _ h => h) (Or.inl ⟨by kernel_rfl, fun w hSw => by go_simp⟩) hHeld ?_
  refine wpAnyH_take (i := 9) (v := .pointer (some ⟨w.heap.size, 1, none⟩)) rfl (by kernel_rfl) (by kernel_rfl) (by kernel_rfl) (fun _ _ _ h => h) (Or.inl ⟨by kernel_rfl, fun w hSw => by go_simp⟩) hHeld ?_
  refine wpAnyH_take (i := 10) (v := .int .i64 x.2.1) rfl (by kernel_rfl) (by kernel_rfl) (by kernel_rfl) (fun _ _ _ h => h) (Or.inl ⟨by kernel_rfl, fun w hSw => by have hc := RGX.out _ hSw 1 (.int .i64 x.2.1) rfl; go_simp⟩) hHeld ?_
  refine wpAnyH_take (i := 11) (v := .pointer (some ⟨w.heap.size, 3, none⟩)) rfl (by kernel_rfl) (by kernel_rfl) (by kernel_rfl) (fun _ _ _ h => h) (Or.inl ⟨by kernel_rfl, fun w hSw => by go_simp⟩) hHeld ?_
  refine wpAnyH_take (i := 12) (v := .int .i64 x.2.2.2) rfl (by kernel_rfl) (by kernel_rfl) (by kernel_rfl) (fun _ _ _ h => h) (Or.inl ⟨by kernel_rfl, fun w hSw => by have hc := RGX.out _ hSw 3 (.int .i64 x.2.2.2) rfl; go_simp⟩) hHeld ?_
  dsimp only [List.append, List.getElem_toArray, List.getElem_cons_zero, List.getElem_cons_succ, Act.put]
  try simp only [List.setIfInBounds_toArray, List.set_cons_zero, List.set_cons_succ]
  refine wpAnyH_ready (rs := [13]) (by kernel_rfl) (by simp) (AllReadyH.cons rfl (fun K hK => ?_) AllReadyH.nil)
  go_simp
  refine (P2.out _).mono ?_
  rintro e v2 ⟨rfl, b1⟩
  have s_v2 := b1.size
  have hHeld2 := hHeld.later b1 (by have := hHeld.size; have := BB.out.size; omega); clear hHeld
  replace BB := Lib.hid (BB.out.trans (b1.mono BB.out.size)); clear b1
  go_wp2_with fail
  refine hK.out _ _ hHeld2 (fun hHeld => ?_)
  clear hK K hHeld2
  cases h2 : phB b x.2.1 x.2.2.2
  · have HE : Hid (blB a b x = false) := Lib.hid (by rw [HB.out, h2]; rfl)
    rw [ph_neg h2]
    clear HB h2 RGX
    refine wpAnyH_take (i := 14) (v := .bool false) rfl (by kernel_rfl) (by kernel_rfl) (by kernel_rfl) (fun _ _ _ h => h) (Or.inl ⟨by kernel_rfl, fun w hSw => by go_simp⟩) hHeld ?_
    refine wpAnyH_take (i := 15) (v := .bool false) rfl (by kernel_rfl) (by kernel_rfl) (by kernel_rfl) (fun _ _ _ h => h) (Or.inl ⟨by kernel_rfl, fun w hSw => by go_simp⟩) hHeld ?_
    refine wpAnyH_take (i := 16) (v := .bool false) rfl (by kernel_rfl) (by kernel_rfl) (by kernel_rfl) (fun _ _ _ h => h) (Or.inl ⟨by kernel_rfl, fun w hSw => by go_simp⟩) hHeld ?_
    refine wpAnyH_take (i := 17) (v := undef) rfl (by kernel_rfl) (by kernel_rfl) (by kernel_rfl) (fun _ _ _ h => h) (Or.inr ⟨by kernel_rfl, rfl⟩) hHeld ?_
    refine wpAnyH_take (i := 18) (v := undef) rfl (by kernel_rfl) (by kernel_rfl) (by kernel_rfl) (fun _ _ _ h => h) (Or.inr ⟨by kernel_rfl, rfl⟩) hHeld ?_
    refine wpAnyH_take (i := 19) (v := undef) rfl (by kernel_rfl) (by kernel_rfl) (by kernel_rfl) (fun _ _ _ h => h) (Or.inr ⟨by kernel_rfl, rfl⟩) hHeld ?_
    refine wpAnyH_take (i := 20) (v := undef) rfl (by kernel_rfl) (by kernel_rfl) (by kernel_rfl) (fun _ _ _ h => h) (Or.inr ⟨by kernel_rfl, rfl⟩) hHeld ?_
    refine wpAnyH_take (i := 21) (v := undef) rfl (by kernel_rfl) (by kernel_rfl) (by kernel_rfl) (fun _ _ _ h => h) (Or.inr ⟨by kernel_rfl, rfl⟩) hHeld ?_
    refine wpAnyH_take (i := 22) (v := undef) rfl (by kernel_rfl) (by kernel_rfl) (by kernel_rfl) (fun _ _ _ h => h) (Or.inr ⟨by kernel_rfl, rfl⟩) hHeld ?_
    refine wpAnyH_take (i := 23) (v := undef) rfl (by kernel_rfl) (by kernel_rfl) (by kernel_rfl) (fun _ _ _ h => h) (Or.inr ⟨by kernel_rfl, rfl⟩) hHeld ?_
    refine wpAnyH_take (i := 24) (v := undef) rfl (by kernel_rfl) (by kernel_rfl) (by kernel_rfl) (fun _ _ _ h => h) (Or.inr ⟨by kernel_rfl, rfl⟩) hHeld ?_
    refine wpAnyH_take (i := 25) (v := .bool false) rfl (by kernel_rfl) (by kernel_rfl) (by kernel_rfl) (fun _ _ _ h => h) (Or.inl ⟨by kernel_rfl, fun w hSw => by go_simp⟩) hHeld ?_
    refine wpAnyH_take (i := 26) (v := .bool false) rfl (by kernel_rfl) (by kernel_rfl) (by kernel_rfl) (fun _ _ _ h => h) (Or.inl ⟨by kernel_rfl, fun w hSw => by go_simp⟩) hHeld ?_
    refine wpAnyH_done (by kernel_rfl) ?_ _
    dsimp only [List.append, List.getElem_toArray, List.getElem_cons_zero, List.getElem_cons_succ, Act.put]
    try simp only [List.setIfInBounds_toArray, List.set_cons_zero, List.set_cons_succ]
    go_wp2_with fail
    go_ret
    exact ⟨by rw [HE.out]; rfl, BB.out⟩
  have p2 := ph_pos h2
  rw [h2, Bool.true_and] at HB
  clear h2
  generalize phF b x.2.1 x.2.2.2 = z2 at *
  refine wpAnyH_take (i := 14) (v := .bool true) rfl (by kernel_rfl) (by kernel_rfl) (by kernel_rfl) (fun _ _ _ h => h) (Or.inl ⟨by kernel_rfl, fun w hSw => by go_simp⟩) hHeld ?_
  refine wpAnyH_take (i := 15) (v := .bool true) rfl (by kernel_rfl) (by kernel_rfl) (by kernel_rfl) (fun _ _ _ h => h) (Or.inl ⟨by kernel_rfl, fun w hSw => by go_simp⟩) hHeld ?_
  refine wpAnyH_take (i := 16) (v := .bool true) rfl (by kernel_rfl) (by kernel_rfl) (by kernel_rfl) (fun _ _ _ h => h) (Or.inl ⟨by kernel_rfl, fun w hSw => by go_simp⟩) hHeld ?_
  refine wpAnyH_take (i := 17) (v := .int .i64 a) rfl (by kernel_rfl) (by kernel_rfl) (by kernel_rfl) (fun _ _ _ h => h) (Or.inl ⟨by kernel_rfl, fun w hSw => by go_simp⟩) hHeld ?_
  refine wpAnyH_take (i := 18) (v := .int .i64 b) rfl (by kernel_rfl) (by kernel_rfl) (by kernel_rfl) (fun _ _ _ h => h) (Or.inl ⟨by kernel_rfl, fun w hSw => by go_simp⟩) hHeld ?_
  refine wpAnyH_take (i := 19) (v := .agg (V (be x)).toArray) rfl (by kernel_rfl) (by kernel_rfl) (by kernel_rfl) (fun _ _ _ h => h) (yieldsIf_load_mid (by kernel_rfl) 24 (.tmp 5) rfl w.heap.size 0 (by kernel_rfl) (V (be x)) _ (fun W h => RGX.out W h) Try.underlying24 rfl (by have := sizeB x; rwa [List.size_toArray] at this)) hHeld ?_
  refine wpAnyH_take (i := 21) (v := .agg (V (be x)).toArray) rfl (by kernel_rfl) (by kernel_rfl) (by kernel_rfl) (fun _ _ _ h => h) (yieldsIf_load_mid (by kernel_rfl) 24 (.tmp 5) rfl w.heap.size 0 (by kernel_rfl) (V (be x)) _ (fun W h => RGX.out W h) Try.underlying24 rfl (by have := sizeB x; rwa [List.size_toArray] at this)) hHeld ?_
  refine wpAnyH_take (i := 23) (v := .agg (V (be x)).toArray) rfl (by kernel_rfl) (by kernel_rfl) (by kernel_rfl) (fun _ _ _ h => h) (yieldsIf_load_mid (by kernel_rfl) 24 (.tmp 5) rfl w.heap.size 0 (by kernel_rfl) (V (be x)) _ (fun W h => RGX.out W h) Try.underlying24 rfl (by have := sizeB x; rwa [List.size_toArray] at this)) hHeld ?_
  dsimp only [List.append, List.getElem_toArray, List.getElem_cons_zero, List.getElem_cons_succ, Act.put]
  try simp only [List.setIfInBounds_toArray, List.set_cons_zero, List.set_cons_succ]
  refine wpAnyH_ready (rs := [20]) (by kernel_rfl) (by simp) (AllReadyH.cons rfl (fun K hK => ?_) AllReadyH.nil)
  go_simp
  rw [← bvV x]
  refine (sd_impl a b x _).mono ?_
  rintro e v3 ⟨rfl, b1⟩
  have s_v3 := b1.size
  have hHeld2 := hHeld.later b1 (by have := hHeld.size; have := BB.out.size; omega); clear hHeld
  replace BB := Lib.hid (BB.out.trans (b1.mono BB.out.size)); clear b1
  go_wp2_with fail
  refine hK.out _ _ hHeld2 (fun hHeld => ?_)
  clear hK K hHeld2
  have SC := sd_cases (inF x.1 a) (inF x.2.1 b) x
  change (_ ∧ _ ∧ sdV a b x = _ ∧ trF a b x = _) ∨ (_ ∧ _ ∧ sdV a b x = _ ∧ trF a b x = _) ∨ (_ ∧ _ ∧ sdV a b x = _ ∧ trF a b x = _) ∨ (_ ∧ _ ∧ sdV a b x = _ ∧ trF a b x = _) at SC
  rcases SC with ⟨-, -, hs, ht⟩ | ⟨-, -, hs, ht⟩ | ⟨-, -, hs, ht⟩ | ⟨-, -, hs, ht⟩
  · rw [hs]
    rw [ht] at HB; clear hs ht
    refine wpAnyH_ready (rs := [22]) (by kernel_rfl) (by simp) (AllReadyH.cons rfl (fun K hK => ?_) AllReadyH.nil)
    go_simp
    rw [m_no]
    go_simp
    refine (no_impl x _).mono ?_
    rintro e v4 ⟨rfl, b1⟩
    have s_v4 := b1.size
    have hHeld2 := hHeld.later b1 (by omega); clear hHeld
    replace BB := Lib.hid (BB.out.trans (b1.mono BB.out.size)); clear b1
    obtain ⟨z, hz⟩ : ∃ z : Bal, z = x := ⟨_, rfl⟩
    
    go_wp2_with fail
    refine hK.out _ _ hHeld2 (fun hHeld => ?_)
    clear hK K hHeld2
    refine wpAnyH_take (i := 24) (v := .bool (eqF x x)) rfl (by kernel_rfl) (by kernel_rfl) (by kernel_rfl) (fun _ _ _ h => h) (Or.inl ⟨by kernel_rfl, fun w hSw => by have e := eqgB2 x x; have e2 := eqoB2 x x; go_simp⟩) hHeld ?_
    refine wpAnyH_take (i := 25) (v := .bool (eqF x x)) rfl (by kernel_rfl) (by kernel_rfl) (by kernel_rfl) (fun _ _ _ h => h) (Or.inl ⟨by kernel_rfl, fun w hSw => by go_simp⟩) hHeld ?_
    refine wpAnyH_take (i := 26) (v := .bool (eqF x x)) rfl (by kernel_rfl) (by kernel_rfl) (by kernel_rfl) (fun _ _ _ h => h) (Or.inl ⟨by kernel_rfl, fun w hSw => by go_simp⟩) hHeld ?_
    refine wpAnyH_done (by kernel_rfl) ?_ _
    dsimp only [List.append, List.getElem_toArray, List.getElem_cons_zero, List.getElem_cons_succ, Act.put]
    try simp only [List.setIfInBounds_toArray, List.set_cons_zero, List.set_cons_succ]
    generalize eqF x x = q at *
    go_wp2_with fail
    go_ret
    exact ⟨by rw [HB.out]; rfl, BB.out⟩
  · rw [hs]
    rw [ht] at HB; clear hs ht
    refine wpAnyH_ready (rs := [22]) (by kernel_rfl) (by simp) (AllReadyH.cons rfl (fun K hK => ?_) AllReadyH.nil)
    go_simp
    rw [m_lv]
    go_simp
    refine (lv_impl _ x _).mono ?_
    rintro e v4 ⟨rfl, b1⟩
    have s_v4 := b1.size
    have hHeld2 := hHeld.later b1 (by omega); clear hHeld
    replace BB := Lib.hid (BB.out.trans (b1.mono BB.out.size)); clear b1
    obtain ⟨z, hz⟩ : ∃ z : Bal, z = (x.1, x.2.1, x.2.2.1, inF x.2.1 b) := ⟨_, rfl⟩
    rw [← hz] at HB ⊢; clear hz
    go_wp2_with fail
    refine hK.out _ _ hHeld2 (fun hHeld => ?_)
    clear hK K hHeld2
    refine wpAnyH_take (i := 24) (v := .bool (eqF z x)) rfl (by kernel_rfl) (by kernel_rfl) (by kernel_rfl) (fun _ _ _ h => h) (Or.inl ⟨by kernel_rfl, fun w hSw => by have e := eqgB2 z x; have e2 := eqoB2 z x; go_simp⟩) hHeld ?_
    refine wpAnyH_take (i := 25) (v := .bool (eqF z x)) rfl (by kernel_rfl) (by kernel_rfl) (by kernel_rfl) (fun _ _ _ h => h) (Or.inl ⟨by kernel_rfl, fun w hSw => by go_simp⟩) hHeld ?_
    refine wpAnyH_take (i := 26) (v := .bool (eqF z x)) rfl (by kernel_rfl) (by kernel_rfl) (by kernel_rfl) (fun _ _ _ h => h) (Or.inl ⟨by kernel_rfl, fun w hSw => by go_simp⟩) hHeld ?_
    refine wpAnyH_done (by kernel_rfl) ?_ _
    dsimp only [List.append, List.getElem_toArray, List.getElem_cons_zero, List.getElem_cons_succ, Act.put]
    try simp only [List.setIfInBounds_toArray, List.set_cons_zero, List.set_cons_succ]
    generalize eqF z x = q at *
    go_wp2_with fail
    go_ret
    exact ⟨by rw [HB.out]; rfl, BB.out⟩
  · rw [hs]
    rw [ht] at HB; clear hs ht
    refine wpAnyH_ready (rs := [22]) (by kernel_rfl) (by simp) (AllReadyH.cons rfl (fun K hK => ?_) AllReadyH.nil)
    go_simp
    rw [m_up]
    go_simp
    refine (up_impl _ x _).mono ?_
    rintro e v4 ⟨rfl, b1⟩
    have s_v4 := b1.size
    have hHeld2 := hHeld.later b1 (by omega); clear hHeld
    replace BB := Lib.hid (BB.out.trans (b1.mono BB.out.size)); clear b1
    obtain ⟨z, hz⟩ : ∃ z : Bal, z = (x.1, x.2.1, inF x.1 a, x.2.2.2) := ⟨_, rfl⟩
    rw [← hz] at HB ⊢; clear hz
    go_wp2_with fail
    refine hK.out _ _ hHeld2 (fun hHeld => ?_)
    clear hK K hHeld2
    refine wpAnyH_take (i := 24) (v := .bool (eqF z x)) rfl (by kernel_rfl) (by kernel_rfl) (by kernel_rfl) (fun _ _ _ h => h) (Or.inl ⟨by kernel_rfl, fun w hSw => by have e := eqgB2 z x; have e2 := eqoB2 z x; go_simp⟩) hHeld ?_
    refine wpAnyH_take (i := 25) (v := .bool (eqF z x)) rfl (by kernel_rfl) (by kernel_rfl) (by kernel_rfl) (fun _ _ _ h => h) (Or.inl ⟨by kernel_rfl, fun w hSw => by go_simp⟩) hHeld ?_
    refine wpAnyH_take (i := 26) (v := .bool (eqF z x)) rfl (by kernel_rfl) (by kernel_rfl) (by kernel_rfl) (fun _ _ _ h => h) (Or.inl ⟨by kernel_rfl, fun w hSw => by go_simp⟩) hHeld ?_
    refine wpAnyH_done (by kernel_rfl) ?_ _
    dsimp only [List.append, List.getElem_toArray, List.getElem_cons_zero, List.getElem_cons_succ, Act.put]
    try simp only [List.setIfInBounds_toArray, List.set_cons_zero, List.set_cons_succ]
    generalize eqF z x = q at *
    go_wp2_with fail
    go_ret
    exact ⟨by rw [HB.out]; rfl, BB.out⟩
  · rw [hs]
    rw [ht] at HB; clear hs ht
    refine wpAnyH_ready (rs := [22]) (by kernel_rfl) (by simp) (AllReadyH.cons rfl (fun K hK => ?_) AllReadyH.nil)
    go_simp
    rw [m_co]
    go_simp
    refine (co_impl _ _ x _).mono ?_
    rintro e v4 ⟨rfl, b1⟩
    have s_v4 := b1.size
    have hHeld2 := hHeld.later b1 (by omega); clear hHeld
    replace BB := Lib.hid (BB.out.trans (b1.mono BB.out.size)); clear b1
    obtain ⟨z, hz⟩ : ∃ z : Bal, z = (x.1, x.2.1, inF x.1 a, inF x.2.1 b) := ⟨_, rfl⟩
    rw [← hz] at HB ⊢; clear hz
    go_wp2_with fail
    refine hK.out _ _ hHeld2 (fun hHeld => ?_)
    clear hK K hHeld2
    refine wpAnyH_take (i := 24) (v := .bool (eqF z x)) rfl (by kernel_rfl) (by kernel_rfl) (by kernel_rfl) (fun _ _ _ h => h) (Or.inl ⟨by kernel_rfl, fun w hSw => by have e := eqgB2 z x; have e2 := eqoB2 z x; go_simp⟩) hHeld ?_
    refine wpAnyH_take (i := 25) (v := .bool (eqF z x)) rfl (by kernel_rfl) (by kernel_rfl) (by kernel_rfl) (fun _ _ _ h => h) (Or.inl ⟨by kernel_rfl, fun w hSw => by go_simp⟩) hHeld ?_
    refine wpAnyH_take (i := 26) (v := .bool (eqF z x)) rfl (by kernel_rfl) (by kernel_rfl) (by kernel_rfl) (fun _ _ _ h => h) (Or.inl ⟨by kernel_rfl, fun w hSw => by go_simp⟩) hHeld ?_
    refine wpAnyH_done (by kernel_rfl) ?_ _
    dsimp only [List.append, List.getElem_toArray, List.getElem_cons_zero, List.getElem_cons_succ, Act.put]
    try simp only [List.setIfInBounds_toArray, List.set_cons_zero, List.set_cons_succ]
    generalize eqF z x = q at *
    go_wp2_with fail
    go_ret
    exact ⟨by rw [HB.out]; rfl, BB.out⟩
end Go.Proofs.Ytajkfkpnjbkhhaa.bal
