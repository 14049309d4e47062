import Derived.Test.YtpmojmhamgcfmaaY18
/-
  AreIsomorphic of the program.
-/
namespace Go.Proofs.Ytpmojmhamgcfmaa.gl
open Go.ChangeShapes Go.WideShapes Go.ChangeAt Go.RowKit
open Go.Proofs.Ytpmojmhamgcfmaa.mem Go.Proofs.Ytpmojmhamgcfmaa.ints Go.Proofs.Ytpmojmhamgcfmaa.arr Go.Proofs.Ytpmojmhamgcfmaa.pm Go.Proofs.Ytpmojmhamgcfmaa.permOk Go.Proofs.Ytpmojmhamgcfmaa.permOf Go.Proofs.Ytpmojmhamgcfmaa.inv Go.Proofs.Ytpmojmhamgcfmaa.fns Go.Proofs.Ytpmojmhamgcfmaa.sf
set_option linter.unusedVariables false
set_option maxRecDepth 100000

/-- Both are surfaces, with the same canonical form. -/
def isoF (r u r' u' : List Int) : Bool := transB r u && (transB r' u' && sameF (can r u r.length).1 (can r u r.length).2 (can r' u' r'.length).1 (can r' u' r'.length).2)
theorem iso_no1 {r u r' u' : List Int} (h : transB r u = false) : isoF r u r' u' = false := by simp [isoF, h]
theorem iso_no2 {r u r' u' : List Int} (h : transB r' u' = false) : isoF r u r' u' = false := by simp [isoF, h]
theorem iso_yes {r u r' u' : List Int} (h : transB r u = true) (h' : transB r' u' = true) : isoF r u r' u' = sameF (can r u r.length).1 (can r u r.length).2 (can r' u' r'.length).1 (can r' u' r'.length).2 := by simp [isoF, h, h']
set_option maxHeartbeats 1000000 in
theorem eq_gl2 {p q p' q' : List Int} (hp : p.length = 24) (hq : q.length = 24) (hp' : p'.length = 24) (hq' : q'.length = 24) (n n' : Nat) (w : World) :
    (Op.equalIn 10000 63 (.agg (V (gl p q n)).toArray) (.agg (V (gl p' q' n')).toArray)).run Try.prog w = .ok (decide (p = p' ∧ q = q' ∧ n = n')) w := by
  have hf : (Try.prog.fieldsOf 63).toList.map (fun f => (f.name, f.type, f.offset)) = [("right", 61, 0), ("up", 61, 24), ("count", 3, 48)] := by kernel_rfl
  rw [run_equalIn_struct w 9999 _ _ _ (by kernel_rfl) (by kernel_rfl)]
  generalize (Try.prog.fieldsOf 63).toList = fs at hf
  have hl : fs.length = 3 := by have := congrArg List.length hf; simpa using this
  match fs, hl, hf with
  | [f0, f1, f2], _, hf =>
    simp only [List.map_cons, List.map_nil, List.cons.injEq, Prod.mk.injEq, and_true] at hf
    obtain ⟨⟨a1, a2, a3⟩, ⟨b1, b2, b3⟩, c1, c2, c3⟩ := hf
    have x1 : ∀ {r s : List Int} (n : Nat), r.length = 24 → s.length = 24 → (V (gl r s n)).toArray.extract 0 (0 + 24) = (V r).toArray := fun _ hr hs => V_ext (by simp [gl, hr])
    have x2 : ∀ {r s : List Int} (n : Nat), r.length = 24 → s.length = 24 → (V (gl r s n)).toArray.extract 24 (24 + 24) = (V s).toArray := fun _ hr hs => V_ext (by simp [gl, hr, hs])
    have x3 : ∀ {r s : List Int} (n : Nat), r.length = 24 → s.length = 24 → (V (gl r s n)).toArray[48]? = some (.int .i64 n) := fun _ hr hs => by
      simp only [gl, V, List.map_append, List.getElem?_toArray]
      rw [List.getElem?_append_right (by simp; omega)]
      simp [hr, hs]
    have e3 : (Op.equalIn 9999 3 (.int .i64 n) (.int .i64 n')).run Try.prog w = .ok ((n : Int) == (n' : Int)) w := run_equalIn_int w 9998 _ .i64 .i64 _ _ Try.underlying3
    have n1 : (("right" : String) ≠ "_") = True := by simp
    have n2 : (("up" : String) ≠ "_") = True := by simp
    have n3 : (("count" : String) ≠ "_") = True := by simp
    have e1' : (Op.equalIn 9999 61 (.agg (V p).toArray) (.agg (V p').toArray)).run Try.prog w = .ok (decide (p = p')) w := eq_perm hp hp' 9997 w
    have e2' : (Op.equalIn 9999 61 (.agg (V q).toArray) (.agg (V q').toArray)).run Try.prog w = .ok (decide (q = q')) w := eq_perm hq hq' 9997 w
    simp only [Op.eqFields, n1, n2, n3, if_true, a1, a2, a3, b1, b2, b3, c1, c2, c3, Sem.run_bind, part_perm, x1 n hp hq, x1 n' hp' hq', Result.andThen_ok, e1']
    by_cases h1 : p = p'
    · simp only [decide_eq_true h1, Bool.not_true, Bool.false_eq_true, if_false, Sem.run_bind, part_perm, x2 n hp hq, x2 n' hp' hq', Result.andThen_ok, e2']
      by_cases h2 : q = q'
      · simp only [decide_eq_true h2, Bool.not_true, Bool.false_eq_true, if_false, Sem.run_bind, part_int (x3 n hp hq), part_int (x3 n' hp' hq'), Result.andThen_ok, e3]
        by_cases h3 : n = n'
        · have : ((n : Int) == (n' : Int)) = true := by simp [h3]
          simp only [this, Bool.not_true, Bool.false_eq_true, if_false, Sem.run_pure]
          rw [decide_eq_true (show p = p' ∧ q = q' ∧ n = n' from ⟨h1, h2, h3⟩)]
        · have : ((n : Int) == (n' : Int)) = false := by simp; omega
          simp only [this, Bool.not_false, if_true, Sem.run_pure]
          rw [decide_eq_false (fun h => h3 h.2.2)]
      · simp only [decide_eq_false h2, Bool.not_false, if_true, Sem.run_pure]
        rw [decide_eq_false (fun h => h2 h.2.1)]
    · simp only [decide_eq_false h1, Bool.not_false, if_true, Sem.run_pure]
      rw [decide_eq_false (fun h => h1 h.1)]
theorem eq_cn {r u r' u' : List Int} {n n' : Nat} (h : 0 < n) (h' : 0 < n') (l : n ≤ 24) (l' : n' ≤ 24) (w : World) :
    (Op.equalIn 10000 63 (.agg (V (cn r u n)).toArray) (.agg (V (cn r' u' n')).toArray)).run Try.prog w = .ok (sameF (can r u n).1 (can r u n).2 (can r' u' n').1 (can r' u' n').2) w := by
  unfold cn
  rw [eq_gl2 (ext_len _) (ext_len _) (ext_len _) (ext_len _)]
  obtain ⟨a1, a2⟩ := can_len r u h
  obtain ⟨b1, b2⟩ := can_len r' u' h'
  congr 1
  unfold sameF eqi
  rw [← Bool.decide_and, decide_eq_decide]
  constructor
  · rintro ⟨q1, q2, rfl⟩
    exact ⟨ext_inj (by rw [a1, b1]) (by omega) q1, ext_inj (by rw [a2, b2]) (by omega) q2⟩
  · rintro ⟨q1, q2⟩
    exact ⟨by rw [q1], by rw [q2], by rw [← a1, ← b1, q1]⟩

set_option maxHeartbeats 2000000 in
theorem iso_impl (x : Value) (r u : List Int) (y : Value) (r' u' : List Int) (h1 h2 : Nat) (w : World) (hx : Srd w h1 x r u) (hy : Srd w h2 y r' u') (hn : r.length ≤ 1048576) (hm : u.length ≤ 1048576) (hn' : r'.length ≤ 1048576) (hm' : u'.length ≤ 1048576) :
    Calls Try.prog 75 #[x, y] w fun e w' => e = .returned (.bool (isoF r u r' u')) ∧ Below w.heap.size w w' := by
  have HX := Lib.hid hx; have HY := Lib.hid hy
  obtain ⟨P, n, c, Q, m, d, rfl, q1, q2, e1, e2, ht, HR⟩ := hx.open
  obtain ⟨P', n', c', Q', m', d', rfl, q1', q2', e1', e2', ht', HR'⟩ := hy.open
  have L1 := Lib.hid q1; have L1' := Lib.hid q1'
  clear hx hy HR HR'
  have B0 : Hid (∀ a b, Below w.heap.size w ((w.alloc a).alloc b)) := Lib.hid (fun a b => ((Below.refl _ _).alloc (Nat.le_refl _) _).alloc (by simp) _)
  go_enter Try.func75, Try.ntmps75
  go_wp2_with fail
  refine (gluingOf_any _ r u h1 _ (HX.out.keep ((B0.out _ _).mono ht) (Nat.le_refl _)) hn hm).mono ?_
  rintro e w1 ⟨rfl, b1⟩
  have A3 := Lib.hid ((Arr.new (w.alloc (.cells #[.slice P n c, .slice Q m d] 25)) [.slice P' n' c', .slice Q' m' d'] 25 (g := w.heap.size + 1) (by simp)).keep b1 (by simp <;> omega))
  have B1 : Hid (Below w.heap.size w w1) := Lib.hid ((B0.out _ _).trans (b1.mono (by simp <;> omega)))
  have hs1 : w.heap.size + 2 ≤ w1.heap.size := by have := b1.size; simpa using this
  clear b1
  go_wp2_with (first | (refine wpList_store_row rfl 63 _ _ rfl w1.heap.size (V (glv r u)).toArray rfl rfl 63 (V zero49).toArray (Arr.new w1 (V zero49) _ rfl) (size49 (glv_len _ _)) (by simp [V_len, glv_len, zero49]) (one_V _) ?_; generalize hwq : (w1.alloc (.cells #[.int .i64 0, .int .i64 0, .int .i64 0, .int .i64 0, .int .i64 0, .int .i64 0, .int .i64 0, .int .i64 0, .int .i64 0, .int .i64 0, .int .i64 0, .int .i64 0, .int .i64 0, .int .i64 0, .int .i64 0, .int .i64 0, .int .i64 0, .int .i64 0, .int .i64 0, .int .i64 0, .int .i64 0, .int .i64 0, .int .i64 0, .int .i64 0, .int .i64 0, .int .i64 0, .int .i64 0, .int .i64 0, .int .i64 0, .int .i64 0, .int .i64 0, .int .i64 0, .int .i64 0, .int .i64 0, .int .i64 0, .int .i64 0, .int .i64 0, .int .i64 0, .int .i64 0, .int .i64 0, .int .i64 0, .int .i64 0, .int .i64 0, .int .i64 0, .int .i64 0, .int .i64 0, .int .i64 0, .int .i64 0, .int .i64 0] 63)).setRow w1.heap.size (V (glv r u)).toArray = w2; have A5 : Hid (Arr w2 w1.heap.size (V (glv r u)) 63) := Lib.hid (by rw [← hwq]; exact (Arr.new w1 (V zero49) _ rfl).row); have b1 : Below w1.heap.size w1 w2 := (by rw [← hwq]; exact arr.below_setRow ((Below.refl _ _).alloc (Nat.le_refl _) _) (Nat.le_refl _) _); have tw2 := b1.size; replace A3 := Lib.hid (A3.out.keep b1 A3.out.lt); replace B1 := Lib.hid (B1.out.trans (b1.mono B1.out.size)); clear hwq b1; have c0 := A3.out.cell (k := 0) rfl; have c1 := A3.out.cell (k := 1) rfl) | fail)
  refine (gluingOf_any _ r' u' h2 _ (HY.out.keep (B1.out.mono ht') (Nat.le_refl _)) hn' hm').mono ?_
  rintro e w3 ⟨rfl, b1⟩
  have hs3 := b1.size
  replace A5 := Lib.hid (A5.out.keep b1 A5.out.lt)
  replace B1 := Lib.hid (B1.out.trans (b1.mono B1.out.size))
  clear b1 A3 c0 c1
  cases hq : transB r u
  · have HF := Lib.hid (iso_no1 (r' := r') (u' := u') hq)
    go_wp2_with (first | (refine wpList_store_row rfl 63 _ _ rfl w3.heap.size (V (glv r' u')).toArray rfl rfl 63 (V zero49).toArray (Arr.new w3 (V zero49) _ rfl) (size49 (glv_len _ _)) (by simp [V_len, glv_len, zero49]) (one_V _) ?_; generalize hwq : (w3.alloc (.cells #[.int .i64 0, .int .i64 0, .int .i64 0, .int .i64 0, .int .i64 0, .int .i64 0, .int .i64 0, .int .i64 0, .int .i64 0, .int .i64 0, .int .i64 0, .int .i64 0, .int .i64 0, .int .i64 0, .int .i64 0, .int .i64 0, .int .i64 0, .int .i64 0, .int .i64 0, .int .i64 0, .int .i64 0, .int .i64 0, .int .i64 0, .int .i64 0, .int .i64 0, .int .i64 0, .int .i64 0, .int .i64 0, .int .i64 0, .int .i64 0, .int .i64 0, .int .i64 0, .int .i64 0, .int .i64 0, .int .i64 0, .int .i64 0, .int .i64 0, .int .i64 0, .int .i64 0, .int .i64 0, .int .i64 0, .int .i64 0, .int .i64 0, .int .i64 0, .int .i64 0, .int .i64 0, .int .i64 0, .int .i64 0, .int .i64 0] 63)).setRow w3.heap.size (V (glv r' u')).toArray = w4; have A7 : Hid (Arr w4 w3.heap.size (V (glv r' u')) 63) := Lib.hid (by rw [← hwq]; exact (Arr.new w3 (V zero49) _ rfl).row); have b1 : Below w3.heap.size w3 w4 := (by rw [← hwq]; exact arr.below_setRow ((Below.refl _ _).alloc (Nat.le_refl _) _) (Nat.le_refl _) _); have tw4 := b1.size; replace A5 := Lib.hid (A5.out.keep b1 A5.out.lt); replace B1 := Lib.hid (B1.out.trans (b1.mono B1.out.size)); clear hwq b1) | fail)
    go_ret
    exact ⟨ret_bool HF.out.symm, B1.out⟩
  · cases hq' : transB r' u'
    · have HF := Lib.hid (iso_no2 (r := r) (u := u) hq')
      go_wp2_with (first | (refine wpList_store_row rfl 63 _ _ rfl w3.heap.size (V (glv r' u')).toArray rfl rfl 63 (V zero49).toArray (Arr.new w3 (V zero49) _ rfl) (size49 (glv_len _ _)) (by simp [V_len, glv_len, zero49]) (one_V _) ?_; generalize hwq : (w3.alloc (.cells #[.int .i64 0, .int .i64 0, .int .i64 0, .int .i64 0, .int .i64 0, .int .i64 0, .int .i64 0, .int .i64 0, .int .i64 0, .int .i64 0, .int .i64 0, .int .i64 0, .int .i64 0, .int .i64 0, .int .i64 0, .int .i64 0, .int .i64 0, .int .i64 0, .int .i64 0, .int .i64 0, .int .i64 0, .int .i64 0, .int .i64 0, .int .i64 0, .int .i64 0, .int .i64 0, .int .i64 0, .int .i64 0, .int .i64 0, .int .i64 0, .int .i64 0, .int .i64 0, .int .i64 0, .int .i64 0, .int .i64 0, .int .i64 0, .int .i64 0, .int .i64 0, .int .i64 0, .int .i64 0, .int .i64 0, .int .i64 0, .int .i64 0, .int .i64 0, .int .i64 0, .int .i64 0, .int .i64 0, .int .i64 0, .int .i64 0] 63)).setRow w3.heap.size (V (glv r' u')).toArray = w4; have A7 : Hid (Arr w4 w3.heap.size (V (glv r' u')) 63) := Lib.hid (by rw [← hwq]; exact (Arr.new w3 (V zero49) _ rfl).row); have b1 : Below w3.heap.size w3 w4 := (by rw [← hwq]; exact arr.below_setRow ((Below.refl _ _).alloc (Nat.le_refl _) _) (Nat.le_refl _) _); have tw4 := b1.size; replace A5 := Lib.hid (A5.out.keep b1 A5.out.lt); replace B1 := Lib.hid (B1.out.trans (b1.mono B1.out.size)); clear hwq b1) | fail)
      go_ret
      exact ⟨ret_bool HF.out.symm, B1.out⟩
    · have HF := Lib.hid (iso_yes hq hq')
      have HS : Hid (Sf n r u) := Lib.hid (by have := transB_iff.1 hq; rwa [L1.out] at this)
      have HS' : Hid (Sf n' r' u') := Lib.hid (by have := transB_iff.1 hq'; rwa [L1'.out] at this)
      have HG : Hid (glv r u = gl (ext r) (ext u) n) := Lib.hid (by rw [glv_yes hq, L1.out])
      have HG' : Hid (glv r' u' = gl (ext r') (ext u') n') := Lib.hid (by rw [glv_yes hq', L1'.out])
      have hn24 : n ≤ 24 := by have := HS.out.r.len; rwa [L1.out] at this
      have hn24' : n' ≤ 24 := by have := HS'.out.r.len; rwa [L1'.out] at this
      rw [L1.out, L1'.out] at HF
      rw [HG.out] at A5
      clear hq hq'
      go_wp2_with (first | (refine wpList_store_row rfl 63 _ _ rfl w3.heap.size (V (glv r' u')).toArray rfl rfl 63 (V zero49).toArray (Arr.new w3 (V zero49) _ rfl) (size49 (glv_len _ _)) (by simp [V_len, glv_len, zero49]) (one_V _) ?_; generalize hwq : (w3.alloc (.cells #[.int .i64 0, .int .i64 0, .int .i64 0, .int .i64 0, .int .i64 0, .int .i64 0, .int .i64 0, .int .i64 0, .int .i64 0, .int .i64 0, .int .i64 0, .int .i64 0, .int .i64 0, .int .i64 0, .int .i64 0, .int .i64 0, .int .i64 0, .int .i64 0, .int .i64 0, .int .i64 0, .int .i64 0, .int .i64 0, .int .i64 0, .int .i64 0, .int .i64 0, .int .i64 0, .int .i64 0, .int .i64 0, .int .i64 0, .int .i64 0, .int .i64 0, .int .i64 0, .int .i64 0, .int .i64 0, .int .i64 0, .int .i64 0, .int .i64 0, .int .i64 0, .int .i64 0, .int .i64 0, .int .i64 0, .int .i64 0, .int .i64 0, .int .i64 0, .int .i64 0, .int .i64 0, .int .i64 0, .int .i64 0, .int .i64 0] 63)).setRow w3.heap.size (V (glv r' u')).toArray = w4; have A7 : Hid (Arr w4 w3.heap.size (V (glv r' u')) 63) := Lib.hid (by rw [← hwq]; exact (Arr.new w3 (V zero49) _ rfl).row); have b1 : Below w3.heap.size w3 w4 := (by rw [← hwq]; exact arr.below_setRow ((Below.refl _ _).alloc (Nat.le_refl _) _) (Nat.le_refl _) _); have tw4 := b1.size; replace A5 := Lib.hid (A5.out.keep b1 A5.out.lt); replace B1 := Lib.hid (B1.out.trans (b1.mono B1.out.size)); clear hwq b1; rw [HG'.out] at A7) | (refine wpList_load_row rfl 63 (.tmp 5) rfl w1.heap.size rfl 63 (V (gl (ext r) (ext u) n)).toArray (0, 0) _ A5.out Try.underlying63 rfl (size49 (gl_len (ext_len _) (ext_len _) _)) ?_) | fail)
      refine (canon_any r u n _ HS.out).mono ?_
      rintro e w5 ⟨B, D, mm, rfl, _, _, b1⟩
      have hs5 := b1.size
      replace A7 := Lib.hid (A7.out.keep b1 A7.out.lt)
      replace B1 := Lib.hid (B1.out.trans (b1.mono B1.out.size))
      clear b1 A5
      go_wp2_with (first | (refine wpList_store_row rfl 63 _ _ rfl w5.heap.size (V (cn r u n)).toArray rfl rfl 63 (V zero49).toArray (Arr.new w5 (V zero49) _ rfl) (size49 (cn_len _ _ _)) (by simp [V_len, cn_len, zero49]) (one_V _) ?_; generalize hwq : (w5.alloc (.cells #[.int .i64 0, .int .i64 0, .int .i64 0, .int .i64 0, .int .i64 0, .int .i64 0, .int .i64 0, .int .i64 0, .int .i64 0, .int .i64 0, .int .i64 0, .int .i64 0, .int .i64 0, .int .i64 0, .int .i64 0, .int .i64 0, .int .i64 0, .int .i64 0, .int .i64 0, .int .i64 0, .int .i64 0, .int .i64 0, .int .i64 0, .int .i64 0, .int .i64 0, .int .i64 0, .int .i64 0, .int .i64 0, .int .i64 0, .int .i64 0, .int .i64 0, .int .i64 0, .int .i64 0, .int .i64 0, .int .i64 0, .int .i64 0, .int .i64 0, .int .i64 0, .int .i64 0, .int .i64 0, .int .i64 0, .int .i64 0, .int .i64 0, .int .i64 0, .int .i64 0, .int .i64 0, .int .i64 0, .int .i64 0, .int .i64 0] 63)).setRow w5.heap.size (V (cn r u n)).toArray = w6; have A9 : Hid (Arr w6 w5.heap.size (V (cn r u n)) 63) := Lib.hid (by rw [← hwq]; exact (Arr.new w5 (V zero49) _ rfl).row); have b1 : Below w5.heap.size w5 w6 := (by rw [← hwq]; exact arr.below_setRow ((Below.refl _ _).alloc (Nat.le_refl _) _) (Nat.le_refl _) _); have tw6 := b1.size; replace A7 := Lib.hid (A7.out.keep b1 A7.out.lt); replace B1 := Lib.hid (B1.out.trans (b1.mono B1.out.size)); clear hwq b1) | (refine wpList_load_row rfl 63 (.tmp 7) rfl w3.heap.size rfl 63 (V (gl (ext r') (ext u') n')).toArray (0, 0) _ A7.out Try.underlying63 rfl (size49 (gl_len (ext_len _) (ext_len _) _)) ?_) | fail)
      refine (canon_any r' u' n' _ HS'.out).mono ?_
      rintro e w7 ⟨B', D', mm', rfl, _, _, b1⟩
      have hs7 := b1.size
      replace A9 := Lib.hid (A9.out.keep b1 A9.out.lt)
      replace B1 := Lib.hid (B1.out.trans (b1.mono B1.out.size))
      clear b1 A7
      have EQ : Hid (∀ w, (Op.equalIn 10000 63 (.agg (V (cn r u n)).toArray) (.agg (V (cn r' u' n')).toArray)).run Try.prog w = .ok (isoF r u r' u') w) := Lib.hid (fun w => by rw [HF.out]; exact eq_cn HS.out.pos HS'.out.pos hn24 hn24' w)
      go_wp2_with (first | (refine wpList_store_row rfl 63 _ _ rfl w7.heap.size (V (cn r' u' n')).toArray rfl rfl 63 (V zero49).toArray (Arr.new w7 (V zero49) _ rfl) (size49 (cn_len _ _ _)) (by simp [V_len, cn_len, zero49]) (one_V _) ?_; generalize hwq : (w7.alloc (.cells #[.int .i64 0, .int .i64 0, .int .i64 0, .int .i64 0, .int .i64 0, .int .i64 0, .int .i64 0, .int .i64 0, .int .i64 0, .int .i64 0, .int .i64 0, .int .i64 0, .int .i64 0, .int .i64 0, .int .i64 0, .int .i64 0, .int .i64 0, .int .i64 0, .int .i64 0, .int .i64 0, .int .i64 0, .int .i64 0, .int .i64 0, .int .i64 0, .int .i64 0, .int .i64 0, .int .i64 0, .int .i64 0, .int .i64 0, .int .i64 0, .int .i64 0, .int .i64 0, .int .i64 0, .int .i64 0, .int .i64 0, .int .i64 0, .int .i64 0, .int .i64 0, .int .i64 0, .int .i64 0, .int .i64 0, .int .i64 0, .int .i64 0, .int .i64 0, .int .i64 0, .int .i64 0, .int .i64 0, .int .i64 0, .int .i64 0] 63)).setRow w7.heap.size (V (cn r' u' n')).toArray = w8; have A11 : Hid (Arr w8 w7.heap.size (V (cn r' u' n')) 63) := Lib.hid (by rw [← hwq]; exact (Arr.new w7 (V zero49) _ rfl).row); have b1 : Below w7.heap.size w7 w8 := (by rw [← hwq]; exact arr.below_setRow ((Below.refl _ _).alloc (Nat.le_refl _) _) (Nat.le_refl _) _); have tw8 := b1.size; replace A9 := Lib.hid (A9.out.keep b1 A9.out.lt); replace B1 := Lib.hid (B1.out.trans (b1.mono B1.out.size)); clear hwq b1) | (refine wpList_load_row rfl 63 (.tmp 9) rfl w5.heap.size rfl 63 (V (cn r u n)).toArray (0, 0) _ A9.out Try.underlying63 rfl (size49 (cn_len _ _ _)) ?_) | (refine wpList_load_row rfl 63 (.tmp 11) rfl w7.heap.size rfl 63 (V (cn r' u' n')).toArray (0, 0) _ A11.out Try.underlying63 rfl (size49 (cn_len _ _ _)) ?_) | (refine wpList_eql_gl rfl _ _ _ rfl _ _ rfl rfl _ (EQ.out _) ?_) | fail)
      go_ret
      exact ⟨rfl, B1.out⟩
end Go.Proofs.Ytpmojmhamgcfmaa.gl
