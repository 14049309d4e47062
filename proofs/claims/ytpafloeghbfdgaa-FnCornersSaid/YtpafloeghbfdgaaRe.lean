/-
  Contract of the program's IsRegularCorner.
-/
import Derived.Test.YtpafloeghbfdgaaCm
import Derived.Test.YtpafloeghbfdgaaAg
namespace Go.Proofs.Ytpafloeghbfdgaa.gl
open Go.ChangeShapes Go.WideShapes Go.ChangeAt Go.RowKit
open Go.Proofs.Ytpafloeghbfdgaa.mem Go.Proofs.Ytpafloeghbfdgaa.ints Go.Proofs.Ytpafloeghbfdgaa.arr Go.Proofs.Ytpafloeghbfdgaa.pm Go.Proofs.Ytpafloeghbfdgaa.permOk Go.Proofs.Ytpafloeghbfdgaa.permOf Go.Proofs.Ytpafloeghbfdgaa.inv Go.Proofs.Ytpafloeghbfdgaa.fns Go.Proofs.Ytpafloeghbfdgaa.sf Go.Proofs.Ytpafloeghbfdgaa.mat Go.Proofs.Ytpafloeghbfdgaa.rf
set_option linter.unusedVariables false
set_option maxRecDepth 100000
attribute [local go_sem] Oper.semAt_some

theorem wpIn_any {P : Program} {c : Code} {Q : Exit → Act → World → Prop} {a : Act} {w : World} {l m : Nat} (n : Nat) (h : c.wpIn (Fence.wide.inRound l) n P Q a w) : c.wpIn (Fence.wide.inRound l) m P Q a w :=
  fun b k cs h1 h2 _ => h b k cs h1 h2 (fun _ q => by cases q)
theorem cyc_one {n : Nat} {ps : List Int} (hb : Bij n ps) {f : Int} (f0 : 0 ≤ f) (f1 : f < n) : (cyc ps n f).length = 1 ↔ ps.getD f.toNat 0 = f := by
  constructor
  · intro h
    have hw := cyc_way hb f0 f1
    have hl := hw.last
    rw [h, hw.head] at hl
    exact hl.symm
  · intro h
    have hn : 0 < n := by omega
    obtain ⟨m, rfl⟩ : ∃ m, n = m + 1 := ⟨n - 1, by omega⟩
    unfold cyc
    rw [cy, if_pos h]; rfl
/-- What IsRegularCorner answers at a corner that has the square. -/
theorem regF_at {r u c : List Int} {n : Nat} (h : transB r u = true) (hn : r.length = n) (hc : c ∈ cso (comm r u) n n) {a : Int} (ha : a ∈ c) : regF r u a = ((c.length : Int) == 1) := by
  subst hn
  have s := transB_iff.1 h
  have hb := s.commB
  obtain ⟨i, hi, rfl⟩ := cso_cyc r.length (Nat.le_refl _) c hc
  have hw := cyc_way (f := (i : Int)) hb (by omega) (by omega)
  have a0 := hw.inn.lo a ha; have a1 := hw.inn.hi a ha
  have e := per_same hb (f := (i : Int)) (by omega) (by omega) ha
  have k := cyc_one hb a0 a1
  rw [e] at k
  have h1 : decide (0 ≤ a) = true := by simpa using a0
  have h2 : decide (a < (r.length : Int)) = true := by simpa using a1
  unfold regF
  rw [h, h1, h2, Bool.eq_iff_iff]
  simp only [Bool.true_and, decide_eq_true_eq, beq_iff_eq]
  rw [← k]; omega
theorem regF_none {r u : List Int} {n : Nat} (h : transB r u = true) (hn : r.length = n) {a : Int} (ha : ∀ c ∈ cso (comm r u) n n, ¬ a ∈ c) : regF r u a = false := by
  subst hn
  have s := transB_iff.1 h
  by_cases q : 0 ≤ a ∧ a < r.length
  · have hm := (cso_rng s.commB).mem_iff.2 (mem_rng.2 q)
    obtain ⟨c, hc, hac⟩ := List.mem_flatten.1 hm
    exact absurd hac (ha c hc)
  · by_cases q0 : a < 0
    · exact regF_neg q0
    · exact regF_big (by omega)
/-- The search among the corners so far. -/
def Rc (w0 : World) (S D1 : Nat) (a : Int) (pre : List Rw) (W : World) : Prop :=
  S + 2 ≤ D1 ∧ D1 ≤ W.heap.size ∧ Below w0.heap.size w0 W ∧ Arr W (w0.heap.size + 1) [.int .i64 a] 3 ∧ Arr W (w0.heap.size + 2) [.bool false] 4 ∧ ∀ c ∈ pre.map Prod.fst, ¬ a ∈ c
def Rx (w0 : World) (b : Bool) (W : World) : Prop := Below w0.heap.size w0 W ∧ Arr W (w0.heap.size + 2) [.bool b] 4
theorem Rc.out {w0 A B : World} {S D1 : Nat} {a : Int} {pre : List Rw} (h : Rc w0 S D1 a pre A) (hS : w0.heap.size + 2 < S) (ho : Out S (S + 2) A B) : Rc w0 S D1 a pre B := by
  obtain ⟨h1, h2, h3, h4, h5, h6⟩ := h
  have hs := ho.size
  exact ⟨h1, by omega, h3.trans (ho.below (by omega) (by have := h3.size; omega)), (ho.block _ h4.lt (.inl (by omega))).trans h4, (ho.block _ h5.lt (.inl hS)).trans h5, h6⟩
theorem Rx.out {w0 A B : World} {S : Nat} {b : Bool} (h : Rx w0 b A) (hS : w0.heap.size + 2 < S) (ho : Out S (S + 2) A B) : Rx w0 b B :=
  ⟨h.1.trans (ho.below (by omega) (by have := h.1.size; omega)), (ho.block _ h.2.lt (.inl hS)).trans h.2⟩

set_option maxHeartbeats 4000000 in
theorem re_impl (v : Value) (r u : List Int) (a : Int) (hi : Nat) (w : World) (hx : Srd w hi v r u) (hn : r.length ≤ 1048576) (hm : u.length ≤ 1048576) (lo : -9223372036854775808 ≤ a) (hi' : a ≤ 9223372036854775807) :
    Calls Try.prog 21 #[v, .int .i64 a] w fun e w' => e = .returned (.bool (regF r u a)) ∧ Below w.heap.size w w' := by
  have HX := Lib.hid hx; clear hx
  obtain ⟨P, n, c, Q, m, d, rfl, q1, q2, e1, e2, ht, HR⟩ := HX.out.open
  have L1 := Lib.hid q1
  clear HR q1 q2
  have f1 : Fence.wide.fn 60 := trivial
  have f2 : Fence.wide.fn 63 := trivial
  have f3 : Fence.wide.fn 57 := trivial
  have N0 : Hid (∀ o, Arr (((w.alloc o).alloc (.cells #[.int .i64 a] 3)).alloc (.cells #[.bool false] 4)) (w.heap.size + 1) [.int .i64 a] 3 ∧ Arr (((w.alloc o).alloc (.cells #[.int .i64 a] 3)).alloc (.cells #[.bool false] 4)) (w.heap.size + 2) [.bool false] 4 ∧ Below w.heap.size w (((w.alloc o).alloc (.cells #[.int .i64 a] 3)).alloc (.cells #[.bool false] 4))) :=
    Lib.hid (fun o => ⟨(Arr.new _ [.int .i64 a] _ (by simp)).alloc _, Arr.new _ [.bool false] _ (by simp), (((Below.refl _ _).alloc (Nat.le_refl _) _).alloc (by simp) _).alloc (by simp <;> omega) _⟩)
  refine (callsIn_wide (n := 9)).1 ?_
  refine callsIn_of_wp_marks Try.func21 rfl trivial ?_ rfl
  simp only [Try.ntmps21, List.size_toArray, List.length_cons, List.length_nil, Nat.reduceAdd, Nat.reduceSub, Array.replicate_succ, Array.replicate_zero, List.push_toArray, List.append_toArray, List.nil_append, List.cons_append]
  gi_wp2_with fail
  refine (callsIn_wide.2 (gluingOf_any _ r u hi _ (HX.out.keep ((N0.out _).2.2.mono ht) (Nat.le_refl _)) hn hm)).mono ?_
  rintro e w1 ⟨rfl, b1⟩
  have hs1 : w.heap.size + 3 ≤ w1.heap.size := by have := b1.size; simpa using this
  have AI := Lib.hid ((N0.out _).1.keep b1 (by simp <;> omega))
  have AR := Lib.hid ((N0.out _).2.1.keep b1 (by simp <;> omega))
  have B1 := Lib.hid ((N0.out _).2.2.trans (b1.mono (by simp <;> omega)))
  clear b1 N0 HX
  cases hq : transB r u
  · have HF := Lib.hid (regF_not hq a); clear hq
    gi_wp2_with (refine in_store_row rfl 63 _ _ rfl w1.heap.size (V (glv r u)).toArray rfl rfl 63 (V zero49).toArray (Arr.new w1 (V zero49) _ rfl) (size49 (glv_len _ _)) (by simp [V_len, glv_len, zero49]) (one_V _) ?_; generalize hw_ : (w1.alloc (.cells #[.int .i64 0, .int .i64 0, .int .i64 0, .int .i64 0, .int .i64 0, .int .i64 0, .int .i64 0, .int .i64 0, .int .i64 0, .int .i64 0, .int .i64 0, .int .i64 0, .int .i64 0, .int .i64 0, .int .i64 0, .int .i64 0, .int .i64 0, .int .i64 0, .int .i64 0, .int .i64 0, .int .i64 0, .int .i64 0, .int .i64 0, .int .i64 0, .int .i64 0, .int .i64 0, .int .i64 0, .int .i64 0, .int .i64 0, .int .i64 0, .int .i64 0, .int .i64 0, .int .i64 0, .int .i64 0, .int .i64 0, .int .i64 0, .int .i64 0, .int .i64 0, .int .i64 0, .int .i64 0, .int .i64 0, .int .i64 0, .int .i64 0, .int .i64 0, .int .i64 0, .int .i64 0, .int .i64 0, .int .i64 0, .int .i64 0] 63)).setRow w1.heap.size (V (glv r u)).toArray = w2; have A2 : Hid (Arr w2 w1.heap.size (V (glv r u)) 63) := Lib.hid (by rw [← hw_]; exact (Arr.new w1 (V zero49) _ rfl).row); have b1 : Below w1.heap.size w1 w2 := (by rw [← hw_]; exact arr.below_setRow ((Below.refl _ _).alloc (Nat.le_refl _) _) (Nat.le_refl _) _); have t_ : w1.heap.size + 1 ≤ w2.heap.size := (by rw [← hw_]; simp); clear hw_; replace B1 := Lib.hid (B1.out.trans (b1.mono B1.out.size)); have t2_ := b1.size; replace AI := Lib.hid (AI.out.keep b1 (by omega)); replace AR := Lib.hid (AR.out.keep b1 (by omega)); have hcr : w2.cell? ⟨w.heap.size + 1 + 1, 0, none⟩ = some (.bool false) := AR.out.cell (k := 0) rfl; have hfr : w2.frozen? ⟨w.heap.size + 1 + 1, 0, none⟩ = false := AR.out.frozen 0; clear b1)
    refine ⟨_, ?_, ret_bool HF.out.symm, B1.out.setCell (by simp <;> omega) _⟩
    have hcc := (AR.out.set_ 0 (.bool false)).cell (k := 0) rfl
    simp [results, Try.f21, go_sem, hcc]
  · have HS : Hid (Sf n r u) := Lib.hid (by have := transB_iff.1 hq; rwa [L1.out] at this)
    have HG : Hid (glv r u = gl (ext r) (ext u) n) := Lib.hid (by rw [glv_yes hq, L1.out])
    have HAT := Lib.hid (fun c (hc : c ∈ cso (comm r u) n n) (ha : a ∈ c) => regF_at hq L1.out hc ha)
    have HNO := Lib.hid (fun ha => regF_none (a := a) hq L1.out ha)
    have HPOS := Lib.hid (cso_pos HS.out.commB)
    have HLEN : Hid (∀ c ∈ cso (comm r u) n n, c.length ≤ 24) := Lib.hid (fun c hc => by
      obtain ⟨i, hi, rfl⟩ := cso_cyc n (Nat.le_refl _) c hc
      have := (cyc_way (f := (i : Int)) HS.out.commB (by omega) (by omega)).inn.len
      have := HS.out.small; omega)
    have SQ0 := Lib.hid (fun bg ws hg => corners_seq r u n bg ws HS.out hg)
    clear hq
    rw [HG.out]
    gi_wp2_with (first | (refine in_store_row rfl 63 _ _ rfl w1.heap.size (V (gl (ext r) (ext u) n)).toArray rfl rfl 63 (V zero49).toArray (Arr.new w1 (V zero49) _ rfl) (size49 (gl_len (ext_len _) (ext_len _) n)) (by simp [V_len, gl_len, ext_len, zero49]) (one_V _) ?_; generalize hw_ : (w1.alloc (.cells #[.int .i64 0, .int .i64 0, .int .i64 0, .int .i64 0, .int .i64 0, .int .i64 0, .int .i64 0, .int .i64 0, .int .i64 0, .int .i64 0, .int .i64 0, .int .i64 0, .int .i64 0, .int .i64 0, .int .i64 0, .int .i64 0, .int .i64 0, .int .i64 0, .int .i64 0, .int .i64 0, .int .i64 0, .int .i64 0, .int .i64 0, .int .i64 0, .int .i64 0, .int .i64 0, .int .i64 0, .int .i64 0, .int .i64 0, .int .i64 0, .int .i64 0, .int .i64 0, .int .i64 0, .int .i64 0, .int .i64 0, .int .i64 0, .int .i64 0, .int .i64 0, .int .i64 0, .int .i64 0, .int .i64 0, .int .i64 0, .int .i64 0, .int .i64 0, .int .i64 0, .int .i64 0, .int .i64 0, .int .i64 0, .int .i64 0] 63)).setRow w1.heap.size (V (gl (ext r) (ext u) n)).toArray = w2; have A2 : Hid (Arr w2 w1.heap.size (V (gl (ext r) (ext u) n)) 63) := Lib.hid (by rw [← hw_]; exact (Arr.new w1 (V zero49) _ rfl).row); have b1 : Below w1.heap.size w1 w2 := (by rw [← hw_]; exact arr.below_setRow ((Below.refl _ _).alloc (Nat.le_refl _) _) (Nat.le_refl _) _); have t_ : w1.heap.size + 1 ≤ w2.heap.size := (by rw [← hw_]; simp); clear hw_; replace B1 := Lib.hid (B1.out.trans (b1.mono B1.out.size)); have t2_ := b1.size; replace AI := Lib.hid (AI.out.keep b1 (by omega)); replace AR := Lib.hid (AR.out.keep b1 (by omega)); clear b1) | (refine in_load_row rfl 63 (.tmp 5) rfl w1.heap.size rfl 63 (V (gl (ext r) (ext u) n)).toArray (0, 0) _ A2.out Try.underlying63 rfl (size49 (gl_len (ext_len _) (ext_len _) n)) ?_) | (gi_at_call 60; refine (callsIn_wide.2 (corners_any (ext r) (ext u) n _ (ext_len _) (ext_len _))).mono ?_; rintro e w' ⟨rfl, rfl⟩))
    generalize cso (comm r u) n n = L at *
    generalize hws : w2.alloc (.cells (V (gl (ext r) (ext u) n)).toArray 63) = ws
    have AG : Hid (Arr ws w2.heap.size (V (gl (ext r) (ext u) n)) 63) := Lib.hid (by rw [← hws]; exact Arr.new _ _ _ rfl)
    have b1 : Below w2.heap.size w2 ws := by rw [← hws]; exact (Below.refl _ _).alloc (Nat.le_refl _) _
    have hz : w2.heap.size + 1 ≤ ws.heap.size := by rw [← hws]; simp
    clear hws
    replace AI := Lib.hid (AI.out.keep b1 (by omega))
    replace AR := Lib.hid (AR.out.keep b1 (by omega))
    have BW := Lib.hid (B1.out.trans (b1.mono B1.out.size))
    clear b1 A2 B1
    refine range_rows (L := L) (bg := w2.heap.size) (gf := 89) (lb := #[.pointer (some ⟨w2.heap.size, 0, none⟩)]) rfl rfl corners_enters (SQ0.out _ ws AG.out) (by omega) (fun D1 pre W => Rc w ws.heap.size D1 a pre W) (fun D1 pre W => Rx w (regF r u a) W)
      (fun D1 pre A B h ho => Rc.out h (by omega) ho) (fun D1 pre A B h ho => Rx.out h (by omega) ho) ?start (fun x => { tmps := #[.agg #[.slice P n c, .slice Q m d], .int .i64 a, .pointer (some ⟨w.heap.size, 0, none⟩), .pointer (some ⟨w.heap.size + 1, 0, none⟩), .pointer (some ⟨w.heap.size + 1 + 1, 0, none⟩), .pointer (some ⟨w1.heap.size, 0, none⟩), .bool true, x, .tuple #[.agg (V (gl (ext r) (ext u) n)).toArray, .bool true], .agg #[.slice P n c, .slice Q m d], .tuple #[.agg (V (gl (ext r) (ext u) n)).toArray, .bool true], .agg (V (gl (ext r) (ext u) n)).toArray, .bool true, .bool true, .bool false, .agg (V (gl (ext r) (ext u) n)).toArray, .func (.func 89) #[] #[.pointer (some ⟨w2.heap.size, 0, none⟩)], x, undef, undef, undef, undef, undef, undef], defers := [] }) ?assign ?body ?done ?stop
    case start =>
      intro W' hb hs
      exact ⟨hs, Nat.le_refl _, BW.out.trans (hb.mono BW.out.size), AI.out.keep hb (by omega), AR.out.keep hb (by omega), by simp⟩
    case assign =>
      intro l m x W K hK
      gi_wp2
      exact hK
    case body =>
      rintro mm D1 pre x W0 W1 hD hD0 hI ho hx hpre
      obtain ⟨xs, xv⟩ := x
      have hxL : xs ∈ L := hpre.subset (by simp)
      obtain ⟨h1, h2, hB, hAI, hAR, hno⟩ := Rc.out hI (by omega) ho
      have hxr : W1.ownsRow W0.heap.size 3 1 xv xs.length (V xs) := hx
      obtain ⟨XA, xc, rfl⟩ := own_form hxr
      obtain ⟨g3, off3, rfl, _, _, hcells⟩ := (Row.of_own hxr).2.2 (HPOS.out xs hxL)
      have CON := Try.slices_Contains_int g3 off3 xs.length xc xs a W1 (Nat.le_refl _) (by have := HLEN.out xs hxL; omega) (fun j hj => by rw [(hcells j hj).1]; exact V_getD hj)
      rw [List.take_length] at CON
      have hci := hAI.cell (k := 0) rfl
      have HI := Lib.hid hAI; have HR := Lib.hid hAR; have HBB := Lib.hid hB; have HNN := Lib.hid hno; have HX := Lib.hid hxL
      clear hx hxr hcells hI ho hpre hAI hAR hB hno hxL
      have f4 : (Fence.wide.inRound (ws.heap.size + 1)).fn 63 := trivial
      refine wpIn_any 9 ?_
      cases hcc : xs.contains a
      · rw [hcc] at CON
        have CH := Lib.hid CON
        have HNM : Hid (¬ a ∈ xs) := Lib.hid (by intro q; rw [List.contains_iff_mem.2 q] at hcc; cases hcc)
        clear CON hcc
        gi_wp2_with (gi_at_call 63; refine (callsIn_any _ _ CH.out).mono ?_; rintro e w' ⟨rfl, rfl⟩)
        refine ⟨⟨Nat.le_refl _, rfl, fun _ _ _ => rfl⟩, hD, h2, HBB.out, HI.out, HR.out, fun c hc => ?_⟩
        rw [List.map_append] at hc
        rcases List.mem_append.1 hc with hc | hc
        · exact HNN.out c hc
        · simp at hc; subst hc; exact HNM.out
      · rw [hcc] at CON
        have CH := Lib.hid CON
        have HRG := Lib.hid (HAT.out xs HX.out (by simpa using hcc))
        clear CON hcc
        have hcr : W1.cell? ⟨w.heap.size + 1 + 1, 0, none⟩ = some (.bool false) := HR.out.cell (k := 0) rfl
        have hfr : W1.frozen? ⟨w.heap.size + 1 + 1, 0, none⟩ = false := HR.out.frozen 0
        generalize hll : ((xs.length : Int) == 1) = bb at *
        gi_wp2_with (gi_at_call 63; refine (callsIn_any _ _ CH.out).mono ?_; rintro e w' ⟨rfl, rfl⟩)
        have HM : Hid (∀ k, k ≠ w.heap.size + 1 + 1 → (w'.setCell ⟨w.heap.size + 1 + 1, 0, none⟩ (.bool bb)).heap[k]? = w'.heap[k]?) := Lib.hid (fun k q => Below.heap_setCell _ _ _ _ q)
        refine ⟨⟨by simp [World.setCell], HM.out _ (by omega), fun k q1 q2 => HM.out _ (by omega)⟩, HBB.out.setCell (by simp <;> omega) _, ?_⟩
        have := HR.out.set_ 0 (.bool bb)
        rw [HRG.out]
        simpa using this
    case done =>
      rintro D1 ys W rfl ⟨h1, h2, hB, hAI, hAR, hno⟩ hd
      have HF := Lib.hid (HNO.out hno)
      have hcr : W.cell? ⟨w.heap.size + 1 + 1, 0, none⟩ = some (.bool false) := hAR.cell (k := 0) rfl
      have hfr : W.frozen? ⟨w.heap.size + 1 + 1, 0, none⟩ = false := hAR.frozen 0
      have HR := Lib.hid hAR; have HBB := Lib.hid hB; have HD := Lib.hid hd
      clear hAI hAR hB hno hd
      gi_wp2
      have HM : Hid (∀ k, k ≠ w.heap.size + 1 + 1 → (W.setCell ⟨w.heap.size + 1 + 1, 0, none⟩ (.bool false)).heap[k]? = W.heap[k]?) := Lib.hid (fun k q => Below.heap_setCell _ _ _ _ q)
      refine ⟨by simp, .inl ⟨_, _, rfl, run_takeDeferred ((HM.out _ (by omega)).trans HD.out), ?_⟩⟩
      have X : Rx w false (W.setCell ⟨w.heap.size + 1 + 1, 0, none⟩ (.bool false)) := ⟨HBB.out.setCell (by simp <;> omega) _, by simpa using HR.out.set_ 0 (.bool false)⟩
      have X2 := Rx.out X (S := ws.heap.size) (by omega) (out_put (lo := ws.heap.size) (hi := ws.heap.size + 2) (.deferred none) (Nat.le_refl _) (by omega))
      have hcc := X2.2.cell (k := 0) rfl
      refine ⟨.bool false, ?_, ret_bool HF.out.symm, X2.1⟩
      simp [results, Try.f21, go_sem, hcc]
    case stop =>
      rintro D1 ys W hp ⟨hB, hAR⟩ hd
      have HR := Lib.hid hAR; have HBB := Lib.hid hB; have HD := Lib.hid hd
      clear hAR hB hd
      gi_wp2
      refine ⟨by simp, .inl ⟨_, _, rfl, run_takeDeferred HD.out, ?_⟩⟩
      have X2 := Rx.out ⟨HBB.out, HR.out⟩ (S := ws.heap.size) (by omega) (out_put (lo := ws.heap.size) (hi := ws.heap.size + 2) (.deferred none) (Nat.le_refl _) (by omega))
      have hcc := X2.2.cell (k := 0) rfl
      refine ⟨.bool (regF r u a), ?_, rfl, X2.1⟩
      simp [results, Try.f21, go_sem, hcc]
end Go.Proofs.Ytpafloeghbfdgaa.gl
