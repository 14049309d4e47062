import Derived.Test.YtngglhbcpeigcaaY17
import Derived.Test.YtngglhbcpeigcaaY10
/-
  Common divisors, LeastShears of the specification and of the program.
-/
namespace Go.Proofs.Ytngglhbcpeigcaa.cy
open Go.ChangeShapes Go.WideShapes Go.ChangeAt Go.RowKit
open Go.Proofs.Ytngglhbcpeigcaa.mem Go.Proofs.Ytngglhbcpeigcaa.ints Go.Proofs.Ytngglhbcpeigcaa.arr Go.Proofs.Ytngglhbcpeigcaa.pm Go.Proofs.Ytngglhbcpeigcaa.sf Go.Proofs.Ytngglhbcpeigcaa.gl Go.Proofs.Ytngglhbcpeigcaa.lp
set_option linter.unusedVariables false
set_option maxRecDepth 100000

set_option maxHeartbeats 1000000 in
theorem gcd_spec (a b : Nat) (w : World) (ha : a ≤ 16777216) (hb : b ≤ 16777216) :
    Calls Try.prog 39 #[.int .i64 a, .int .i64 b] w fun e w' => e = .returned (.int .i64 (Nat.gcd a b : Nat)) ∧ Drawn w w' := by
  go_enter Try.func39, Try.ntmps39
  go_wp2
  go_loopw [0, 1] (fun av bv wr => ∃ x y : Nat, x ≤ 16777216 ∧ y ≤ 16777216 ∧ av = .int .i64 x ∧ bv = .int .i64 y ∧ Drawn w wr ∧ Hid (Nat.gcd x y = Nat.gcd a b)) (fun _ bv _ => (intOf bv).toNat)
  case atStart => exact ⟨a, b, ha, hb, rfl, rfl, ⟨0, rfl⟩, Lib.hid rfl⟩
  case round =>
    obtain ⟨x, y, hx, hy, rfl, rfl, hdr, HG⟩ := hrel
    have HD := Lib.hid hdr; clear hdr
    by_cases h0 : y = 0
    · subst h0
      have HE : Hid (x = Nat.gcd a b) := Lib.hid (by rw [← HG.out, Nat.gcd_zero_right])
      go_wp2
      go_ret
      exact ⟨ret_int (by rw [← HE.out]), HD.out⟩
    · have hb0 : ((y : Int) != 0) = true := by simp; omega
      have hm : x % y < y := Nat.mod_lt _ (by omega)
      have e1 : (x : Int).tmod y = ((x % y : Nat) : Int) := by rw [← Int.ofNat_tmod]
      have NG : Hid (Nat.gcd y (x % y) = Nat.gcd a b) := Lib.hid (by rw [← HG.out, Nat.gcd_comm x y, Nat.gcd_rec y x, Nat.gcd_comm])
      generalize hz : x % y = z at *
      have hw := IntWalk.i64_in (z : Int) (by omega)
      go_wp2
      go_roundw
      case rel => exact ⟨y, z, by omega, by omega, rfl, by first | rfl | (congr 1), by first | exact HD.out | exact HD.out.more 1 | exact (HD.out.more 1).more 1, NG⟩
      case measure => simp [intOf]; omega

set_option maxHeartbeats 1000000 in
theorem gcd_impl (a b : Nat) (w : World) (ha : a ≤ 16777216) (hb : b ≤ 16777216) :
    Calls Try.prog 55 #[.int .i64 a, .int .i64 b] w fun e w' => e = .returned (.int .i64 (Nat.gcd a b : Nat)) ∧ Drawn w w' := by
  go_enter Try.func55, Try.ntmps55
  go_wp2
  go_loopw [0, 1] (fun av bv wr => ∃ x y : Nat, x ≤ 16777216 ∧ y ≤ 16777216 ∧ av = .int .i64 x ∧ bv = .int .i64 y ∧ Drawn w wr ∧ Hid (Nat.gcd x y = Nat.gcd a b)) (fun _ bv _ => (intOf bv).toNat)
  case atStart => exact ⟨a, b, ha, hb, rfl, rfl, ⟨0, rfl⟩, Lib.hid rfl⟩
  case round =>
    obtain ⟨x, y, hx, hy, rfl, rfl, hdr, HG⟩ := hrel
    have HD := Lib.hid hdr; clear hdr
    by_cases h0 : y = 0
    · subst h0
      have HE : Hid (x = Nat.gcd a b) := Lib.hid (by rw [← HG.out, Nat.gcd_zero_right])
      go_wp2
      go_ret
      exact ⟨ret_int (by rw [← HE.out]), HD.out⟩
    · have hb0 : ((y : Int) != 0) = true := by simp; omega
      have hm : x % y < y := Nat.mod_lt _ (by omega)
      have e1 : (x : Int).tmod y = ((x % y : Nat) : Int) := by rw [← Int.ofNat_tmod]
      have NG : Hid (Nat.gcd y (x % y) = Nat.gcd a b) := Lib.hid (by rw [← HG.out, Nat.gcd_comm x y, Nat.gcd_rec y x, Nat.gcd_comm])
      generalize hz : x % y = z at *
      have hw := IntWalk.i64_in (z : Int) (by omega)
      go_wp2
      go_region
      go_wp2
      go_roundw
      case rel => exact ⟨y, z, by omega, by omega, rfl, by first | rfl | (congr 1), by first | exact HD.out | exact HD.out.more 1 | exact (HD.out.more 1).more 1, NG⟩
      case measure => simp [intOf]; omega

theorem cyl_all {r u : List Int} (h : transB r u = true) : aS (cyF r u) = r.length ∧ hS (cyF r u) = (cycF r).length ∧ ∀ x ∈ cyF r u, ∃ w h : Nat, x = ((w : Int), (h : Int)) ∧ 1 ≤ w ∧ 1 ≤ h ∧ w ≤ 24 := by
  have sw := cycF_rows h rfl
  have c := cyl_ok sw.sf sw.rw (cycF r).length (Nat.le_refl _)
  have o := cyS_ok (ab_inj sw.sf sw.rw) (cycF r).length (Nat.le_refl _)
  obtain ⟨a1, a2⟩ := wsum_all o.1 c.all
  have hsum : ((cycF r).map List.length).sum = r.length := by
    rw [cycF, sw.sf.r.b, if_pos rfl]
    exact cso_len sw.sf.br
  rw [cyF_yes h]
  refine ⟨by show aS (cyS _ _ _).2 = _; rw [c.area, a1, hsum], by show hS (cyS _ _ _).2 = _; rw [c.high, a2], fun x hx => ?_⟩
  obtain ⟨w, hh, e, e1, e2, j, xs, q1, q2⟩ := c.each x hx
  have := (sw.rw.way q1).choose_spec.2.2.inn.len
  have := sw.sf.small
  exact ⟨w, hh, e, e1, e2, by omega⟩
def wS (L : List Cy) : Nat := (L.map fun x => x.1.toNat).sum
theorem wS_le : ∀ {L : List Cy}, (∀ x ∈ L, ∃ w h : Nat, x = ((w : Int), (h : Int)) ∧ 1 ≤ w ∧ 1 ≤ h ∧ w ≤ 24) → (wS L : Int) ≤ aS L ∧ (∀ x ∈ L, x.2 ≤ hS L) ∧ 0 ≤ hS L
  | [], _ => by simp [wS, aS, hS]
  | x :: t, h => by
    obtain ⟨a, b, c⟩ := wS_le (L := t) (fun y hy => h y (by simp [hy]))
    obtain ⟨w, hh, rfl, h1, h2, h3⟩ := h x (by simp)
    have e1 : wS (((w : Int), (hh : Int)) :: t) = w + wS t := by simp [wS]
    have e2 : aS (((w : Int), (hh : Int)) :: t) = (w : Int) * hh + aS t := by simp [aS]
    have e3 : hS (((w : Int), (hh : Int)) :: t) = (hh : Int) + hS t := by simp [hS]
    have m : (w : Int) * 1 ≤ (w : Int) * hh := Int.mul_le_mul_of_nonneg_left (by omega) (by omega)
    refine ⟨by rw [e1, e2]; omega, fun y hy => ?_, by rw [e3]; omega⟩
    rw [e3]
    rcases List.mem_cons.1 hy with z | z
    · subst z; show (hh : Int) ≤ _; omega
    · have := b y z; omega
def need (x : Cy) : Nat := x.1.toNat / Nat.gcd x.1.toNat x.2.toNat
def lsG : List Cy → Nat → Nat
  | [], n => n
  | x :: t, n => lsG t (Nat.lcm n (need x))
noncomputable def lsF (r u : List Int) : Int := if transB r u then (lsG (cyF r u) 1 : Nat) else 0
theorem need_le (w h : Nat) (hw : 1 ≤ w) : 1 ≤ w / Nat.gcd w h ∧ w / Nat.gcd w h ≤ w :=
  ⟨Nat.div_pos (Nat.gcd_le_left _ hw) (Nat.gcd_pos_of_pos_left _ hw), Nat.div_le_self _ _⟩
theorem lcm_l (n k : Nat) : n / Nat.gcd n k * k = Nat.lcm n k := by
  unfold Nat.lcm
  rw [Nat.div_mul_right_comm (Nat.gcd_dvd_left n k)]
theorem lcm_r (n k : Nat) : n * (k / Nat.gcd n k) = Nat.lcm n k := by
  unfold Nat.lcm
  rw [Nat.mul_div_assoc _ (Nat.gcd_dvd_right n k)]
structure Lq (L : List Cy) (k n : Nat) : Prop where
  pos : 0 < n
  le : n ≤ 2 ^ wS (L.take k)
  go : lsG (L.drop k) n = lsG L 1
theorem Lq.start (L : List Cy) : Lq L 0 1 := ⟨by omega, by simp [wS], rfl⟩
theorem Lq.bound {L : List Cy} {k n : Nat} (h : Lq L k n) (hw : wS L ≤ 24) : n ≤ 16777216 := by
  have h1 : wS (L.take k) ≤ wS L := by
    have e : wS L = wS (L.take k) + wS (L.drop k) := by unfold wS; rw [← List.sum_append, ← List.map_append, List.take_append_drop]
    omega
  have h2 : 2 ^ wS (L.take k) ≤ 2 ^ 24 := Nat.pow_le_pow_right (by omega) (by omega)
  have := h.le
  omega
theorem Lq.next {L : List Cy} {k n w h : Nat} (hl : Lq L k n) (hx : L[k]? = some ((w : Int), (h : Int))) (h1 : 1 ≤ w) (h2 : 1 ≤ h) : Lq L (k + 1) (Nat.lcm n (w / Nat.gcd w h)) := by
  obtain ⟨a, b⟩ := need_le w h h1
  have e : need ((w : Int), (h : Int)) = w / Nat.gcd w h := by simp [need]
  have hp := hl.pos
  refine ⟨Nat.lcm_pos hp a, ?_, ?_⟩
  · have e2 : wS (L.take (k + 1)) = wS (L.take k) + w := by rw [List.take_add_one, hx]; simp [wS]
    rw [e2, Nat.pow_add]
    have h3 : Nat.lcm n (w / Nat.gcd w h) ≤ n * (w / Nat.gcd w h) := Nat.le_of_dvd (Nat.mul_pos hp a) (Nat.lcm_dvd_mul _ _)
    have h4 : w < 2 ^ w := Nat.lt_two_pow_self
    exact Nat.le_trans h3 (Nat.mul_le_mul hl.le (by omega))
  · have hk := (List.getElem?_eq_some_iff.1 hx).1
    have hd : L.drop k = ((w : Int), (h : Int)) :: L.drop (k + 1) := by
      rw [List.drop_eq_getElem_cons hk]
      congr 1
      rw [List.getElem?_eq_getElem hk] at hx
      exact Option.some.inj hx
    rw [← hl.go, hd, lsG, e]
theorem Lq.fin {L : List Cy} {k n : Nat} (h : Lq L k n) (hk : L.length ≤ k) : n = lsG L 1 := by
  rw [← h.go, List.drop_of_length_le hk]; rfl
theorem lsF_no {r u : List Int} (h : transB r u = false) : lsF r u = 0 := by simp [lsF, h]
theorem lsF_yes {r u : List Int} (h : transB r u = true) : lsF r u = (lsG (cyF r u) 1 : Nat) := by simp [lsF, h]

end Go.Proofs.Ytngglhbcpeigcaa.cy

/-
  ModuliOf: what it answers; contract of the specification's.
-/
namespace Go.Proofs.Ytngglhbcpeigcaa.rat
open Go.ChangeShapes Go.WideShapes Go.ChangeAt Go.RowKit
open Go.Proofs.Ytngglhbcpeigcaa.mem Go.Proofs.Ytngglhbcpeigcaa.ints Go.Proofs.Ytngglhbcpeigcaa.arr Go.Proofs.Ytngglhbcpeigcaa.pm Go.Proofs.Ytngglhbcpeigcaa.permOk Go.Proofs.Ytngglhbcpeigcaa.sf Go.Proofs.Ytngglhbcpeigcaa.gl Go.Proofs.Ytngglhbcpeigcaa.cy
set_option linter.unusedVariables false
set_option maxRecDepth 100000
set_option linter.unusedSimpArgs false

/-- One summand more. -/
def mdS (s : Int × Int) (x : Int × Int) : Int × Int := rsF s.1 s.2 (ofF x.2 x.1).1 (ofF x.2 x.1).2
def mdK (L : List (Int × Int)) (k : Nat) : Int × Int := (L.take k).foldl mdS (0, 1)
theorem mdK_succ {L : List (Int × Int)} {k : Nat} {x : Int × Int} (h : L[k]? = some x) : mdK L (k + 1) = mdS (mdK L k) x := by
  unfold mdK; rw [List.take_add_one, h]; simp
noncomputable def modF (r u : List Int) : Int × Int := if transB r u then mdK (cyF r u) (cyF r u).length else (0, 0)
theorem modF_no {r u : List Int} (h : transB r u = false) : modF r u = (0, 0) := by simp [modF, h]
theorem modF_yes {r u : List Int} (h : transB r u = true) : modF r u = mdK (cyF r u) (cyF r u).length := by simp [modF, h]
/-- Both parts within the limit. -/
def Fit (q : Int × Int) : Prop := (-1000000000000 ≤ q.1 ∧ q.1 ≤ 1000000000000) ∧ (-1000000000000 ≤ q.2 ∧ q.2 ≤ 1000000000000)
theorem fit0 : Fit (0, 0) := ⟨by omega, by omega⟩
theorem ofF_fit (n d : Int) : Fit (ofF n d) := by
  cases h : ofB n d
  · rw [ofF_no h]; exact fit0
  · rw [ofF_yes h]
    unfold ofB at h
    simp only [Bool.and_eq_true, decide_eq_true_eq] at h
    have g := gc_pos (n := n) h.2.1
    have a := tdiv_fit (n := n) g
    have b := tdiv_fit (n := d) g
    have h1 := h.1; have h2 := h.2
    simp only [MP] at h1 h2
    unfold nrm
    exact ⟨⟨by omega, by omega⟩, ⟨by omega, by omega⟩⟩
theorem rsF_fit (a b c d : Int) : Fit (rsF a b c d) := by
  unfold rsF
  split
  · split
    · unfold okZ
      split
      · rename_i h
        obtain ⟨h1, h2, _⟩ := okR_facts h
        exact ⟨h2, by omega, by omega⟩
      · exact fit0
    · exact fit0
  · exact fit0
theorem mdK_fit (L : List (Int × Int)) (k : Nat) : Fit (mdK L k) := by
  induction k with
  | zero => exact ⟨by simp [mdK], by simp [mdK]⟩
  | succ k ih =>
    rcases Nat.lt_or_ge k L.length with h | h
    · rw [mdK_succ (List.getElem?_eq_getElem h)]; exact rsF_fit _ _ _ _
    · unfold mdK at ih ⊢
      rw [List.take_of_length_le (by omega)] at ih ⊢
      exact ih
theorem builtR1 : Try.prog.built 24 [(1, .int .i64 1)] = some #[.int .i64 0, .int .i64 1] := by kernel_rfl
set_option maxHeartbeats 8000000 in
theorem mod_spec (v : Value) (r u : List Int) (hi : Nat) (w : World) (hx : Srd w hi v r u) (hn : r.length ≤ 1048576) (hm : u.length ≤ 1048576) :
    Calls Try.prog 20 #[v] w fun e w' => e = .returned (rv (modF r u)) ∧ Below w.heap.size w w' := by
  have HX := Lib.hid hx; clear hx
  obtain ⟨P, n, c, Q, m, d, rfl, q1, q2, e1, e2, ht, HR⟩ := HX.out.open
  have L1 := Lib.hid q1
  clear HR q1 q2
  go_enter Try.func20, Try.ntmps20
  go_wp2_with fail
  generalize hw1 : (w.alloc (.cells #[.slice P n c, .slice Q m d] 28)).alloc (.cells #[.int .i64 0, .int .i64 0] 24) = w1
  have A2 : Hid (Arr w1 (w.heap.size + 1) [.int .i64 0, .int .i64 0] 24) := Lib.hid (by rw [← hw1]; exact Arr.new _ _ _ (by simp))
  have B1 : Hid (Below w.heap.size w w1) := Lib.hid (by rw [← hw1]; exact ((Below.refl _ _).alloc (Nat.le_refl _) _).alloc (by simp) _)
  have s1 : w1.heap.size = w.heap.size + 2 := by rw [← hw1]; simp
  clear hw1
  refine (cyo_spec _ r u hi _ (HX.out.keep (B1.out.mono ht) (Nat.le_refl _)) hn hm).mono ?_
  rintro e w2 ⟨C, cc, rfl, o2, b1⟩
  have O2 := Lib.hid o2
  have s2 := b1.size
  replace A2 := Lib.hid (A2.out.keep b1 A2.out.lt)
  replace B1 := Lib.hid (B1.out.trans (b1.mono B1.out.size))
  clear b1 o2
  cases hq : transB r u
  · have HF := Lib.hid (modF_no hq)
    clear hq
    go_wp2_with (first | (refine wpList_build rfl 24 _ rfl [] rfl #[.int .i64 0, .int .i64 0] builtR0 ?_) | (refine wpList_store_row rfl 24 _ _ rfl (w.heap.size + 1) #[.int .i64 0, .int .i64 0] rfl rfl 24 #[.int .i64 0, .int .i64 0] A2.out (sizeR _ _) rfl (by simp [Value.oneCell']) ?_) | fail)
    exact bodyPost_ret (v := .agg #[.int .i64 0, .int .i64 0]) (results_cell_row rfl _ _ (w.heap.size + 1) 24 #[.int .i64 0, .int .i64 0] (0, 0) _ rfl A2.out.row Try.underlying24 rfl (sizeR _ _)) rfl ⟨by rw [HF.out]; rfl, below_setRow B1.out (by omega) _⟩
  · have HF := Lib.hid (modF_yes hq)
    have L24 := cyF_24 r u
    have EA : Hid (∀ x ∈ cyF r u, ∃ w h : Nat, x = ((w : Int), (h : Int)) ∧ w ≤ 24 ∧ h ≤ 24) := Lib.hid (fun x hx => by
      have CA := cyl_all hq
      obtain ⟨w, h, e, h1, h2, h3⟩ := CA.2.2 x hx
      refine ⟨w, h, e, h3, ?_⟩
      have := (wS_le CA.2.2).2.1 x hx
      rw [CA.2.1, e] at this
      have hl := (cycF_rows hq rfl).rw.len
      have := (transB_iff.1 hq).small
      omega)
    clear hq
    generalize cyF r u = L at *
    have K0 : mdK L 0 = (0, 1) := rfl
    go_wp2_with (first | (refine wpList_build rfl 24 _ rfl [(1, .int .i64 1)] rfl #[.int .i64 0, .int .i64 1] builtR1 ?_) | (refine wpList_store_row rfl 24 _ _ rfl w2.heap.size #[.int .i64 0, .int .i64 1] rfl rfl 24 #[.int .i64 0, .int .i64 0] (Arr.new w2 _ _ rfl) (sizeR _ _) rfl (by simp [Value.oneCell']) ?_; generalize hw3 : (w2.alloc (.cells #[.int .i64 0, .int .i64 0] 24)).setRow w2.heap.size #[.int .i64 0, .int .i64 1] = w3; have A5 : Hid (Arr w3 w2.heap.size [.int .i64 0, .int .i64 1] 24) := Lib.hid (by rw [← hw3]; exact Arr.row (Arr.new w2 [.int .i64 0, .int .i64 0] _ rfl)); have b1 : Below w2.heap.size w2 w3 := (by rw [← hw3]; exact arr.below_setRow ((Below.refl _ _).alloc (Nat.le_refl _) _) (Nat.le_refl _) _); have s3 : w3.heap.size = w2.heap.size + 1 := (by rw [← hw3]; simp); clear hw3; replace A2 := Lib.hid (A2.out.keep b1 A2.out.lt); replace B1 := Lib.hid (B1.out.trans (b1.mono B1.out.size)); replace O2 := Lib.hid (O2.out.keep b1 (Nat.le_refl _)); clear b1) | fail)
    go_loopw [19] (fun i wr => ∃ k : Nat, k ≤ L.length ∧ i = .int .i64 k ∧ Arr wr w2.heap.size [.int .i64 (mdK L k).1, .int .i64 (mdK L k).2] 24 ∧ Below w2.heap.size w3 wr) (fun i _ => L.length - (intOf i).toNat)
    case atStart => exact ⟨0, Nat.zero_le _, rfl, A5.out, Below.refl _ _⟩
    case round =>
      clear A5
      obtain ⟨k, hk, rfl, ha, hb⟩ := hrel
      have A5 := Lib.hid ha; have BL := Lib.hid hb; clear ha hb
      have swr := BL.out.size
      have ft := mdK_fit L k
      by_cases hlt : k < L.length
      · obtain ⟨g, off, x, rfl, hg, hsk, c0, c1⟩ := (O2.out.rd.keep BL.out (Nat.le_refl _)).at_ hlt
        obtain ⟨ww, hh, rfl, w24, h24⟩ := EA.out x (List.mem_of_getElem? hsk)
        have NX := Lib.hid (mdK_succ hsk)
        have RX := Lib.hid (two_cells c0 c1)
        clear hsk c0 c1
        obtain ⟨⟨sn, sd⟩, hs⟩ : ∃ q, q = mdK L k := ⟨_, rfl⟩
        rw [← hs] at A5 NX ft
        clear hs
        obtain ⟨⟨on, od⟩, ho⟩ : ∃ q, q = ofF (hh : Int) (ww : Int) := ⟨_, rfl⟩
        have fo := ofF_fit (hh : Int) (ww : Int)
        have NX2 : Hid (mdK L (k + 1) = rsF sn sd on od) := Lib.hid (by rw [NX.out, mdS, ← ho])
        have HO := Lib.hid ho
        rw [← ho] at fo
        clear ho NX
        obtain ⟨f1, f2⟩ := ft
        obtain ⟨f3, f4⟩ := fo
        dsimp only at f1 f2 f3 f4 A5
        go_wp2_with (first | (refine wpList_load_mid rfl 34 _ rfl g (off + k * 2) rfl [.int .i64 ww, .int .i64 hh] _ RX.out Try.underlying34 rfl (sizeCy _ _) ?_) | fail)
        have NB : Hid (Arr (wr.alloc (.cells #[.int .i64 ww, .int .i64 hh] 34)) wr.heap.size [.int .i64 ww, .int .i64 hh] 34) := Lib.hid (Arr.new wr _ _ rfl)
        have b1 : Below wr.heap.size wr (wr.alloc (.cells #[.int .i64 ww, .int .i64 hh] 34)) := (Below.refl _ _).alloc (Nat.le_refl _) _
        generalize wr.alloc (.cells #[.int .i64 ww, .int .i64 hh] 34) = wa at *
        have sa := b1.size
        replace A5 := Lib.hid (A5.out.keep b1 A5.out.lt)
        have BA := Lib.hid (BL.out.trans (b1.mono (by omega)))
        have h5 := A5.out.lt; have hb := NB.out.lt
        clear RX b1
        refine wp_region_held_drew (S := Hld w2.heap.size wa.heap.size wa [(wr.heap.size, [.int .i64 ww, .int .i64 hh])]) (by kernel_rfl) ((Hld.start1 NB.out).lower (by omega)) (fun hHeld => ?_)
        have b1 : Below wa.heap.size wa wa.drew := ⟨rfl, rfl, rfl, Nat.le_refl _, fun _ _ => rfl⟩
        generalize wa.drew = wd at *
        have sd_ := b1.size
        replace A5 := Lib.hid (A5.out.keep b1 A5.out.lt)
        replace BA := Lib.hid (BA.out.trans (b1.mono (by omega)))
        clear b1 NB
        refine wpAnyH_take (i := 1) (v := .pointer (some ⟨wr.heap.size, 1, none⟩)) rfl (by kernel_rfl) (by kernel_rfl) (by kernel_rfl) (fun _ _ _ h => h) (Or.inl ⟨by first | rfl | kernel_rfl, fun w hSw => by go_simp⟩) hHeld ?_
        refine wpAnyH_take (i := 2) (v := .int .i64 (hh : Int)) rfl (by kernel_rfl) (by kernel_rfl) (by kernel_rfl) (fun _ _ _ h => h) (Or.inl ⟨by first | rfl | kernel_rfl, fun w hSw => by have h := hSw.c1; go_simp⟩) hHeld ?_
        refine wpAnyH_take (i := 3) (v := .pointer (some ⟨wr.heap.size, 0, none⟩)) rfl (by kernel_rfl) (by kernel_rfl) (by kernel_rfl) (fun _ _ _ h => h) (Or.inl ⟨by first | rfl | kernel_rfl, fun w hSw => by go_simp⟩) hHeld ?_
        refine wpAnyH_take (i := 4) (v := .int .i64 (ww : Int)) rfl (by kernel_rfl) (by kernel_rfl) (by kernel_rfl) (fun _ _ _ h => h) (Or.inl ⟨by first | rfl | kernel_rfl, fun w hSw => by have h := hSw.c0; go_simp⟩) hHeld ?_
        refine wpAnyH_ready (rs := [0, 5]) (by kernel_rfl) (by simp) (AllReadyH.cons rfl (fun K hK => ?_) (AllReadyH.cons rfl (fun K hK => ?_) AllReadyH.nil))
        · refine permOf.step_load_row rfl 24 _ rfl w2.heap.size rfl 24 #[.int .i64 sn, .int .i64 sd] (0, 0) _ A5.out Try.underlying24 rfl (sizeR _ _) ?_
          refine hK.out _ _ hHeld (fun hHeld2 => ?_)
          clear hK K hHeld
          have hHeld := hHeld2; clear hHeld2
          refine wpAnyH_ready (rs := [5]) (by kernel_rfl) (by simp) (AllReadyH.cons rfl (fun K hK => ?_) AllReadyH.nil)
          go_simp
          refine (rof_spec (hh : Int) (ww : Int) _ (by omega) (by omega) (by omega) (by omega)).mono ?_
          rintro e we ⟨rfl, b1⟩
          have se := b1.size
          rw [← HO.out]
          replace A5 := Lib.hid (A5.out.keep b1 A5.out.lt)
          replace BA := Lib.hid (BA.out.trans (b1.mono (by omega)))
          have hHeld2 := hHeld.later b1 (by omega); clear b1 hHeld
          unfold rv
          go_wp2_with fail
          refine hK.out _ _ hHeld2 (fun hHeld => ?_)
          clear hK K hHeld2
          refine wpAnyH_ready (rs := [6]) (by kernel_rfl) (by simp) (AllReadyH.cons rfl (fun K hK => ?_) AllReadyH.nil)
          go_simp
          refine (rsum_spec sn sd on od _ (by omega) (by omega) (by omega) (by omega)).mono ?_
          rintro e wf ⟨rfl, b1⟩
          have sf_ := b1.size
          rw [← NX2.out]
          obtain ⟨⟨tn, td⟩, hs⟩ : ∃ q, q = mdK L (k + 1) := ⟨_, rfl⟩
          rw [← hs]
          have HS := Lib.hid hs; clear hs
          replace A5 := Lib.hid (A5.out.keep b1 A5.out.lt)
          replace BA := Lib.hid (BA.out.trans (b1.mono (by omega)))
          have hHeld2 := hHeld.later b1 (by omega); clear b1 hHeld
          unfold rv
          go_wp2_with fail
          refine hK.out _ _ hHeld2 (fun hHeld => ?_)
          clear hK K hHeld2
          try dsimp only [List.getElem_toArray, List.getElem_cons_zero, List.getElem_cons_succ]
          try simp only [Act.put, List.setIfInBounds_toArray, List.set_cons_zero, List.set_cons_succ]
          refine wpAnyH_ready (rs := [7]) (by kernel_rfl) (by simp) (AllReadyH.cons rfl (fun K hK => ?_) AllReadyH.nil)
          refine permOf.step_store_row rfl 24 _ _ rfl w2.heap.size #[.int .i64 tn, .int .i64 td] rfl rfl 24 #[.int .i64 sn, .int .i64 sd] A5.out (sizeR _ _) rfl (by simp [Value.oneCell']) ?_
          refine hK.out _ _ (hHeld.other (by omega) (by simp; omega) _) (fun hHeld2 => ?_)
          clear hK K hHeld2
          refine wpAnyH_done (by kernel_rfl) ?_ _
          try dsimp only [List.getElem_toArray, List.getElem_cons_zero, List.getElem_cons_succ]
          try simp only [Act.put, List.setIfInBounds_toArray, List.set_cons_zero, List.set_cons_succ]
          have A6 : Hid (Arr (wf.setRow w2.heap.size #[.int .i64 tn, .int .i64 td]) w2.heap.size [.int .i64 (mdK L (k + 1)).1, .int .i64 (mdK L (k + 1)).2] 24) := Lib.hid (by rw [← HS.out]; exact A5.out.row)
          have B6 : Hid (Below w2.heap.size w3 (wf.setRow w2.heap.size #[.int .i64 tn, .int .i64 td])) := Lib.hid (below_setRow BA.out (Nat.le_refl _) _)
          generalize wf.setRow w2.heap.size #[.int .i64 tn, .int .i64 td] = wg at *
          clear A5 BA BL HO NX2 HS hHeld
          go_wp2_with fail
          go_roundw
          case rel => exact ⟨k + 1, by omega, by go_num, A6.out, B6.out⟩
          case measure => simp [intOf]; omega
        · go_simp
          refine (rof_spec (hh : Int) (ww : Int) _ (by omega) (by omega) (by omega) (by omega)).mono ?_
          rintro e we ⟨rfl, b1⟩
          have se := b1.size
          rw [← HO.out]
          replace A5 := Lib.hid (A5.out.keep b1 A5.out.lt)
          replace BA := Lib.hid (BA.out.trans (b1.mono (by omega)))
          have hHeld2 := hHeld.later b1 (by omega); clear b1 hHeld
          unfold rv
          go_wp2_with fail
          refine hK.out _ _ hHeld2 (fun hHeld => ?_)
          clear hK K hHeld2
          refine wpAnyH_ready (rs := [0]) (by kernel_rfl) (by simp) (AllReadyH.cons rfl (fun K hK => ?_) AllReadyH.nil)
          refine permOf.step_load_row rfl 24 _ rfl w2.heap.size rfl 24 #[.int .i64 sn, .int .i64 sd] (0, 0) _ A5.out Try.underlying24 rfl (sizeR _ _) ?_
          refine hK.out _ _ hHeld (fun hHeld2 => ?_)
          clear hK K hHeld
          have hHeld := hHeld2; clear hHeld2
          refine wpAnyH_ready (rs := [6]) (by kernel_rfl) (by simp) (AllReadyH.cons rfl (fun K hK => ?_) AllReadyH.nil)
          go_simp
          refine (rsum_spec sn sd on od _ (by omega) (by omega) (by omega) (by omega)).mono ?_
          rintro e wf ⟨rfl, b1⟩
          have sf_ := b1.size
          rw [← NX2.out]
          obtain ⟨⟨tn, td⟩, hs⟩ : ∃ q, q = mdK L (k + 1) := ⟨_, rfl⟩
          rw [← hs]
          have HS := Lib.hid hs; clear hs
          replace A5 := Lib.hid (A5.out.keep b1 A5.out.lt)
          replace BA := Lib.hid (BA.out.trans (b1.mono (by omega)))
          have hHeld2 := hHeld.later b1 (by omega); clear b1 hHeld
          unfold rv
          go_wp2_with fail
          refine hK.out _ _ hHeld2 (fun hHeld => ?_)
          clear hK K hHeld2
          try dsimp only [List.getElem_toArray, List.getElem_cons_zero, List.getElem_cons_succ]
          try simp only [Act.put, List.setIfInBounds_toArray, List.set_cons_zero, List.set_cons_succ]
          refine wpAnyH_ready (rs := [7]) (by kernel_rfl) (by simp) (AllReadyH.cons rfl (fun K hK => ?_) AllReadyH.nil)
          refine permOf.step_store_row rfl 24 _ _ rfl w2.heap.size #[.int .i64 tn, .int .i64 td] rfl rfl 24 #[.int .i64 sn, .int .i64 sd] A5.out (sizeR _ _) rfl (by simp [Value.oneCell']) ?_
          refine hK.out _ _ (hHeld.other (by omega) (by simp; omega) _) (fun hHeld2 => ?_)
          clear hK K hHeld2
          refine wpAnyH_done (by kernel_rfl) ?_ _
          try dsimp only [List.getElem_toArray, List.getElem_cons_zero, List.getElem_cons_succ]
          try simp only [Act.put, List.setIfInBounds_toArray, List.set_cons_zero, List.set_cons_succ]
          have A6 : Hid (Arr (wf.setRow w2.heap.size #[.int .i64 tn, .int .i64 td]) w2.heap.size [.int .i64 (mdK L (k + 1)).1, .int .i64 (mdK L (k + 1)).2] 24) := Lib.hid (by rw [← HS.out]; exact A5.out.row)
          have B6 : Hid (Below w2.heap.size w3 (wf.setRow w2.heap.size #[.int .i64 tn, .int .i64 td])) := Lib.hid (below_setRow BA.out (Nat.le_refl _) _)
          generalize wf.setRow w2.heap.size #[.int .i64 tn, .int .i64 td] = wg at *
          clear A5 BA BL HO NX2 HS hHeld
          go_wp2_with fail
          go_roundw
          case rel => exact ⟨k + 1, by omega, by go_num, A6.out, B6.out⟩
          case measure => simp [intOf]; omega
      · obtain rfl : k = L.length := by omega
        have FIN : Hid (modF r u = mdK L L.length) := HF
        obtain ⟨⟨sn, sd⟩, hs⟩ : ∃ q, q = mdK L L.length := ⟨_, rfl⟩
        rw [← hs] at A5 FIN
        have A2' : Hid (Arr wr (w.heap.size + 1) [.int .i64 0, .int .i64 0] 24) := Lib.hid (A2.out.keep BL.out (by omega))
        have BB : Hid (Below w.heap.size w wr) := Lib.hid (B1.out.trans (BL.out.mono (by omega)))
        clear hs ft HF
        go_wp2_with (first | (refine wpList_load_row rfl 24 _ rfl w2.heap.size rfl 24 #[.int .i64 sn, .int .i64 sd] (0, 0) _ A5.out Try.underlying24 rfl (sizeR _ _) ?_) | (refine wpList_store_row rfl 24 _ _ rfl (w.heap.size + 1) #[.int .i64 sn, .int .i64 sd] rfl rfl 24 #[.int .i64 0, .int .i64 0] A2'.out (sizeR _ _) rfl (by simp [Value.oneCell']) ?_) | fail)
        exact bodyPost_ret (v := .agg #[.int .i64 sn, .int .i64 sd]) (results_cell_row rfl _ _ (w.heap.size + 1) 24 #[.int .i64 sn, .int .i64 sd] (0, 0) _ rfl A2'.out.row Try.underlying24 rfl (sizeR _ _)) rfl ⟨by rw [FIN.out]; rfl, below_setRow BB.out (by omega) _⟩
end Go.Proofs.Ytngglhbcpeigcaa.rat

/-
  Fractions, mathematics: lowest terms are unique; what sums are; sums in any order.
-/
namespace Go.Proofs.Ytngglhbcpeigcaa.rat
set_option linter.unusedVariables false
set_option maxRecDepth 100000
set_option linter.unusedSimpArgs false

theorem gcn_pos {n d : Int} (hd : 1 ≤ d) : 1 ≤ gc n d := by
  unfold gc
  exact Nat.gcd_pos_of_pos_right _ (by omega)
theorem nrm_all {n d : Int} (hd : 1 ≤ d) : ∃ a b : Int, nrm n d = (a, b) ∧ 1 ≤ b ∧ gc a b = 1 ∧ a * d = n * b ∧ a.natAbs ≤ n.natAbs ∧ b ≤ d := by
  have hg := gcn_pos (n := n) hd
  obtain ⟨g, hgg⟩ : ∃ g, g = gc n d := ⟨_, rfl⟩
  have d1 : (g : Int) ∣ n := by rw [hgg]; unfold gc; exact Int.ofNat_dvd_left.2 (Nat.gcd_dvd_left _ _)
  have d2 : (g : Int) ∣ d := by rw [hgg]; unfold gc; exact Int.ofNat_dvd_left.2 (Nat.gcd_dvd_right _ _)
  obtain ⟨a, ha⟩ := d1
  obtain ⟨b, hb⟩ := d2
  rw [← hgg] at hg
  have hg0 : (g : Int) ≠ 0 := by omega
  have ea : n.tdiv (g : Int) = a := by rw [ha]; exact Int.mul_tdiv_cancel_left _ hg0
  have eb : d.tdiv (g : Int) = b := by rw [hb]; exact Int.mul_tdiv_cancel_left _ hg0
  have b1 : 1 ≤ b := by
    rcases Int.lt_or_le 0 b with h | h
    · exact h
    · exfalso
      have : (g : Int) * b ≤ 0 := Int.mul_nonpos_of_nonneg_of_nonpos (by omega) h
      omega
  refine ⟨a, b, by unfold nrm; rw [← hgg, ea, eb], b1, ?_, ?_, ?_, ?_⟩
  · have hx : Nat.gcd (g * a.natAbs) (g * b.natAbs) = g := by
      have : gc n d = g := hgg.symm
      unfold gc at this
      rwa [ha, hb, Int.natAbs_mul, Int.natAbs_mul, Int.natAbs_natCast] at this
    rw [Nat.gcd_mul_left] at hx
    unfold gc
    exact Nat.eq_of_mul_eq_mul_left (by omega : 0 < g) (by omega)
  · rw [ha, hb, ← Int.mul_assoc, Int.mul_comm a]
  · rw [ha, Int.natAbs_mul, Int.natAbs_natCast]
    exact Nat.le_mul_of_pos_left _ (by omega)
  · rw [hb]
    have := Int.mul_le_mul_of_nonneg_right (show (1 : Int) ≤ g by omega) (show 0 ≤ b by omega)
    omega
theorem low_uniq {a b c d : Int} (hb : 1 ≤ b) (hd : 1 ≤ d) (g1 : gc a b = 1) (g2 : gc c d = 1) (h : a * d = c * b) : a = c ∧ b = d := by
  unfold gc at g1 g2
  have hn : a.natAbs * d.natAbs = c.natAbs * b.natAbs := by rw [← Int.natAbs_mul, h, Int.natAbs_mul]
  have e1 : b.natAbs ∣ d.natAbs := by
    have : b.natAbs ∣ a.natAbs * d.natAbs := by rw [hn]; exact Nat.dvd_mul_left _ _
    exact Nat.Coprime.dvd_of_dvd_mul_left (Nat.coprime_comm.1 g1) this
  have e2 : d.natAbs ∣ b.natAbs := by
    have : d.natAbs ∣ c.natAbs * b.natAbs := by rw [← hn]; exact Nat.dvd_mul_left _ _
    exact Nat.Coprime.dvd_of_dvd_mul_left (Nat.coprime_comm.1 g2) this
  have e3 := Nat.dvd_antisymm e1 e2
  have e : b = d := by omega
  subst e
  exact ⟨Int.eq_of_mul_eq_mul_right (by omega) h, rfl⟩
theorem okR_mk {n d : Int} (h1 : 1 ≤ d ∧ d ≤ MP) (h2 : -MP ≤ n ∧ n ≤ MP) (h3 : gc n d = 1) : okR n d = true := by
  rw [okR_3 h1 h2, h3]; rfl
theorem ofF_val {n d : Int} (h1 : 1 ≤ d ∧ d ≤ MP) (h2 : -MP ≤ n ∧ n ≤ MP) :
    okR (ofF n d).1 (ofF n d).2 = true ∧ (ofF n d).1 * d = n * (ofF n d).2 ∧ (ofF n d).1.natAbs ≤ n.natAbs ∧ (ofF n d).2 ≤ d := by
  have hb : ofB n d = true := by unfold ofB; rw [decide_eq_true h1, decide_eq_true h2]; rfl
  obtain ⟨a, b, e, b1, g1, ev, la, lb⟩ := nrm_all (n := n) h1.1
  rw [ofF_yes hb, e]
  exact ⟨okR_mk ⟨b1, by dsimp only; omega⟩ (by dsimp only; omega) g1, ev, la, lb⟩
/-- What a sum is, where its products are small enough. -/
theorem rsF_val {n1 d1 n2 d2 : Int} (o1 : okR n1 d1 = true) (o2 : okR n2 d2 = true) (hn : (n1.natAbs * d2.natAbs + n2.natAbs * d1.natAbs : Nat) ≤ 1000000000000) (hd : (d1.natAbs * d2.natAbs : Nat) ≤ 1000000000000) :
    okR (rsF n1 d1 n2 d2).1 (rsF n1 d1 n2 d2).2 = true ∧ (rsF n1 d1 n2 d2).1 * (d1 * d2) = (n1 * d2 + n2 * d1) * (rsF n1 d1 n2 d2).2 ∧ (rsF n1 d1 n2 d2).1.natAbs ≤ n1.natAbs * d2.natAbs + n2.natAbs * d1.natAbs ∧ ((rsF n1 d1 n2 d2).2.natAbs ≤ d1.natAbs * d2.natAbs) := by
  obtain ⟨⟨p1, q1⟩, r1, g1⟩ := okR_facts o1
  obtain ⟨⟨p2, q2⟩, r2, g2⟩ := okR_facts o2
  have hg := gcn_pos (n := d1) p2
  obtain ⟨g, hgg⟩ : ∃ g, g = gc d1 d2 := ⟨_, rfl⟩
  have k1 : g ∣ d1.natAbs := by rw [hgg]; unfold gc; exact Nat.gcd_dvd_left _ _
  have k2 : g ∣ d2.natAbs := by rw [hgg]; unfold gc; exact Nat.gcd_dvd_right _ _
  rw [← hgg] at hg
  obtain ⟨u, hu⟩ := k1
  obtain ⟨v, hv⟩ := k2
  have t1 : d1.toNat / g = u := by
    have : d1.toNat = g * u := by omega
    rw [this, Nat.mul_div_cancel_left _ (by omega)]
  have t2 : d2.toNat / g = v := by
    have : d2.toNat = g * v := by omega
    rw [this, Nat.mul_div_cancel_left _ (by omega)]
  have ed1 : d1 = (g : Int) * u := by have : d1 = ((d1.natAbs : Nat) : Int) := by omega
                                      rw [this, hu]; simp
  have ed2 : d2 = (g : Int) * v := by have : d2 = ((d2.natAbs : Nat) : Int) := by omega
                                      rw [this, hv]; simp
  have u1 : 1 ≤ u := by
    rcases Nat.eq_zero_or_pos u with h | h
    · rw [h] at hu; omega
    · exact h
  have v1 : 1 ≤ v := by
    rcases Nat.eq_zero_or_pos v with h | h
    · rw [h] at hv; omega
    · exact h
  have lv : v ≤ d2.natAbs := by rw [hv]; exact Nat.le_mul_of_pos_left _ (by omega)
  have lu : u ≤ d1.natAbs := by rw [hu]; exact Nat.le_mul_of_pos_left _ (by omega)
  have m1 : n1.natAbs * v ≤ n1.natAbs * d2.natAbs := Nat.mul_le_mul_left _ lv
  have m2 : n2.natAbs * u ≤ n2.natAbs * d1.natAbs := Nat.mul_le_mul_left _ lu
  have m3 : d1.natAbs * v ≤ d1.natAbs * d2.natAbs := Nat.mul_le_mul_left _ lv
  have hB : rsB n1 d1 n2 d2 = true := by
    unfold rsB prB
    rw [← hgg, t1, t2, decide_eq_true ((Nat.le_div_iff_mul_le (by omega)).2 (by omega)), decide_eq_true ((Nat.le_div_iff_mul_le (by omega)).2 (by omega)), decide_eq_true ((Nat.le_div_iff_mul_le (by omega)).2 (by omega))]
    rfl
  have hN : rsN n1 d1 n2 d2 = n1 * (v : Int) + n2 * (u : Int) := by unfold rsN; rw [← hgg, t1, t2]
  have hD : rsD d1 d2 = d1 * (v : Int) := by unfold rsD; rw [← hgg, t2]
  have aN : (rsN n1 d1 n2 d2).natAbs ≤ n1.natAbs * v + n2.natAbs * u := by
    rw [hN]
    have := Int.natAbs_add_le (n1 * (v : Int)) (n2 * (u : Int))
    rw [Int.natAbs_mul, Int.natAbs_mul, Int.natAbs_natCast, Int.natAbs_natCast] at this
    exact this
  have aD : (rsD d1 d2).natAbs = d1.natAbs * v := by rw [hD, Int.natAbs_mul, Int.natAbs_natCast]
  have pD : 1 ≤ rsD d1 d2 := by
    rw [hD]
    have := Int.mul_le_mul_of_nonneg_right p1 (show (0 : Int) ≤ v by omega)
    omega
  have gN : rsN n1 d1 n2 d2 * (g : Int) = n1 * d2 + n2 * d1 := by
    rw [hN, ed1, ed2, Int.add_mul, Int.mul_assoc, Int.mul_assoc, Int.mul_comm (v : Int), Int.mul_comm (u : Int)]
  have gD : rsD d1 d2 * (g : Int) = d1 * d2 := by
    rw [hD, ed2, Int.mul_assoc, Int.mul_comm (v : Int)]
  obtain ⟨a, b, e, b1, gg, ev, la, lb⟩ := nrm_all (n := rsN n1 d1 n2 d2) pD
  have okn : okR a b = true := okR_mk ⟨b1, by simp only [MP]; omega⟩ (by simp only [MP]; omega) gg
  have hF : rsF n1 d1 n2 d2 = (a, b) := by
    unfold rsF
    rw [o1, o2, hB, e]
    simp only [Bool.and_self, if_true, okZ, okn]
  rw [hF]
  refine ⟨okn, ?_, ?_, ?_⟩
  · dsimp only
    rw [← gN, ← gD, ← Int.mul_assoc, ev, Int.mul_assoc, Int.mul_assoc, Int.mul_comm b]
  · dsimp only; omega
  · dsimp only; omega
/-- q is valid and has the value A / B. -/
structure Is (q : Int × Int) (A B : Int) : Prop where
  ok : okR q.1 q.2 = true
  val : q.1 * B = A * q.2
  pos : 1 ≤ B
/-- Both parts are small. -/
structure Sm (q : Int × Int) (N D : Nat) : Prop where
  num : q.1.natAbs ≤ N
  den : q.2.natAbs ≤ D
theorem Is.uniq {q q' : Int × Int} {A B A' B' : Int} (h : Is q A B) (h' : Is q' A' B') (e : A * B' = A' * B) : q = q' := by
  obtain ⟨a, b⟩ := q
  obtain ⟨c, d⟩ := q'
  obtain ⟨⟨p1, q1⟩, r1, g1⟩ := okR_facts h.ok
  obtain ⟨⟨p2, q2⟩, r2, g2⟩ := okR_facts h'.ok
  have v1 := h.val; have v2 := h'.val; have s1 := h.pos; have s2 := h'.pos
  dsimp only at *
  have key : (a * d) * (B * B') = (c * b) * (B * B') := by grind
  have hp : B * B' ≠ 0 := Int.mul_ne_zero (by omega) (by omega)
  obtain ⟨rfl, rfl⟩ := low_uniq p1 p2 g1 g2 (Int.eq_of_mul_eq_mul_right hp key)
  rfl
theorem Is.ofF {n d : Int} (h1 : 1 ≤ d ∧ d ≤ MP) (h2 : -MP ≤ n ∧ n ≤ MP) : Is (ofF n d) n d :=
  ⟨(ofF_val h1 h2).1, (ofF_val h1 h2).2.1, h1.1⟩
theorem Sm.ofF {n d : Int} (h1 : 1 ≤ d ∧ d ≤ MP) (h2 : -MP ≤ n ∧ n ≤ MP) : Sm (ofF n d) n.natAbs d.natAbs := by
  obtain ⟨o, _, a, b⟩ := ofF_val h1 h2
  have := (okR_facts o).1.1
  exact ⟨a, by omega⟩
theorem Sm.mono {q : Int × Int} {N D N' D' : Nat} (h : Sm q N D) (a : N ≤ N') (b : D ≤ D') : Sm q N' D' := ⟨Nat.le_trans h.num a, Nat.le_trans h.den b⟩
theorem Is.sum {q1 q2 : Int × Int} {A1 B1 A2 B2 : Int} {N1 D1 N2 D2 : Nat} (h1 : Is q1 A1 B1) (h2 : Is q2 A2 B2) (s1 : Sm q1 N1 D1) (s2 : Sm q2 N2 D2)
    (hn : N1 * D2 + N2 * D1 ≤ 1000000000000) (hd : D1 * D2 ≤ 1000000000000) :
    Is (rsF q1.1 q1.2 q2.1 q2.2) (A1 * B2 + A2 * B1) (B1 * B2) ∧ Sm (rsF q1.1 q1.2 q2.1 q2.2) (N1 * D2 + N2 * D1) (D1 * D2) := by
  have l1 := Nat.mul_le_mul s1.num s2.den
  have l2 := Nat.mul_le_mul s2.num s1.den
  have l3 := Nat.mul_le_mul s1.den s2.den
  obtain ⟨o, v, n, d⟩ := rsF_val h1.ok h2.ok (by omega) (by omega)
  obtain ⟨⟨p1, _⟩, _, _⟩ := okR_facts h1.ok
  obtain ⟨⟨p2, _⟩, _, _⟩ := okR_facts h2.ok
  refine ⟨⟨o, ?_, ?_⟩, ⟨by omega, by omega⟩⟩
  · have v1 := h1.val; have v2 := h2.val
    generalize rsF q1.1 q1.2 q2.1 q2.2 = q at *
    obtain ⟨n1, d1⟩ := q1
    obtain ⟨n2, d2⟩ := q2
    obtain ⟨x, y⟩ := q
    dsimp only at *
    have key : (x * (B1 * B2)) * (d1 * d2) = ((A1 * B2 + A2 * B1) * y) * (d1 * d2) := by grind
    exact Int.eq_of_mul_eq_mul_right (Int.mul_ne_zero (by omega) (by omega)) key
  · have := Int.mul_le_mul_of_nonneg_right h1.pos (show 0 ≤ B2 by have := h2.pos; omega)
    have := h2.pos
    omega
/-- Sums of three small fractions, in any order. -/
theorem rs_three {a b c : Int × Int} {A1 B1 A2 B2 A3 B3 : Int} (ha : Is a A1 B1) (hb : Is b A2 B2) (hc : Is c A3 B3) (sa : Sm a 30 24) (sb : Sm b 30 24) (sc : Sm c 30 24) :
    okR (rsF (rsF a.1 a.2 b.1 b.2).1 (rsF a.1 a.2 b.1 b.2).2 c.1 c.2).1 (rsF (rsF a.1 a.2 b.1 b.2).1 (rsF a.1 a.2 b.1 b.2).2 c.1 c.2).2 = true ∧
    rsF (rsF a.1 a.2 b.1 b.2).1 (rsF a.1 a.2 b.1 b.2).2 c.1 c.2 = rsF a.1 a.2 (rsF b.1 b.2 c.1 c.2).1 (rsF b.1 b.2 c.1 c.2).2 ∧
    rsF a.1 a.2 b.1 b.2 = rsF b.1 b.2 a.1 a.2 := by
  have ab := ha.sum hb sa sb (by omega) (by omega)
  have ba := hb.sum ha sb sa (by omega) (by omega)
  have bc := hb.sum hc sb sc (by omega) (by omega)
  have l := ab.1.sum hc ab.2 sc (by omega) (by omega)
  have r := ha.sum bc.1 sa bc.2 (by omega) (by omega)
  exact ⟨l.1.ok, l.1.uniq r.1 (by grind), ab.1.uniq ba.1 (by grind)⟩
end Go.Proofs.Ytngglhbcpeigcaa.rat

/-
  The sum of the moduli of a surface's cylinders is valid, up to each cylinder.
-/
namespace Go.Proofs.Ytngglhbcpeigcaa.rat
open Go.Proofs.Ytngglhbcpeigcaa.mem Go.Proofs.Ytngglhbcpeigcaa.ints Go.Proofs.Ytngglhbcpeigcaa.arr Go.Proofs.Ytngglhbcpeigcaa.pm Go.Proofs.Ytngglhbcpeigcaa.permOk Go.Proofs.Ytngglhbcpeigcaa.sf Go.Proofs.Ytngglhbcpeigcaa.gl Go.Proofs.Ytngglhbcpeigcaa.cy
set_option linter.unusedVariables false
set_option maxRecDepth 100000
set_option linter.unusedSimpArgs false

theorem wS_app (a b : List (Int × Int)) : wS (a ++ b) = wS a + wS b := by simp [wS]
theorem wS_take (L : List (Int × Int)) (k : Nat) : wS (L.take k) ≤ wS L := by
  have : wS L = wS (L.take k) + wS (L.drop k) := by rw [← wS_app, List.take_append_drop]
  omega
theorem wS_succ {L : List (Int × Int)} {k : Nat} {x : Int × Int} (h : L[k]? = some x) : wS (L.take (k + 1)) = wS (L.take k) + x.1.toNat := by
  rw [List.take_add_one, h, wS_app]; simp [wS]
theorem le_two (w : Nat) : w ≤ 2 ^ w := Nat.le_of_lt Nat.lt_two_pow_self
theorem mdK_ok {L : List (Int × Int)} (hL : ∀ x ∈ L, ∃ w h : Nat, x = ((w : Int), (h : Int)) ∧ 1 ≤ w ∧ w ≤ 24 ∧ h ≤ 24) (hs : wS L ≤ 24) (hl : L.length ≤ 24) :
    ∀ k, k ≤ L.length → ∃ A B : Int, Is (mdK L k) A B ∧ Sm (mdK L k) (24 * k * 2 ^ wS (L.take k)) (2 ^ wS (L.take k)) := by
  intro k
  induction k with
  | zero =>
    intro _
    exact ⟨0, 1, ⟨by show okR 0 1 = true; decide, rfl, by decide⟩, ⟨by simp [mdK], by simp [mdK, wS]⟩⟩
  | succ k ih =>
    intro hk
    obtain ⟨A, B, hI, hS⟩ := ih (by omega)
    have hx : L[k]? = some L[k] := List.getElem?_eq_getElem (by omega)
    obtain ⟨w, h, e, w1, w24, h24⟩ := hL L[k] (List.getElem_mem _)
    rw [e] at hx
    rw [mdK_succ hx, wS_succ hx]
    unfold mdS
    dsimp only
    have b1 : (1 : Int) ≤ (w : Int) ∧ (w : Int) ≤ MP := ⟨by omega, by simp only [MP]; omega⟩
    have b2 : -MP ≤ (h : Int) ∧ (h : Int) ≤ MP := ⟨by simp only [MP]; omega, by simp only [MP]; omega⟩
    have J := Is.ofF b1 b2
    have T := Sm.ofF b1 b2
    rw [Int.natAbs_natCast, Int.natAbs_natCast] at T
    have T' := T.mono h24 (le_two w)
    have hw : wS (L.take k) + w ≤ 24 := by
      have := wS_take L (k + 1)
      rw [wS_succ hx] at this
      simp only [Int.toNat_natCast] at this
      omega
    rw [Int.toNat_natCast]
    generalize wS (L.take k) = W at *
    have p1 : 2 ^ W * 2 ^ w = 2 ^ (W + w) := (Nat.pow_add 2 W w).symm
    have p2 : 2 ^ (W + w) ≤ 2 ^ 24 := Nat.pow_le_pow_right (by omega) hw
    have p3 : 2 ^ W ≤ 2 ^ (W + w) := Nat.pow_le_pow_right (by omega) (by omega)
    have p4 : 24 * k * 2 ^ W * 2 ^ w = 24 * k * 2 ^ (W + w) := by rw [Nat.mul_assoc, p1]
    have p5 : 24 * (k + 1) * 2 ^ (W + w) = 24 * k * 2 ^ (W + w) + 24 * 2 ^ (W + w) := by rw [Nat.mul_add, Nat.add_mul]
    have p6 : 24 * (k + 1) * 2 ^ (W + w) ≤ 576 * 2 ^ 24 := Nat.mul_le_mul (by omega) p2
    obtain ⟨i, s⟩ := hI.sum J hS T' (by omega) (by omega)
    exact ⟨_, _, i, s.mono (by omega) (by omega)⟩
/-- What the next sum of moduli asks. -/
def Nx (a b c d : Int) : Prop := okR a b = true ∧ okR c d = true ∧ (a.natAbs * d.natAbs + c.natAbs * b.natAbs : Nat) ≤ 1000000000000 ∧ (b.natAbs * d.natAbs : Nat) ≤ 1000000000000
theorem md_step {L : List (Int × Int)} (hL : ∀ x ∈ L, ∃ w h : Nat, x = ((w : Int), (h : Int)) ∧ 1 ≤ w ∧ w ≤ 24 ∧ h ≤ 24) (hs : wS L ≤ 24) (hl : L.length ≤ 24) {k w h : Nat} (hx : L[k]? = some ((w : Int), (h : Int))) :
    Nx (mdK L k).1 (mdK L k).2 (ofF (h : Int) (w : Int)).1 (ofF (h : Int) (w : Int)).2 := by
  have hk := (List.getElem?_eq_some_iff.1 hx).1
  obtain ⟨A, B, hI, hS⟩ := mdK_ok hL hs hl k (by omega)
  obtain ⟨w', h', e, w1, w24, h24⟩ := hL _ (List.mem_of_getElem? hx)
  obtain ⟨e1, e2⟩ : w = w' ∧ h = h' := by rw [Prod.mk.injEq] at e; exact ⟨by omega, by omega⟩
  subst e1; subst e2
  have b1 : (1 : Int) ≤ (w : Int) ∧ (w : Int) ≤ MP := ⟨by omega, by simp only [MP]; omega⟩
  have b2 : -MP ≤ (h : Int) ∧ (h : Int) ≤ MP := ⟨by simp only [MP]; omega, by simp only [MP]; omega⟩
  have J := Is.ofF b1 b2
  have T := Sm.ofF b1 b2
  rw [Int.natAbs_natCast, Int.natAbs_natCast] at T
  have T' := T.mono h24 w24
  have hw : wS (L.take k) ≤ 24 := Nat.le_trans (wS_take L k) hs
  have p2 : 2 ^ wS (L.take k) ≤ 2 ^ 24 := Nat.pow_le_pow_right (by omega) hw
  have p6 : 24 * k * 2 ^ wS (L.take k) ≤ 576 * 2 ^ 24 := Nat.mul_le_mul (by omega) p2
  have q1 := Nat.mul_le_mul (Nat.le_trans hS.num p6) T'.den
  have q2 := Nat.mul_le_mul T'.num (Nat.le_trans hS.den p2)
  have q3 := Nat.mul_le_mul (Nat.le_trans hS.den p2) T'.den
  exact ⟨hI.ok, J.ok, by omega, by omega⟩
/-- A valid surface's cylinders are such. -/
theorem cy_all {r u : List Int} (h : transB r u = true) : (∀ x ∈ cyF r u, ∃ w h : Nat, x = ((w : Int), (h : Int)) ∧ 1 ≤ w ∧ w ≤ 24 ∧ h ≤ 24) ∧ wS (cyF r u) ≤ 24 ∧ (cyF r u).length ≤ 24 := by
  have CA := cyl_all h
  have hlen := (transB_iff.1 h).small
  have hh := (wS_le CA.2.2)
  have hl := (cycF_rows h rfl).rw.len
  exact ⟨fun x hx => by
    obtain ⟨w, h', e, h1, h2, h3⟩ := CA.2.2 x hx
    have := hh.2.1 x hx
    rw [CA.2.1, e] at this
    exact ⟨w, h', e, h1, h3, by omega⟩, by have := hh.1; rw [CA.1] at this; omega, cyF_24 r u⟩
/-- ModuliOf of a valid surface is valid. -/
theorem mod_valid {r u : List Int} (h : transB r u = true) : okR (mdK (cyF r u) (cyF r u).length).1 (mdK (cyF r u) (cyF r u).length).2 = true := by
  have CA := cyl_all h
  have hlen := (transB_iff.1 h).small
  have hh := (wS_le CA.2.2)
  have hl := (cycF_rows h rfl).rw.len
  obtain ⟨A, B, i, _⟩ := mdK_ok (L := cyF r u) (fun x hx => by
    obtain ⟨w, h', e, h1, h2, h3⟩ := CA.2.2 x hx
    have := hh.2.1 x hx
    rw [CA.2.1, e] at this
    exact ⟨w, h', e, h1, h3, by omega⟩) (by have := hh.1; rw [CA.1] at this; omega) (cyF_24 r u) _ (Nat.le_refl _)
  exact i.ok
end Go.Proofs.Ytngglhbcpeigcaa.rat
