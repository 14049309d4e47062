import Derived.Test.YtglpiopjhddoeaaY13
import Derived.Test.YtglpiopjhddoeaaY14
/-
  Lists of cylinders in memory: two cells each; the laws' helpers eqCylinder, eqCylinderS, markCylinderS, heldCylinderS.
-/
namespace Go.Proofs.Ytglpiopjhddoeaa.cy
open Go.ChangeShapes Go.WideShapes Go.ChangeAt Go.RowKit
open Go.Proofs.Ytglpiopjhddoeaa.mem Go.Proofs.Ytglpiopjhddoeaa.ints Go.Proofs.Ytglpiopjhddoeaa.arr Go.Proofs.Ytglpiopjhddoeaa.sf Go.Proofs.Ytglpiopjhddoeaa.lp
set_option linter.unusedVariables false
set_option maxRecDepth 100000

/-- Width and height. -/
abbrev Cy := Int × Int
def fl : List Cy → List Int
  | [] => []
  | x :: t => x.1 :: x.2 :: fl t
theorem fl_len : ∀ L : List Cy, (fl L).length = L.length * 2
  | [] => rfl
  | x :: t => by simp [fl, fl_len t]; omega
theorem fl_app : ∀ L M : List Cy, fl (L ++ M) = fl L ++ fl M
  | [], M => rfl
  | x :: t, M => by simp [fl, fl_app t M]
theorem fl_at : ∀ {L : List Cy} {k : Nat} {x : Cy}, L[k]? = some x → (fl L)[k * 2]? = some x.1 ∧ (fl L)[k * 2 + 1]? = some x.2
  | [], k, x, h => by simp at h
  | y :: t, 0, x, h => by simp at h; subst h; simp [fl]
  | y :: t, k + 1, x, h => by
    have := fl_at (L := t) (k := k) (x := x) (by simpa using h)
    have e1 : (k + 1) * 2 = k * 2 + 1 + 1 := by omega
    rw [e1]
    simpa [fl] using this
/-- The slice value '.slice A n c' reads as the cylinders L; to be read only, and of the call's own. -/
def Crd (w : World) (hi : Nat) (A : Option Addr) (n : Nat) (L : List Cy) : Prop := L.length = n ∧ Rd w hi A (n * 2) (V (fl L))
def Crow (w : World) (lo hi : Nat) (A : Option Addr) (n : Nat) (L : List Cy) : Prop := L.length = n ∧ Row w lo hi A (n * 2) (V (fl L))
theorem Crow.rd {w : World} {lo hi n : Nat} {A : Option Addr} {L : List Cy} (h : Crow w lo hi A n L) : Crd w hi A n L := ⟨h.1, h.2.rd⟩
theorem Crow.keep {w w' : World} {lo hi n B : Nat} {A : Option Addr} {L : List Cy} (h : Crow w lo hi A n L) (hb : Below B w w') (hB : hi ≤ B) : Crow w' lo hi A n L := ⟨h.1, h.2.keep hb hB⟩
theorem Crow.out {w w' : World} {lo hi lo' hi' n : Nat} {A : Option Addr} {L : List Cy} (h : Crow w lo hi A n L) (ho : Out lo' hi' w w') (hd : hi ≤ lo' ∨ hi' ≤ lo) : Crow w' lo hi A n L := ⟨h.1, h.2.out ho hd⟩
theorem Crow.top {w : World} {lo hi n : Nat} {A : Option Addr} {L : List Cy} (h : Crow w lo hi A n L) : hi ≤ w.heap.size := h.2.2.1
theorem Crd.keep {w w' : World} {hi n B : Nat} {A : Option Addr} {L : List Cy} (h : Crd w hi A n L) (hb : Below B w w') (hB : hi ≤ B) : Crd w' hi A n L := ⟨h.1, h.2.keep hb hB⟩
theorem Crd.top {w : World} {hi n : Nat} {A : Option Addr} {L : List Cy} (h : Crd w hi A n L) : hi ≤ w.heap.size := h.2.2.1
theorem Crd.at_ {w : World} {hi n k : Nat} {A : Option Addr} {L : List Cy} (h : Crd w hi A n L) (hk : k < n) :
    ∃ g off x, A = some ⟨g, off, none⟩ ∧ g < hi ∧ L[k]? = some x ∧ w.cell? ⟨g, off + k * 2, none⟩ = some (.int .i64 x.1) ∧ w.cell? ⟨g, off + k * 2 + 1, none⟩ = some (.int .i64 x.2) := by
  obtain ⟨g, off, e, hlt, hc⟩ := h.2.2.2 (by omega)
  have hl : k < L.length := by have := h.1; omega
  have hx := List.getElem?_eq_getElem hl
  obtain ⟨a, b⟩ := fl_at hx
  refine ⟨g, off, L[k], e, hlt, hx, ?_, ?_⟩
  · rw [hc (k * 2) (by omega)]; exact V_get a
  · rw [show off + k * 2 + 1 = off + (k * 2 + 1) by omega, hc (k * 2 + 1) (by omega)]; exact V_get b
theorem infoCy : (Try.prog.info? 34).map (fun i => (i.zero, i.size, i.bytes)) = some (some (.agg #[.int .i64 0, .int .i64 0]), 2, 16) := by kernel_rfl
theorem sizeCy (a b : Value) : (Try.prog.info? 34).map (·.size) = some [a, b].length := by
  have : (Try.prog.info? 34).map (·.size) = some 2 := by kernel_rfl
  simpa using this
theorem two_cells {w : World} {g o : Nat} {a b : Value} (h0 : w.cell? ⟨g, o, none⟩ = some a) (h1 : w.cell? ⟨g, o + 1, none⟩ = some b) : w.rangeAt g o [a, b] := by
  intro j v hv
  match j, hv with
  | 0, hv => simp at hv; subst hv; simpa using h0
  | 1, hv => simp at hv; subst hv; exact h1

def eqc (L M : List Cy) : Bool := decide (L = M)
theorem eqc_self (L : List Cy) : eqc L L = true := by simp [eqc]
def SameC (L M : List Cy) (w wr : World) (k : Nat) : Prop := Below w.heap.size w wr ∧ ∀ j, j < k → L[j]? = M[j]?
theorem eqc_no {L M : List Cy} {k : Nat} {s t : Cy} (h1 : L[k]? = some s) (h2 : M[k]? = some t) (h : (decide (s.1 = t.1) && decide (s.2 = t.2)) = false) : eqc L M = false := by
  unfold eqc
  rw [decide_eq_false_iff_not]
  rintro rfl
  rw [h1] at h2
  obtain rfl := Option.some.inj h2
  simp at h
theorem eqc_yes {L M : List Cy} {n : Nat} (h1 : L.length = n) (h2 : M.length = n) (h : ∀ j, j < n → L[j]? = M[j]?) : eqc L M = true := by
  unfold eqc
  rw [decide_eq_true_iff]
  refine List.ext_getElem? fun i => ?_
  by_cases hi : i < n
  · exact h i hi
  · rw [List.getElem?_eq_none (by omega), List.getElem?_eq_none (by omega)]
theorem eqc_len {L M : List Cy} (h : L.length ≠ M.length) : eqc L M = false := by
  unfold eqc
  rw [decide_eq_false_iff_not]
  rintro rfl
  exact h rfl
theorem SameC.step {L M : List Cy} {w wr w' : World} {k : Nat} {s t : Cy} (h : SameC L M w wr k) (hb : Below w.heap.size w w') (h1 : L[k]? = some s) (h2 : M[k]? = some t) (he : (decide (s.1 = t.1) && decide (s.2 = t.2)) = true) : SameC L M w w' (k + 1) := by
  refine ⟨hb, fun j hj => ?_⟩
  by_cases e : j = k
  · subst e
    have : s = t := by
      simp at he
      exact Prod.ext he.1 he.2
    rw [h1, h2, this]
  · exact h.2 j (by omega)

set_option maxHeartbeats 1000000 in
theorem eqC1_any (a b c d : Int) (w : World) :
    Calls Try.prog 54 #[.agg #[.int .i64 a, .int .i64 b], .agg #[.int .i64 c, .int .i64 d]] w fun e w' => e = .returned (.bool (decide (a = c) && decide (b = d))) ∧ Below w.heap.size w w' := by
  by_cases h1 : a = c
  · subst h1
    by_cases h2 : b = d
    · subst h2
      have q1 : (a != a) = false := by simp
      have q2 : (b != b) = false := by simp
      go_enter Try.func54, Try.ntmps54
      go_wp2
      go_ret
      exact ⟨ret_bool (by simp), ((Below.refl _ _).alloc (Nat.le_refl _) _).alloc (by simp) _⟩
    · have q1 : (a != a) = false := by simp
      have q2 : (b != d) = true := by simpa using h2
      have HB : Hid ((decide (a = a) && decide (b = d)) = false) := Lib.hid (by simp [h2])
      clear h2
      go_enter Try.func54, Try.ntmps54
      go_wp2
      go_ret
      exact ⟨ret_bool HB.out.symm, ((Below.refl _ _).alloc (Nat.le_refl _) _).alloc (by simp) _⟩
  · have q1 : (a != c) = true := by simpa using h1
    have HB : Hid ((decide (a = c) && decide (b = d)) = false) := Lib.hid (by simp [h1])
    clear h1
    go_enter Try.func54, Try.ntmps54
    go_wp2
    go_ret
    exact ⟨ret_bool HB.out.symm, ((Below.refl _ _).alloc (Nat.le_refl _) _).alloc (by simp) _⟩

set_option maxHeartbeats 2000000 in
theorem eqC_any (A : Option Addr) (n c : Nat) (B : Option Addr) (m d : Nat) (L M : List Cy) (h1 h2 : Nat) (w : World) (hx : Crd w h1 A n L) (hy : Crd w h2 B m M) (hn : n ≤ 1048576) (hm : m ≤ 1048576) :
    Calls Try.prog 25 #[.slice A n c, .slice B m d] w fun e w' => e = .returned (.bool (eqc L M)) ∧ Below w.heap.size w w' := by
  have LX : Hid (L.length = n) := Lib.hid hx.1
  have LY : Hid (M.length = m) := Lib.hid hy.1
  have HX := Lib.hid hx; have HY := Lib.hid hy; clear hx hy
  by_cases hnm : n = m
  · obtain rfl : m = n := hnm.symm
    clear hnm
    go_enter Try.func25, Try.ntmps25
    go_wp2
    go_loopw [5] (fun i wr => ∃ k : Nat, k ≤ m ∧ i = .int .i64 k ∧ SameC L M w wr k) (fun i _ => m - (intOf i).toNat)
    case atStart => exact ⟨0, Nat.zero_le _, rfl, Below.refl _ _, fun j hj => by omega⟩
    case round =>
      obtain ⟨k, hk, rfl, hs⟩ := hrel
      have HS := Lib.hid hs; clear hs
      have hsz := HS.out.1.size
      by_cases hlt : k < m
      · obtain ⟨g, off, s, rfl, hg, hsk, c0, c1⟩ := (HX.out.keep (HS.out.1.mono HX.out.top) (Nat.le_refl _)).at_ hlt
        obtain ⟨g', off', t, rfl, hg', htk, d0, d1⟩ := (HY.out.keep (HS.out.1.mono HY.out.top) (Nat.le_refl _)).at_ hlt
        have SK := Lib.hid hsk; have TK := Lib.hid htk
        have hgw : g < wr.heap.size := Nat.lt_of_lt_of_le hg (Nat.le_trans HX.out.top hsz)
        have hgw' : g' < wr.heap.size := Nat.lt_of_lt_of_le hg' (Nat.le_trans HY.out.top hsz)
        have RX := Lib.hid (two_cells c0 c1); have RY := Lib.hid (two_cells d0 d1)
        clear hsk htk c0 c1 d0 d1
        obtain ⟨s1, s2⟩ := s
        obtain ⟨t1, t2⟩ := t
        go_wp2
        refine wp_region_held_drew (S := fun W => Below wr.heap.size wr W) (by kernel_rfl) ⟨rfl, rfl, rfl, Nat.le_refl _, fun _ _ => rfl⟩ (fun hHeld => ?_)
        have b1 : Below wr.heap.size wr wr.drew := hHeld
        generalize wr.drew = wd at *
        refine wpAnyH_take (i := 0) (v := .slice (some ⟨g, off, none⟩) m c) rfl (by kernel_rfl) (by kernel_rfl) (by kernel_rfl) (fun _ _ _ h => h) (Or.inl ⟨by rfl, fun w hSw => by go_simp⟩) hHeld ?_
        refine wpAnyH_take (i := 1) (v := .int .i64 k) rfl (by kernel_rfl) (by kernel_rfl) (by kernel_rfl) (fun _ _ _ h => h) (Or.inl ⟨by rfl, fun w hSw => by go_simp⟩) hHeld ?_
        refine wpAnyH_take (i := 4) (v := .slice (some ⟨g', off', none⟩) m d) rfl (by kernel_rfl) (by kernel_rfl) (by kernel_rfl) (fun _ _ _ h => h) (Or.inl ⟨by rfl, fun w hSw => by go_simp⟩) hHeld ?_
        refine wpAnyH_take (i := 5) (v := .int .i64 k) rfl (by kernel_rfl) (by kernel_rfl) (by kernel_rfl) (fun _ _ _ h => h) (Or.inl ⟨by rfl, fun w hSw => by go_simp⟩) hHeld ?_
        refine wpAnyH_take (i := 2) (v := .pointer (some ⟨g, off + k * 2, none⟩)) rfl (by kernel_rfl) (by kernel_rfl) (by kernel_rfl) (fun _ _ _ h => h) (Or.inl ⟨by rfl, fun w hSw => by go_simp⟩) hHeld ?_
        refine wpAnyH_take (i := 6) (v := .pointer (some ⟨g', off' + k * 2, none⟩)) rfl (by kernel_rfl) (by kernel_rfl) (by kernel_rfl) (fun _ _ _ h => h) (Or.inl ⟨by rfl, fun w hSw => by go_simp⟩) hHeld ?_
        refine wpAnyH_take (i := 3) (v := .agg #[.int .i64 s1, .int .i64 s2]) rfl (by kernel_rfl) (by kernel_rfl) (by kernel_rfl) (fun _ _ _ h => h) (yieldsIf_load_mid (by rfl) _ _ rfl g (off + k * 2) rfl [.int .i64 s1, .int .i64 s2] _ (fun w h j v hv => by rw [Below.cell h (p := ⟨g, off + k * 2 + j, none⟩) hgw]; exact RX.out j v hv) Try.underlying34 rfl (sizeCy _ _)) hHeld ?_
        refine wpAnyH_take (i := 7) (v := .agg #[.int .i64 t1, .int .i64 t2]) rfl (by kernel_rfl) (by kernel_rfl) (by kernel_rfl) (fun _ _ _ h => h) (yieldsIf_load_mid (by rfl) _ _ rfl g' (off' + k * 2) rfl [.int .i64 t1, .int .i64 t2] _ (fun w h j v hv => by rw [Below.cell h (p := ⟨g', off' + k * 2 + j, none⟩) hgw']; exact RY.out j v hv) Try.underlying34 rfl (sizeCy _ _)) hHeld ?_
        refine wpAnyH_ready (rs := [8]) (by kernel_rfl) (by simp) (AllReadyH.cons rfl (fun K hK => ?_) AllReadyH.nil)
        go_simp
        refine (eqC1_any s1 s2 t1 t2 _).mono ?_
        rintro e w2 ⟨rfl, b2⟩
        have hHeld2 : Below wr.heap.size wr w2 := b1.trans (b2.mono b1.size)
        have B2 : Hid (Below w.heap.size w w2) := Lib.hid (HS.out.1.trans (hHeld2.mono hsz))
        clear RX RY b1 b2 hHeld
        cases hz : (decide (s1 = t1) && decide (s2 = t2))
        · have HZ := Lib.hid hz; clear hz
          go_wp2_with fail
          refine hK.out _ _ hHeld2 (fun hHeld => ?_)
          clear hK K hHeld2
          refine wpAnyH_ready (rs := [9]) (by kernel_rfl) (by simp) (AllReadyH.cons rfl (fun K hK => ?_) AllReadyH.nil)
          go_simp
          refine hK.out _ _ hHeld (fun hHeld2 => ?_)
          clear hK K hHeld hHeld2
          refine wpAnyH_done (by kernel_rfl) ?_ _
          go_wp2_with fail
          go_ret
          exact ⟨ret_bool (eqc_no SK.out TK.out HZ.out).symm, B2.out⟩
        · have HZ := Lib.hid hz; clear hz
          go_wp2_with fail
          refine hK.out _ _ hHeld2 (fun hHeld => ?_)
          clear hK K hHeld2
          refine wpAnyH_ready (rs := [9]) (by kernel_rfl) (by simp) (AllReadyH.cons rfl (fun K hK => ?_) AllReadyH.nil)
          go_simp
          refine hK.out _ _ hHeld (fun hHeld2 => ?_)
          clear hK K hHeld hHeld2
          refine wpAnyH_done (by kernel_rfl) ?_ _
          go_wp2_with fail
          go_roundw
          case rel => exact ⟨k + 1, by omega, by go_num, HS.out.step B2.out SK.out TK.out HZ.out⟩
          case measure => simp [intOf]; omega
      · obtain rfl : k = m := by omega
        go_wp2
        go_ret
        exact ⟨ret_bool (eqc_yes LX.out LY.out HS.out.2).symm, HS.out.1⟩
  · have hb : ((n : Int) != (m : Int)) = true := by simp; omega
    have HB : Hid (eqc L M = false) := Lib.hid (eqc_len (by rw [LX.out, LY.out]; exact hnm))
    clear hnm
    go_enter Try.func25, Try.ntmps25
    go_wp2
    go_ret
    exact ⟨ret_bool HB.out.symm, Below.refl _ _⟩

set_option maxHeartbeats 1000000 in
theorem markC_any (A : Option Addr) (n c : Nat) (xs : List Value) (lo hi : Nat) (k : Int) (w : World)
    (hx : Row w lo hi A (n * 2) xs) (hn : n ≤ 1048576) (h1 : 1 ≤ k) (h2 : k + n * 2 ≤ 4611686018427387904) :
    Calls Try.prog 26 #[.slice A n c, .int .i64 k] w fun e w' => e = .returned (.int .i64 (k + (n * 2 : Nat))) ∧ Row w' lo hi A (n * 2) (V (Marks k (n * 2))) ∧ Out lo hi w w' := by
  have HX := Lib.hid hx; clear hx
  go_enter Try.func26, Try.ntmps26
  go_wp2
  go_loopw [1, 5] (fun q i wr => ∃ j : Nat, j ≤ n ∧ q = .int .i64 (k + (j * 2 : Nat)) ∧ i = .int .i64 j ∧ MarkRel A (n * 2) lo hi k w wr (j * 2)) (fun _ i _ => n - (intOf i).toNat)
  case atStart => exact ⟨0, Nat.zero_le _, by simp, rfl, xs, HX.out, fun i hi => by omega, Out.refl _ _ _⟩
  case round =>
    obtain ⟨j, hj, rfl, rfl, hm⟩ := hrel
    have HM := Lib.hid hm; clear hm
    by_cases hlt : j < n
    · obtain ⟨ys, hr, hu, hbut⟩ := HM.out
      obtain ⟨g, off, u, rfl, hbg, hgl, hyu, hcy, hfr⟩ := hr.at_ (k := j * 2) (by omega)
      obtain ⟨g_, off_, u2, e_, _, _, hyu2, hcy2, hfr2⟩ := hr.at_ (k := j * 2 + 1) (by omega)
      injection e_ with e_; injection e_ with e1_ e2_; subst e1_; subst e2_
      have R1 := Lib.hid (hr.set_ (k := j * 2) (by omega) (.int .i64 (k + (j * 2 : Nat))))
      have U1 := Lib.hid (hu.step (by have := hr.1; omega))
      have B1 := Lib.hid (hbut.set_ (off := off + j * 2) hbg hgl (.int .i64 (k + (j * 2 : Nat))))
      obtain ⟨g_, off_, u3, e_, _, _, hyu3, hcy3, hfr3⟩ := R1.out.at_ (k := j * 2 + 1) (by omega)
      injection e_ with e_; injection e_ with e1_ e2_; subst e1_; subst e2_
      have hoff : off + (j * 2 + 1) = off + j * 2 + 1 := by omega
      rw [hoff] at hcy2 hfr2 hcy3 hfr3
      clear hr hu hbut hyu hyu2 hyu3 hoff
      go_wp2
      go_roundw
      case rel =>
        refine ⟨j + 1, by omega, by go_num, by go_num, (ys.set (j * 2) (.int .i64 (k + (j * 2 : Nat)))).set (j * 2 + 1) (.int .i64 (k + (j * 2 + 1 : Nat))), ?_, ?_, ?_⟩
        · have := R1.out.set_ (k := j * 2 + 1) (by omega) (.int .i64 (k + (j * 2 + 1 : Nat)))
          simpa [Nat.add_assoc, Int.add_assoc] using this
        · have := U1.out.step (by have := R1.out.1; omega)
          rw [show (j + 1) * 2 = j * 2 + 1 + 1 by omega]
          exact this
        · have := B1.out.set_ (off := off + j * 2 + 1) hbg hgl (.int .i64 (k + (j * 2 + 1 : Nat)))
          simpa [Nat.add_assoc, Int.add_assoc] using this
      case measure => simp [intOf]; omega
    · obtain rfl : j = n := by omega
      go_wp2
      go_ret
      obtain ⟨ys, hr, hu, hbut⟩ := HM.out
      refine ⟨rfl, ?_, hbut⟩
      rw [← hu.all hr.1]; exact hr

set_option maxHeartbeats 1000000 in
theorem heldC_any (A : Option Addr) (n c : Nat) (lo hi : Nat) (k : Int) (w : World)
    (hx : Row w lo hi A (n * 2) (V (Marks k (n * 2)))) (hn : n ≤ 1048576) (h1 : 1 ≤ k) (h2 : k + n * 2 ≤ 4611686018427387904) :
    Calls Try.prog 27 #[.slice A n c, .int .i64 k] w fun e w' => e = .returned (.int .i64 (k + (n * 2 : Nat))) ∧ Drawn w w' := by
  have HX := Lib.hid hx; clear hx
  go_enter Try.func27, Try.ntmps27
  go_wp2
  go_loopw [1, 5] (fun q i wr => ∃ j : Nat, j ≤ n ∧ q = .int .i64 (k + (j * 2 : Nat)) ∧ i = .int .i64 j ∧ Drawn w wr) (fun _ i _ => n - (intOf i).toNat)
  case atStart => exact ⟨0, Nat.zero_le _, by simp, rfl, 0, rfl⟩
  case round =>
    obtain ⟨j, hj, rfl, rfl, hb⟩ := hrel
    by_cases hlt : j < n
    · obtain ⟨g, off, u, rfl, hbg, hgl, hyu, hcy, hfr⟩ := HX.out.at_ (k := j * 2) (by omega)
      obtain ⟨g_, off_, u2, e_, _, _, hyu2, hcy2, hfr2⟩ := HX.out.at_ (k := j * 2 + 1) (by omega)
      injection e_ with e_; injection e_ with e1_ e2_; subst e1_; subst e2_
      rw [marks_at (show j * 2 < n * 2 by omega)] at hyu
      rw [marks_at (show j * 2 + 1 < n * 2 by omega)] at hyu2
      obtain rfl := Option.some.inj hyu
      obtain rfl := Option.some.inj hyu2
      rw [← hb.cell] at hcy hcy2
      rw [show off + (j * 2 + 1) = off + j * 2 + 1 by omega] at hcy2
      have q1 : (k + (j * 2 : Nat) != k + (j * 2 : Nat)) = false := by simp
      have q2 : (k + (j * 2 + 1 : Nat) != k + (j * 2 : Nat) + 1) = false := by simp; omega
      have HB := Lib.hid hb; clear hb hyu hyu2 hfr hfr2
      go_wp2
      go_roundw
      case rel => exact ⟨j + 1, by omega, by go_num, by go_num, HB.out⟩
      case measure => simp [intOf]; omega
    · obtain rfl : j = n := by omega
      go_wp2
      go_ret
      exact ⟨rfl, hb⟩
end Go.Proofs.Ytglpiopjhddoeaa.cy

/-
  The program's rows in memory: a box each, pointers to the rows above and below; isRegular.
-/
namespace Go.Proofs.Ytglpiopjhddoeaa.cy
open Go.ChangeShapes Go.WideShapes Go.ChangeAt Go.RowKit
open Go.Proofs.Ytglpiopjhddoeaa.mem Go.Proofs.Ytglpiopjhddoeaa.ints Go.Proofs.Ytglpiopjhddoeaa.arr Go.Proofs.Ytglpiopjhddoeaa.pm Go.Proofs.Ytglpiopjhddoeaa.permOk Go.Proofs.Ytglpiopjhddoeaa.permOf Go.Proofs.Ytglpiopjhddoeaa.inv Go.Proofs.Ytglpiopjhddoeaa.fns Go.Proofs.Ytglpiopjhddoeaa.sf Go.Proofs.Ytglpiopjhddoeaa.mat Go.Proofs.Ytglpiopjhddoeaa.gl Go.Proofs.Ytglpiopjhddoeaa.lp
set_option linter.unusedVariables false
set_option maxRecDepth 100000

def ptrV (bs : Nat → Nat) (z : Int) : Value := if z < 0 then .pointer none else .pointer (some ⟨bs z.toNat, 0, none⟩)
theorem ptrV_no {bs : Nat → Nat} {z : Int} (h : z < 0) : ptrV bs z = .pointer none := by rw [ptrV, if_pos h]
theorem ptrV_yes (bs : Nat → Nat) (k : Nat) : ptrV bs (k : Int) = .pointer (some ⟨bs k, 0, none⟩) := by rw [ptrV, if_neg (by omega), Int.toNat_natCast]
def ptrs (bs : Nat → Nat) (k : Nat) : List Value := (List.range k).map fun i => Value.pointer (some ⟨bs i, 0, none⟩)
theorem ptrs_len (bs : Nat → Nat) (k : Nat) : (ptrs bs k).length = k := by simp [ptrs]
theorem ptrs_at {bs : Nat → Nat} {k i : Nat} (h : i < k) : (ptrs bs k)[i]? = some (.pointer (some ⟨bs i, 0, none⟩)) := by simp [ptrs, h]
theorem infoPR : (Try.prog.info? 70).map (fun i => (i.zero, i.size, i.bytes)) = some (some (.pointer none), 1, 8) := by kernel_rfl
/-- The cells of a row's box. -/
def rowC (P : Option Addr) (n c : Nat) (a b : Value) (m : Bool) : List Value := [.slice P n c, a, b, .bool m]
/-- While the program lays out its rows. -/
structure Ph (w3 wr : World) (R : Nat) (rr : List (List Int)) (bs : Nat → Nat) (v : Value) (k : Nat) (pv : List Value) (a b : Nat → Value) : Prop where
  out : Out R (R + 1) w3 wr
  rlt : R < w3.heap.size
  rof : Arr wr R pv 95
  own : wr.ownsRow w3.heap.size 70 1 v k (ptrs bs k)
  box : ∀ (i : Nat) (xs : List Int), i < k → rr[i]? = some xs → ∃ P c, Arr wr (bs i) (rowC P xs.length c (a i) (b i) false) 72 ∧ Row wr (R + 1) w3.heap.size P xs.length (V xs)
  all : k ≤ rr.length
  ge : ∀ i, i < k → w3.heap.size ≤ bs i
  inj : ∀ i j, i < k → j < k → bs i = bs j → i = j
  sep : ∀ g, v.ownBlock = some g → ∀ i, i < k → g ≠ bs i
theorem own_keepB' {w w' : World} {base B : Nat} {e : TypeId} {size n : Nat} {v : Value} {xs : List Value} (h : w.ownsRow base e size v n xs) (hb : Below B w w') (hB : ∀ b, v.ownBlock = some b → b < B) : w'.ownsRow base e size v n xs := by
  refine ⟨h.1, ?_⟩
  rcases h.2 with h0 | ⟨g, cap, cur, h1, h2, h3, h4⟩
  · exact .inl h0
  · refine .inr ⟨g, cap, cur, h1, h2, ?_, h4⟩
    rw [hb.block g (hB g (by subst h1; rfl))]
    exact h3
theorem Mat.in_ {w : World} {lo hi n k : Nat} {A : Option Addr} {xss : List (List Int)} {xs : List Int} (h : Mat w lo hi A n xss) (hx : xss[k]? = some xs) :
    ∃ G off A' c, A = some ⟨G, off, none⟩ ∧ w.cell? ⟨G, off + k, none⟩ = some (.slice A' xs.length c) ∧ Row w lo hi A' xs.length (V xs) := by
  obtain ⟨h1, h2, hs, bl, G, h3, h4⟩ := h
  have hk : k < n := by have := (List.getElem?_eq_some_iff.1 hx).1; omega
  obtain ⟨q1, q2, q3⟩ := h4 (by omega)
  obtain ⟨A', c, l, u, e, hr, hp, hz⟩ := h3.one hx
  obtain ⟨g, off, v, rfl, g1, g2, hv, hc, _⟩ := q3.at_ hk
  rw [e] at hv
  obtain rfl := Option.some.inj hv
  refine ⟨g, off, A', c, rfl, hc, ?_⟩
  rcases Nat.eq_zero_or_pos xs.length with x0 | x0
  · exact ⟨hr.1, h2, fun q => by omega⟩
  · obtain ⟨b1, b2, b3, b4, b5⟩ := hp x0
    exact hr.wider b1 b2 h2
theorem Row.lows {w w' : World} {lo hi n : Nat} {P : Option Addr} {xs : List Value} (h : Row w lo hi P n xs) (hs : w.heap.size ≤ w'.heap.size) (hb : ∀ k, k < hi → w'.heap[k]? = w.heap[k]?) : Row w' lo hi P n xs := by
  refine ⟨h.1, Nat.le_trans h.2.1 hs, fun hn => ?_⟩
  obtain ⟨g, off, e, hg, hlt, hc⟩ := h.2.2 hn
  refine ⟨g, off, e, hg, hlt, fun j hj => ?_⟩
  rw [World.cell?_of_block (w := w) (a := ⟨g, off + j, none⟩) (hb g hlt), World.frozen?_of_block (w := w) (a := ⟨g, off + j, none⟩) (hb g hlt)]
  exact hc j hj
/-- Whatever stands behind: a new world in which the blocks that matter are as they were. -/
theorem Ph.keep {w3 wr w' : World} {R k : Nat} {rr : List (List Int)} {bs : Nat → Nat} {v : Value} {pv : List Value} {a b : Nat → Value} (h : Ph w3 wr R rr bs v k pv a b) (hb : Below wr.heap.size wr w') : Ph w3 w' R rr bs v k pv a b := by
  have hz := h.out.size
  refine ⟨h.out.trans (Out.of_below hb), h.rlt, h.rof.keep hb h.rof.lt, own_keepB' h.own hb (fun g e => (h.own.lt g e).2), fun i xs hi hx => ?_, h.all, h.ge, h.inj, h.sep⟩
  obtain ⟨P, c, q1, q2⟩ := h.box i xs hi hx
  exact ⟨P, c, q1.keep hb q1.lt, q2.keep hb hz⟩
theorem Ph.start {w3 : World} {R : Nat} {rr : List (List Int)} {pv : List Value} (hR : Arr w3 R pv 95) (bs : Nat → Nat) (a b : Nat → Value) : Ph w3 w3 R rr bs (.slice none 0 0) 0 pv a b :=
  ⟨Out.refl _ _ _, hR.lt, hR, ⟨rfl, .inl ⟨rfl, rfl⟩⟩, fun i xs hi => by omega, Nat.zero_le _, fun i hi => by omega, fun i j hi => by omega, fun g e i hi => by omega⟩
theorem ptrs_push (bs : Nat → Nat) (k g : Nat) : ptrs bs k ++ [Value.pointer (some ⟨g, 0, none⟩)] = ptrs (fun i => if i = k then g else bs i) (k + 1) := by
  unfold ptrs
  rw [List.range_succ, List.map_append]
  congr 1
  · refine List.map_congr_left fun i hi => ?_
    have := List.mem_range.1 hi
    show _ = Value.pointer (some ⟨if i = k then g else bs i, 0, none⟩)
    rw [if_neg (by omega)]
  · simp
theorem Ph.push {w3 wr w' W : World} {R k g cap : Nat} {rr : List (List Int)} {bs : Nat → Nat} {v : Value} {pv : List Value} {a b : Nat → Value} {xs : List Int} {P : Option Addr} {c : Nat} (h : Ph w3 wr R rr bs v k pv a b)
    (hx : rr[k]? = some xs) (ha : a k = .pointer none) (hb0 : b k = .pointer none) (hP : Row wr (R + 1) w3.heap.size P xs.length (V xs))
    (hW : W = (wr.alloc (.cells (rowC P xs.length c (.pointer none) (.pointer none) false).toArray 72)).alloc (.cells #[.pointer (some ⟨wr.heap.size, 0, none⟩)] 70))
    (ho : w'.ownsRow w3.heap.size 70 1 (.slice (some ⟨g, 0, none⟩) (k + 1) cap) (k + 1) (ptrs bs k ++ [.pointer (some ⟨wr.heap.size, 0, none⟩)])) (hg : W.grownBy w' v.ownBlock) (hb : v.ownBlock = some g ∨ g = W.heap.size) :
    Ph w3 w' R rr (fun i => if i = k then wr.heap.size else bs i) (.slice (some ⟨g, 0, none⟩) (k + 1) cap) (k + 1) pv a b := by
  have hz := h.out.size
  have sW : W.heap.size = wr.heap.size + 2 := by rw [hW]; simp
  have bW : Below wr.heap.size wr W := by rw [hW]; exact ((Below.refl _ _).alloc (Nat.le_refl _) _).alloc (by simp) _
  have hk := h.keep bW
  have hsz := hg.size
  have far : ∀ q, q < W.heap.size → v.ownBlock ≠ some q → w'.heap[q]? = W.heap[q]? := fun q h1 h2 => hg.block q h1 (fun e => h2 e.symm)
  have ol : ∀ q, v.ownBlock = some q → w3.heap.size ≤ q ∧ q < wr.heap.size := fun q e => h.own.lt q e
  have lo3 : ∀ q, q < w3.heap.size → w'.heap[q]? = W.heap[q]? := fun q hq => far q (by omega) (fun e => by have := ol q e; omega)
  refine ⟨⟨hg.os.trans hk.out.os, hg.tape.trans hk.out.tape, hg.output.trans hk.out.output, Nat.le_trans hk.out.size hsz, fun q h1 h2 => (lo3 q h1).trans (hk.out.block q h1 h2)⟩, h.rlt, ?_, by rw [← ptrs_push]; exact ho, fun i ys hi hy => ?_, ?_, fun i hi => ?_, fun i j hi hj e => ?_, fun q e i hi => ?_⟩
  · exact (lo3 R h.rlt).trans hk.rof
  · by_cases e : i = k
    · subst e
      have : ys = xs := by rw [hx] at hy; exact (Option.some.inj hy).symm
      subst this
      simp only [if_true]
      rw [ha, hb0]
      refine ⟨P, c, ?_, Row.lows (hP.keep bW hz) hsz lo3⟩
      have hn : Arr W wr.heap.size (rowC P ys.length c (.pointer none) (.pointer none) false) 72 := by rw [hW]; exact (Arr.new wr _ _ rfl).alloc _
      exact (far _ (by omega) (fun e => by have := ol _ e; omega)).trans hn
    · rw [if_neg e]
      obtain ⟨P', c', q1, q2⟩ := hk.box i ys (by omega) hy
      exact ⟨P', c', (far _ q1.lt (fun e2 => h.sep _ e2 i (by omega) rfl)).trans q1, Row.lows q2 hsz lo3⟩
  · have := (List.getElem?_eq_some_iff.1 hx).1; omega
  · show _ ≤ (if i = k then wr.heap.size else bs i)
    split
    · exact hz
    · exact h.ge i (by omega)
  · have lt : ∀ i, i < k → bs i < wr.heap.size := fun i hi => by
      obtain ⟨P', c', q1, q2⟩ := h.box i _ hi (List.getElem?_eq_getElem (by have := h.all; omega))
      exact q1.lt
    have e : (if i = k then wr.heap.size else bs i) = (if j = k then wr.heap.size else bs j) := e
    split at e <;> split at e
    · omega
    · have := lt j (by omega); omega
    · have := lt i (by omega); omega
    · exact h.inj i j (by omega) (by omega) e
  · have e2 : g = q := by simpa [Value.ownBlock] using e
    show q ≠ (if i = k then wr.heap.size else bs i)
    split
    · rcases hb with q1 | q1
      · have := ol g q1; omega
      · omega
    · have lt : bs i < wr.heap.size := by
        obtain ⟨P', c', q1, q2⟩ := h.box i _ (show i < k by omega) (List.getElem?_eq_getElem (by have := h.all; omega))
        exact q1.lt
      rcases hb with q1 | q1
      · rw [← e2]; exact h.sep g q1 i (by omega)
      · omega
theorem Ph.out_ {w3 wr : World} {R k : Nat} {rr : List (List Int)} {bs : Nat → Nat} {v : Value} {pv : List Value} {a b : Nat → Value} (h : Ph w3 wr R rr bs v k pv a b) (x : Nat) (p : Value) : Ph w3 (wr.setCell ⟨R, x, none⟩ p) R rr bs v k (pv.set x p) a b := by
  have hR := h.rlt
  refine ⟨h.out.set_ (Nat.le_refl _) (Nat.lt_succ_self _) _, h.rlt, h.rof.set_ x p, ownsRow_setCell_below h.own hR p, fun i xs hi hx => ?_, h.all, h.ge, h.inj, h.sep⟩
  obtain ⟨P, c, q1, q2⟩ := h.box i xs hi hx
  have := h.ge i hi
  exact ⟨P, c, q1.other (by omega) p, q2.out (Out.set_ (Out.refl R (R + 1) wr) (Nat.le_refl _) (Nat.lt_succ_self _) p) (.inr (Nat.le_refl _))⟩
/-- A pointer of a row's box is written. -/
theorem Ph.ptr {w3 wr : World} {R k m y : Nat} {rr : List (List Int)} {bs : Nat → Nat} {v : Value} {pv : List Value} {a b a' b' : Nat → Value} (h : Ph w3 wr R rr bs v k pv a b) (hm : m < k) (p : Value)
    (hc : ∀ P n c, (rowC P n c (a m) (b m) false).set y p = rowC P n c (a' m) (b' m) false) (hr : ∀ i, i ≠ m → a' i = a i ∧ b' i = b i) : Ph w3 (wr.setCell ⟨bs m, y, none⟩ p) R rr bs v k pv a' b' := by
  have hR := h.rlt
  have hg := h.ge m hm
  have bl : Below w3.heap.size wr (wr.setCell ⟨bs m, y, none⟩ p) := (Below.refl w3.heap.size wr).setCell hg p
  refine ⟨⟨h.out.os, h.out.tape, h.out.output, by simpa [World.setCell] using h.out.size, fun q h1 h2 => (bl.block q h1).trans (h.out.block q h1 h2)⟩, h.rlt, h.rof.other (by omega) p, ownsRow_setCell_other h.own (fun e => h.sep _ e m hm rfl) p, fun i xs hi hx => ?_, h.all, h.ge, h.inj, h.sep⟩
  obtain ⟨P, c, q1, q2⟩ := h.box i xs hi hx
  by_cases e : i = m
  · subst e
    exact ⟨P, c, by rw [← hc]; exact q1.set_ y p, q2.keep bl (Nat.le_refl _)⟩
  · rw [(hr i e).1, (hr i e).2]
    exact ⟨P, c, q1.other (fun e2 => e (h.inj i m hi hm e2)) p, q2.keep bl (Nat.le_refl _)⟩

set_option maxHeartbeats 1000000 in
theorem isReg_any (b n c lo hi : Nat) (P : Option Addr) (x y : Value) (t : Bool) (xs cs : List Int) (w : World) (hb : Arr w b (rowC P n c x y t) 72) (hx : Row w lo hi P n (V xs)) (hl : cs.length = 24) (hn : n ≤ 24) (hxs : ∀ z ∈ xs, 0 ≤ z ∧ z < 24) :
    Calls Try.prog 69 #[.pointer (some ⟨b, 0, none⟩), .agg (V cs).toArray] w fun e w' => e = .returned (.bool (regB cs xs)) ∧ Below w.heap.size w w' := by
  have LX : Hid (xs.length = n) := Lib.hid (by simpa [V] using hx.1)
  have HX := Lib.hid hx; have HB := Lib.hid hb; have HL := Lib.hid hl; have HS := Lib.hid hxs; clear hx hb hl hxs
  have hbl : b < w.heap.size := HB.out.lt
  have NA := Lib.hid (Arr.new w (V cs) 61 rfl)
  have B0 := Lib.hid (HB.out.alloc (.cells (V cs).toArray 61))
  have X0 := Lib.hid (HX.out.keep ((Below.refl w.heap.size w).alloc (Nat.le_refl _) (.cells (V cs).toArray 61)) HX.out.2.1)
  have c0 := B0.out.cell (k := 0) rfl
  go_enter Try.func69, Try.ntmps69
  go_wp2
  have BW : Hid (Below w.heap.size w (w.alloc (.cells (V cs).toArray 61))) := Lib.hid ((Below.refl _ _).alloc (Nat.le_refl _) _)
  generalize w.alloc (.cells (V cs).toArray 61) = w1 at *
  go_loop [12] (fun i => ∃ k : Nat, k ≤ n ∧ i = .int .i64 k ∧ Hid (regB cs (xs.take k) = true)) (fun i => n - (intOf i).toNat)
  case atStart => exact ⟨0, Nat.zero_le _, rfl, Lib.hid (by simp [regB])⟩
  case round =>
    obtain ⟨k, hk, rfl, HN⟩ := hrel
    by_cases hlt : k < n
    · obtain ⟨g, off, u, rfl, _, _, hxu, hcx, _⟩ := X0.out.at_ hlt
      obtain ⟨s, hxs, rfl⟩ := V_at hxu
      obtain ⟨s0, s1⟩ := HS.out s (List.mem_of_getElem? hxs)
      obtain ⟨sn, rfl⟩ : ∃ sn : Nat, s = sn := ⟨s.toNat, by omega⟩
      have hcs : w1.cell? ⟨w.heap.size, sn, none⟩ = some (.int .i64 (cs.getD sn 0)) := NA.out.cell (V_get (get_D (by rw [HL.out]; omega)))
      have TK : Hid (regB cs (xs.take (k + 1)) = decide (cs.getD sn 0 = sn)) := Lib.hid (by rw [regB_take hxs, HN.out, Int.toNat_natCast, Bool.true_and])
      have RF : Hid (¬ cs.getD sn 0 = sn → regB cs xs = false) := Lib.hid (fun q => by
        unfold regB
        rw [List.all_eq_false]
        exact ⟨(sn : Int), List.mem_of_getElem? hxs, by simpa using q⟩)
      clear hxu hxs
      generalize cs.getD sn 0 = z at *
      by_cases hz : z = (sn : Int)
      · have hb : (z != (sn : Int)) = false := by simp [hz]
        have TK2 : Hid (regB cs (xs.take (k + 1)) = true) := Lib.hid (by rw [TK.out]; simp [hz])
        clear hz TK RF
        go_wp2
        go_round
        case rel => exact ⟨k + 1, by omega, by go_num, TK2⟩
        case measure => simp [intOf]; omega
      · have hb : (z != (sn : Int)) = true := by simp [hz]
        have RF2 := Lib.hid (RF.out hz)
        clear hz TK RF
        go_wp2
        go_ret
        exact ⟨ret_bool RF2.out.symm, BW.out⟩
    · have HE : Hid (regB cs xs = true) := Lib.hid (by have h := HN.out; rwa [List.take_of_length_le (by rw [LX.out]; omega)] at h)
      go_wp2
      go_ret
      exact ⟨ret_bool HE.out.symm, BW.out⟩
end Go.Proofs.Ytglpiopjhddoeaa.cy
