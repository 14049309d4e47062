import Derived.Test.YtpbbfbpggedgpaaDoorY12
import Derived.Test.YtpbbfbpggedgpaaDoorY01
import Derived.Deep.SlicePairs
import Derived.Test.YtpbbfbpggedgpaaDoorY04
/-
  Lists of cylinders in memory: two cells each; the laws' helpers eqCylinder, eqCylinderS, markCylinderS, heldCylinderS.
-/
namespace Go.Proofs.YtpbbfbpggedgpaaDoor.cy
open Go.ChangeShapes Go.WideShapes Go.ChangeAt Go.RowKit
open Go.Proofs.YtpbbfbpggedgpaaDoor.mem Go.Proofs.YtpbbfbpggedgpaaDoor.ints Go.Proofs.YtpbbfbpggedgpaaDoor.arr Go.Proofs.YtpbbfbpggedgpaaDoor.sf Go.Proofs.YtpbbfbpggedgpaaDoor.lp
set_option linter.unusedVariables false
set_option maxRecDepth 100000

/-- Width and height. -/
abbrev Cy := Int × Int
def fl : List Cy → List Int
  | [] => []
  | x :: t => x.1 :: x.2 :: fl t
theorem fl_len : ∀ L : List Cy, (fl L).length = L.length * 2
  | [] => rfl
  | x :: t => by simp [fl, fl_len t]; omega
theorem fl_app : ∀ L M : List Cy, fl (L ++ M) = fl L ++ fl M
  | [], M => rfl
  | x :: t, M => by simp [fl, fl_app t M]
theorem fl_at : ∀ {L : List Cy} {k : Nat} {x : Cy}, L[k]? = some x → (fl L)[k * 2]? = some x.1 ∧ (fl L)[k * 2 + 1]? = some x.2
  | [], k, x, h => by simp at h
  | y :: t, 0, x, h => by simp at h; subst h; simp [fl]
  | y :: t, k + 1, x, h => by
    have := fl_at (L := t) (k := k) (x := x) (by simpa using h)
    have e1 : (k + 1) * 2 = k * 2 + 1 + 1 := by omega
    rw [e1]
    simpa [fl] using this
/-- The slice value '.slice A n c' reads as the cylinders L; to be read only, and of the call's own. -/
def Crd (w : World) (hi : Nat) (A : Option Addr) (n : Nat) (L : List Cy) : Prop := L.length = n ∧ Rd w hi A (n * 2) (V (fl L))
def Crow (w : World) (lo hi : Nat) (A : Option Addr) (n : Nat) (L : List Cy) : Prop := L.length = n ∧ Row w lo hi A (n * 2) (V (fl L))
theorem Crow.rd {w : World} {lo hi n : Nat} {A : Option Addr} {L : List Cy} (h : Crow w lo hi A n L) : Crd w hi A n L := ⟨h.1, h.2.rd⟩
theorem Crow.keep {w w' : World} {lo hi n B : Nat} {A : Option Addr} {L : List Cy} (h : Crow w lo hi A n L) (hb : Below B w w') (hB : hi ≤ B) : Crow w' lo hi A n L := ⟨h.1, h.2.keep hb hB⟩
theorem Crow.out {w w' : World} {lo hi lo' hi' n : Nat} {A : Option Addr} {L : List Cy} (h : Crow w lo hi A n L) (ho : Out lo' hi' w w') (hd : hi ≤ lo' ∨ hi' ≤ lo) : Crow w' lo hi A n L := ⟨h.1, h.2.out ho hd⟩
theorem Crow.top {w : World} {lo hi n : Nat} {A : Option Addr} {L : List Cy} (h : Crow w lo hi A n L) : hi ≤ w.heap.size := h.2.2.1
theorem Crd.keep {w w' : World} {hi n B : Nat} {A : Option Addr} {L : List Cy} (h : Crd w hi A n L) (hb : Below B w w') (hB : hi ≤ B) : Crd w' hi A n L := ⟨h.1, h.2.keep hb hB⟩
theorem Crd.top {w : World} {hi n : Nat} {A : Option Addr} {L : List Cy} (h : Crd w hi A n L) : hi ≤ w.heap.size := h.2.2.1
theorem Crd.at_ {w : World} {hi n k : Nat} {A : Option Addr} {L : List Cy} (h : Crd w hi A n L) (hk : k < n) :
    ∃ g off x, A = some ⟨g, off, none⟩ ∧ g < hi ∧ L[k]? = some x ∧ w.cell? ⟨g, off + k * 2, none⟩ = some (.int .i64 x.1) ∧ w.cell? ⟨g, off + k * 2 + 1, none⟩ = some (.int .i64 x.2) := by
  obtain ⟨g, off, e, hlt, hc⟩ := h.2.2.2 (by omega)
  have hl : k < L.length := by have := h.1; omega
  have hx := List.getElem?_eq_getElem hl
  obtain ⟨a, b⟩ := fl_at hx
  refine ⟨g, off, L[k], e, hlt, hx, ?_, ?_⟩
  · rw [hc (k * 2) (by omega)]; exact V_get a
  · rw [show off + k * 2 + 1 = off + (k * 2 + 1) by omega, hc (k * 2 + 1) (by omega)]; exact V_get b
theorem infoCy : (Tryd.prog.info? 75).map (fun i => (i.zero, i.size, i.bytes)) = some (some (.agg #[.int .i64 0, .int .i64 0]), 2, 16) := by kernel_rfl
theorem sizeCy (a b : Value) : (Tryd.prog.info? 75).map (·.size) = some [a, b].length := by
  have : (Tryd.prog.info? 75).map (·.size) = some 2 := by kernel_rfl
  simpa using this
theorem two_cells {w : World} {g o : Nat} {a b : Value} (h0 : w.cell? ⟨g, o, none⟩ = some a) (h1 : w.cell? ⟨g, o + 1, none⟩ = some b) : w.rangeAt g o [a, b] := by
  intro j v hv
  match j, hv with
  | 0, hv => simp at hv; subst hv; simpa using h0
  | 1, hv => simp at hv; subst hv; exact h1

def eqc (L M : List Cy) : Bool := decide (L = M)
theorem eqc_self (L : List Cy) : eqc L L = true := by simp [eqc]
def SameC (L M : List Cy) (w wr : World) (k : Nat) : Prop := Below w.heap.size w wr ∧ ∀ j, j < k → L[j]? = M[j]?
theorem eqc_no {L M : List Cy} {k : Nat} {s t : Cy} (h1 : L[k]? = some s) (h2 : M[k]? = some t) (h : (decide (s.1 = t.1) && decide (s.2 = t.2)) = false) : eqc L M = false := by
  unfold eqc
  rw [decide_eq_false_iff_not]
  rintro rfl
  rw [h1] at h2
  obtain rfl := Option.some.inj h2
  simp at h
theorem eqc_yes {L M : List Cy} {n : Nat} (h1 : L.length = n) (h2 : M.length = n) (h : ∀ j, j < n → L[j]? = M[j]?) : eqc L M = true := by
  unfold eqc
  rw [decide_eq_true_iff]
  refine List.ext_getElem? fun i => ?_
  by_cases hi : i < n
  · exact h i hi
  · rw [List.getElem?_eq_none (by omega), List.getElem?_eq_none (by omega)]
theorem eqc_len {L M : List Cy} (h : L.length ≠ M.length) : eqc L M = false := by
  unfold eqc
  rw [decide_eq_false_iff_not]
  rintro rfl
  exact h rfl
theorem SameC.step {L M : List Cy} {w wr w' : World} {k : Nat} {s t : Cy} (h : SameC L M w wr k) (hb : Below w.heap.size w w') (h1 : L[k]? = some s) (h2 : M[k]? = some t) (he : (decide (s.1 = t.1) && decide (s.2 = t.2)) = true) : SameC L M w w' (k + 1) := by
  refine ⟨hb, fun j hj => ?_⟩
  by_cases e : j = k
  · subst e
    have : s = t := by
      simp at he
      exact Prod.ext he.1 he.2
    rw [h1, h2, this]
  · exact h.2 j (by omega)

end Go.Proofs.YtpbbfbpggedgpaaDoor.cy

/-
  AreaOf: a list of cylinders that came in; contracts of the laws' helpers, of the specification and of the program.
-/
namespace Go.Proofs.YtpbbfbpggedgpaaDoor.cy
open Go.ChangeShapes Go.WideShapes Go.ChangeAt Go.RowKit Go.Deep
open Go.Proofs.YtpbbfbpggedgpaaDoor.mem Go.Proofs.YtpbbfbpggedgpaaDoor.ints Go.Proofs.YtpbbfbpggedgpaaDoor.arr Go.Proofs.YtpbbfbpggedgpaaDoor.sf Go.Proofs.YtpbbfbpggedgpaaDoor.lp
set_option linter.unusedVariables false
set_option maxRecDepth 100000

theorem fl_ofFn (n : Nat) (f : Nat → Cy) : ∀ j, j < n * 2 → (fl ((List.range n).map f))[j]? = some (if j % 2 = 0 then (f (j / 2)).1 else (f (j / 2)).2) := by
  intro j hj
  have hk : j / 2 < n := by omega
  have hx : ((List.range n).map f)[j / 2]? = some (f (j / 2)) := by simp [hk]
  obtain ⟨a, b⟩ := fl_at hx
  rcases Nat.mod_two_eq_zero_or_one j with h | h
  · rw [if_pos h, ← a]; congr 1; omega
  · rw [if_neg (by omega), ← b]; congr 1; omega

theorem open_Z {H : Type} {enc : TypeId × Value → H} {P : Program} {W : World} {t e : TypeId} {f0 f1 : Field} {A : Option Addr} {n c : Nat} {d : DataW H} {ps : List MemPlace}
    (ht : P.underlying t = some (.slice e)) (he : P.underlying e = some (.struct #[f0, f1])) (ce : P.cellsOf e = 2) (o0 : f0.offset = 0) (o1 : f1.offset = 1) (c0 : P.cellsOf f0.type = 1) (c1 : P.cellsOf f1.type = 1)
    (i0 : P.underlying f0.type = some (.int .i64)) (i1 : P.underlying f1.type = some (.int .i64)) (h : DataW.Trod enc P W 0 (fun _ => true) true t (.slice A n c) d ps) :
    ∃ L : List Cy, Crd W W.heap.size A n L ∧ n ≤ c ∧ c ≤ maxLen := by
  obtain ⟨fuel, hf⟩ := h
  rcases open_slice_pairs ht he ce o0 o1 c0 c1 hf with ⟨hcs, _⟩ | ⟨a, len, cap, m, q, V0, V1, D0, D1, P0, P1, hcs, _, hl, hm, hmm, _, hx⟩
  · simp [Value.cells] at hcs
    obtain ⟨rfl, rfl, rfl⟩ := hcs
    exact ⟨[], ⟨rfl, rfl, Nat.le_refl _, fun h => absurd h (by omega)⟩, Nat.le_refl _, by simp⟩
  · simp [Value.cells] at hcs
    obtain ⟨rfl, rfl, rfl⟩ := hcs
    have hmc : m = c := by simpa using hmm
    have each : ∀ i, i < m → ∃ z : Cy, W.cell? (a.add (i * 2)) = some (.int .i64 z.1) ∧ W.cell? (a.add (i * 2 + 1)) = some (.int .i64 z.2) := by
      intro i hi
      obtain ⟨h0, h1, t0, t1⟩ := hx i hi
      obtain ⟨z0, y0, _⟩ := DataW.trod_int i0 t0
      obtain ⟨z1, y1, _⟩ := DataW.trod_int i1 t1
      have e0 : V0 i = .int .i64 z0 := by simpa using y0
      have e1 : V1 i = .int .i64 z1 := by simpa using y1
      exact ⟨(z0, z1), by rw [h0, e0], by rw [h1, e1]⟩
    obtain ⟨f, hfz⟩ := choose_lt each
    refine ⟨(List.range n).map f, ⟨by simp, Rd.of_cells (by simp [V, fl_len]) (fun j hj => ?_)⟩, hl, hm⟩
    have hx2 := fl_ofFn n f j hj
    obtain ⟨g0, g1⟩ := hfz (j / 2) (by omega)
    rcases Nat.mod_two_eq_zero_or_one j with hh | hh
    · rw [if_pos hh] at hx2
      rw [V_get hx2, ← g0]; congr 2; omega
    · rw [if_neg (by omega)] at hx2
      rw [V_get hx2, ← g1]; congr 2; omega

theorem own_keepB {w w' : World} {base B : Nat} {e : TypeId} {size n : Nat} {v : Value} {xs : List Value} (h : w.ownsRow base e size v n xs) (hb : Below B w w') (hB : ∀ b, v.ownBlock = some b → b < B) : w'.ownsRow base e size v n xs := by
  refine ⟨h.1, ?_⟩
  rcases h.2 with h0 | ⟨g, cap, cur, h1, h2, h3, h4⟩
  · exact .inl h0
  · refine .inr ⟨g, cap, cur, h1, h2, ?_, h4⟩
    rw [hb.block g (hB g (by subst h1; rfl))]
    exact h3
theorem own_lt {a b c : Nat} (h : a = b) (k : a < c) : b < c := h ▸ k
def CpRel (L : List Cy) (n : Nat) (w wr : World) (j : Nat) : Prop := ∃ ys, wr.ownsRow w.heap.size 75 2 (.slice (some ⟨w.heap.size, 0, none⟩) n n) n ys ∧ Upto ys (fl L) (j * 2) ∧ Below w.heap.size w wr
theorem two_set (w : World) (g o : Nat) (a b : Value) : w.setCells g o [a, b] = (w.setCell ⟨g, o, none⟩ a).setCell ⟨g, o + 1, none⟩ b := rfl
theorem Crow.of_own {w : World} {base : Nat} {e : TypeId} {A : Option Addr} {n c : Nat} {L : List Cy} (hl : L.length = n) (h : w.ownsRow base e 2 (.slice A n c) n (V (fl L))) : Crow w base w.heap.size A n L := by
  refine ⟨hl, by simp [V, fl_len, hl], Nat.le_refl _, fun hn => ?_⟩
  have hlen := h.1
  rcases h.2 with ⟨hv, h0⟩ | ⟨g, cap, cur, hv, hb, hh, r⟩
  · omega
  · injection hv with hA hn' hc'
    subst hA; subst hc'
    have hlt : g < w.heap.size := by
      rcases Nat.lt_or_ge g w.heap.size with hlt | hge
      · exact hlt
      · rw [Array.getElem?_eq_none hge] at hh; cases hh
    refine ⟨g, 0, rfl, hb, hlt, fun j hj => ?_⟩
    rw [Nat.zero_add]
    exact ⟨h.cellAt j (by omega), h.frozenAt j⟩

def areaGo : List Cy → Int → Int
  | [], s => s
  | x :: t, s => if 1 ≤ x.1 ∧ x.1 ≤ 24 ∧ 1 ≤ x.2 ∧ x.2 ≤ 24 then areaGo t (s + x.1 * x.2) else -1
def areaF (L : List Cy) : Int := if 24 < L.length then -1 else areaGo L 0
theorem area_drop {L : List Cy} {k : Nat} {x : Cy} (h : L[k]? = some x) : L.drop k = x :: L.drop (k + 1) := by
  have hk := (List.getElem?_eq_some_iff.1 h).1
  rw [List.drop_eq_getElem_cons hk]
  congr 1
  rw [List.getElem?_eq_getElem hk] at h
  exact Option.some.inj h
theorem prod_bnd {a b : Int} (h1 : 1 ≤ a) (h2 : a ≤ 24) (h3 : 1 ≤ b) (h4 : b ≤ 24) : 1 ≤ a * b ∧ a * b ≤ 576 := by
  have l1 : 1 * 1 ≤ a * b := Int.mul_le_mul h1 h3 (by omega) (by omega)
  have l2 : a * b ≤ 24 * 24 := Int.mul_le_mul h2 h4 (by omega) (by omega)
  omega
structure Ag (L : List Cy) (w wr : World) (k : Nat) (s : Int) : Prop where
  lo : 0 ≤ s
  hi : s ≤ 576 * k
  go : areaGo (L.drop k) s = areaGo L 0
  below : Below w.heap.size w wr
theorem Ag.next {L : List Cy} {w wr w' : World} {k : Nat} {s a b : Int} (h : Ag L w wr k s) (hx : L[k]? = some (a, b)) (h1 : 1 ≤ a) (h2 : a ≤ 24) (h3 : 1 ≤ b) (h4 : b ≤ 24) (hb : Below w.heap.size w w') : Ag L w w' (k + 1) (s + a * b) := by
  have := prod_bnd h1 h2 h3 h4
  refine ⟨by have := h.lo; omega, by have := h.hi; omega, ?_, hb⟩
  rw [← h.go, area_drop hx, areaGo, if_pos ⟨h1, h2, h3, h4⟩]
theorem Ag.bad {L : List Cy} {w wr : World} {k : Nat} {s a b : Int} (h : Ag L w wr k s) (hx : L[k]? = some (a, b)) (hl : L.length ≤ 24) (hn : ¬ (1 ≤ a ∧ a ≤ 24 ∧ 1 ≤ b ∧ b ≤ 24)) : areaF L = -1 := by
  rw [areaF, if_neg (by omega), ← h.go, area_drop hx, areaGo, if_neg hn]
theorem Ag.fin {L : List Cy} {w wr : World} {k : Nat} {s : Int} (h : Ag L w wr k s) (hl : L.length ≤ 24) (hk : L.length = k) : areaF L = s := by
  rw [areaF, if_neg (by omega), ← h.go, ← hk, List.drop_length]; rfl

set_option maxHeartbeats 2000000 in
theorem area_impl (A : Option Addr) (n c : Nat) (L : List Cy) (hi : Nat) (w : World) (hx : Crd w hi A n L) (hn : n ≤ 1048576) :
    Calls Tryd.prog 12 #[.slice A n c] w fun e w' => e = .returned (.int .i64 (areaF L)) ∧ Below w.heap.size w w' := by
  have LX : Hid (L.length = n) := Lib.hid hx.1
  have HX := Lib.hid hx; clear hx
  by_cases h24 : (24 : Int) < n
  · have HF : Hid (areaF L = -1) := Lib.hid (by rw [areaF, if_pos (by rw [LX.out]; omega)])
    go_enter Tryd.func12, Tryd.ntmps12
    go_wp2
    go_ret
    exact ⟨ret_int HF.out.symm, Below.refl _ _⟩
  · have HL : Hid (L.length ≤ 24) := Lib.hid (by rw [LX.out]; omega)
    have hn24 : n ≤ 24 := by omega
    go_enter Tryd.func12, Tryd.ntmps12
    go_wp2
    go_loopw [3, 11] (fun q i wr => ∃ (k : Nat) (s : Int), k ≤ n ∧ q = .int .i64 s ∧ i = .int .i64 k ∧ Ag L w wr k s) (fun _ i _ => n - (intOf i).toNat)
    case atStart => exact ⟨0, 0, Nat.zero_le _, rfl, rfl, by omega, by omega, rfl, Below.refl _ _⟩
    case round =>
      obtain ⟨k, s, hk, rfl, rfl, hag⟩ := hrel
      have HA := Lib.hid hag; clear hag
      have slo := HA.out.lo; have shi := HA.out.hi
      by_cases hlt : k < n
      · obtain ⟨g, off, x, rfl, hgl, hsk, hc0, hc1⟩ := (HX.out.keep (HA.out.below.mono HX.out.top) (Nat.le_refl _)).at_ hlt
        obtain ⟨a, b⟩ := x
        have HR := Lib.hid (two_cells hc0 hc1); have SK := Lib.hid hsk
        have bz := HA.out.below.size
        clear hsk hc0 hc1
        by_cases hok : 1 ≤ a ∧ a ≤ 24 ∧ 1 ≤ b ∧ b ≤ 24
        · obtain ⟨o1, o2, o3, o4⟩ := hok
          obtain ⟨p1, p2⟩ := prod_bnd o1 o2 o3 o4
          have q1 : decide (a < 1) = false := by simp; omega
          have q2 : decide (24 < a) = false := by simp; omega
          have q3 : decide (b < 1) = false := by simp; omega
          have q4 : decide (24 < b) = false := by simp; omega
          go_wp2_with (refine wpList_load_mid rfl 75 _ rfl g (off + k * 2) rfl [.int .i64 a, .int .i64 b] _ HR.out Tryd.underlying75 rfl (sizeCy _ _) ?_)
          go_roundw
          case rel => exact ⟨k + 1, s + a * b, by omega, by go_num, by go_num, HA.out.next SK.out o1 o2 o3 o4 (HA.out.below.alloc bz _)⟩
          case measure => simp [intOf]; omega
        · have HF := Lib.hid (HA.out.bad SK.out HL.out hok)
          by_cases h1 : a < 1
          · clear hok
            go_wp2_with (refine wpList_load_mid rfl 75 _ rfl g (off + k * 2) rfl [.int .i64 a, .int .i64 b] _ HR.out Tryd.underlying75 rfl (sizeCy _ _) ?_)
            go_ret
            exact ⟨ret_int HF.out.symm, HA.out.below.alloc bz _⟩
          · by_cases h2 : 24 < a
            · clear hok
              go_wp2_with (refine wpList_load_mid rfl 75 _ rfl g (off + k * 2) rfl [.int .i64 a, .int .i64 b] _ HR.out Tryd.underlying75 rfl (sizeCy _ _) ?_)
              go_ret
              exact ⟨ret_int HF.out.symm, HA.out.below.alloc bz _⟩
            · by_cases h3 : b < 1
              · clear hok
                go_wp2_with (refine wpList_load_mid rfl 75 _ rfl g (off + k * 2) rfl [.int .i64 a, .int .i64 b] _ HR.out Tryd.underlying75 rfl (sizeCy _ _) ?_)
                go_ret
                exact ⟨ret_int HF.out.symm, HA.out.below.alloc bz _⟩
              · have h4 : 24 < b := by omega
                clear hok
                go_wp2_with (refine wpList_load_mid rfl 75 _ rfl g (off + k * 2) rfl [.int .i64 a, .int .i64 b] _ HR.out Tryd.underlying75 rfl (sizeCy _ _) ?_)
                go_ret
                exact ⟨ret_int HF.out.symm, HA.out.below.alloc bz _⟩
      · have HE : Hid (L.length = k) := Lib.hid (by rw [LX.out]; omega)
        have HF := Lib.hid (HA.out.fin HL.out HE.out)
        go_wp2
        go_ret
        exact ⟨ret_int HF.out.symm, HA.out.below⟩

end Go.Proofs.YtpbbfbpggedgpaaDoor.cy

/-
  Rows above rows: a partial injection on places, the least closed set about a place, and the two walks that mark it; mathematics alone.
-/
namespace Go.Proofs.YtpbbfbpggedgpaaDoor.cy
set_option linter.unusedVariables false
set_option maxRecDepth 100000

/-- The place above, or -1. -/
def at_ (ab : List Int) (i : Nat) : Int := ab.getD i (-1)
structure Inj (N : Nat) (ab : List Int) : Prop where
  len : ab.length = N
  rng : ∀ i, i < N → at_ ab i < N
  low : ∀ i, i < N → -1 ≤ at_ ab i
  inj : ∀ i j x : Nat, i < N → j < N → at_ ab i = x → at_ ab j = x → i = j
def Closed (N : Nat) (ab : List Int) (T : Nat → Prop) : Prop := ∀ i x : Nat, i < N → at_ ab i = x → (T i ↔ T x)
def on (M : List Bool) (i : Nat) : Prop := M[i]? = some true
theorem on_lt {M : List Bool} {i : Nat} (h : on M i) : i < M.length := (List.getElem?_eq_some_iff.1 h).1
theorem on_not {M : List Bool} {i : Nat} (h : M[i]? = some false) : ¬ on M i := fun k => by rw [on, h] at k; cases k
theorem not_on {M : List Bool} {i : Nat} (hi : i < M.length) (h : ¬ on M i) : M[i]? = some false := by
  have e := List.getElem?_eq_getElem hi
  cases hb : M[i] with
  | true => rw [hb] at e; exact absurd e h
  | false => rw [hb] at e; exact e
theorem on_set {M : List Bool} {k i : Nat} (hk : k < M.length) : on (M.set k true) i ↔ i = k ∨ on M i := by
  unfold on
  by_cases e : i = k
  · subst e; simp [hk]
  · rw [List.getElem?_set_ne (Ne.symm e)]; simp [e]
def cnt (M : List Bool) : Nat := M.count true
theorem cnt_le (M : List Bool) : cnt M ≤ M.length := List.count_le_length
theorem cnt_set {M : List Bool} {k : Nat} (h : M[k]? = some false) : cnt (M.set k true) = cnt M + 1 := by
  induction M generalizing k with
  | nil => simp at h
  | cons b t ih =>
    cases k with
    | zero =>
      have : b = false := by simpa using h
      subst this
      simp [cnt]
    | succ k =>
      have := ih (k := k) (by simpa using h)
      unfold cnt at this ⊢
      rw [List.set_cons_succ, List.count_cons, List.count_cons, this]
      omega

open Classical in
/-- The least closed set that holds M and r, as marks. -/
noncomputable def clos (N : Nat) (ab : List Int) (M : List Bool) (r : Nat) : List Bool :=
  (List.range N).map fun i => decide (∀ T : Nat → Prop, Closed N ab T → (∀ j, on M j → T j) → T r → T i)
theorem clos_len (N : Nat) (ab : List Int) (M : List Bool) (r : Nat) : (clos N ab M r).length = N := by simp [clos]
theorem clos_on {N : Nat} {ab : List Int} {M : List Bool} {r i : Nat} (hi : i < N) : on (clos N ab M r) i ↔ ∀ T : Nat → Prop, Closed N ab T → (∀ j, on M j → T j) → T r → T i := by
  show (clos N ab M r)[i]? = some true ↔ _
  unfold clos
  simp [hi]
theorem clos_closed {N : Nat} {ab : List Int} (h : Inj N ab) (M : List Bool) (r : Nat) : Closed N ab (on (clos N ab M r)) := by
  intro i x hi hx
  have hxN : x < N := by have := h.rng i hi; omega
  rw [clos_on hi, clos_on hxN]
  exact ⟨fun q T a b c => (a i x hi hx).1 (q T a b c), fun q T a b c => (a i x hi hx).2 (q T a b c)⟩
theorem clos_sub {N : Nat} {ab : List Int} {M : List Bool} {r : Nat} (hl : M.length = N) {j : Nat} (hj : on M j) : on (clos N ab M r) j :=
  (clos_on (by have := on_lt hj; omega)).2 fun T a b c => b j hj
theorem clos_self {N : Nat} {ab : List Int} {M : List Bool} {r : Nat} (hr : r < N) : on (clos N ab M r) r := (clos_on hr).2 fun T a b c => c
theorem clos_eq {N : Nat} {ab : List Int} {M M' : List Bool} {r : Nat} (hl : M'.length = N) (hc : Closed N ab (on M')) (hs : ∀ j, on M j → on M' j) (hr : on M' r)
    (hm : ∀ T : Nat → Prop, Closed N ab T → (∀ j, on M j → T j) → T r → ∀ i, on M' i → T i) : M' = clos N ab M r := by
  refine List.ext_getElem? fun i => ?_
  by_cases hi : i < N
  · have e1 := List.getElem?_eq_getElem (l := M') (i := i) (by omega)
    have e2 := List.getElem?_eq_getElem (l := clos N ab M r) (i := i) (by rw [clos_len]; exact hi)
    have e3 : on M' i ↔ on (clos N ab M r) i := by
      rw [clos_on hi]
      exact ⟨fun q T a b c => hm T a b c i q, fun q => q (on M') hc hs hr⟩
    unfold on at e3
    rw [e1, e2] at e3
    rw [e1, e2]
    congr 1
    have e4 : M'[i] = true ↔ (clos N ab M r)[i]'(by rw [clos_len]; exact hi) = true := by simpa using e3
    exact Bool.eq_iff_iff.2 e4
  · rw [List.getElem?_eq_none (by omega), List.getElem?_eq_none (by rw [clos_len]; omega)]

/-- On the way up from r: S was marked, M is, cur comes next. -/
structure Up (N : Nat) (ab : List Int) (S : List Bool) (r : Nat) (M : List Bool) (cur : Int) : Prop where
  len : M.length = N
  sub : ∀ j, on S j → on M j
  min : ∀ T : Nat → Prop, Closed N ab T → (∀ j, on S j → T j) → T r → (∀ i, on M i → T i) ∧ ∀ c : Nat, cur = c → T c
  up : ∀ i, on M i → ∀ x : Nat, at_ ab i = x → on M x ∨ cur = x
  pre : ∀ x, on M x → on S x ∨ x = r ∨ ∃ i, on M i ∧ at_ ab i = x
  cpre : ∀ c : Nat, cur = c → c = r ∨ ∃ i, on M i ∧ at_ ab i = c
  hi : cur < N
  lo : -1 ≤ cur
  row : on M r ∨ cur = r
theorem Up.start {N : Nat} {ab : List Int} {S : List Bool} {r : Nat} (hl : S.length = N) (hr : r < N) (hS : Closed N ab (on S)) : Up N ab S r S r :=
  ⟨hl, fun j h => h, fun T a b c => ⟨b, fun c' e => by have : c' = r := by omega
                                                       subst this; exact c⟩, fun i hi x hx => .inl ((hS i x (by have := on_lt hi; omega) hx).1 hi), fun x h => .inl h, fun c e => .inl (by omega), by omega, by omega, .inr rfl⟩
theorem Up.step {N : Nat} {ab : List Int} {S M : List Bool} {r c : Nat} (h : Up N ab S r M (c : Int)) (hi : Inj N ab) (hc : M[c]? = some false) : Up N ab S r (M.set c true) (at_ ab c) := by
  have hcl : c < M.length := (List.getElem?_eq_some_iff.1 hc).1
  have hcN : c < N := by have := h.len; omega
  refine ⟨by rw [List.length_set]; exact h.len, fun j hj => (on_set hcl).2 (.inr (h.sub j hj)), fun T a b d => ?_, fun i hi' x hx => ?_, fun x hx => ?_, fun c' e => ?_, hi.rng c hcN, hi.low c hcN, .inl ?_⟩
  · obtain ⟨q1, q2⟩ := h.min T a b d
    have tc := q2 c rfl
    refine ⟨fun i hi' => ?_, fun c' e => (a c c' hcN e).1 tc⟩
    rcases (on_set hcl).1 hi' with rfl | q
    · exact tc
    · exact q1 i q
  · rcases (on_set hcl).1 hi' with rfl | q
    · exact .inr hx
    · rcases h.up i q x hx with z | z
      · exact .inl ((on_set hcl).2 (.inr z))
      · exact .inl ((on_set hcl).2 (.inl (by omega)))
  · rcases (on_set hcl).1 hx with rfl | q
    · rcases h.cpre x rfl with z | ⟨i, z1, z2⟩
      · exact .inr (.inl z)
      · exact .inr (.inr ⟨i, (on_set hcl).2 (.inr z1), z2⟩)
    · rcases h.pre x q with z | z | ⟨i, z1, z2⟩
      · exact .inl z
      · exact .inr (.inl z)
      · exact .inr (.inr ⟨i, (on_set hcl).2 (.inr z1), z2⟩)
  · exact .inr ⟨c, (on_set hcl).2 (.inl rfl), e⟩
  · rcases h.row with z | z
    · exact (on_set hcl).2 (.inr z)
    · exact (on_set hcl).2 (.inl (by omega))
/-- The way up is done. -/
structure Ud (N : Nat) (ab : List Int) (S : List Bool) (r : Nat) (M : List Bool) : Prop where
  len : M.length = N
  sub : ∀ j, on S j → on M j
  min : ∀ T : Nat → Prop, Closed N ab T → (∀ j, on S j → T j) → T r → ∀ i, on M i → T i
  up : ∀ i, on M i → ∀ x : Nat, at_ ab i = x → on M x
  pre : ∀ x, on M x → on S x ∨ x = r ∨ ∃ i, on M i ∧ at_ ab i = x
  row : on M r
theorem Up.done {N : Nat} {ab : List Int} {S M : List Bool} {r : Nat} {cur : Int} (h : Up N ab S r M cur) (hd : cur < 0 ∨ ∃ c : Nat, cur = c ∧ on M c) : Ud N ab S r M := by
  refine ⟨h.len, h.sub, fun T a b c => (h.min T a b c).1, fun i hi x hx => ?_, h.pre, ?_⟩
  · rcases h.up i hi x hx with z | z
    · exact z
    · rcases hd with q | ⟨c, q1, q2⟩
      · omega
      · have : c = x := by omega
        subst this; exact q2
  · rcases h.row with z | z
    · exact z
    · rcases hd with q | ⟨c, q1, q2⟩
      · omega
      · have : c = r := by omega
        subst this; exact q2

/-- Is 'to' reached from k by going up, with fuel? -/
def jn (ab : List Int) (tz : Int) : Nat → Int → Bool
  | 0, _ => false
  | f + 1, k => if k < 0 then false else if k = tz then true else jn ab tz f (at_ ab k.toNat)
theorem jn_more {ab : List Int} {tz : Int} : ∀ {f : Nat} {k : Int}, jn ab tz f k = true → jn ab tz (f + 1) k = true
  | 0, k, h => by simp [jn] at h
  | f + 1, k, h => by
    rw [jn] at h ⊢
    split
    · rename_i q; rw [if_pos q] at h; cases h
    · rename_i q
      rw [if_neg q] at h
      split
      · rfl
      · rename_i q2
        rw [if_neg q2] at h
        exact jn_more h
theorem jn_le {ab : List Int} {tz : Int} {f g : Nat} {k : Int} (h : jn ab tz f k = true) (hg : f ≤ g) : jn ab tz g k = true := by
  induction hg with
  | refl => exact h
  | step _ ih => exact jn_more ih
theorem jn_step {ab : List Int} {tz : Int} {f k x : Nat} (hx : at_ ab k = x) (h : jn ab tz f (x : Int) = true) : jn ab tz (f + 1) (k : Int) = true := by
  rw [jn, if_neg (by omega)]
  split
  · rfl
  · rw [Int.toNat_natCast, hx]; exact h
/-- The specification's second phase: n new marks. -/
structure Sd (N : Nat) (ab : List Int) (S : List Bool) (r : Nat) (M : List Bool) (n : Nat) : Prop where
  len : M.length = N
  sub : ∀ j, on S j → on M j
  min : ∀ T : Nat → Prop, Closed N ab T → (∀ j, on S j → T j) → T r → ∀ i, on M i → T i
  up : ∀ i, on M i → ∀ x : Nat, at_ ab i = x → on M x
  tag : ∀ x, on M x → on S x ∨ (∃ i, on M i ∧ at_ ab i = x) ∨ jn ab r n (x : Int) = true
  row : on M r
  cnt : n + cnt S = cnt M
theorem Ud.sd {N : Nat} {ab : List Int} {S M : List Bool} {r n : Nat} (h : Ud N ab S r M) (hc : n + cnt S = cnt M) (hn : 0 < n) : Sd N ab S r M n := by
  refine ⟨h.len, h.sub, h.min, h.up, fun x hx => ?_, h.row, hc⟩
  rcases h.pre x hx with z | z | z
  · exact .inl z
  · subst z
    obtain ⟨m, rfl⟩ : ∃ m, n = m + 1 := ⟨n - 1, by omega⟩
    refine .inr (.inr ?_)
    rw [jn, if_neg (by omega), if_pos rfl]
  · exact .inr (.inl z)
theorem Sd.le {N : Nat} {ab : List Int} {S M : List Bool} {r n : Nat} (h : Sd N ab S r M n) : n ≤ N := by
  have := cnt_le M; have := h.cnt; have := h.len; omega
theorem Sd.join {N : Nat} {ab : List Int} {S M : List Bool} {r n k x : Nat} (h : Sd N ab S r M n) (hi : Inj N ab) (hS : Closed N ab (on S)) (hk : k < N) (hx : at_ ab k = x) (hox : on M x) (hno : ¬ on M k) : jn ab r (n + 1) (k : Int) = true := by
  rcases h.tag x hox with z | ⟨i, z1, z2⟩ | z
  · exact absurd (h.sub k ((hS k x hk hx).2 z)) hno
  · have : i = k := hi.inj i k x (by have := on_lt z1; have := h.len; omega) hk z2 hx
    subst this
    exact absurd z1 hno
  · exact jn_step hx z
theorem Sd.step {N : Nat} {ab : List Int} {S M : List Bool} {r n k x : Nat} (h : Sd N ab S r M n) (hi : Inj N ab) (hS : Closed N ab (on S)) (hk : M[k]? = some false) (hx : at_ ab k = x) (hox : on M x) : Sd N ab S r (M.set k true) (n + 1) := by
  have hkl : k < M.length := (List.getElem?_eq_some_iff.1 hk).1
  have hkN : k < N := by have := h.len; omega
  have hj := h.join hi hS hkN hx hox (on_not hk)
  refine ⟨by rw [List.length_set]; exact h.len, fun j hj => (on_set hkl).2 (.inr (h.sub j hj)), fun T a b c i hi' => ?_, fun i hi' y hy => ?_, fun y hy => ?_, (on_set hkl).2 (.inr h.row), by rw [cnt_set hk]; have := h.cnt; omega⟩
  · rcases (on_set hkl).1 hi' with rfl | q
    · exact (a i x hkN hx).2 (h.min T a b c x hox)
    · exact h.min T a b c i q
  · rcases (on_set hkl).1 hi' with rfl | q
    · have : y = x := by omega
      subst this; exact (on_set hkl).2 (.inr hox)
    · exact (on_set hkl).2 (.inr (h.up i q y hy))
  · rcases (on_set hkl).1 hy with rfl | q
    · exact .inr (.inr hj)
    · rcases h.tag y q with z | ⟨i, z1, z2⟩ | z
      · exact .inl z
      · exact .inr (.inl ⟨i, (on_set hkl).2 (.inr z1), z2⟩)
      · exact .inr (.inr (jn_more z))
theorem Sd.done {N : Nat} {ab : List Int} {S M : List Bool} {r n : Nat} (h : Sd N ab S r M n) (hf : ∀ k x : Nat, k < N → at_ ab k = x → on M x → on M k) : M = clos N ab S r :=
  clos_eq h.len (fun i x hi hx => ⟨fun q => h.up i q x hx, fun q => hf i x hi hx q⟩) h.sub h.row h.min

/-- The program's way down. -/
structure Dw (N : Nat) (ab : List Int) (S : List Bool) (r : Nat) (M : List Bool) (cur : Int) : Prop where
  len : M.length = N
  sub : ∀ j, on S j → on M j
  min : ∀ T : Nat → Prop, Closed N ab T → (∀ j, on S j → T j) → T r → (∀ i, on M i → T i) ∧ ∀ c : Nat, cur = c → T c
  up : ∀ i, on M i → ∀ x : Nat, at_ ab i = x → on M x
  dn : ∀ x, on M x → ∀ k, k < N → at_ ab k = x → on M k ∨ cur = k
  cab : ∀ c : Nat, cur = c → ∃ x : Nat, at_ ab c = x ∧ on M x
  hi : cur < N
  lo : -1 ≤ cur
  row : on M r
/-- bl is the way back. -/
structure Back (N : Nat) (ab bl : List Int) : Prop where
  len : bl.length = N
  rng : ∀ i, i < N → at_ bl i < N
  low : ∀ i, i < N → -1 ≤ at_ bl i
  iff : ∀ x k : Nat, x < N → k < N → (at_ bl x = k ↔ at_ ab k = x)
theorem Ud.dw {N : Nat} {ab bl : List Int} {S M : List Bool} {r : Nat} (h : Ud N ab S r M) (hi : Inj N ab) (hb : Back N ab bl) (hS : Closed N ab (on S)) (hr : r < N) : Dw N ab S r M (at_ bl r) := by
  refine ⟨h.len, h.sub, fun T a b c => ⟨h.min T a b c, fun k e => ?_⟩, h.up, fun x hx k hk e => ?_, fun c e => ?_, hb.rng r hr, hb.low r hr, h.row⟩
  · have hk : k < N := by have := hb.rng r hr; omega
    exact (a k r hk ((hb.iff r k hr hk).1 e)).2 c
  · rcases h.pre x hx with z | z | ⟨i, z1, z2⟩
    · exact .inl (h.sub k ((hS k x hk e).2 z))
    · subst z; exact .inr ((hb.iff x k hr hk).2 e)
    · have : i = k := hi.inj i k x (by have := on_lt z1; have := h.len; omega) hk z2 e
      subst this; exact .inl z1
  · have hc : c < N := by have := hb.rng r hr; omega
    exact ⟨r, (hb.iff r c hr hc).1 e, h.row⟩
theorem Dw.step {N : Nat} {ab bl : List Int} {S M : List Bool} {r c : Nat} (h : Dw N ab S r M (c : Int)) (hb : Back N ab bl) (hc : M[c]? = some false) : Dw N ab S r (M.set c true) (at_ bl c) := by
  have hcl : c < M.length := (List.getElem?_eq_some_iff.1 hc).1
  have hcN : c < N := by have := h.len; omega
  refine ⟨by rw [List.length_set]; exact h.len, fun j hj => (on_set hcl).2 (.inr (h.sub j hj)), fun T a b d => ?_, fun i hi' x hx => ?_, fun x hx k hk e => ?_, fun c' e => ?_, hb.rng c hcN, hb.low c hcN, (on_set hcl).2 (.inr h.row)⟩
  · obtain ⟨q1, q2⟩ := h.min T a b d
    have tc := q2 c rfl
    refine ⟨fun i hi' => ?_, fun k e => ?_⟩
    · rcases (on_set hcl).1 hi' with rfl | q
      · exact tc
      · exact q1 i q
    · have hk : k < N := by have := hb.rng c hcN; omega
      exact (a k c hk ((hb.iff c k hcN hk).1 e)).2 tc
  · rcases (on_set hcl).1 hi' with rfl | q
    · obtain ⟨y, y1, y2⟩ := h.cab i rfl
      have : y = x := by omega
      subst this; exact (on_set hcl).2 (.inr y2)
    · exact (on_set hcl).2 (.inr (h.up i q x hx))
  · rcases (on_set hcl).1 hx with rfl | q
    · exact .inr ((hb.iff x k hcN hk).2 e)
    · rcases h.dn x q k hk e with z | z
      · exact .inl ((on_set hcl).2 (.inr z))
      · exact .inl ((on_set hcl).2 (.inl (by omega)))
  · have hc' : c' < N := by have := hb.rng c hcN; omega
    exact ⟨c, (hb.iff c c' hcN hc').1 e, (on_set hcl).2 (.inl rfl)⟩
theorem Dw.done {N : Nat} {ab : List Int} {S M : List Bool} {r : Nat} {cur : Int} (h : Dw N ab S r M cur) (hd : cur < 0 ∨ ∃ c : Nat, cur = c ∧ on M c) : M = clos N ab S r := by
  refine clos_eq h.len (fun i x hi hx => ⟨fun q => h.up i q x hx, fun q => ?_⟩) h.sub h.row fun T a b c => (h.min T a b c).1
  rcases h.dn x q i hi hx with z | z
  · exact z
  · rcases hd with w | ⟨c, w1, w2⟩
    · omega
    · have : c = i := by omega
      subst this; exact w2

/-- Marks and cylinders behind the first i rows. -/
noncomputable def cyS (ab : List Int) (rr : List (List Int)) : Nat → List Bool × List (Int × Int)
  | 0 => (List.replicate rr.length false, [])
  | i + 1 => if (cyS ab rr i).1[i]? = some true then cyS ab rr i else
      (clos rr.length ab (cyS ab rr i).1 i, (cyS ab rr i).2 ++ [(((rr.getD i []).length : Int), ((cnt (clos rr.length ab (cyS ab rr i).1 i) - cnt (cyS ab rr i).1 : Nat) : Int))])
noncomputable def cyL (ab : List Int) (rr : List (List Int)) : List (Int × Int) := (cyS ab rr rr.length).2
theorem cyS_yes {ab : List Int} {rr : List (List Int)} {i : Nat} (h : (cyS ab rr i).1[i]? = some true) : cyS ab rr (i + 1) = cyS ab rr i := by rw [cyS, if_pos h]
theorem cyS_no {ab : List Int} {rr : List (List Int)} {i : Nat} (h : (cyS ab rr i).1[i]? = some false) : cyS ab rr (i + 1) = (clos rr.length ab (cyS ab rr i).1 i, (cyS ab rr i).2 ++ [(((rr.getD i []).length : Int), ((cnt (clos rr.length ab (cyS ab rr i).1 i) - cnt (cyS ab rr i).1 : Nat) : Int))]) := by
  rw [cyS, if_neg (by rw [h]; simp)]
theorem cyS_ok {ab : List Int} {rr : List (List Int)} (h : Inj rr.length ab) : ∀ i, i ≤ rr.length → (cyS ab rr i).1.length = rr.length ∧ Closed rr.length ab (on (cyS ab rr i).1) ∧ (cyS ab rr i).2.length ≤ i
  | 0, _ => by
    refine ⟨by simp [cyS], fun i x hi hx => ?_, by simp [cyS]⟩
    have hn : ∀ j, ¬ on (cyS ab rr 0).1 j := fun j q => by
      unfold on at q
      simp only [cyS, List.getElem?_replicate] at q
      split at q <;> simp at q
    exact ⟨fun q => absurd q (hn _), fun q => absurd q (hn _)⟩
  | i + 1, hi => by
    obtain ⟨a, b, c⟩ := cyS_ok h i (by omega)
    by_cases q : (cyS ab rr i).1[i]? = some true
    · rw [cyS_yes q]; exact ⟨a, b, by omega⟩
    · rw [cyS_no (not_on (by omega) q)]
      exact ⟨clos_len _ _ _ _, clos_closed h _ _, by simp; omega⟩
end Go.Proofs.YtpbbfbpggedgpaaDoor.cy
