/-
  AreaOf: a list of cylinders that came in; contracts of the laws' helpers, of the specification and of the program.
-/
import Derived.Test.YtglpiopjhddoeaaY15
import Derived.Test.YtglpiopjhddoeaaY02
import Derived.Deep.SlicePairs
namespace Go.Proofs.Ytglpiopjhddoeaa.cy
open Go.ChangeShapes Go.WideShapes Go.ChangeAt Go.RowKit Go.Deep
open Go.Proofs.Ytglpiopjhddoeaa.mem Go.Proofs.Ytglpiopjhddoeaa.ints Go.Proofs.Ytglpiopjhddoeaa.arr Go.Proofs.Ytglpiopjhddoeaa.sf Go.Proofs.Ytglpiopjhddoeaa.lp
set_option linter.unusedVariables false
set_option maxRecDepth 100000

theorem fl_ofFn (n : Nat) (f : Nat → Cy) : ∀ j, j < n * 2 → (fl ((List.range n).map f))[j]? = some (if j % 2 = 0 then (f (j / 2)).1 else (f (j / 2)).2) := by
  intro j hj
  have hk : j / 2 < n := by omega
  have hx : ((List.range n).map f)[j / 2]? = some (f (j / 2)) := by simp [hk]
  obtain ⟨a, b⟩ := fl_at hx
  rcases Nat.mod_two_eq_zero_or_one j with h | h
  · rw [if_pos h, ← a]; congr 1; omega
  · rw [if_neg (by omega), ← b]; congr 1; omega

theorem open_Z {H : Type} {enc : TypeId × Value → H} {P : Program} {W : World} {t e : TypeId} {f0 f1 : Field} {A : Option Addr} {n c : Nat} {d : DataW H} {ps : List MemPlace}
    (ht : P.underlying t = some (.slice e)) (he : P.underlying e = some (.struct #[f0, f1])) (ce : P.cellsOf e = 2) (o0 : f0.offset = 0) (o1 : f1.offset = 1) (c0 : P.cellsOf f0.type = 1) (c1 : P.cellsOf f1.type = 1)
    (i0 : P.underlying f0.type = some (.int .i64)) (i1 : P.underlying f1.type = some (.int .i64)) (h : DataW.Trod enc P W 0 (fun _ => true) true t (.slice A n c) d ps) :
    ∃ L : List Cy, Crd W W.heap.size A n L ∧ n ≤ c ∧ c ≤ maxLen := by
  obtain ⟨fuel, hf⟩ := h
  rcases open_slice_pairs ht he ce o0 o1 c0 c1 hf with ⟨hcs, _⟩ | ⟨a, len, cap, m, q, V0, V1, D0, D1, P0, P1, hcs, _, hl, hm, hmm, _, hx⟩
  · simp [Value.cells] at hcs
    obtain ⟨rfl, rfl, rfl⟩ := hcs
    exact ⟨[], ⟨rfl, rfl, Nat.le_refl _, fun h => absurd h (by omega)⟩, Nat.le_refl _, by simp⟩
  · simp [Value.cells] at hcs
    obtain ⟨rfl, rfl, rfl⟩ := hcs
    have hmc : m = c := by simpa using hmm
    have each : ∀ i, i < m → ∃ z : Cy, W.cell? (a.add (i * 2)) = some (.int .i64 z.1) ∧ W.cell? (a.add (i * 2 + 1)) = some (.int .i64 z.2) := by
      intro i hi
      obtain ⟨h0, h1, t0, t1⟩ := hx i hi
      obtain ⟨z0, y0, _⟩ := DataW.trod_int i0 t0
      obtain ⟨z1, y1, _⟩ := DataW.trod_int i1 t1
      have e0 : V0 i = .int .i64 z0 := by simpa using y0
      have e1 : V1 i = .int .i64 z1 := by simpa using y1
      exact ⟨(z0, z1), by rw [h0, e0], by rw [h1, e1]⟩
    obtain ⟨f, hfz⟩ := choose_lt each
    refine ⟨(List.range n).map f, ⟨by simp, Rd.of_cells (by simp [V, fl_len]) (fun j hj => ?_)⟩, hl, hm⟩
    have hx2 := fl_ofFn n f j hj
    obtain ⟨g0, g1⟩ := hfz (j / 2) (by omega)
    rcases Nat.mod_two_eq_zero_or_one j with hh | hh
    · rw [if_pos hh] at hx2
      rw [V_get hx2, ← g0]; congr 2; omega
    · rw [if_neg (by omega)] at hx2
      rw [V_get hx2, ← g1]; congr 2; omega

theorem szC_any (A : Option Addr) (n c : Nat) (l : Int) (w : World) (h1 : (n : Int) ≤ 9223372036854775807) (h2 : 0 ≤ l) (h3 : l ≤ 1048576) :
    Calls Try.prog 28 #[.slice A n c, .int .i64 l] w fun e w' => e = .returned (.int .i64 (if l < (n : Int) then -1 else l - n)) ∧ Below w.heap.size w w' := by
  by_cases hl : l < n
  · have hh : decide (l - (n : Int) < 0) = true := by simp; omega
    rw [if_pos hl]
    clear hl
    go_enter Try.func28, Try.ntmps28
    go_wp2
    go_ret
    exact ⟨rfl, Below.refl _ _⟩
  · have hh : decide (l - (n : Int) < 0) = false := by simp; omega
    rw [if_neg hl]
    have a1 : 0 ≤ l - (n : Int) := by omega
    clear hl
    go_enter Try.func28, Try.ntmps28
    go_wp2
    go_ret
    exact ⟨rfl, Below.refl _ _⟩
theorem toC1_any (a b : Int) (w : World) : Calls Try.prog 56 #[.agg #[.int .i64 a, .int .i64 b]] w fun e w' => e = .returned (.agg #[.int .i64 a, .int .i64 b]) ∧ Below w.heap.size w w' := by
  go_enter Try.func56, Try.ntmps56
  go_wp2
  exact bodyPost_ret (v := .agg #[.int .i64 a, .int .i64 b]) (results_cell_row rfl _ _ (w.heap.size + 1) 34 #[.int .i64 a, .int .i64 b] (0, 0) _ rfl ((Arr.new _ [.int .i64 a, .int .i64 b] 34 (by simp)).alloc _) Try.underlying34 rfl (sizeCy _ _)) rfl ⟨rfl, (((Below.refl _ _).alloc (Nat.le_refl _) _).alloc (by simp) _).alloc (by simp; omega) _⟩

theorem own_keepB {w w' : World} {base B : Nat} {e : TypeId} {size n : Nat} {v : Value} {xs : List Value} (h : w.ownsRow base e size v n xs) (hb : Below B w w') (hB : ∀ b, v.ownBlock = some b → b < B) : w'.ownsRow base e size v n xs := by
  refine ⟨h.1, ?_⟩
  rcases h.2 with h0 | ⟨g, cap, cur, h1, h2, h3, h4⟩
  · exact .inl h0
  · refine .inr ⟨g, cap, cur, h1, h2, ?_, h4⟩
    rw [hb.block g (hB g (by subst h1; rfl))]
    exact h3
theorem own_lt {a b c : Nat} (h : a = b) (k : a < c) : b < c := h ▸ k
def CpRel (L : List Cy) (n : Nat) (w wr : World) (j : Nat) : Prop := ∃ ys, wr.ownsRow w.heap.size 34 2 (.slice (some ⟨w.heap.size, 0, none⟩) n n) n ys ∧ Upto ys (fl L) (j * 2) ∧ Below w.heap.size w wr
theorem lawcy (a b : Value) : (Try.prog.info? 83).map (·.size) = some [a, b].length := by
  have : (Try.prog.info? 83).map (·.size) = some 2 := by kernel_rfl
  simpa using this
theorem two_set (w : World) (g o : Nat) (a b : Value) : w.setCells g o [a, b] = (w.setCell ⟨g, o, none⟩ a).setCell ⟨g, o + 1, none⟩ b := rfl
theorem Crow.of_own {w : World} {base : Nat} {e : TypeId} {A : Option Addr} {n c : Nat} {L : List Cy} (hl : L.length = n) (h : w.ownsRow base e 2 (.slice A n c) n (V (fl L))) : Crow w base w.heap.size A n L := by
  refine ⟨hl, by simp [V, fl_len, hl], Nat.le_refl _, fun hn => ?_⟩
  have hlen := h.1
  rcases h.2 with ⟨hv, h0⟩ | ⟨g, cap, cur, hv, hb, hh, r⟩
  · omega
  · injection hv with hA hn' hc'
    subst hA; subst hc'
    have hlt : g < w.heap.size := by
      rcases Nat.lt_or_ge g w.heap.size with hlt | hge
      · exact hlt
      · rw [Array.getElem?_eq_none hge] at hh; cases hh
    refine ⟨g, 0, rfl, hb, hlt, fun j hj => ?_⟩
    rw [Nat.zero_add]
    exact ⟨h.cellAt j (by omega), h.frozenAt j⟩

set_option maxHeartbeats 1000000 in
theorem toC_any (A : Option Addr) (n c : Nat) (L : List Cy) (hi : Nat) (w : World) (hx : Crd w hi A n L) (hn : n ≤ 1048576) :
    Calls Try.prog 30 #[.slice A n c] w fun e w' => e = .returned (.slice (some ⟨w.heap.size, 0, none⟩) n n) ∧ Crow w' w.heap.size w'.heap.size (some ⟨w.heap.size, 0, none⟩) n L ∧ Below w.heap.size w w' := by
  obtain ⟨i0, hi0, hz0, hz1, hz2⟩ := info_parts infoCy
  have LX : Hid (L.length = n) := Lib.hid hx.1
  have HX := Lib.hid hx; clear hx
  have HZ2 := Lib.hid hz2; clear hz2
  go_enter Try.func30, Try.ntmps30
  go_wp2_with (at_make; refine wpList_make_full _ rfl _ _ 27 rfl w.heap.size 34 i0 _ 2 Try.underlying27 hi0 hz0 hz1 _ _ _ _ n rfl rfl rfl rfl ?b2 ?b3 (Nat.le_refl _) ?_)
  case b2 => rw [HZ2.out]; omega
  case b3 => unfold maxLen; omega
  intro w1 hown hg
  have hb1 : Below w.heap.size w w1 := (Below.refl _ _).grown hg (Nat.le_refl _) (by simp)
  have HO := Lib.hid hown; have HB := Lib.hid hb1; clear hown hg hb1
  go_wp2
  go_loopw [4] (fun i wr => ∃ j : Nat, j ≤ n ∧ i = .int .i64 j ∧ CpRel L n w wr j) (fun i _ => n - (intOf i).toNat)
  case atStart => exact ⟨0, Nat.zero_le _, rfl, _, HO.out, fun i hi => by omega, HB.out⟩
  case round =>
    obtain ⟨j, hj, rfl, hcr⟩ := hrel
    have HC := Lib.hid hcr; clear hcr
    by_cases hlt : j < n
    · obtain ⟨ys, hown, hu, hb⟩ := HC.out
      obtain ⟨g, off, s, rfl, hgl, hsk, hc0, hc1⟩ := HX.out.at_ hlt
      obtain ⟨s1, s2⟩ := s
      have hgw : g < w.heap.size := Nat.lt_of_lt_of_le hgl HX.out.top
      have hc0' : wr.cell? ⟨g, off + j * 2, none⟩ = some (.int .i64 s1) := by rw [hb.cell (p := ⟨g, off + j * 2, none⟩) hgw]; exact hc0
      have hc1' : wr.cell? ⟨g, off + j * 2 + 1, none⟩ = some (.int .i64 s2) := by rw [hb.cell (p := ⟨g, off + j * 2 + 1, none⟩) hgw]; exact hc1
      have HR := Lib.hid (two_cells hc0' hc1')
      obtain ⟨q0, q1⟩ := fl_at hsk
      have HQ0 := Lib.hid (V_get q0); have HQ1 := Lib.hid (V_get q1)
      have HOW := Lib.hid hown; have HU := Lib.hid hu; have HBB := Lib.hid hb
      have hsw : w.heap.size < wr.heap.size := by
        rcases hown.2 with ⟨hv, h0⟩ | ⟨g', cap, cur, hv, _, hh, _⟩
        · omega
        · injection hv with hA _ _; injection hA with hA; injection hA with hA
          rw [hA]
          rcases Nat.lt_or_ge g' wr.heap.size with q | q
          · exact q
          · rw [Array.getElem?_eq_none q] at hh; cases hh
      clear hown hu hb hsk hc0 hc1 hc0' hc1' q0 q1 HC
      go_wp2_with (refine wpList_load_mid rfl 83 _ rfl g (off + j * 2) rfl [.int .i64 s1, .int .i64 s2] _ HR.out Try.underlying83 rfl (lawcy _ _) ?_)
      refine (toC1_any s1 s2 _).mono ?_
      rintro e w2 ⟨rfl, b2⟩
      have HO2 := Lib.hid (own_keepB HOW.out b2 (fun b hb => own_lt (by simpa [Value.ownBlock] using hb) hsw))
      have HB2 := Lib.hid (HBB.out.trans (b2.mono HBB.out.size))
      clear b2 HOW HBB HR
      have hly : ys.length = n * 2 := HO2.out.1
      have c0 : w2.cell? ⟨w.heap.size, j * 2, none⟩ = some (ys.getD (j * 2) undef) := by
        rw [HO2.out.cellAt (j * 2) (by omega)]; simp [List.getD, List.getElem?_eq_getElem (show j * 2 < ys.length by omega)]
      have f0 := HO2.out.frozenAt (j * 2)
      have HS2 := Lib.hid (HO2.out.stored (j * 2) (.int .i64 s1)).1
      have hlz : (ys.set (j * 2) (Value.int .i64 s1)).length = n * 2 := by simp [hly]
      have c1 : (w2.setCell ⟨w.heap.size, j * 2, none⟩ (.int .i64 s1)).cell? ⟨w.heap.size, j * 2 + 1, none⟩ = some ((ys.set (j * 2) (Value.int .i64 s1)).getD (j * 2 + 1) undef) := by
        rw [HS2.out.cellAt (j * 2 + 1) (by omega), List.getD, List.getElem?_eq_getElem (show j * 2 + 1 < (ys.set (j * 2) (Value.int .i64 s1)).length by omega)]; rfl
      have f1 := HS2.out.frozenAt (j * 2 + 1)
      clear hly hlz
      go_wp2
      go_roundw
      case rel =>
        refine ⟨j + 1, by omega, by go_num, _, ((HO2.out.stored (j * 2) (.int .i64 s1)).1.stored (j * 2 + 1) (.int .i64 s2)).1, ?_, (HB2.out.setCell (Nat.le_refl _) _).setCell (Nat.le_refl _) _⟩
        have hl := HO2.out.1
        have := (HU.out.step (by omega) HQ0.out).step (by simp; omega) HQ1.out
        rw [show (j + 1) * 2 = j * 2 + 1 + 1 by omega]
        exact this
      case measure => simp [intOf]; omega
    · obtain rfl : j = n := by omega
      go_wp2
      go_ret
      obtain ⟨ys, hown, hu, hb⟩ := HC.out
      refine ⟨rfl, ?_, hb⟩
      have hy : ys = V (fl L) := hu.all (by simpa using hown.1) (by rw [fl_len, LX.out])
      rw [hy] at hown
      exact Crow.of_own LX.out hown

def areaGo : List Cy → Int → Int
  | [], s => s
  | x :: t, s => if 1 ≤ x.1 ∧ x.1 ≤ 24 ∧ 1 ≤ x.2 ∧ x.2 ≤ 24 then areaGo t (s + x.1 * x.2) else -1
def areaF (L : List Cy) : Int := if 24 < L.length then -1 else areaGo L 0
theorem area_drop {L : List Cy} {k : Nat} {x : Cy} (h : L[k]? = some x) : L.drop k = x :: L.drop (k + 1) := by
  have hk := (List.getElem?_eq_some_iff.1 h).1
  rw [List.drop_eq_getElem_cons hk]
  congr 1
  rw [List.getElem?_eq_getElem hk] at h
  exact Option.some.inj h
theorem prod_bnd {a b : Int} (h1 : 1 ≤ a) (h2 : a ≤ 24) (h3 : 1 ≤ b) (h4 : b ≤ 24) : 1 ≤ a * b ∧ a * b ≤ 576 := by
  have l1 : 1 * 1 ≤ a * b := Int.mul_le_mul h1 h3 (by omega) (by omega)
  have l2 : a * b ≤ 24 * 24 := Int.mul_le_mul h2 h4 (by omega) (by omega)
  omega
structure Ag (L : List Cy) (w wr : World) (k : Nat) (s : Int) : Prop where
  lo : 0 ≤ s
  hi : s ≤ 576 * k
  go : areaGo (L.drop k) s = areaGo L 0
  below : Below w.heap.size w wr
theorem Ag.next {L : List Cy} {w wr w' : World} {k : Nat} {s a b : Int} (h : Ag L w wr k s) (hx : L[k]? = some (a, b)) (h1 : 1 ≤ a) (h2 : a ≤ 24) (h3 : 1 ≤ b) (h4 : b ≤ 24) (hb : Below w.heap.size w w') : Ag L w w' (k + 1) (s + a * b) := by
  have := prod_bnd h1 h2 h3 h4
  refine ⟨by have := h.lo; omega, by have := h.hi; omega, ?_, hb⟩
  rw [← h.go, area_drop hx, areaGo, if_pos ⟨h1, h2, h3, h4⟩]
theorem Ag.bad {L : List Cy} {w wr : World} {k : Nat} {s a b : Int} (h : Ag L w wr k s) (hx : L[k]? = some (a, b)) (hl : L.length ≤ 24) (hn : ¬ (1 ≤ a ∧ a ≤ 24 ∧ 1 ≤ b ∧ b ≤ 24)) : areaF L = -1 := by
  rw [areaF, if_neg (by omega), ← h.go, area_drop hx, areaGo, if_neg hn]
theorem Ag.fin {L : List Cy} {w wr : World} {k : Nat} {s : Int} (h : Ag L w wr k s) (hl : L.length ≤ 24) (hk : L.length = k) : areaF L = s := by
  rw [areaF, if_neg (by omega), ← h.go, ← hk, List.drop_length]; rfl

set_option maxHeartbeats 2000000 in
theorem area_impl (A : Option Addr) (n c : Nat) (L : List Cy) (hi : Nat) (w : World) (hx : Crd w hi A n L) (hn : n ≤ 1048576) :
    Calls Try.prog 12 #[.slice A n c] w fun e w' => e = .returned (.int .i64 (areaF L)) ∧ Below w.heap.size w w' := by
  have LX : Hid (L.length = n) := Lib.hid hx.1
  have HX := Lib.hid hx; clear hx
  by_cases h24 : (24 : Int) < n
  · have HF : Hid (areaF L = -1) := Lib.hid (by rw [areaF, if_pos (by rw [LX.out]; omega)])
    go_enter Try.func12, Try.ntmps12
    go_wp2
    go_ret
    exact ⟨ret_int HF.out.symm, Below.refl _ _⟩
  · have HL : Hid (L.length ≤ 24) := Lib.hid (by rw [LX.out]; omega)
    have hn24 : n ≤ 24 := by omega
    go_enter Try.func12, Try.ntmps12
    go_wp2
    go_loopw [3, 11] (fun q i wr => ∃ (k : Nat) (s : Int), k ≤ n ∧ q = .int .i64 s ∧ i = .int .i64 k ∧ Ag L w wr k s) (fun _ i _ => n - (intOf i).toNat)
    case atStart => exact ⟨0, 0, Nat.zero_le _, rfl, rfl, by omega, by omega, rfl, Below.refl _ _⟩
    case round =>
      obtain ⟨k, s, hk, rfl, rfl, hag⟩ := hrel
      have HA := Lib.hid hag; clear hag
      have slo := HA.out.lo; have shi := HA.out.hi
      by_cases hlt : k < n
      · obtain ⟨g, off, x, rfl, hgl, hsk, hc0, hc1⟩ := (HX.out.keep (HA.out.below.mono HX.out.top) (Nat.le_refl _)).at_ hlt
        obtain ⟨a, b⟩ := x
        have HR := Lib.hid (two_cells hc0 hc1); have SK := Lib.hid hsk
        have bz := HA.out.below.size
        clear hsk hc0 hc1
        by_cases hok : 1 ≤ a ∧ a ≤ 24 ∧ 1 ≤ b ∧ b ≤ 24
        · obtain ⟨o1, o2, o3, o4⟩ := hok
          obtain ⟨p1, p2⟩ := prod_bnd o1 o2 o3 o4
          have q1 : decide (a < 1) = false := by simp; omega
          have q2 : decide (24 < a) = false := by simp; omega
          have q3 : decide (b < 1) = false := by simp; omega
          have q4 : decide (24 < b) = false := by simp; omega
          go_wp2_with (refine wpList_load_mid rfl 34 _ rfl g (off + k * 2) rfl [.int .i64 a, .int .i64 b] _ HR.out Try.underlying34 rfl (sizeCy _ _) ?_)
          go_roundw
          case rel => exact ⟨k + 1, s + a * b, by omega, by go_num, by go_num, HA.out.next SK.out o1 o2 o3 o4 (HA.out.below.alloc bz _)⟩
          case measure => simp [intOf]; omega
        · have HF := Lib.hid (HA.out.bad SK.out HL.out hok)
          by_cases h1 : a < 1
          · clear hok
            go_wp2_with (refine wpList_load_mid rfl 34 _ rfl g (off + k * 2) rfl [.int .i64 a, .int .i64 b] _ HR.out Try.underlying34 rfl (sizeCy _ _) ?_)
            go_ret
            exact ⟨ret_int HF.out.symm, HA.out.below.alloc bz _⟩
          · by_cases h2 : 24 < a
            · clear hok
              go_wp2_with (refine wpList_load_mid rfl 34 _ rfl g (off + k * 2) rfl [.int .i64 a, .int .i64 b] _ HR.out Try.underlying34 rfl (sizeCy _ _) ?_)
              go_ret
              exact ⟨ret_int HF.out.symm, HA.out.below.alloc bz _⟩
            · by_cases h3 : b < 1
              · clear hok
                go_wp2_with (refine wpList_load_mid rfl 34 _ rfl g (off + k * 2) rfl [.int .i64 a, .int .i64 b] _ HR.out Try.underlying34 rfl (sizeCy _ _) ?_)
                go_ret
                exact ⟨ret_int HF.out.symm, HA.out.below.alloc bz _⟩
              · have h4 : 24 < b := by omega
                clear hok
                go_wp2_with (refine wpList_load_mid rfl 34 _ rfl g (off + k * 2) rfl [.int .i64 a, .int .i64 b] _ HR.out Try.underlying34 rfl (sizeCy _ _) ?_)
                go_ret
                exact ⟨ret_int HF.out.symm, HA.out.below.alloc bz _⟩
      · have HE : Hid (L.length = k) := Lib.hid (by rw [LX.out]; omega)
        have HF := Lib.hid (HA.out.fin HL.out HE.out)
        go_wp2
        go_ret
        exact ⟨ret_int HF.out.symm, HA.out.below⟩

set_option maxHeartbeats 2000000 in
theorem area_spec (A : Option Addr) (n c : Nat) (L : List Cy) (hi : Nat) (w : World) (hx : Crd w hi A n L) (hn : n ≤ 1048576) :
    Calls Try.prog 29 #[.slice A n c] w fun e w' => e = .returned (.int .i64 (areaF L)) ∧ Below w.heap.size w w' := by
  have LX : Hid (L.length = n) := Lib.hid hx.1
  have HX := Lib.hid hx; clear hx
  by_cases h24 : (24 : Int) < n
  · have HF : Hid (areaF L = -1) := Lib.hid (by rw [areaF, if_pos (by rw [LX.out]; omega)])
    go_enter Try.func29, Try.ntmps29
    go_wp2
    go_ret
    exact ⟨ret_int HF.out.symm, Below.refl _ _⟩
  · have HL : Hid (L.length ≤ 24) := Lib.hid (by rw [LX.out]; omega)
    have hn24 : n ≤ 24 := by omega
    go_enter Try.func29, Try.ntmps29
    go_wp2
    go_loopw [3, 11] (fun q i wr => ∃ (k : Nat) (s : Int), k ≤ n ∧ q = .int .i64 s ∧ i = .int .i64 k ∧ Ag L w wr k s) (fun _ i _ => n - (intOf i).toNat)
    case atStart => exact ⟨0, 0, Nat.zero_le _, rfl, rfl, by omega, by omega, rfl, Below.refl _ _⟩
    case round =>
      obtain ⟨k, s, hk, rfl, rfl, hag⟩ := hrel
      have HA := Lib.hid hag; clear hag
      have slo := HA.out.lo; have shi := HA.out.hi
      by_cases hlt : k < n
      · obtain ⟨g, off, x, rfl, hgl, hsk, hc0, hc1⟩ := (HX.out.keep (HA.out.below.mono HX.out.top) (Nat.le_refl _)).at_ hlt
        obtain ⟨a, b⟩ := x
        have HR := Lib.hid (two_cells hc0 hc1); have SK := Lib.hid hsk
        have bz := HA.out.below.size
        clear hsk hc0 hc1
        by_cases hok : 1 ≤ a ∧ a ≤ 24 ∧ 1 ≤ b ∧ b ≤ 24
        · obtain ⟨o1, o2, o3, o4⟩ := hok
          obtain ⟨p1, p2⟩ := prod_bnd o1 o2 o3 o4
          go_wp2_with (first | (refine wpList_load_mid rfl 34 _ rfl g (off + k * 2) rfl [.int .i64 a, .int .i64 b] _ HR.out Try.underlying34 rfl (sizeCy _ _) ?_) | (go_at_call 55; refine (permOk.in_yes _ _ _ _ (by omega) (by omega)).mono ?_; rintro e w' ⟨rfl, rfl⟩))
          go_roundw
          case rel => exact ⟨k + 1, s + a * b, by omega, by go_num, by go_num, HA.out.next SK.out o1 o2 o3 o4 (HA.out.below.alloc bz _)⟩
          case measure => simp [intOf]; omega
        · have HF := Lib.hid (HA.out.bad SK.out HL.out hok)
          by_cases h1 : 1 ≤ a ∧ a ≤ 24
          · obtain ⟨o1, o2⟩ := h1
            have o3 : b < 1 ∨ 24 < b := by omega
            clear hok
            go_wp2_with (first | (refine wpList_load_mid rfl 34 _ rfl g (off + k * 2) rfl [.int .i64 a, .int .i64 b] _ HR.out Try.underlying34 rfl (sizeCy _ _) ?_) | (go_at_call 55; refine (permOk.in_yes _ _ _ _ (by omega) (by omega)).mono ?_; rintro e w' ⟨rfl, rfl⟩) | (go_at_call 55; refine (permOk.in_no _ _ _ _ (by omega)).mono ?_; rintro e w' ⟨rfl, rfl⟩))
            go_ret
            exact ⟨ret_int HF.out.symm, HA.out.below.alloc bz _⟩
          · have o3 : a < 1 ∨ 24 < a := by omega
            clear hok h1
            go_wp2_with (first | (refine wpList_load_mid rfl 34 _ rfl g (off + k * 2) rfl [.int .i64 a, .int .i64 b] _ HR.out Try.underlying34 rfl (sizeCy _ _) ?_) | (go_at_call 55; refine (permOk.in_no _ _ _ _ (by omega)).mono ?_; rintro e w' ⟨rfl, rfl⟩))
            go_ret
            exact ⟨ret_int HF.out.symm, HA.out.below.alloc bz _⟩
      · have HE : Hid (L.length = k) := Lib.hid (by rw [LX.out]; omega)
        have HF := Lib.hid (HA.out.fin HL.out HE.out)
        go_wp2
        go_ret
        exact ⟨ret_int HF.out.symm, HA.out.below⟩
end Go.Proofs.Ytglpiopjhddoeaa.cy
