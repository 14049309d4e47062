import Derived.Test.YtngglhbcpeigcaaY01
import Derived.Lib.SmallJoins
import Derived.RegionTactic
import Derived.BigRegion
import Derived.Deep.RegionHeld3
/-
  Surfaces in memory: a struct of two slices of ints; the laws' helpers szSurface, toSurface, eqSurface, markSurface, heldSurface.
-/
namespace Go.Proofs.Ytngglhbcpeigcaa.sf
open Go.ChangeShapes Go.WideShapes Go.ChangeAt Go.RowKit Go.Joins Go.Deep
open Go.Proofs.Ytngglhbcpeigcaa.mem Go.Proofs.Ytngglhbcpeigcaa.ints Go.Proofs.Ytngglhbcpeigcaa.arr
set_option linter.unusedVariables false
set_option maxRecDepth 100000

/-- v is a surface that reads as r, u; both rows may be written, lie apart from one another, from lo on and below hi. -/
def Svl (w : World) (lo hi : Nat) (v : Value) (r u : List Int) : Prop :=
  ∃ P n c Q m d l1 h1 l2 h2, v = .agg #[.slice P n c, .slice Q m d] ∧ Row w l1 h1 P n (V r) ∧ Row w l2 h2 Q m (V u) ∧ n ≤ c ∧ m ≤ d ∧ lo ≤ l1 ∧ h1 ≤ hi ∧ lo ≤ l2 ∧ h2 ≤ hi ∧ (h1 ≤ l2 ∨ h2 ≤ l1) ∧ hi ≤ w.heap.size
/-- The same, to be read only. -/
def Srd (w : World) (hi : Nat) (v : Value) (r u : List Int) : Prop :=
  ∃ P n c Q m d, v = .agg #[.slice P n c, .slice Q m d] ∧ Rd w hi P n (V r) ∧ Rd w hi Q m (V u) ∧ n ≤ c ∧ m ≤ d
theorem Rd.wider {w : World} {hi hi' n : Nat} {A : Option Addr} {xs : List Value} (h : Rd w hi A n xs) (h1 : hi ≤ hi') (h2 : hi' ≤ w.heap.size) : Rd w hi' A n xs :=
  ⟨h.1, h2, fun hn => by
    obtain ⟨g, off, e, hlt, hc⟩ := h.2.2 hn
    exact ⟨g, off, e, by omega, hc⟩⟩
theorem Rd.up {w : World} {hi n : Nat} {A : Option Addr} {xs : List Value} (h : Rd w hi A n xs) : Rd w w.heap.size A n xs := Rd.wider h h.2.1 (Nat.le_refl _)
theorem Svl.rd {w : World} {lo hi : Nat} {v : Value} {r u : List Int} (h : Svl w lo hi v r u) : Srd w hi v r u := by
  obtain ⟨P, n, c, Q, m, d, l1, h1, l2, h2, rfl, a, b, e1, e2, f1, f2, f3, f4, f5, f6⟩ := h
  exact ⟨P, n, c, Q, m, d, rfl, Rd.wider a.rd f2 f6, Rd.wider b.rd f4 f6, e1, e2⟩
theorem Svl.top {w : World} {lo hi : Nat} {v : Value} {r u : List Int} (h : Svl w lo hi v r u) : hi ≤ w.heap.size := by
  obtain ⟨P, n, c, Q, m, d, l1, h1, l2, h2, rfl, a, b, e1, e2, f1, f2, f3, f4, f5, f6⟩ := h
  exact f6
theorem Srd.top {w : World} {hi : Nat} {v : Value} {r u : List Int} (h : Srd w hi v r u) : hi ≤ w.heap.size := by
  obtain ⟨P, n, c, Q, m, d, rfl, a, b, e1, e2⟩ := h
  exact a.2.1
theorem Srd.up {w : World} {hi : Nat} {v : Value} {r u : List Int} (h : Srd w hi v r u) : Srd w w.heap.size v r u := by
  obtain ⟨P, n, c, Q, m, d, rfl, a, b, e1, e2⟩ := h
  exact ⟨P, n, c, Q, m, d, rfl, Rd.up a, Rd.up b, e1, e2⟩
theorem Svl.keep {w w' : World} {lo hi B : Nat} {v : Value} {r u : List Int} (h : Svl w lo hi v r u) (hb : Below B w w') (hB : hi ≤ B) : Svl w' lo hi v r u := by
  obtain ⟨P, n, c, Q, m, d, l1, h1, l2, h2, rfl, a, b, e1, e2, f1, f2, f3, f4, f5, f6⟩ := h
  exact ⟨P, n, c, Q, m, d, l1, h1, l2, h2, rfl, a.keep hb (by omega), b.keep hb (by omega), e1, e2, f1, f2, f3, f4, f5, Nat.le_trans f6 hb.size⟩
theorem Srd.keep {w w' : World} {hi B : Nat} {v : Value} {r u : List Int} (h : Srd w hi v r u) (hb : Below B w w') (hB : hi ≤ B) : Srd w' hi v r u := by
  obtain ⟨P, n, c, Q, m, d, rfl, a, b, e1, e2⟩ := h
  exact ⟨P, n, c, Q, m, d, rfl, a.keep hb hB, b.keep hb hB, e1, e2⟩
theorem Svl.out {w w' : World} {lo hi lo' hi' : Nat} {v : Value} {r u : List Int} (h : Svl w lo hi v r u) (ho : Out lo' hi' w w') (hd : hi ≤ lo' ∨ hi' ≤ lo) : Svl w' lo hi v r u := by
  obtain ⟨P, n, c, Q, m, d, l1, h1, l2, h2, rfl, a, b, e1, e2, f1, f2, f3, f4, f5, f6⟩ := h
  exact ⟨P, n, c, Q, m, d, l1, h1, l2, h2, rfl, a.out ho (by omega), b.out ho (by omega), e1, e2, f1, f2, f3, f4, f5, Nat.le_trans f6 ho.size⟩
theorem Svl.later {w : World} {lo lo' hi : Nat} {v : Value} {r u : List Int} (h : Svl w lo hi v r u) (hl : lo' ≤ lo) : Svl w lo' hi v r u := by
  obtain ⟨P, n, c, Q, m, d, l1, h1, l2, h2, rfl, a, b, e1, e2, f1, f2, f3, f4, f5, f6⟩ := h
  exact ⟨P, n, c, Q, m, d, l1, h1, l2, h2, rfl, a, b, e1, e2, by omega, f2, by omega, f4, f5, f6⟩
theorem Svl.wide {w : World} {lo hi : Nat} {v : Value} {r u : List Int} (h : Svl w lo hi v r u) : Svl w lo w.heap.size v r u := by
  obtain ⟨P, n, c, Q, m, d, l1, h1, l2, h2, rfl, a, b, e1, e2, f1, f2, f3, f4, f5, f6⟩ := h
  exact ⟨P, n, c, Q, m, d, l1, h1, l2, h2, rfl, a, b, e1, e2, f1, by omega, f3, by omega, f5, Nat.le_refl _⟩
theorem Svl.nil (w : World) (lo hi : Nat) (h : hi ≤ w.heap.size) (hl : lo ≤ hi) : Svl w lo hi (.agg #[.slice none 0 0, .slice none 0 0]) [] [] :=
  ⟨none, 0, 0, none, 0, 0, lo, lo, lo, lo, rfl, ⟨rfl, by omega, fun h => absurd h (by omega)⟩, ⟨rfl, by omega, fun h => absurd h (by omega)⟩, Nat.le_refl _, Nat.le_refl _, Nat.le_refl _, hl, Nat.le_refl _, hl, .inl (Nat.le_refl _), h⟩
theorem own_cap {w : World} {base : Nat} {e : TypeId} {n n' c : Nat} {A : Option Addr} {xs : List Value} (h : w.ownsRow base e 1 (.slice A n' c) n xs) : n' = n ∧ n ≤ c := by
  rcases h.2 with ⟨q, rfl⟩ | ⟨g, cap, cur, q, _, _, hc, _⟩
  · injection q with _ q2 q3; subst q2; subst q3; exact ⟨rfl, Nat.le_refl _⟩
  · injection q with _ q2 q3; subst q2; subst q3; exact ⟨rfl, hc⟩
theorem _root_.Go.Proofs.Ytngglhbcpeigcaa.mem.Out.row_ {lo hi g : Nat} {w w' : World} (h : Out lo hi w w') (h1 : lo ≤ g) (h2 : g < hi) (cs : Array Value) : Out lo hi w (w'.setRow g cs) :=
  ⟨h.os, h.tape, h.output, by simpa using h.size, fun k hk hne => (setRow_other w' g k cs (by omega)).trans (h.block k hk hne)⟩
theorem _root_.Go.Proofs.Ytngglhbcpeigcaa.arr.Arr.out {w w' : World} {g lo hi : Nat} {cs : List Value} {t : TypeId} (h : Arr w g cs t) (ho : Out lo hi w w') (hd : g < lo ∨ hi ≤ g) : Arr w' g cs t :=
  (ho.block g h.lt hd).trans h
/-- Two rows of the call's own, one made behind the other. -/
theorem Svl.mk2 {w : World} {lo l2 : Nat} {P Q : Option Addr} {n c m d : Nat} {r u : List Int} (a : Row w lo l2 P n (V r)) (b : Row w l2 w.heap.size Q m (V u)) (hl : lo ≤ l2) (e1 : n ≤ c) (e2 : m ≤ d) : Svl w lo w.heap.size (.agg #[.slice P n c, .slice Q m d]) r u :=
  ⟨P, n, c, Q, m, d, lo, l2, l2, w.heap.size, rfl, a, b, e1, e2, Nat.le_refl _, a.2.1, hl, Nat.le_refl _, .inl (Nat.le_refl _), Nat.le_refl _⟩
theorem Svl.len {w : World} {lo hi : Nat} {v : Value} {r u : List Int} (h : Svl w lo hi v r u) : ∃ P c Q d, v = .agg #[.slice P r.length c, .slice Q u.length d] := by
  obtain ⟨P, n, c, Q, m, d, l1, h1, l2, h2, rfl, a, b, e1, e2, f1, f2, f3, f4, f5, f6⟩ := h
  have q1 : r.length = n := by simpa [V] using a.1
  have q2 : u.length = m := by simpa [V] using b.1
  subst q1; subst q2
  exact ⟨P, c, Q, d, rfl⟩
theorem Svl.lens {w : World} {lo hi : Nat} {v : Value} {r u : List Int} (h : Svl w lo hi v r u) {n m : Nat} (h1 : r.length = n) (h2 : u.length = m) : ∃ P c Q d, v = .agg #[.slice P n c, .slice Q m d] := by
  subst h1; subst h2; exact h.len

set_option maxHeartbeats 400000 in
theorem sz_any (P : Option Addr) (n c : Nat) (Q : Option Addr) (m d : Nat) (l : Int) (w : World) (h1 : (n : Int) ≤ 9223372036854775807) (h1' : (m : Int) ≤ 9223372036854775807) (h2 : 0 ≤ l) (h3 : l ≤ 1048576) :
    Calls Try.prog 19 #[.agg #[.slice P n c, .slice Q m d], .int .i64 l] w fun e w' => e = .returned (.int .i64 (if l < (n : Int) + m then -1 else l - n - m)) ∧ Below w.heap.size w w' := by
  by_cases hl : l < n
  · have hh : decide (l - (n : Int) < 0) = true := by simp; omega
    rw [if_pos (by omega)]
    clear hl
    go_enter Try.func19, Try.ntmps19
    go_wp2
    go_ret
    exact ⟨rfl, (Below.refl _ _).alloc (Nat.le_refl _) _⟩
  · have hh : decide (l - (n : Int) < 0) = false := by simp; omega
    by_cases hl2 : l - n < m
    · rw [if_pos (by omega)]
      have hh2 : decide (l - (n : Int) - m < 0) = true := by simp; omega
      have a1 : 0 ≤ l - (n : Int) := by omega
      clear hl hl2
      go_enter Try.func19, Try.ntmps19
      go_wp2
      go_ret
      exact ⟨rfl, (Below.refl _ _).alloc (Nat.le_refl _) _⟩
    · rw [if_neg (by omega)]
      have hh2 : decide (l - (n : Int) - m < 0) = false := by simp; omega
      have a1 : 0 ≤ l - (n : Int) := by omega
      have a2 : 0 ≤ l - (n : Int) - m := by omega
      clear hl hl2
      go_enter Try.func19, Try.ntmps19
      go_wp2
      go_ret
      exact ⟨rfl, (Below.refl _ _).alloc (Nat.le_refl _) _⟩

set_option maxHeartbeats 1000000 in
theorem toS_any (v : Value) (r u : List Int) (hi : Nat) (w : World) (hx : Srd w hi v r u) (hn : r.length ≤ 1048576) (hm : u.length ≤ 1048576) :
    Calls Try.prog 21 #[v] w fun e w' => ∃ g, e = .returned g ∧ Svl w' w.heap.size w'.heap.size g r u ∧ Below w.heap.size w w' := by
  obtain ⟨P, n, c, Q, m, d, rfl, rp, rq, e1, e2⟩ := hx
  have q1 : r.length = n := by simpa [V] using rp.1
  have q2 : u.length = m := by simpa [V] using rq.1
  have RP := Lib.hid rp; have RQ := Lib.hid rq; clear rp rq
  have HI := RP.out.2.1
  go_enter Try.func21, Try.ntmps21
  go_wp2_with fail
  refine (to_any P n c r hi _ (RP.out.keep ((((Below.refl hi w).alloc HI _).alloc (by simp <;> omega) _).alloc (by simp <;> omega) _) (Nat.le_refl _)) (by omega)).mono ?_
  rintro e w1 ⟨rfl, o1, b1⟩
  have hs1 : w.heap.size + 1 + 1 + 1 ≤ w1.heap.size := by have := b1.size; simpa using this
  have A1 := Lib.hid ((((Arr.new w [.slice P n c, .slice Q m d] 46 rfl).alloc _).alloc _).keep b1 (by simp <;> omega))
  have A2 := Lib.hid (((Arr.new _ [.slice none 0 0, .slice none 0 0] 28 (g := w.heap.size + 1) (by simp <;> omega)).alloc _).keep b1 (by simp <;> omega))
  have A3 := Lib.hid ((Arr.new _ [.slice none 0 0, .slice none 0 0] 28 (g := w.heap.size + 1 + 1) (by simp <;> omega)).keep b1 (by simp <;> omega))
  have c1 := A1.out.cell (k := 1) rfl
  have c3 := A3.out.cell (k := 0) rfl
  have f3 := A3.out.frozen 0
  have R1 := Lib.hid (Row.of_own o1)
  have B1 : Hid (Below w.heap.size w w1) := Lib.hid (((((Below.refl _ _).alloc (Nat.le_refl _) _).alloc (by simp <;> omega) _).alloc (by simp <;> omega) _).trans (b1.mono (by simp <;> omega)))
  clear b1 o1
  go_wp2_with fail
  refine (to_any Q m d u hi _ (RQ.out.keep ((B1.out.setCell (by simp <;> omega) _).mono (by omega)) (Nat.le_refl _)) (by omega)).mono ?_
  rintro e w2 ⟨rfl, o2, b2⟩
  have hs2 : w1.heap.size ≤ w2.heap.size := by have := b2.size; simpa using this
  have A3' := Lib.hid ((A3.out.set_ 0 _).keep b2 (by simp <;> omega))
  have A2' := Lib.hid ((A2.out.other (by omega) _).keep b2 (by simp <;> omega))
  clear A3 c3 f3
  have c3 := A3'.out.cell (k := 1) rfl
  have f3 := A3'.out.frozen 1
  have R2 := Lib.hid (Row.of_own o2)
  have R1' := Lib.hid ((R1.out.out (Out.set_ (off := 0) (g := w.heap.size + 1 + 1) (lo := w.heap.size) (hi := w.heap.size + 1 + 1 + 1) (Out.refl _ _ _) (by omega) (by omega) _) (.inr (by simp))).keep b2 (by simp))
  have B2 : Hid (Below w.heap.size w w2) := Lib.hid ((B1.out.setCell (by simp <;> omega) _).trans (b2.mono (by simp <;> omega)))
  clear b2 o2
  have N3 := Lib.hid (A3'.out.set_ 1 (.slice (some ⟨w1.heap.size, 0, none⟩) m m))
  have N2 := Lib.hid (A2'.out.other (g' := w.heap.size + 1 + 1) (k := 1) (by omega) (.slice (some ⟨w1.heap.size, 0, none⟩) m m))
  have hS : (Try.prog.info? 28).map (·.size) = some 2 := by kernel_rfl
  go_wp2_with (first | (refine wpList_load_row rfl 28 _ rfl (w.heap.size + 1 + 1) rfl 28 #[.slice (some ⟨w.heap.size + 1 + 1 + 1, 0, none⟩) n n, .slice (some ⟨w1.heap.size, 0, none⟩) m m] (0, 0) _ N3.out Try.underlying28 rfl hS ?_) | (refine wpList_store_row rfl 28 _ _ rfl (w.heap.size + 1) #[.slice (some ⟨w.heap.size + 1 + 1 + 1, 0, none⟩) n n, .slice (some ⟨w1.heap.size, 0, none⟩) m m] rfl rfl 28 #[.slice none 0 0, .slice none 0 0] N2.out hS rfl (by simp [Value.oneCell']) ?_))
  refine bodyPost_ret (v := .agg #[.slice (some ⟨w.heap.size + 1 + 1 + 1, 0, none⟩) n n, .slice (some ⟨w1.heap.size, 0, none⟩) m m]) (results_cell_row rfl _ _ (w.heap.size + 1) 28 #[.slice (some ⟨w.heap.size + 1 + 1 + 1, 0, none⟩) n n, .slice (some ⟨w1.heap.size, 0, none⟩) m m] (0, 0) _ rfl N2.out.row Try.underlying28 rfl hS) rfl ⟨_, rfl, ?_, below_setRow (B2.out.setCell (by simp <;> omega) _) (by omega) _⟩
  have oo : Out w.heap.size (w.heap.size + 1 + 1 + 1) w2 ((w2.setCell ⟨w.heap.size + 1 + 1, 1, none⟩ (.slice (some ⟨w1.heap.size, 0, none⟩) m m)).setRow (w.heap.size + 1) #[.slice (some ⟨w.heap.size + 1 + 1 + 1, 0, none⟩) n n, .slice (some ⟨w1.heap.size, 0, none⟩) m m]) :=
    ((Out.refl w.heap.size (w.heap.size + 1 + 1 + 1) w2).set_ (by omega) (by omega) _).row_ (by omega) (by omega) _
  have a := R1'.out.out oo (.inr (by simp <;> omega))
  have b := R2.out.out oo (.inr (by simp <;> omega))
  have hz := oo.size
  exact ⟨_, n, n, _, m, m, w.heap.size + 1 + 1 + 1, w1.heap.size, w1.heap.size, w2.heap.size, rfl, by simpa using a, by simpa using b, Nat.le_refl _, Nat.le_refl _, by omega, by omega, by omega, by omega, .inl (Nat.le_refl _), by omega⟩

set_option maxHeartbeats 400000 in
theorem eqS_any (x y : Value) (r u r' u' : List Int) (h1 h2 : Nat) (w : World) (hx : Srd w h1 x r u) (hy : Srd w h2 y r' u') (hn : r.length ≤ 1048576) (hm : u.length ≤ 1048576) (hn' : r'.length ≤ 1048576) (hm' : u'.length ≤ 1048576) :
    Calls Try.prog 22 #[x, y] w fun e w' => e = .returned (.bool (eqi r r' && eqi u u')) ∧ Below w.heap.size w w' := by
  obtain ⟨P, n, c, Q, m, d, rfl, rp, rq, _, _⟩ := hx
  obtain ⟨P', n', c', Q', m', d', rfl, rp', rq', _, _⟩ := hy
  have q1 : r.length = n := by simpa [V] using rp.1
  have q2 : u.length = m := by simpa [V] using rq.1
  have q1' : r'.length = n' := by simpa [V] using rp'.1
  have q2' : u'.length = m' := by simpa [V] using rq'.1
  have RP := Lib.hid rp; have RQ := Lib.hid rq; have RP' := Lib.hid rp'; have RQ' := Lib.hid rq'; clear rp rq rp' rq'
  have HI := RP.out.2.1; have HI' := RP'.out.2.1
  have B1 : Hid (∀ a b, Below w.heap.size w ((w.alloc a).alloc b)) := Lib.hid (fun a b => ((Below.refl _ _).alloc (Nat.le_refl _) _).alloc (by simp <;> omega) _)
  go_enter Try.func22, Try.ntmps22
  go_wp2_with fail
  refine (eq_any P n c P' n' c' r r' _ _ _ (RP.out.keep (B1.out _ _) HI) (RP'.out.keep (B1.out _ _) HI') (by unfold maxLen; omega) (by unfold maxLen; omega)).mono ?_
  rintro e w1 ⟨rfl, d1⟩
  by_cases hh : eqi r r' = true
  · rw [hh]
    have D1 := Lib.hid d1; clear d1
    have c1 := (((Arr.new w [.slice P n c, .slice Q m d] 28 rfl).alloc (.cells #[.slice P' n' c', .slice Q' m' d'] 28)).keep (D1.out.below (w.heap.size + 2)) (by omega)).cell (k := 1) rfl
    have c2 := ((Arr.new (w.alloc (.cells #[.slice P n c, .slice Q m d] 28)) [.slice P' n' c', .slice Q' m' d'] 28 (g := w.heap.size + 1) (by simp <;> omega)).keep (D1.out.below (w.heap.size + 2)) (by omega)).cell (k := 1) rfl
    go_wp2_with fail
    refine (eq_any Q m d Q' m' d' u u' _ _ _ (RQ.out.keep ((B1.out _ _).trans (D1.out.below _)) HI) (RQ'.out.keep ((B1.out _ _).trans (D1.out.below _)) HI') (by unfold maxLen; omega) (by unfold maxLen; omega)).mono ?_
    rintro e w2 ⟨rfl, d2⟩
    have BB : Hid (Below w.heap.size w w2) := Lib.hid (((B1.out _ _).trans (D1.out.below _)).trans (d2.below _))
    clear d2
    have HH := Lib.hid hh; clear hh
    cases hq : eqi u u' <;> (have HQ := Lib.hid hq; clear hq; go_wp2_with fail; go_ret; exact ⟨ret_bool (by rw [HH.out, HQ.out]; rfl), BB.out⟩)
  · have hf : eqi r r' = false := by simpa using hh
    rw [hf]
    have BB : Hid (Below w.heap.size w w1) := Lib.hid ((B1.out _ _).trans (d1.below _))
    have HH := Lib.hid hf; clear d1 hf hh
    go_wp2_with fail
    go_ret
    exact ⟨ret_bool (by rw [HH.out]; rfl), BB.out⟩

theorem open_cell {H : Type} {enc : TypeId × Value → H} {P : Program} {W : World} {t e : TypeId} {v : Value} {y : DataW H × List MemPlace} {fuel : Nat}
    (ht : P.underlying t = some (.slice e)) (he : P.underlying e = some (.int .i64)) (hc : P.cellsOf e = 1) (h : DataW.trod enc P W 0 (fun _ => true) true fuel t [v] = some y) :
    ∃ A n c, ∃ xs : List Int, v = .slice A n c ∧ Rd W W.heap.size A n (V xs) ∧ n ≤ c ∧ c ≤ maxLen := by
  rcases open_ints ht he hc h with ⟨hcs, _⟩ | ⟨x, l, cap, ss, hcs, _, hl, hm, hz, _, hcell, hwz⟩
  · simp at hcs
    subst hcs
    exact ⟨none, 0, 0, [], rfl, ⟨rfl, Nat.le_refl _, fun h => absurd h (by omega)⟩, Nat.le_refl _, by simp⟩
  · simp at hcs
    subst hcs
    have hz' : ss.length = cap := by simpa using hz
    refine ⟨some x, l, cap, ss.take l, rfl, Rd.of_cells (by simp [V]; omega) (fun i hi => ?_), hl, hm⟩
    rw [hcell i (by omega)]
    simp [V, hi, List.getD, List.getElem?_eq_getElem (show i < ss.length by omega)]
/-- A struct of two slices of ints that came in. -/
theorem open_S {H : Type} {enc : TypeId × Value → H} {P : Program} {W : World} {r : Reach} {b0 : Nat} {t : TypeId} {f0 f1 : Field} {v : Value} {d : DataW H} {p : List MemPlace} {e : TypeId} (hs : P.underlying t = some (.struct #[f0, f1])) (hone : oneCellFields P #[f0, f1] = true) (hC : P.cellsOf t = 2)
    (ht0 : P.underlying f0.type = some (.slice e)) (ht1 : P.underlying f1.type = some (.slice e)) (he : P.underlying e = some (.int .i64)) (hc : P.cellsOf e = 1)
    (hv : Value.okWide P W r b0 t v) (h : DataW.Trod enc P W 0 (fun _ => true) true t v d p) :
    ∃ r u : List Int, Srd W W.heap.size v r u ∧ r.length ≤ maxLen ∧ u.length ≤ maxLen := by
  obtain ⟨v0, v1, y0, y1, n, rfl, _, _, h0, h1⟩ := open_agg2 hs hone hC hv h
  obtain ⟨A, l, c, xs, rfl, rd, hl, hm⟩ := open_cell ht0 he hc h0
  obtain ⟨B, l', c', ys, rfl, rd', hl', hm'⟩ := open_cell ht1 he hc h1
  have q1 : xs.length = l := by simpa [V] using rd.1
  have q2 : ys.length = l' := by simpa [V] using rd'.1
  exact ⟨xs, ys, ⟨A, l, c, B, l', c', rfl, rd, rd', hl, hl'⟩, by omega, by omega⟩
end Go.Proofs.Ytngglhbcpeigcaa.sf

/-
  What a region that draws its order holds on to: boxes that no step of it touches.
-/
namespace Go.Proofs.Ytngglhbcpeigcaa.sf
open Go.ChangeShapes Go.WideShapes Go.ChangeAt Go.RowKit
open Go.Proofs.Ytngglhbcpeigcaa.mem Go.Proofs.Ytngglhbcpeigcaa.ints Go.Proofs.Ytngglhbcpeigcaa.arr
set_option linter.unusedVariables false
set_option maxRecDepth 100000

/-- The blocks bs hold what they held, all below base is as in w, and 'top' blocks are there. -/
structure Hld (base top : Nat) (w : World) (bs : List (Nat × List Value)) (w' : World) : Prop where
  at_ : ∀ p ∈ bs, p.1 < top ∧ w'.rangeAt p.1 0 p.2
  below : Below base w w'
  size : top ≤ w'.heap.size
theorem Hld.start1 {w : World} {a : Nat} {xs : List Value} {t : TypeId} (h1 : Arr w a xs t) : Hld w.heap.size w.heap.size w [(a, xs)] w.drew :=
  ⟨fun p hp => by
    simp only [List.mem_cons, List.not_mem_nil, or_false] at hp
    subst hp
    exact ⟨h1.lt, fun j v hv => by rw [Nat.zero_add]; exact h1.cell hv⟩,
    ⟨rfl, rfl, rfl, Nat.le_refl _, fun _ _ => rfl⟩, Nat.le_refl _⟩
theorem Hld.start2 {w : World} {a b : Nat} {xs ys : List Value} {t t' : TypeId} (h1 : Arr w a xs t) (h2 : Arr w b ys t') : Hld w.heap.size w.heap.size w [(a, xs), (b, ys)] w.drew :=
  ⟨fun p hp => by
    simp only [List.mem_cons, List.not_mem_nil, or_false] at hp
    rcases hp with rfl | rfl
    · exact ⟨h1.lt, fun j v hv => by rw [Nat.zero_add]; exact h1.cell hv⟩
    · exact ⟨h2.lt, fun j v hv => by rw [Nat.zero_add]; exact h2.cell hv⟩,
    ⟨rfl, rfl, rfl, Nat.le_refl _, fun _ _ => rfl⟩, Nat.le_refl _⟩
theorem Hld.fst {base top a : Nat} {w W : World} {xs : List Value} {l : List (Nat × List Value)} (h : Hld base top w ((a, xs) :: l) W) : W.rangeAt a 0 xs := (h.at_ _ (List.mem_cons_self ..)).2
theorem Hld.snd {base top a : Nat} {w W : World} {xs : List Value} {p : Nat × List Value} {l : List (Nat × List Value)} (h : Hld base top w (p :: (a, xs) :: l) W) : W.rangeAt a 0 xs := (h.at_ (a, xs) (by simp)).2
theorem Hld.later {base top : Nat} {w W W' : World} {bs : List (Nat × List Value)} (h : Hld base top w bs W) (hB : Below W.heap.size W W') (hb : base ≤ top) : Hld base top w bs W' :=
  ⟨fun p hp => ⟨(h.at_ p hp).1, fun j v hv => by rw [hB.cell (p := ⟨p.1, 0 + j, none⟩) (show p.1 < _ from Nat.lt_of_lt_of_le (h.at_ p hp).1 h.size)]; exact (h.at_ p hp).2 j v hv⟩,
    h.below.trans (hB.mono (Nat.le_trans hb h.size)), Nat.le_trans h.size hB.size⟩
theorem sizeS (a b : Value) : (Try.prog.info? 28).map (·.size) = some [a, b].length := by kernel_rfl
theorem sizeL (a b : Value) : (Try.prog.info? 46).map (·.size) = some [a, b].length := by kernel_rfl
theorem size2 : (Try.prog.info? 28).map (·.size) = some 2 := by kernel_rfl
end Go.Proofs.Ytngglhbcpeigcaa.sf

/-
  Permutations as lists of integers: plain mathematics.
-/
namespace Go.Proofs.Ytngglhbcpeigcaa.pm
open Go.Proofs.Ytngglhbcpeigcaa.arr
set_option linter.unusedVariables false
set_option maxRecDepth 100000

/-- The first k elements are different numbers from 0 up to the length. -/
def OkTo (xs : List Int) (k : Nat) : Prop := ∀ i, i < k → 0 ≤ xs.getD i 0 ∧ xs.getD i 0 < xs.length ∧ ∀ j, j < i → xs.getD j 0 ≠ xs.getD i 0
instance (xs : List Int) (k : Nat) : Decidable (OkTo xs k) := by unfold OkTo; exact inferInstance
def okB (xs : List Int) : Bool := decide (xs.length ≤ 24 ∧ OkTo xs xs.length)
structure Ok (xs : List Int) : Prop where
  len : xs.length ≤ 24
  lo : ∀ i, i < xs.length → 0 ≤ xs.getD i 0
  hi : ∀ i, i < xs.length → xs.getD i 0 < xs.length
  inj : ∀ i j, i < xs.length → j < xs.length → xs.getD i 0 = xs.getD j 0 → i = j
theorem Ok.of (xs : List Int) (h : okB xs = true) : Ok xs := by
  unfold okB at h
  rw [decide_eq_true_iff] at h
  refine ⟨h.1, fun i hi => (h.2 i hi).1, fun i hi => (h.2 i hi).2.1, fun i j hi hj e => ?_⟩
  rcases Nat.lt_trichotomy i j with hl | hl | hl
  · exact absurd e ((h.2 j hj).2.2 i hl)
  · exact hl
  · exact absurd e.symm ((h.2 i hi).2.2 j hl)
theorem Ok.b {xs : List Int} (h : Ok xs) : okB xs = true := by
  unfold okB
  rw [decide_eq_true_iff]
  exact ⟨h.len, fun i hi => ⟨h.lo i hi, h.hi i hi, fun j hj e => by have := h.inj j i (by omega) hi e; omega⟩⟩
theorem okB_long {xs : List Int} (h : 24 < xs.length) : okB xs = false := by
  unfold okB; rw [decide_eq_false_iff_not]; intro e; omega
theorem okB_bad {xs : List Int} {k : Nat} (hk : k < xs.length) (h : xs.getD k 0 < 0 ∨ xs.length ≤ xs.getD k 0) : okB xs = false := by
  unfold okB; rw [decide_eq_false_iff_not]; intro e
  have := e.2 k hk
  omega
theorem okB_dup {xs : List Int} {k : Nat} (hk : k < xs.length) (h : xs.getD k 0 ∈ xs.take k) : okB xs = false := by
  unfold okB; rw [decide_eq_false_iff_not]; intro e
  obtain ⟨j, hj, he⟩ := List.getElem_of_mem h
  simp at hj
  refine (e.2 k hk).2.2 j (by omega) ?_
  rw [← he]
  simp [List.getD, List.getElem?_eq_getElem (show j < xs.length by omega)]
theorem okB_yes {xs : List Int} (h : xs.length ≤ 24) (h2 : OkTo xs xs.length) : okB xs = true := by
  unfold okB; rw [decide_eq_true_iff]; exact ⟨h, h2⟩
theorem OkTo.step {xs : List Int} {k : Nat} (h : OkTo xs k) (hk : k < xs.length) (h1 : 0 ≤ xs.getD k 0) (h2 : xs.getD k 0 < xs.length) (h3 : ¬ xs.getD k 0 ∈ xs.take k) : OkTo xs (k + 1) := by
  intro i hi
  by_cases e : i = k
  · subst e
    refine ⟨h1, h2, fun j hj he => h3 ?_⟩
    rw [← he]
    have hl : j < xs.length := by omega
    have : xs.getD j 0 = (xs.take i)[j]'(by simp; omega) := by simp [List.getD, List.getElem?_eq_getElem hl]
    rw [this]
    exact List.getElem_mem _
  · exact h i (by omega)

def tabB (f : Nat → Bool) : List Bool := (List.range 24).map f
theorem tabB_len (f : Nat → Bool) : (tabB f).length = 24 := by simp [tabB]
theorem tabB_at (f : Nat → Bool) {k : Nat} (h : k < 24) : (tabB f)[k]? = some (f k) := by simp [tabB, h]
theorem tabB_set (f f' : Nat → Bool) {k : Nat} (h : ∀ j, j < 24 → f' j = if j = k then true else f j) : (tabB f).set k true = tabB f' := by
  refine List.ext_getElem? fun i => ?_
  by_cases hi : i < 24
  · rw [tabB_at _ hi, List.getElem?_set, h i hi]
    by_cases e : k = i
    · subst e; simp [tabB_len, hi]
    · rw [if_neg e, tabB_at _ hi, if_neg (by omega)]
  · rw [List.getElem?_eq_none (by simp [tabB_len]; omega), List.getElem?_eq_none (by simp [tabB_len]; omega)]
/-- Which numbers are among the first k. -/
def flags (xs : List Int) (k : Nat) : List Bool := tabB fun j => decide ((j : Int) ∈ xs.take k)
theorem flags_step {xs : List Int} {k z : Nat} (hk : k < xs.length) (hz : xs.getD k 0 = (z : Int)) : (flags xs k).set z true = flags xs (k + 1) := by
  refine tabB_set _ _ fun j hj => ?_
  have e : xs.take (k + 1) = xs.take k ++ [(z : Int)] := by
    rw [List.take_succ_eq_append_getElem hk, ← hz]; simp [List.getD, List.getElem?_eq_getElem hk]
  rw [e]
  by_cases hjz : j = z
  · subst hjz; simp
  · have : ¬ ((j : Int) = (z : Int)) := by omega
    simp [hjz, this]
def extTo (xs : List Int) (k : Nat) : List Int := tab fun i => if i < k then xs.getD i 0 else (i : Int)
theorem extTo_zero (xs : List Int) : extTo xs 0 = idl := by simp [extTo, idl]
theorem extTo_step (xs : List Int) (k : Nat) : (extTo xs k).set k (xs.getD k 0) = extTo xs (k + 1) := by
  have h := tab_set (fun i => if i < k then xs.getD i 0 else (i : Int)) (fun i => if i < k + 1 then xs.getD i 0 else (i : Int)) (k := k) (fun j hj => by
    by_cases e : j = k
    · subst e; simp
    · simp only [if_neg e]; split <;> split <;> first | rfl | omega)
  simpa [extTo] using h
/-- p among 24 elements: the others stay. -/
def ext (xs : List Int) : List Int := extTo xs xs.length
def pv (xs : List Int) : List Int := if okB xs then ext xs else zeros
theorem zeros_len : zeros.length = 24 := by simp [zeros]
theorem ext_len (xs : List Int) : (ext xs).length = 24 := tab_len _
theorem pv_len (xs : List Int) : (pv xs).length = 24 := by unfold pv; split; exact ext_len _; exact zeros_len
theorem ext_at {xs : List Int} {i : Nat} (h : i < 24) : (ext xs).getD i 0 = if i < xs.length then xs.getD i 0 else (i : Int) := by
  unfold ext extTo; rw [tab_get _ h]
end Go.Proofs.Ytngglhbcpeigcaa.pm

/-
  Contracts of spec.l01In, spec.l02Has, spec.PermOk.
-/
namespace Go.Proofs.Ytngglhbcpeigcaa.permOk
open Go.ChangeShapes Go.WideShapes Go.ChangeAt Go.RowKit
open Go.Proofs.Ytngglhbcpeigcaa.mem Go.Proofs.Ytngglhbcpeigcaa.ints Go.Proofs.Ytngglhbcpeigcaa.arr Go.Proofs.Ytngglhbcpeigcaa.pm
set_option linter.unusedVariables false
set_option maxRecDepth 100000

theorem in_yes (x a b : Int) (w : World) (h1 : a ≤ x) (h2 : x ≤ b) :
    Calls Try.prog 38 #[.int .i64 x, .int .i64 a, .int .i64 b] w fun e w' => e = .returned (.bool true) ∧ w = w' := by
  go_enter Try.func38, Try.ntmps38
  go_wp2
  go_ret
  exact ⟨rfl, rfl⟩
theorem in_no (x a b : Int) (w : World) (h : x < a ∨ b < x) :
    Calls Try.prog 38 #[.int .i64 x, .int .i64 a, .int .i64 b] w fun e w' => e = .returned (.bool false) ∧ w = w' := by
  by_cases h1 : x < a
  · clear h
    have hd : decide (a ≤ x) = false := by simp; omega
    go_enter Try.func38, Try.ntmps38
    go_wp2
    go_ret
    exact ⟨rfl, rfl⟩
  · have h2 : b < x := by omega
    have hd : decide (x ≤ b) = false := by simp; omega
    clear h
    go_enter Try.func38, Try.ntmps38
    go_wp2
    go_ret
    exact ⟨rfl, rfl⟩

def hasB (xs : List Int) (z : Int) : Bool := decide (z ∈ xs)
theorem take_no {xs : List Int} {k : Nat} {z s : Int} (h : ¬ z ∈ xs.take k) (hk : xs[k]? = some s) (hs : ¬ s = z) : ¬ z ∈ xs.take (k + 1) := by
  rw [List.take_add_one, hk]
  simp
  exact ⟨h, fun e => hs e.symm⟩

set_option maxHeartbeats 400000 in
theorem has_any (A : Option Addr) (n c : Nat) (xs : List Int) (hi : Nat) (z : Int) (w : World) (hx : Rd w hi A n (V xs)) (hn : n ≤ 1048576) :
    Calls Try.prog 77 #[.slice A n c, .int .i64 z] w fun e w' => e = .returned (.bool (hasB xs z)) ∧ w = w' := by
  have lx : xs.length = n := by simpa [V] using hx.1
  have LX := Lib.hid lx; clear lx
  have HX := Lib.hid hx; clear hx
  go_enter Try.func77, Try.ntmps77
  go_wp2
  go_loop [9] (fun i => ∃ k : Nat, k ≤ n ∧ i = .int .i64 k ∧ Hid (¬ z ∈ xs.take k)) (fun i => n - (intOf i).toNat)
  case atStart => exact ⟨0, Nat.zero_le _, rfl, Lib.hid (by simp)⟩
  case round =>
    obtain ⟨k, hk, rfl, HN⟩ := hrel
    by_cases hlt : k < n
    · obtain ⟨g, off, u, rfl, _, hxu, hcx⟩ := HX.out.at_ hlt
      obtain ⟨s, hxs, rfl⟩ := V_at hxu
      have HS := Lib.hid hxs; clear hxs hxu
      by_cases hst : s = z
      · subst hst
        go_wp2
        go_ret
        refine ⟨ret_bool ?_, rfl⟩
        unfold hasB; rw [eq_comm, decide_eq_true_iff]; exact List.mem_of_getElem? HS.out
      · have hb : (s == z) = false := by simpa using hst
        have HST := Lib.hid hst; clear hst
        go_wp2
        go_round
        case rel => exact ⟨k + 1, by omega, by go_num, Lib.hid (take_no HN.out HS.out HST.out)⟩
        case measure => simp [intOf]; omega
    · obtain rfl : k = n := by omega
      go_wp2
      go_ret
      refine ⟨ret_bool ?_, rfl⟩
      unfold hasB; rw [eq_comm, decide_eq_false_iff_not]
      have := HN.out
      rw [List.take_of_length_le (by rw [LX.out]; exact Nat.le_refl _)] at this
      exact this

theorem Rd.take {w : World} {hi n k : Nat} {A : Option Addr} {xs : List Int} (h : Rd w hi A n (V xs)) (hk : k ≤ n) : Rd w hi A k (V (xs.take k)) := by
  have hl : xs.length = n := by simpa [V] using h.1
  refine ⟨by simp [V]; omega, h.2.1, fun h0 => ?_⟩
  obtain ⟨g, off, e, hlt, hc⟩ := h.2.2 (by omega)
  refine ⟨g, off, e, hlt, fun j hj => ?_⟩
  rw [hc j (by omega)]
  simp [V, hj]
theorem getD_of {xs : List Int} {k : Nat} {s : Int} (h : xs[k]? = some s) : xs.getD k 0 = s := by simp [List.getD, h]

set_option maxHeartbeats 800000 in
theorem spec_any (A : Option Addr) (n c : Nat) (xs : List Int) (hi : Nat) (w : World) (hx : Rd w hi A n (V xs)) (hn : n ≤ 1048576) (hc : n ≤ c) :
    Calls Try.prog 67 #[.slice A n c] w fun e w' => e = .returned (.bool (okB xs)) ∧ w = w' := by
  have lx : xs.length = n := by simpa [V] using hx.1
  have LX := Lib.hid lx; clear lx
  have HX := Lib.hid hx; clear hx
  by_cases h24 : 24 < n
  · have e := Lib.hid (okB_long (xs := xs) (by rw [LX.out]; exact h24))
    go_enter Try.func67, Try.ntmps67
    go_wp2
    go_ret
    exact ⟨ret_bool e.out.symm, rfl⟩
  go_enter Try.func67, Try.ntmps67
  go_wp2
  go_loop [10] (fun i => ∃ k : Nat, k ≤ n ∧ i = .int .i64 k ∧ Hid (OkTo xs k)) (fun i => n - (intOf i).toNat)
  case atStart => exact ⟨0, Nat.zero_le _, rfl, Lib.hid (fun i hi => by omega)⟩
  case round =>
    obtain ⟨k, hk, rfl, HO⟩ := hrel
    by_cases hlt : k < n
    · obtain ⟨g, off, u, rfl, _, hxu, hcx⟩ := HX.out.at_ hlt
      obtain ⟨s, hxs, rfl⟩ := V_at hxu
      have HG := Lib.hid (getD_of hxs)
      clear hxs hxu
      by_cases hin : 0 ≤ s ∧ s ≤ (n : Int) - 1
      · obtain ⟨i1, i2⟩ := hin
        by_cases hh : hasB (xs.take k) s = true
        · have HF : Hid (okB xs = false) := Lib.hid (okB_dup (by rw [LX.out]; exact hlt) (by rw [HG.out]; simpa [hasB] using hh))
          have HH := Lib.hid hh; clear hh
          go_wp2_with (go_at_call 38; refine (in_yes _ _ _ _ i1 i2).mono ?_; rintro e w' ⟨rfl, rfl⟩)
          refine (has_any _ k _ (xs.take k) _ s _ (Rd.take HX.out (by omega)) (by omega)).mono ?_
          rintro e w' ⟨rfl, rfl⟩
          rw [HH.out]
          go_wp2
          go_ret
          exact ⟨ret_bool HF.out.symm, rfl⟩
        · have hh' : hasB (xs.take k) s = false := by simpa using hh
          have HH := Lib.hid hh'; clear hh hh'
          go_wp2_with (go_at_call 38; refine (in_yes _ _ _ _ i1 i2).mono ?_; rintro e w' ⟨rfl, rfl⟩)
          refine (has_any _ k _ (xs.take k) _ s _ (Rd.take HX.out (by omega)) (by omega)).mono ?_
          rintro e w' ⟨rfl, rfl⟩
          rw [HH.out]
          go_wp2
          go_round
          case rel => exact ⟨k + 1, by omega, by go_num, Lib.hid (HO.out.step (by rw [LX.out]; exact hlt) (by rw [HG.out]; exact i1) (by rw [HG.out, LX.out]; omega) (by rw [HG.out]; simpa [hasB] using HH.out))⟩
          case measure => simp [intOf]; omega
      · have hno : s < 0 ∨ (n : Int) - 1 < s := by omega
        have HF : Hid (okB xs = false) := Lib.hid (okB_bad (k := k) (by rw [LX.out]; exact hlt) (by rw [HG.out, LX.out]; omega))
        clear hin
        go_wp2_with (go_at_call 38; refine (in_no _ _ _ _ hno).mono ?_; rintro e w' ⟨rfl, rfl⟩)
        go_ret
        exact ⟨ret_bool HF.out.symm, rfl⟩
    · obtain rfl : k = n := by omega
      go_wp2
      go_ret
      exact ⟨ret_bool (okB_yes (by rw [LX.out]; omega) (by rw [LX.out]; exact HO.out)).symm, rfl⟩
end Go.Proofs.Ytngglhbcpeigcaa.permOk

/-
  Contracts of impl.permOf, impl.permsOf.
-/
namespace Go.Proofs.Ytngglhbcpeigcaa.permOf
open Go.ChangeShapes Go.WideShapes Go.ChangeAt Go.RowKit
open Go.Proofs.Ytngglhbcpeigcaa.mem Go.Proofs.Ytngglhbcpeigcaa.ints Go.Proofs.Ytngglhbcpeigcaa.arr Go.Proofs.Ytngglhbcpeigcaa.pm Go.Proofs.Ytngglhbcpeigcaa.permOk
set_option linter.unusedVariables false
set_option maxRecDepth 100000

theorem results_cell_tmp {P : Program} {fn : Func} {p q : Tmp} {ty : TypeId} (h : fn.results = #[.cell p ty, .tmp q]) (tmps : Array Value) (w : World) (g : Nat) (t : TypeId) (cs : Array Value) (fr : Nat × Nat) (d : TypeDesc) (v : Value)
    (hp : tmps.getD p undef = .pointer (some ⟨g, 0, none⟩)) (hq : tmps.getD q undef = v) (hg : w.heap[g]? = some (.cells cs t fr))
    (hu : P.underlying ty = some d) (hd : (match d with | .struct _ | .array _ _ => true | _ => false) = true) (hi : (P.info? ty).map (·.size) = some cs.size) :
    (results fn tmps).run P w = .ok (.tuple #[.agg cs, v]) w := by
  have hp' : tmps[p]?.getD undef = .pointer (some ⟨g, 0, none⟩) := by simpa using hp
  have hq' : tmps[q]?.getD undef = v := by simpa using hq
  simp [results, h, hp', hq', asAddr, run_loadVar_row w g t ty cs fr d hg hu hd hi]
theorem results_cell2_tmp {P : Program} {fn : Func} {p p2 q : Tmp} {ty : TypeId} (h : fn.results = #[.cell p ty, .cell p2 ty, .tmp q]) (tmps : Array Value) (w : World) (g g2 : Nat) (t : TypeId) (cs cs2 : Array Value) (fr : Nat × Nat) (d : TypeDesc) (v : Value)
    (hp : tmps.getD p undef = .pointer (some ⟨g, 0, none⟩)) (hp2 : tmps.getD p2 undef = .pointer (some ⟨g2, 0, none⟩)) (hq : tmps.getD q undef = v) (hg : w.heap[g]? = some (.cells cs t fr)) (hg2 : w.heap[g2]? = some (.cells cs2 t fr))
    (hu : P.underlying ty = some d) (hd : (match d with | .struct _ | .array _ _ => true | _ => false) = true) (hi : (P.info? ty).map (·.size) = some cs.size) (hi2 : (P.info? ty).map (·.size) = some cs2.size) :
    (results fn tmps).run P w = .ok (.tuple #[.agg cs, .agg cs2, v]) w := by
  have hp' : tmps[p]?.getD undef = .pointer (some ⟨g, 0, none⟩) := by simpa using hp
  have hp2' : tmps[p2]?.getD undef = .pointer (some ⟨g2, 0, none⟩) := by simpa using hp2
  have hq' : tmps[q]?.getD undef = v := by simpa using hq
  simp [results, h, hp', hp2', hq', asAddr, run_loadVar_row w g t ty cs fr d hg hu hd hi, run_loadVar_row w g2 t ty cs2 fr d hg2 hu hd hi2]

def VB (l : List Bool) : List Value := l.map Value.bool
theorem VB_set (l : List Bool) (k : Nat) (b : Bool) : (VB l).set k (.bool b) = VB (l.set k b) := by simp [VB, List.map_set]
theorem flags_cell {w : World} {g : Nat} {f : Nat → Bool} {t : TypeId} (h : Arr w g (VB (tabB f)) t) {k : Nat} (hk : k < 24) {b : Bool} (hb : f k = b) : w.cell? ⟨g, k, none⟩ = some (.bool b) :=
  h.cell (by simp [VB, tabB_at f hk, hb])

def PRel (xs : List Int) (R G : Nat) (w wr : World) (k : Nat) : Prop :=
  Arr wr R (V zeros) 60 ∧ Arr wr G (V (extTo xs k)) 60 ∧ Arr wr (G + 1) (VB (flags xs k)) 111 ∧ Below w.heap.size w wr ∧ OkTo xs k
def PermPost (xs : List Int) (w : World) (e : Ending) (w' : World) : Prop := e = .returned (.tuple #[.agg (V (pv xs)).toArray, .bool (okB xs)]) ∧ Below w.heap.size w w'
theorem post_no {xs : List Int} {w w' : World} (h : okB xs = false) (hb : Below w.heap.size w w') : PermPost xs w (.returned (.tuple #[.agg (V zeros).toArray, .bool false])) w' := by
  refine ⟨?_, hb⟩
  unfold pv
  simp [h]
theorem post_yes {xs : List Int} {w w' : World} (h : okB xs = true) (hb : Below w.heap.size w w') : PermPost xs w (.returned (.tuple #[.agg (V (ext xs)).toArray, .bool true])) w' := by
  refine ⟨?_, hb⟩
  unfold pv
  simp [h]
theorem flags_zero (xs : List Int) : flags xs 0 = List.replicate 24 false := by
  simp only [flags, List.take_zero, List.not_mem_nil, decide_false]; decide

set_option maxHeartbeats 1000000 in
theorem permOf_any (A : Option Addr) (n c : Nat) (xs : List Int) (hi : Nat) (w : World) (hx : Rd w hi A n (V xs)) (hn : n ≤ 1048576) :
    Calls Try.prog 60 #[.slice A n c] w (PermPost xs w) := by
  have lx : xs.length = n := by simpa [V] using hx.1
  have LX := Lib.hid lx; clear lx
  have HX := Lib.hid hx; clear hx
  by_cases h24 : 24 < n
  · have E := Lib.hid (okB_long (xs := xs) (by rw [LX.out]; exact h24))
    have N := Lib.hid (Arr.new w (V zeros) 60 rfl)
    go_enter Try.func60, Try.ntmps60
    go_wp2_with (refine wpList_store_row rfl 60 _ _ rfl w.heap.size (V zeros).toArray rfl rfl 60 (V zeros).toArray N.out (size_V zeros_len) rfl (one_V _) ?_)
    exact bodyPost_ret (v := .tuple #[.agg (V zeros).toArray, .bool false]) (results_cell_tmp rfl _ _ w.heap.size 60 (V zeros).toArray (0, 0) _ _ rfl rfl N.out.row Try.underlying60 rfl (size_V zeros_len)) rfl (post_no E.out (below_setRow ((Below.refl _ _).alloc (Nat.le_refl _) _) (Nat.le_refl _) _))
  have N := Lib.hid (Arr.new w (V zeros) 60 rfl)
  go_enter Try.func60, Try.ntmps60
  go_wp2_with fail
  refine (staying_any _).mono ?_
  rintro e w1 ⟨rfl, b1⟩
  have hs1 : w.heap.size + 1 ≤ w1.heap.size := by have := b1.size; simpa using this
  have A1 := Lib.hid (N.out.keep b1 (by simp))
  have B1 : Hid (Below w.heap.size w w1) := Lib.hid (((Below.refl _ _).alloc (Nat.le_refl _) _).trans (b1.mono (by simp)))
  clear b1
  go_wp2_with (refine wpList_store_row rfl 60 _ _ rfl w1.heap.size (V idl).toArray rfl rfl 60 (V zeros).toArray (Arr.new w1 (V zeros) _ rfl) (size_V (tab_len _)) rfl (one_V _) ?_)
  go_loopw [15] (fun i wr => ∃ k : Nat, k ≤ n ∧ i = .int .i64 k ∧ PRel xs w.heap.size w1.heap.size w wr k) (fun i _ => n - (intOf i).toNat)
  case atStart =>
    refine ⟨0, Nat.zero_le _, rfl, ((A1.out.alloc _).rowOther (by omega)).alloc _, ?_, ?_, (below_setRow (B1.out.alloc B1.out.size _) (by omega) _).alloc (by simp; omega) _, fun i hi => by omega⟩
    · rw [extTo_zero]
      exact (Arr.new w1 (V zeros) _ rfl).row.alloc _
    · rw [flags_zero]
      exact Arr.new _ (VB (List.replicate 24 false)) _ (by simp)
  case round =>
    obtain ⟨k, hk, rfl, hp⟩ := hrel
    have HP := Lib.hid hp; clear hp
    by_cases hlt : k < n
    · obtain ⟨g, off, u, rfl, hgl, hxu, hcx⟩ := HX.out.at_ hlt
      obtain ⟨s, hxs, rfl⟩ := V_at hxu
      have HG := Lib.hid (getD_of hxs)
      clear hxs hxu
      have hgw : g < w.heap.size := Nat.lt_of_lt_of_le hgl HX.out.2.1
      rw [← HP.out.2.2.2.1.cell (p := ⟨g, off + k, none⟩) hgw] at hcx
      clear hgl hgw
      have arm := HP.out.1
      have ARM := Lib.hid arm; clear arm
      by_cases hbad : s < 0 ∨ (n : Int) ≤ s
      · have HF : Hid (okB xs = false) := Lib.hid (okB_bad (k := k) (by rw [LX.out]; exact hlt) (by rw [HG.out, LX.out]; omega))
        by_cases hneg : s < 0
        · clear hbad
          go_wp2_with (refine wpList_store_row rfl 60 _ _ rfl w.heap.size (V zeros).toArray rfl rfl 60 (V zeros).toArray ARM.out (size_V zeros_len) rfl (one_V _) ?_)
          exact bodyPost_ret (v := .tuple #[.agg (V zeros).toArray, .bool false]) (results_cell_tmp rfl _ _ w.heap.size 60 (V zeros).toArray (0, 0) _ _ rfl rfl ARM.out.row Try.underlying60 rfl (size_V zeros_len)) rfl (post_no HF.out (below_setRow HP.out.2.2.2.1 (Nat.le_refl _) _))
        · have hge : (n : Int) ≤ s := by omega
          have hd : decide (s < 0) = false := by simp; omega
          clear hbad
          go_wp2_with (refine wpList_store_row rfl 60 _ _ rfl w.heap.size (V zeros).toArray rfl rfl 60 (V zeros).toArray ARM.out (size_V zeros_len) rfl (one_V _) ?_)
          exact bodyPost_ret (v := .tuple #[.agg (V zeros).toArray, .bool false]) (results_cell_tmp rfl _ _ w.heap.size 60 (V zeros).toArray (0, 0) _ _ rfl rfl ARM.out.row Try.underlying60 rfl (size_V zeros_len)) rfl (post_no HF.out (below_setRow HP.out.2.2.2.1 (Nat.le_refl _) _))
      · have i1 : 0 ≤ s := by omega
        have i2 : s < n := by omega
        clear hbad
        obtain ⟨z, rfl⟩ := Int.eq_ofNat_of_zero_le i1
        have hz : z < n := by omega
        have hz24 : z < 24 := by omega
        clear i1 i2
        by_cases hin : (z : Int) ∈ xs.take k
        · have HF : Hid (okB xs = false) := Lib.hid (okB_dup (k := k) (by rw [LX.out]; exact hlt) (by rw [HG.out]; exact hin))
          have hfl : wr.cell? ⟨w1.heap.size + 1, z, none⟩ = some (.bool true) := flags_cell HP.out.2.2.1 hz24 (by simpa using hin)
          clear hin
          go_wp2_with (refine wpList_store_row rfl 60 _ _ rfl w.heap.size (V zeros).toArray rfl rfl 60 (V zeros).toArray ARM.out (size_V zeros_len) rfl (one_V _) ?_)
          exact bodyPost_ret (v := .tuple #[.agg (V zeros).toArray, .bool false]) (results_cell_tmp rfl _ _ w.heap.size 60 (V zeros).toArray (0, 0) _ _ rfl rfl ARM.out.row Try.underlying60 rfl (size_V zeros_len)) rfl (post_no HF.out (below_setRow HP.out.2.2.2.1 (Nat.le_refl _) _))
        · have hfl : wr.cell? ⟨w1.heap.size + 1, z, none⟩ = some (.bool false) := flags_cell HP.out.2.2.1 hz24 (by simpa using hin)
          have hff := HP.out.2.2.1.frozen z
          have hc2 : wr.cell? ⟨w1.heap.size, k, none⟩ = some (.int .i64 ((extTo xs k).getD k 0)) := HP.out.2.1.cell (V_getD (by rw [extTo, tab_len]; omega))
          have hf2 := HP.out.2.1.frozen k
          have HIN := Lib.hid hin; clear hin
          go_wp2
          go_roundw
          case rel =>
            refine ⟨k + 1, by omega, by go_num, (HP.out.1.other (by omega) _).other (by omega) _, ?_, ?_, (HP.out.2.2.2.1.setCell (by simp; omega) _).setCell (by simp; omega) _, HP.out.2.2.2.2.step (by rw [LX.out]; exact hlt) (by rw [HG.out]; omega) (by rw [HG.out, LX.out]; omega) (by rw [HG.out]; exact HIN.out)⟩
            · have h := (HP.out.2.1.other (k := z) (g' := w1.heap.size + 1) (by omega) (.bool true)).set_ k (.int .i64 (z : Int))
              rw [V_set, ← HG.out, extTo_step] at h
              rw [← HG.out]
              exact h
            · have h := HP.out.2.2.1.set_ z (.bool true)
              rw [VB_set, flags_step (by rw [LX.out]; exact hlt) HG.out] at h
              exact h.other (by omega) _
          case measure => simp [intOf]; omega
    · obtain rfl : k = n := by omega
      have HY : Hid (okB xs = true) := Lib.hid (okB_yes (by rw [LX.out]; omega) (by rw [LX.out]; exact HP.out.2.2.2.2))
      have h2 := HP.out.2.1
      rw [← LX.out] at h2
      have H2 : Hid (Arr wr w1.heap.size (V (ext xs)) 60) := Lib.hid h2
      have H1 := Lib.hid HP.out.1; have HB := Lib.hid HP.out.2.2.2.1
      clear h2 HP
      go_wp2_with (first | (refine wpList_load_row rfl 60 _ rfl w1.heap.size rfl 60 (V (ext xs)).toArray (0, 0) _ H2.out Try.underlying60 rfl (size_V (ext_len _)) ?_) | (refine wpList_store_row rfl 60 _ _ rfl w.heap.size (V (ext xs)).toArray rfl rfl 60 (V zeros).toArray H1.out (size_V (ext_len _)) (by simp [V_len, ext_len, zeros]) (one_V _) ?_))
      exact bodyPost_ret (v := .tuple #[.agg (V (ext xs)).toArray, .bool true]) (results_cell_tmp rfl _ _ w.heap.size 60 (V (ext xs)).toArray (0, 0) _ _ rfl rfl H1.out.row Try.underlying60 rfl (size_V (ext_len _))) rfl (post_yes HY.out (below_setRow HB.out (Nat.le_refl _) _))

end Go.Proofs.Ytngglhbcpeigcaa.permOf
