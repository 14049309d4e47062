import Derived.Test.YtkkklpchkkdhfaaY01
import Derived.Lib.SmallJoins
import Derived.RegionTactic
import Derived.BigRegion
import Derived.Deep.RegionHeld3
import Derived.Test.YtkkklpchkkdhfaaY03
import Derived.Laws.OwnMore
/-
  Surfaces in memory: a struct of two slices of ints; the laws' helpers szSurface, toSurface, eqSurface, markSurface, heldSurface.
-/
namespace Go.Proofs.Ytkkklpchkkdhfaa.sf
open Go.ChangeShapes Go.WideShapes Go.ChangeAt Go.RowKit Go.Joins Go.Deep
open Go.Proofs.Ytkkklpchkkdhfaa.mem Go.Proofs.Ytkkklpchkkdhfaa.ints Go.Proofs.Ytkkklpchkkdhfaa.arr
set_option linter.unusedVariables false
set_option maxRecDepth 100000

/-- v is a surface that reads as r, u; both rows may be written, lie apart from one another, from lo on and below hi. -/
def Svl (w : World) (lo hi : Nat) (v : Value) (r u : List Int) : Prop :=
  ∃ P n c Q m d l1 h1 l2 h2, v = .agg #[.slice P n c, .slice Q m d] ∧ Row w l1 h1 P n (V r) ∧ Row w l2 h2 Q m (V u) ∧ n ≤ c ∧ m ≤ d ∧ lo ≤ l1 ∧ h1 ≤ hi ∧ lo ≤ l2 ∧ h2 ≤ hi ∧ (h1 ≤ l2 ∨ h2 ≤ l1) ∧ hi ≤ w.heap.size
/-- The same, to be read only. -/
def Srd (w : World) (hi : Nat) (v : Value) (r u : List Int) : Prop :=
  ∃ P n c Q m d, v = .agg #[.slice P n c, .slice Q m d] ∧ Rd w hi P n (V r) ∧ Rd w hi Q m (V u) ∧ n ≤ c ∧ m ≤ d
theorem Rd.wider {w : World} {hi hi' n : Nat} {A : Option Addr} {xs : List Value} (h : Rd w hi A n xs) (h1 : hi ≤ hi') (h2 : hi' ≤ w.heap.size) : Rd w hi' A n xs :=
  ⟨h.1, h2, fun hn => by
    obtain ⟨g, off, e, hlt, hc⟩ := h.2.2 hn
    exact ⟨g, off, e, by omega, hc⟩⟩
theorem Rd.up {w : World} {hi n : Nat} {A : Option Addr} {xs : List Value} (h : Rd w hi A n xs) : Rd w w.heap.size A n xs := Rd.wider h h.2.1 (Nat.le_refl _)
theorem Svl.rd {w : World} {lo hi : Nat} {v : Value} {r u : List Int} (h : Svl w lo hi v r u) : Srd w hi v r u := by
  obtain ⟨P, n, c, Q, m, d, l1, h1, l2, h2, rfl, a, b, e1, e2, f1, f2, f3, f4, f5, f6⟩ := h
  exact ⟨P, n, c, Q, m, d, rfl, Rd.wider a.rd f2 f6, Rd.wider b.rd f4 f6, e1, e2⟩
theorem Svl.top {w : World} {lo hi : Nat} {v : Value} {r u : List Int} (h : Svl w lo hi v r u) : hi ≤ w.heap.size := by
  obtain ⟨P, n, c, Q, m, d, l1, h1, l2, h2, rfl, a, b, e1, e2, f1, f2, f3, f4, f5, f6⟩ := h
  exact f6
theorem Srd.top {w : World} {hi : Nat} {v : Value} {r u : List Int} (h : Srd w hi v r u) : hi ≤ w.heap.size := by
  obtain ⟨P, n, c, Q, m, d, rfl, a, b, e1, e2⟩ := h
  exact a.2.1
theorem Srd.up {w : World} {hi : Nat} {v : Value} {r u : List Int} (h : Srd w hi v r u) : Srd w w.heap.size v r u := by
  obtain ⟨P, n, c, Q, m, d, rfl, a, b, e1, e2⟩ := h
  exact ⟨P, n, c, Q, m, d, rfl, Rd.up a, Rd.up b, e1, e2⟩
theorem Svl.keep {w w' : World} {lo hi B : Nat} {v : Value} {r u : List Int} (h : Svl w lo hi v r u) (hb : Below B w w') (hB : hi ≤ B) : Svl w' lo hi v r u := by
  obtain ⟨P, n, c, Q, m, d, l1, h1, l2, h2, rfl, a, b, e1, e2, f1, f2, f3, f4, f5, f6⟩ := h
  exact ⟨P, n, c, Q, m, d, l1, h1, l2, h2, rfl, a.keep hb (by omega), b.keep hb (by omega), e1, e2, f1, f2, f3, f4, f5, Nat.le_trans f6 hb.size⟩
theorem Srd.keep {w w' : World} {hi B : Nat} {v : Value} {r u : List Int} (h : Srd w hi v r u) (hb : Below B w w') (hB : hi ≤ B) : Srd w' hi v r u := by
  obtain ⟨P, n, c, Q, m, d, rfl, a, b, e1, e2⟩ := h
  exact ⟨P, n, c, Q, m, d, rfl, a.keep hb hB, b.keep hb hB, e1, e2⟩
theorem Svl.out {w w' : World} {lo hi lo' hi' : Nat} {v : Value} {r u : List Int} (h : Svl w lo hi v r u) (ho : Out lo' hi' w w') (hd : hi ≤ lo' ∨ hi' ≤ lo) : Svl w' lo hi v r u := by
  obtain ⟨P, n, c, Q, m, d, l1, h1, l2, h2, rfl, a, b, e1, e2, f1, f2, f3, f4, f5, f6⟩ := h
  exact ⟨P, n, c, Q, m, d, l1, h1, l2, h2, rfl, a.out ho (by omega), b.out ho (by omega), e1, e2, f1, f2, f3, f4, f5, Nat.le_trans f6 ho.size⟩
theorem Svl.later {w : World} {lo lo' hi : Nat} {v : Value} {r u : List Int} (h : Svl w lo hi v r u) (hl : lo' ≤ lo) : Svl w lo' hi v r u := by
  obtain ⟨P, n, c, Q, m, d, l1, h1, l2, h2, rfl, a, b, e1, e2, f1, f2, f3, f4, f5, f6⟩ := h
  exact ⟨P, n, c, Q, m, d, l1, h1, l2, h2, rfl, a, b, e1, e2, by omega, f2, by omega, f4, f5, f6⟩
theorem Svl.wide {w : World} {lo hi : Nat} {v : Value} {r u : List Int} (h : Svl w lo hi v r u) : Svl w lo w.heap.size v r u := by
  obtain ⟨P, n, c, Q, m, d, l1, h1, l2, h2, rfl, a, b, e1, e2, f1, f2, f3, f4, f5, f6⟩ := h
  exact ⟨P, n, c, Q, m, d, l1, h1, l2, h2, rfl, a, b, e1, e2, f1, by omega, f3, by omega, f5, Nat.le_refl _⟩
theorem Svl.nil (w : World) (lo hi : Nat) (h : hi ≤ w.heap.size) (hl : lo ≤ hi) : Svl w lo hi (.agg #[.slice none 0 0, .slice none 0 0]) [] [] :=
  ⟨none, 0, 0, none, 0, 0, lo, lo, lo, lo, rfl, ⟨rfl, by omega, fun h => absurd h (by omega)⟩, ⟨rfl, by omega, fun h => absurd h (by omega)⟩, Nat.le_refl _, Nat.le_refl _, Nat.le_refl _, hl, Nat.le_refl _, hl, .inl (Nat.le_refl _), h⟩
theorem own_cap {w : World} {base : Nat} {e : TypeId} {n n' c : Nat} {A : Option Addr} {xs : List Value} (h : w.ownsRow base e 1 (.slice A n' c) n xs) : n' = n ∧ n ≤ c := by
  rcases h.2 with ⟨q, rfl⟩ | ⟨g, cap, cur, q, _, _, hc, _⟩
  · injection q with _ q2 q3; subst q2; subst q3; exact ⟨rfl, Nat.le_refl _⟩
  · injection q with _ q2 q3; subst q2; subst q3; exact ⟨rfl, hc⟩
theorem _root_.Go.Proofs.Ytkkklpchkkdhfaa.mem.Out.row_ {lo hi g : Nat} {w w' : World} (h : Out lo hi w w') (h1 : lo ≤ g) (h2 : g < hi) (cs : Array Value) : Out lo hi w (w'.setRow g cs) :=
  ⟨h.os, h.tape, h.output, by simpa using h.size, fun k hk hne => (setRow_other w' g k cs (by omega)).trans (h.block k hk hne)⟩
theorem _root_.Go.Proofs.Ytkkklpchkkdhfaa.arr.Arr.out {w w' : World} {g lo hi : Nat} {cs : List Value} {t : TypeId} (h : Arr w g cs t) (ho : Out lo hi w w') (hd : g < lo ∨ hi ≤ g) : Arr w' g cs t :=
  (ho.block g h.lt hd).trans h
/-- Two rows of the call's own, one made behind the other. -/
theorem Svl.mk2 {w : World} {lo l2 : Nat} {P Q : Option Addr} {n c m d : Nat} {r u : List Int} (a : Row w lo l2 P n (V r)) (b : Row w l2 w.heap.size Q m (V u)) (hl : lo ≤ l2) (e1 : n ≤ c) (e2 : m ≤ d) : Svl w lo w.heap.size (.agg #[.slice P n c, .slice Q m d]) r u :=
  ⟨P, n, c, Q, m, d, lo, l2, l2, w.heap.size, rfl, a, b, e1, e2, Nat.le_refl _, a.2.1, hl, Nat.le_refl _, .inl (Nat.le_refl _), Nat.le_refl _⟩
theorem Svl.len {w : World} {lo hi : Nat} {v : Value} {r u : List Int} (h : Svl w lo hi v r u) : ∃ P c Q d, v = .agg #[.slice P r.length c, .slice Q u.length d] := by
  obtain ⟨P, n, c, Q, m, d, l1, h1, l2, h2, rfl, a, b, e1, e2, f1, f2, f3, f4, f5, f6⟩ := h
  have q1 : r.length = n := by simpa [V] using a.1
  have q2 : u.length = m := by simpa [V] using b.1
  subst q1; subst q2
  exact ⟨P, c, Q, d, rfl⟩
theorem Svl.lens {w : World} {lo hi : Nat} {v : Value} {r u : List Int} (h : Svl w lo hi v r u) {n m : Nat} (h1 : r.length = n) (h2 : u.length = m) : ∃ P c Q d, v = .agg #[.slice P n c, .slice Q m d] := by
  subst h1; subst h2; exact h.len

set_option maxHeartbeats 400000 in
theorem sz_any (P : Option Addr) (n c : Nat) (Q : Option Addr) (m d : Nat) (l : Int) (w : World) (h1 : (n : Int) ≤ 9223372036854775807) (h1' : (m : Int) ≤ 9223372036854775807) (h2 : 0 ≤ l) (h3 : l ≤ 1048576) :
    Calls Try.prog 22 #[.agg #[.slice P n c, .slice Q m d], .int .i64 l] w fun e w' => e = .returned (.int .i64 (if l < (n : Int) + m then -1 else l - n - m)) ∧ Below w.heap.size w w' := by
  by_cases hl : l < n
  · have hh : decide (l - (n : Int) < 0) = true := by simp; omega
    rw [if_pos (by omega)]
    clear hl
    go_enter Try.func22, Try.ntmps22
    go_wp2
    go_ret
    exact ⟨rfl, (Below.refl _ _).alloc (Nat.le_refl _) _⟩
  · have hh : decide (l - (n : Int) < 0) = false := by simp; omega
    by_cases hl2 : l - n < m
    · rw [if_pos (by omega)]
      have hh2 : decide (l - (n : Int) - m < 0) = true := by simp; omega
      have a1 : 0 ≤ l - (n : Int) := by omega
      clear hl hl2
      go_enter Try.func22, Try.ntmps22
      go_wp2
      go_ret
      exact ⟨rfl, (Below.refl _ _).alloc (Nat.le_refl _) _⟩
    · rw [if_neg (by omega)]
      have hh2 : decide (l - (n : Int) - m < 0) = false := by simp; omega
      have a1 : 0 ≤ l - (n : Int) := by omega
      have a2 : 0 ≤ l - (n : Int) - m := by omega
      clear hl hl2
      go_enter Try.func22, Try.ntmps22
      go_wp2
      go_ret
      exact ⟨rfl, (Below.refl _ _).alloc (Nat.le_refl _) _⟩

set_option maxHeartbeats 1000000 in
theorem toS_any (v : Value) (r u : List Int) (hi : Nat) (w : World) (hx : Srd w hi v r u) (hn : r.length ≤ 1048576) (hm : u.length ≤ 1048576) :
    Calls Try.prog 24 #[v] w fun e w' => ∃ g, e = .returned g ∧ Svl w' w.heap.size w'.heap.size g r u ∧ Below w.heap.size w w' := by
  obtain ⟨P, n, c, Q, m, d, rfl, rp, rq, e1, e2⟩ := hx
  have q1 : r.length = n := by simpa [V] using rp.1
  have q2 : u.length = m := by simpa [V] using rq.1
  have RP := Lib.hid rp; have RQ := Lib.hid rq; clear rp rq
  have HI := RP.out.2.1
  go_enter Try.func24, Try.ntmps24
  go_wp2_with fail
  refine (to_any P n c r hi _ (RP.out.keep ((((Below.refl hi w).alloc HI _).alloc (by simp <;> omega) _).alloc (by simp <;> omega) _) (Nat.le_refl _)) (by omega)).mono ?_
  rintro e w1 ⟨rfl, o1, b1⟩
  have hs1 : w.heap.size + 1 + 1 + 1 ≤ w1.heap.size := by have := b1.size; simpa using this
  have A1 := Lib.hid ((((Arr.new w [.slice P n c, .slice Q m d] 41 rfl).alloc _).alloc _).keep b1 (by simp <;> omega))
  have A2 := Lib.hid (((Arr.new _ [.slice none 0 0, .slice none 0 0] 32 (g := w.heap.size + 1) (by simp <;> omega)).alloc _).keep b1 (by simp <;> omega))
  have A3 := Lib.hid ((Arr.new _ [.slice none 0 0, .slice none 0 0] 32 (g := w.heap.size + 1 + 1) (by simp <;> omega)).keep b1 (by simp <;> omega))
  have c1 := A1.out.cell (k := 1) rfl
  have c3 := A3.out.cell (k := 0) rfl
  have f3 := A3.out.frozen 0
  have R1 := Lib.hid (Row.of_own o1)
  have B1 : Hid (Below w.heap.size w w1) := Lib.hid (((((Below.refl _ _).alloc (Nat.le_refl _) _).alloc (by simp <;> omega) _).alloc (by simp <;> omega) _).trans (b1.mono (by simp <;> omega)))
  clear b1 o1
  go_wp2_with fail
  refine (to_any Q m d u hi _ (RQ.out.keep ((B1.out.setCell (by simp <;> omega) _).mono (by omega)) (Nat.le_refl _)) (by omega)).mono ?_
  rintro e w2 ⟨rfl, o2, b2⟩
  have hs2 : w1.heap.size ≤ w2.heap.size := by have := b2.size; simpa using this
  have A3' := Lib.hid ((A3.out.set_ 0 _).keep b2 (by simp <;> omega))
  have A2' := Lib.hid ((A2.out.other (by omega) _).keep b2 (by simp <;> omega))
  clear A3 c3 f3
  have c3 := A3'.out.cell (k := 1) rfl
  have f3 := A3'.out.frozen 1
  have R2 := Lib.hid (Row.of_own o2)
  have R1' := Lib.hid ((R1.out.out (Out.set_ (off := 0) (g := w.heap.size + 1 + 1) (lo := w.heap.size) (hi := w.heap.size + 1 + 1 + 1) (Out.refl _ _ _) (by omega) (by omega) _) (.inr (by simp))).keep b2 (by simp))
  have B2 : Hid (Below w.heap.size w w2) := Lib.hid ((B1.out.setCell (by simp <;> omega) _).trans (b2.mono (by simp <;> omega)))
  clear b2 o2
  have N3 := Lib.hid (A3'.out.set_ 1 (.slice (some ⟨w1.heap.size, 0, none⟩) m m))
  have N2 := Lib.hid (A2'.out.other (g' := w.heap.size + 1 + 1) (k := 1) (by omega) (.slice (some ⟨w1.heap.size, 0, none⟩) m m))
  have hS : (Try.prog.info? 32).map (·.size) = some 2 := by kernel_rfl
  go_wp2_with (first | (refine wpList_load_row rfl 32 _ rfl (w.heap.size + 1 + 1) rfl 32 #[.slice (some ⟨w.heap.size + 1 + 1 + 1, 0, none⟩) n n, .slice (some ⟨w1.heap.size, 0, none⟩) m m] (0, 0) _ N3.out Try.underlying32 rfl hS ?_) | (refine wpList_store_row rfl 32 _ _ rfl (w.heap.size + 1) #[.slice (some ⟨w.heap.size + 1 + 1 + 1, 0, none⟩) n n, .slice (some ⟨w1.heap.size, 0, none⟩) m m] rfl rfl 32 #[.slice none 0 0, .slice none 0 0] N2.out hS rfl (by simp [Value.oneCell']) ?_))
  refine bodyPost_ret (v := .agg #[.slice (some ⟨w.heap.size + 1 + 1 + 1, 0, none⟩) n n, .slice (some ⟨w1.heap.size, 0, none⟩) m m]) (results_cell_row rfl _ _ (w.heap.size + 1) 32 #[.slice (some ⟨w.heap.size + 1 + 1 + 1, 0, none⟩) n n, .slice (some ⟨w1.heap.size, 0, none⟩) m m] (0, 0) _ rfl N2.out.row Try.underlying32 rfl hS) rfl ⟨_, rfl, ?_, below_setRow (B2.out.setCell (by simp <;> omega) _) (by omega) _⟩
  have oo : Out w.heap.size (w.heap.size + 1 + 1 + 1) w2 ((w2.setCell ⟨w.heap.size + 1 + 1, 1, none⟩ (.slice (some ⟨w1.heap.size, 0, none⟩) m m)).setRow (w.heap.size + 1) #[.slice (some ⟨w.heap.size + 1 + 1 + 1, 0, none⟩) n n, .slice (some ⟨w1.heap.size, 0, none⟩) m m]) :=
    ((Out.refl w.heap.size (w.heap.size + 1 + 1 + 1) w2).set_ (by omega) (by omega) _).row_ (by omega) (by omega) _
  have a := R1'.out.out oo (.inr (by simp <;> omega))
  have b := R2.out.out oo (.inr (by simp <;> omega))
  have hz := oo.size
  exact ⟨_, n, n, _, m, m, w.heap.size + 1 + 1 + 1, w1.heap.size, w1.heap.size, w2.heap.size, rfl, by simpa using a, by simpa using b, Nat.le_refl _, Nat.le_refl _, by omega, by omega, by omega, by omega, .inl (Nat.le_refl _), by omega⟩

set_option maxHeartbeats 400000 in
theorem eqS_any (x y : Value) (r u r' u' : List Int) (h1 h2 : Nat) (w : World) (hx : Srd w h1 x r u) (hy : Srd w h2 y r' u') (hn : r.length ≤ 1048576) (hm : u.length ≤ 1048576) (hn' : r'.length ≤ 1048576) (hm' : u'.length ≤ 1048576) :
    Calls Try.prog 26 #[x, y] w fun e w' => e = .returned (.bool (eqi r r' && eqi u u')) ∧ Below w.heap.size w w' := by
  obtain ⟨P, n, c, Q, m, d, rfl, rp, rq, _, _⟩ := hx
  obtain ⟨P', n', c', Q', m', d', rfl, rp', rq', _, _⟩ := hy
  have q1 : r.length = n := by simpa [V] using rp.1
  have q2 : u.length = m := by simpa [V] using rq.1
  have q1' : r'.length = n' := by simpa [V] using rp'.1
  have q2' : u'.length = m' := by simpa [V] using rq'.1
  have RP := Lib.hid rp; have RQ := Lib.hid rq; have RP' := Lib.hid rp'; have RQ' := Lib.hid rq'; clear rp rq rp' rq'
  have HI := RP.out.2.1; have HI' := RP'.out.2.1
  have B1 : Hid (∀ a b, Below w.heap.size w ((w.alloc a).alloc b)) := Lib.hid (fun a b => ((Below.refl _ _).alloc (Nat.le_refl _) _).alloc (by simp <;> omega) _)
  go_enter Try.func26, Try.ntmps26
  go_wp2_with fail
  refine (eq_any P n c P' n' c' r r' _ _ _ (RP.out.keep (B1.out _ _) HI) (RP'.out.keep (B1.out _ _) HI') (by unfold maxLen; omega) (by unfold maxLen; omega)).mono ?_
  rintro e w1 ⟨rfl, d1⟩
  by_cases hh : eqi r r' = true
  · rw [hh]
    have D1 := Lib.hid d1; clear d1
    have c1 := (((Arr.new w [.slice P n c, .slice Q m d] 32 rfl).alloc (.cells #[.slice P' n' c', .slice Q' m' d'] 32)).keep (D1.out.below (w.heap.size + 2)) (by omega)).cell (k := 1) rfl
    have c2 := ((Arr.new (w.alloc (.cells #[.slice P n c, .slice Q m d] 32)) [.slice P' n' c', .slice Q' m' d'] 32 (g := w.heap.size + 1) (by simp <;> omega)).keep (D1.out.below (w.heap.size + 2)) (by omega)).cell (k := 1) rfl
    go_wp2_with fail
    refine (eq_any Q m d Q' m' d' u u' _ _ _ (RQ.out.keep ((B1.out _ _).trans (D1.out.below _)) HI) (RQ'.out.keep ((B1.out _ _).trans (D1.out.below _)) HI') (by unfold maxLen; omega) (by unfold maxLen; omega)).mono ?_
    rintro e w2 ⟨rfl, d2⟩
    have BB : Hid (Below w.heap.size w w2) := Lib.hid (((B1.out _ _).trans (D1.out.below _)).trans (d2.below _))
    clear d2
    have HH := Lib.hid hh; clear hh
    cases hq : eqi u u' <;> (have HQ := Lib.hid hq; clear hq; go_wp2_with fail; go_ret; exact ⟨ret_bool (by rw [HH.out, HQ.out]; rfl), BB.out⟩)
  · have hf : eqi r r' = false := by simpa using hh
    rw [hf]
    have BB : Hid (Below w.heap.size w w1) := Lib.hid ((B1.out _ _).trans (d1.below _))
    have HH := Lib.hid hf; clear d1 hf hh
    go_wp2_with fail
    go_ret
    exact ⟨ret_bool (by rw [HH.out]; rfl), BB.out⟩

set_option maxHeartbeats 1000000 in
theorem markS_any (v : Value) (r u : List Int) (lo hi : Nat) (k : Int) (w : World) (hx : Svl w lo hi v r u) (hn : r.length ≤ 1048576) (hm : u.length ≤ 1048576) (k1 : 1 ≤ k) (k2 : k ≤ 1073741824) :
    Calls Try.prog 27 #[v, .int .i64 k] w fun e w' => e = .returned (.int .i64 (k + r.length + u.length)) ∧ Svl w' lo hi v (Marks k r.length) (Marks (k + r.length) u.length) ∧ Out lo hi w w' := by
  obtain ⟨P, n, c, Q, m, d, l1, h1, l2, h2, rfl, a, b, e1, e2, f1, f2, f3, f4, f5, f6⟩ := hx
  have q1 : r.length = n := by simpa [V] using a.1
  have q2 : u.length = m := by simpa [V] using b.1
  rw [q1, q2]
  have RP := Lib.hid a; have RQ := Lib.hid b; clear a b
  have s1 := RP.out.2.1; have s2 := RQ.out.2.1
  have B0 : Hid (∀ o, Below w.heap.size w (w.alloc o)) := Lib.hid (fun o => (Below.refl _ _).alloc (Nat.le_refl _) _)
  go_enter Try.func27, Try.ntmps27
  go_wp2_with fail
  refine (mark_any P n c _ l1 h1 k _ (RP.out.keep (B0.out _) s1) (by omega) (by omega) (by omega)).mono ?_
  rintro e w1 ⟨rfl, rM, oM⟩
  have hs1 := oM.size
  have c1 := (((Arr.new w [.slice P n c, .slice Q m d] 32 rfl).out oM (.inr (by omega)))).cell (k := 1) rfl
  have RP' := Lib.hid rM; have OM := Lib.hid oM; clear rM oM
  go_wp2_with fail
  refine (mark_any Q m d _ l2 h2 (k + n) _ ((RQ.out.keep (B0.out _) s2).out OM.out (by omega)) (by omega) (by omega) (by omega)).mono ?_
  rintro e w2 ⟨rfl, rM, oM⟩
  have hs2 := oM.size
  have O0 : Hid (Out lo hi w w2) := Lib.hid ((((Out.of_below (B0.out _)).trans (OM.out.wider f1 f2))).trans (oM.wider f3 f4))
  have S0 : Hid (Svl w2 lo hi (.agg #[.slice P n c, .slice Q m d]) (Marks k n) (Marks (k + n) m)) := Lib.hid ⟨P, n, c, Q, m, d, l1, h1, l2, h2, rfl, RP'.out.out oM (by omega), rM, e1, e2, f1, f2, f3, f4, f5, Nat.le_trans f6 O0.out.size⟩
  clear rM oM OM RP' RP RQ
  go_wp2_with fail
  go_ret
  exact ⟨rfl, S0.out, O0.out⟩

theorem open_cell {H : Type} {enc : TypeId × Value → H} {P : Program} {W : World} {t e : TypeId} {v : Value} {y : DataW H × List MemPlace} {fuel : Nat}
    (ht : P.underlying t = some (.slice e)) (he : P.underlying e = some (.int .i64)) (hc : P.cellsOf e = 1) (h : DataW.trod enc P W 0 (fun _ => true) true fuel t [v] = some y) :
    ∃ A n c, ∃ xs : List Int, v = .slice A n c ∧ Rd W W.heap.size A n (V xs) ∧ n ≤ c ∧ c ≤ maxLen := by
  rcases open_ints ht he hc h with ⟨hcs, _⟩ | ⟨x, l, cap, ss, hcs, _, hl, hm, hz, _, hcell, hwz⟩
  · simp at hcs
    subst hcs
    exact ⟨none, 0, 0, [], rfl, ⟨rfl, Nat.le_refl _, fun h => absurd h (by omega)⟩, Nat.le_refl _, by simp⟩
  · simp at hcs
    subst hcs
    have hz' : ss.length = cap := by simpa using hz
    refine ⟨some x, l, cap, ss.take l, rfl, Rd.of_cells (by simp [V]; omega) (fun i hi => ?_), hl, hm⟩
    rw [hcell i (by omega)]
    simp [V, hi, List.getD, List.getElem?_eq_getElem (show i < ss.length by omega)]
/-- A struct of two slices of ints that came in. -/
theorem open_S {H : Type} {enc : TypeId × Value → H} {P : Program} {W : World} {r : Reach} {b0 : Nat} {t : TypeId} {f0 f1 : Field} {v : Value} {d : DataW H} {p : List MemPlace} {e : TypeId} (hs : P.underlying t = some (.struct #[f0, f1])) (hone : oneCellFields P #[f0, f1] = true) (hC : P.cellsOf t = 2)
    (ht0 : P.underlying f0.type = some (.slice e)) (ht1 : P.underlying f1.type = some (.slice e)) (he : P.underlying e = some (.int .i64)) (hc : P.cellsOf e = 1)
    (hv : Value.okWide P W r b0 t v) (h : DataW.Trod enc P W 0 (fun _ => true) true t v d p) :
    ∃ r u : List Int, Srd W W.heap.size v r u ∧ r.length ≤ maxLen ∧ u.length ≤ maxLen := by
  obtain ⟨v0, v1, y0, y1, n, rfl, _, _, h0, h1⟩ := open_agg2 hs hone hC hv h
  obtain ⟨A, l, c, xs, rfl, rd, hl, hm⟩ := open_cell ht0 he hc h0
  obtain ⟨B, l', c', ys, rfl, rd', hl', hm'⟩ := open_cell ht1 he hc h1
  have q1 : xs.length = l := by simpa [V] using rd.1
  have q2 : ys.length = l' := by simpa [V] using rd'.1
  exact ⟨xs, ys, ⟨A, l, c, B, l', c', rfl, rd, rd', hl, hl'⟩, by omega, by omega⟩
end Go.Proofs.Ytkkklpchkkdhfaa.sf

/-
  What a region that draws its order holds on to: boxes that no step of it touches.
-/
namespace Go.Proofs.Ytkkklpchkkdhfaa.sf
open Go.ChangeShapes Go.WideShapes Go.ChangeAt Go.RowKit
open Go.Proofs.Ytkkklpchkkdhfaa.mem Go.Proofs.Ytkkklpchkkdhfaa.ints Go.Proofs.Ytkkklpchkkdhfaa.arr
set_option linter.unusedVariables false
set_option maxRecDepth 100000

/-- The blocks bs hold what they held, all below base is as in w, and 'top' blocks are there. -/
structure Hld (base top : Nat) (w : World) (bs : List (Nat × List Value)) (w' : World) : Prop where
  at_ : ∀ p ∈ bs, p.1 < top ∧ w'.rangeAt p.1 0 p.2
  below : Below base w w'
  size : top ≤ w'.heap.size
theorem Hld.start1 {w : World} {a : Nat} {xs : List Value} {t : TypeId} (h1 : Arr w a xs t) : Hld w.heap.size w.heap.size w [(a, xs)] w.drew :=
  ⟨fun p hp => by
    simp only [List.mem_cons, List.not_mem_nil, or_false] at hp
    subst hp
    exact ⟨h1.lt, fun j v hv => by rw [Nat.zero_add]; exact h1.cell hv⟩,
    ⟨rfl, rfl, rfl, Nat.le_refl _, fun _ _ => rfl⟩, Nat.le_refl _⟩
theorem Hld.start2 {w : World} {a b : Nat} {xs ys : List Value} {t t' : TypeId} (h1 : Arr w a xs t) (h2 : Arr w b ys t') : Hld w.heap.size w.heap.size w [(a, xs), (b, ys)] w.drew :=
  ⟨fun p hp => by
    simp only [List.mem_cons, List.not_mem_nil, or_false] at hp
    rcases hp with rfl | rfl
    · exact ⟨h1.lt, fun j v hv => by rw [Nat.zero_add]; exact h1.cell hv⟩
    · exact ⟨h2.lt, fun j v hv => by rw [Nat.zero_add]; exact h2.cell hv⟩,
    ⟨rfl, rfl, rfl, Nat.le_refl _, fun _ _ => rfl⟩, Nat.le_refl _⟩
theorem Hld.fst {base top a : Nat} {w W : World} {xs : List Value} {l : List (Nat × List Value)} (h : Hld base top w ((a, xs) :: l) W) : W.rangeAt a 0 xs := (h.at_ _ (List.mem_cons_self ..)).2
theorem Hld.snd {base top a : Nat} {w W : World} {xs : List Value} {p : Nat × List Value} {l : List (Nat × List Value)} (h : Hld base top w (p :: (a, xs) :: l) W) : W.rangeAt a 0 xs := (h.at_ (a, xs) (by simp)).2
theorem Hld.later {base top : Nat} {w W W' : World} {bs : List (Nat × List Value)} (h : Hld base top w bs W) (hB : Below W.heap.size W W') (hb : base ≤ top) : Hld base top w bs W' :=
  ⟨fun p hp => ⟨(h.at_ p hp).1, fun j v hv => by rw [hB.cell (p := ⟨p.1, 0 + j, none⟩) (show p.1 < _ from Nat.lt_of_lt_of_le (h.at_ p hp).1 h.size)]; exact (h.at_ p hp).2 j v hv⟩,
    h.below.trans (hB.mono (Nat.le_trans hb h.size)), Nat.le_trans h.size hB.size⟩
theorem sizeS (a b : Value) : (Try.prog.info? 32).map (·.size) = some [a, b].length := by kernel_rfl
theorem sizeL (a b : Value) : (Try.prog.info? 41).map (·.size) = some [a, b].length := by kernel_rfl
theorem size2 : (Try.prog.info? 32).map (·.size) = some 2 := by kernel_rfl
end Go.Proofs.Ytkkklpchkkdhfaa.sf

/-
  Contracts of PermOk, InversePerm, ThenPerm, IdentityPerm, of the model and of the program.
-/
namespace Go.Proofs.Ytkkklpchkkdhfaa.fns
open Go.ChangeShapes Go.WideShapes Go.ChangeAt Go.RowKit
open Go.Proofs.Ytkkklpchkkdhfaa.mem Go.Proofs.Ytkkklpchkkdhfaa.ints Go.Proofs.Ytkkklpchkkdhfaa.arr Go.Proofs.Ytkkklpchkkdhfaa.pm Go.Proofs.Ytkkklpchkkdhfaa.permOk Go.Proofs.Ytkkklpchkkdhfaa.permOf Go.Proofs.Ytkkklpchkkdhfaa.inv
set_option linter.unusedVariables false
set_option maxRecDepth 100000

theorem below_same {w w' : World} (h : w = w') : Below w.heap.size w w' := h ▸ Below.refl _ _
theorem ok_spec (A : Option Addr) (n c : Nat) (xs : List Int) (hi : Nat) (w : World) (hx : Rd w hi A n (V xs)) (hn : n ≤ 1048576) (hc : n ≤ c) :
    Calls Try.prog 98 #[.slice A n c] w fun e w' => e = .returned (.bool (okB xs)) ∧ Below w.heap.size w w' :=
  (permOk.spec_any A n c xs hi w hx hn hc).mono fun _ _ ⟨he, hw⟩ => ⟨he, below_same hw⟩

def Owns (w : World) (v : Value) (w' : World) (r : List Int) : Prop := w'.ownsRow w.heap.size 3 1 v r.length (V r)
def Gives (r : List Int) (w : World) (e : Ending) (w' : World) : Prop := ∃ v, e = .returned v ∧ w'.ownsRow w.heap.size 3 1 v r.length (V r) ∧ Below w.heap.size w w'
theorem gives_nil {w w' : World} (h : Below w.heap.size w w') : Gives [] w (.returned (.slice none 0 0)) w' :=
  ⟨_, rfl, ⟨rfl, .inl ⟨rfl, rfl⟩⟩, h⟩
theorem gives_later {w w1 w' : World} {r : List Int} {e : Ending} (hb : Below w.heap.size w w1) (h : Gives r w1 e w') : Gives r w e w' := by
  obtain ⟨v, he, ho, hb'⟩ := h
  refine ⟨v, he, ⟨ho.1, ?_⟩, hb.trans (hb'.mono hb.size)⟩
  rcases ho.2 with h0 | ⟨g, cap, cur, h1, h2, h3⟩
  · exact .inl h0
  · exact .inr ⟨g, cap, cur, h1, Nat.le_trans hb.size h2, h3⟩

end Go.Proofs.Ytkkklpchkkdhfaa.fns

/-
  Contracts of the model's InversePerm, ThenPerm, IdentityPerm; the program's ThenPerm, IdentityPerm.
-/
namespace Go.Proofs.Ytkkklpchkkdhfaa.fns
open Go.ChangeShapes Go.WideShapes Go.ChangeAt Go.RowKit
open Go.Proofs.Ytkkklpchkkdhfaa.mem Go.Proofs.Ytkkklpchkkdhfaa.ints Go.Proofs.Ytkkklpchkkdhfaa.arr Go.Proofs.Ytkkklpchkkdhfaa.pm Go.Proofs.Ytkkklpchkkdhfaa.permOk Go.Proofs.Ytkkklpchkkdhfaa.permOf Go.Proofs.Ytkkklpchkkdhfaa.inv
set_option linter.unusedVariables false
set_option maxRecDepth 100000

theorem Ok.nat {xs : List Int} (h : Ok xs) {k : Nat} (hk : k < xs.length) : ∃ z : Nat, z < xs.length ∧ xs[k]? = some (z : Int) ∧ xs.getD k 0 = (z : Int) := by
  have h1 := h.lo k hk; have h2 := h.hi k hk
  have e : xs[k]? = some (xs.getD k 0) := by rw [List.getD, List.getElem?_eq_getElem hk]; rfl
  exact ⟨(xs.getD k 0).toNat, by omega, by rw [e]; congr 1; omega, by omega⟩
/-- A made row at block w.heap.size holds l. -/
def Made (n : Nat) (w wr : World) (l : List Int) : Prop := wr.ownsRow w.heap.size 3 1 (.slice (some ⟨w.heap.size, 0, none⟩) n n) n (V l) ∧ Below w.heap.size w wr
theorem Made.cell {n : Nat} {w wr : World} {l : List Int} (h : Made n w wr l) {k : Nat} (hk : k < n) : wr.cell? ⟨w.heap.size, k, none⟩ = some (.int .i64 (l.getD k 0)) := by
  have hl : l.length = n := by simpa [V] using h.1.1
  rw [h.1.cellAt k (by omega)]
  exact V_getD (by omega)
theorem Made.set_ {n : Nat} {w wr : World} {l : List Int} (h : Made n w wr l) (k : Nat) (z : Int) : Made n w (wr.setCell ⟨w.heap.size, k, none⟩ (.int .i64 z)) (l.set k z) := by
  have := (h.1.stored k (.int .i64 z)).1
  rw [V_set] at this
  exact ⟨this, h.2.setCell (Nat.le_refl _) _⟩

set_option maxHeartbeats 1000000 in
theorem l02inv_any (A : Option Addr) (n c : Nat) (xs : List Int) (hi : Nat) (w : World) (hx : Rd w hi A n (V xs)) (ok : Ok xs) :
    Calls Try.prog 63 #[.slice A n c] w (Gives (invTo n xs n) w) := by
  obtain ⟨i0, hi0, hz0, hz1, hz2⟩ := info_parts infoI
  have lx : xs.length = n := by simpa [V] using hx.1
  have hn : n ≤ 24 := by have := ok.len; omega
  have LX := Lib.hid lx; clear lx
  have OK := Lib.hid ok; clear ok
  have HX := Lib.hid hx; clear hx
  have HZ2 := Lib.hid hz2; clear hz2
  go_enter Try.func63, Try.ntmps63
  go_wp2_with (at_make; refine wpList_make_full _ rfl _ _ 30 rfl w.heap.size 3 i0 _ 1 Try.underlying30 hi0 hz0 hz1 _ _ _ _ n rfl rfl rfl rfl ?b2 ?b3 (Nat.le_refl _) ?_)
  case b2 => rw [HZ2.out]; omega
  case b3 => unfold maxLen; omega
  intro w1 hown hg
  have hb1 : Below w.heap.size w w1 := (Below.refl _ _).grown hg (Nat.le_refl _) (by simp)
  have HM : Hid (Made n w w1 (invTo n xs 0)) := Lib.hid ⟨by simpa [invTo, V, toList_madeCells_one] using hown, hb1⟩
  clear hown hg hb1
  go_wp2
  go_loopw [11] (fun i wr => ∃ k : Nat, k ≤ n ∧ i = .int .i64 k ∧ Made n w wr (invTo n xs k)) (fun i _ => n - (intOf i).toNat)
  case atStart => exact ⟨0, Nat.zero_le _, rfl, HM.out⟩
  case round =>
    obtain ⟨k, hk, rfl, hm⟩ := hrel
    have HR := Lib.hid hm; clear hm HM
    by_cases hlt : k < n
    · obtain ⟨g, off, u, rfl, hgl, hxu, hcx⟩ := HX.out.at_ hlt
      obtain ⟨s, hxs, rfl⟩ := V_at hxu
      obtain ⟨z, hz, hqz, hqd⟩ := Ok.nat OK.out (k := k) (by rw [LX.out]; exact hlt)
      rw [hqz] at hxs
      obtain rfl := Option.some.inj hxs
      rw [LX.out] at hz
      have hgw : g < w.heap.size := Nat.lt_of_lt_of_le hgl HX.out.2.1
      rw [← HR.out.2.cell (p := ⟨g, off + k, none⟩) hgw] at hcx
      have hc := HR.out.cell hz
      have hf := HR.out.1.frozenAt z
      have HD := Lib.hid hqd; clear hqd hqz hxs hxu
      go_wp2
      go_roundw
      case rel =>
        refine ⟨k + 1, by omega, by go_num, ?_⟩
        have e : invTo n xs (k + 1) = (invTo n xs k).set z (k : Int) := by rw [invTo, HD.out]; rfl
        rw [e]
        exact HR.out.set_ z _
      case measure => simp [intOf]; omega
    · obtain rfl : k = n := by omega
      go_wp2
      go_ret
      exact ⟨_, rfl, by rw [invTo_len]; exact HR.out.1, HR.out.2⟩

end Go.Proofs.Ytkkklpchkkdhfaa.fns

/-
  Contracts of ThenPerm and IdentityPerm, of the model and of the program.
-/
namespace Go.Proofs.Ytkkklpchkkdhfaa.fns
open Go.ChangeShapes Go.WideShapes Go.ChangeAt Go.RowKit
open Go.Proofs.Ytkkklpchkkdhfaa.mem Go.Proofs.Ytkkklpchkkdhfaa.ints Go.Proofs.Ytkkklpchkkdhfaa.arr Go.Proofs.Ytkkklpchkkdhfaa.pm Go.Proofs.Ytkkklpchkkdhfaa.permOk Go.Proofs.Ytkkklpchkkdhfaa.permOf Go.Proofs.Ytkkklpchkkdhfaa.inv
set_option linter.unusedVariables false
set_option maxRecDepth 100000

/-- A row that grows: v holds l. -/
structure Grows (w wr : World) (v : Value) (l : List Int) : Prop where
  own : wr.ownsRow w.heap.size 3 1 v l.length (V l)
  below : Below w.heap.size w wr
theorem Grows.empty (w : World) : Grows w (w.alloc (.cells #[] 3)) (.slice (some ⟨w.heap.size, 0, none⟩) 0 0) [] :=
  ⟨⟨rfl, .inr ⟨w.heap.size, 0, #[], rfl, Nat.le_refl _, heap_alloc_last w _, Nat.le_refl _, by simp, rfl, rfl⟩⟩, (Below.refl _ _).alloc (Nat.le_refl _) _⟩
theorem Grows.one (w : World) (z : Int) : Grows w (w.alloc (.cells #[.int .i64 z] 3)) (.slice (some ⟨w.heap.size, 0, none⟩) 1 1) [z] :=
  ⟨⟨rfl, .inr ⟨w.heap.size, 1, #[.int .i64 z], rfl, Nat.le_refl _, heap_alloc_last w _, Nat.le_refl _, by unfold maxLen; omega, rfl, rfl⟩⟩, (Below.refl _ _).alloc (Nat.le_refl _) _⟩
theorem Grows.next {w wr w' : World} {v v' : Value} {l : List Int} {z : Int} {n : Nat} (h : Grows w wr v l) (ho : w'.ownsRow w.heap.size 3 1 v' (n + 1) (V l ++ [.int .i64 z])) (hn : n = l.length) (hg : wr.grownBy w' v.ownBlock) : Grows w w' v' (l ++ [z]) := by
  subst hn
  refine ⟨?_, h.below.trans (own_below h.own hg (Nat.le_refl _) h.below.size)⟩
  have e : V (l ++ [z]) = V l ++ [.int .i64 z] := by simp [V]
  rw [e]
  simpa using ho
theorem Grows.gives {w wr : World} {v : Value} {l : List Int} (h : Grows w wr v l) : Gives l w (.returned v) wr := ⟨v, rfl, h.own, h.below⟩
theorem thn_snoc (xs ys : List Int) {k z : Nat} (h : xs[k]? = some (z : Int)) : thn (xs.take (k + 1)) ys = thn (xs.take k) ys ++ [ys.getD z 0] := by
  rw [List.take_add_one, h]; simp [thn]

set_option maxHeartbeats 1000000 in
theorem l02then_any (A : Option Addr) (n c : Nat) (B : Option Addr) (m d : Nat) (xs ys : List Int) (h1 h2 : Nat) (w : World) (hx : Rd w h1 A n (V xs)) (hy : Rd w h2 B m (V ys)) (ok : Ok xs) (hnm : n = m) :
    Calls Try.prog 62 #[.slice A n c, .slice B m d] w (Gives (thn xs ys) w) := by
  subst hnm
  obtain ⟨i0, hi0, hz0, hz1, hz2⟩ := info_parts infoI
  have lx : xs.length = n := by simpa [V] using hx.1
  have ly : ys.length = n := by simpa [V] using hy.1
  have hn : n ≤ 24 := by have := ok.len; omega
  have LX := Lib.hid lx; have LY := Lib.hid ly; clear lx ly
  have OK := Lib.hid ok; clear ok
  have HX := Lib.hid hx; have HY := Lib.hid hy; clear hx hy
  go_enter Try.func62, Try.ntmps62
  go_wp2
  go_loopw [5, 11] (fun v i wr => ∃ k : Nat, k ≤ n ∧ i = .int .i64 k ∧ Grows w wr v (thn (xs.take k) ys)) (fun _ i _ => n - (intOf i).toNat)
  case atStart => exact ⟨0, Nat.zero_le _, rfl, Grows.empty w⟩
  case round =>
    obtain ⟨k, hk, rfl, hm⟩ := hrel
    have HR := Lib.hid hm; clear hm
    by_cases hlt : k < n
    · obtain ⟨g, off, u, rfl, hgl, hxu, hcx⟩ := HX.out.at_ hlt
      obtain ⟨s, hxs, rfl⟩ := V_at hxu
      obtain ⟨z, hz, hqz, hqd⟩ := Ok.nat OK.out (k := k) (by rw [LX.out]; exact hlt)
      rw [hqz] at hxs
      obtain rfl := Option.some.inj hxs
      rw [LX.out] at hz
      obtain ⟨g', off', u', rfl, hgl', hyu, hcy⟩ := HY.out.at_ hz
      obtain ⟨t, hyt, rfl⟩ := V_at hyu
      have hgw : g < w.heap.size := Nat.lt_of_lt_of_le hgl HX.out.2.1
      have hgw' : g' < w.heap.size := Nat.lt_of_lt_of_le hgl' HY.out.2.1
      rw [← HR.out.below.cell (p := ⟨g, off + k, none⟩) hgw] at hcx
      rw [← HR.out.below.cell (p := ⟨g', off' + z, none⟩) hgw'] at hcy
      have HQ := Lib.hid hqz; have HT := Lib.hid (permOk.getD_of hyt)
      have hsz := HR.out.below.size
      have HLN : Hid ((thn (xs.take k) ys).length = k) := Lib.hid (by have := LX.out; simp [thn]; omega)
      clear hqz hqd hxs hxu hyu hyt
      go_wp2_with (at_builtin; refine wpList_append_one wr _ _ rfl _ _ 30 rfl w.heap.size 3 i0 _ 8 Try.underlying30 hi0 hz0 hz1 hz2 rfl _ _ _ rfl HR.out.own rfl rfl ?c4 (by decide) hsz ?_)
      case c4 => rw [HLN.out]; omega
      intro v' w' ho hg
      have HN : Hid (Grows w w' v' (thn (xs.take (k + 1)) ys)) := Lib.hid (by
        rw [thn_snoc xs ys HQ.out, HT.out]
        exact HR.out.next ho rfl hg)
      clear ho hg HR hcx hcy
      go_wp2
      go_roundw
      case rel => exact ⟨k + 1, by omega, by go_num, HN.out⟩
      case measure => simp [intOf]; omega
    · obtain rfl : k = n := by omega
      go_wp2
      go_ret
      have := HR.out
      rw [List.take_of_length_le (by rw [LX.out]; exact Nat.le_refl _)] at this
      exact this.gives

set_option maxHeartbeats 1000000 in
theorem l02id_any (n : Nat) (w : World) (hn : n ≤ 24) :
    Calls Try.prog 64 #[.int .i64 n] w (Gives ((List.range n).map (fun (i : Nat) => (i : Int))) w) := by
  obtain ⟨i0, hi0, hz0, hz1, hz2⟩ := info_parts infoI
  go_enter Try.func64, Try.ntmps64
  go_wp2
  go_loopw [3, 4] (fun v i wr => ∃ k : Nat, k ≤ n ∧ i = .int .i64 k ∧ Grows w wr v ((List.range k).map (fun (i : Nat) => (i : Int)))) (fun _ i _ => n - (intOf i).toNat)
  case atStart => exact ⟨0, Nat.zero_le _, rfl, Grows.empty w⟩
  case round =>
    obtain ⟨k, hk, rfl, hm⟩ := hrel
    have HR := Lib.hid hm; clear hm
    by_cases hlt : k < n
    · have hsz := HR.out.below.size
      go_wp2_with (at_builtin; refine wpList_append_one wr _ _ rfl _ _ 30 rfl w.heap.size 3 i0 _ 8 Try.underlying30 hi0 hz0 hz1 hz2 rfl _ _ _ rfl HR.out.own rfl rfl ?c4 (by decide) hsz ?_)
      case c4 => simp; omega
      intro v' w' ho hg
      have HN : Hid (Grows w w' v' ((List.range (k + 1)).map (fun (i : Nat) => (i : Int)))) := Lib.hid (by
        rw [List.range_succ, List.map_append]
        exact HR.out.next ho (by simp) hg)
      clear ho hg HR
      go_wp2
      go_roundw
      case rel => exact ⟨k + 1, by omega, by go_num, HN.out⟩
      case measure => simp [intOf]; omega
    · obtain rfl : k = n := by omega
      go_wp2
      go_ret
      exact HR.out.gives

end Go.Proofs.Ytkkklpchkkdhfaa.fns

/-
  Contract of the program's ThenPerm.
-/
namespace Go.Proofs.Ytkkklpchkkdhfaa.fns
open Go.ChangeShapes Go.WideShapes Go.ChangeAt Go.RowKit
open Go.Proofs.Ytkkklpchkkdhfaa.mem Go.Proofs.Ytkkklpchkkdhfaa.ints Go.Proofs.Ytkkklpchkkdhfaa.arr Go.Proofs.Ytkkklpchkkdhfaa.pm Go.Proofs.Ytkkklpchkkdhfaa.permOk Go.Proofs.Ytkkklpchkkdhfaa.permOf Go.Proofs.Ytkkklpchkkdhfaa.inv
set_option linter.unusedVariables false
set_option maxRecDepth 100000

end Go.Proofs.Ytkkklpchkkdhfaa.fns

/-
  append of one element to a row of the call's own, with the block in which the result lies.
-/
namespace Go.Proofs.Ytkkklpchkkdhfaa.mem
open Go.ChangeShapes Go.WideShapes Go.ChangeAt Go.RowKit
set_option linter.unusedVariables false
set_option maxRecDepth 100000

/-- Where the result of an append of one cell lies: the library's laws for the three cases (nil, room, no room) all speak of the one run. -/
theorem one_where {P : Program} (w : World) (base : Nat) (t ty e : TypeId) (i : TypeInfo) (z : Value) (bytes : Nat) (ht : P.underlying t = some (.slice e)) (hi : P.info? e = some i) (hz : i.zero = some z)
    (hsize : i.size = 1) (hby : i.bytes = bytes) (hzs : z.cells.size = 1) (v : Value) (n : Nat) (xs : List Value) (hown : w.ownsRow base e 1 v n xs)
    (a : Addr) (u : Value) (hu : w.cell? a = some u) (ha : a.add 0 = a) (h1 : u.oneCell' = true) (hbytes : (n + 1) * bytes ≤ 140737488355328) (h63 : n + 1 ≤ maxLen) {v' : Value} {w' : World}
    (hr : (Builtin.append_ #[t, t] ty #[v, .slice (some a) 1 1]).run P w = .ok v' w') : v'.ownBlock = v.ownBlock ∨ ∃ k, v'.ownBlock = some k ∧ w.heap.size ≤ k := by
  have hc : ∀ j q, [u][j]? = some q → w.cell? (a.add j) = some q := by
    intro j q hj
    match j, hj with
    | 0, hj => simp at hj; subst hj; rw [ha]; exact hu
  have ho : ∀ q ∈ [u], q.oneCell' = true := by intro q hq; simp at hq; subst hq; exact h1
  have same : ∀ {v2 : Value} {w2 : World}, (Builtin.append_ #[t, t] ty #[v, .slice (some a) 1 1]).run P w = .ok v2 w2 → v' = v2 := by
    intro v2 w2 h2
    rw [hr] at h2
    injection h2
  rcases hown.2 with ⟨rfl, rfl⟩ | ⟨g, cap, cur, rfl, _⟩
  · have hn : w.ownsRow w.heap.size e 1 (.slice none 0 0) 0 xs := ⟨hown.1, .inl ⟨rfl, rfl⟩⟩
    obtain ⟨v2, w2, h2, own2, _, ne⟩ := run_append_own (P := P) w w.heap.size t ty e i z 1 bytes ht hi hz hsize hby hzs (by decide) _ 0 xs hn a 1 1 [u] rfl hc ho h63 hbytes (Nat.le_refl _)
    rw [same h2]
    cases hb : v2.ownBlock with
    | none => exact .inl rfl
    | some k => exact .inr ⟨k, rfl, (own2.lt k hb).1⟩
  · by_cases room : n + 1 ≤ cap
    · obtain ⟨w2, h2, _⟩ := run_append_fits (P := P) w base t ty e i 1 ht hi hsize g n cap xs hown a 1 1 [u] rfl hc ho room
      rw [same h2]
      exact .inl rfl
    · have h2 := run_append_grow (P := P) w t ty e i z ht hi hz ⟨g, 0, none⟩ n cap xs (by rw [hsize]; exact hown.1) (hown.cells rfl) a 1 1 [u] (by rw [hsize]; rfl) hc (by omega) (by unfold maxLen at h63; omega) (by rw [hby]; exact growslice_fits (by omega) hbytes)
      rw [same h2]
      exact .inr ⟨_, rfl, Nat.le_refl _⟩

/-- 'out = append(out, u)': as wpList_append_one; the result lies where it lay, or in a new block. -/
theorem wpList_append_one2 {P : Program} {ops : Array Oper} {rest : List Oper} {o : Oper} {a : Act} {Q : Exit → Act → World → Prop} (W : World) (u : Value) (ty : TypeId) (hgd : o.guard = none) (s x : Operand) (t : TypeId)
    (ho : o.op = .call { callee := .builtin .append, args := #[s, x], argTypes := #[t, t] })
    (base : Nat) (e : TypeId) (i : TypeInfo) (z : Value) (bytes size : Nat) (ht : P.underlying t = some (.slice e)) (hi : P.info? e = some i) (hz : i.zero = some z)
    (hsize : i.size = size) (hone : size = 1) (hby : i.bytes = bytes) (hzs : z.cells.size = 1)
    (v : Value) (n : Nat) (xs : List Value) (hs : a.eval s = v) (hown : W.ownsRow base e 1 v n xs)
    (hx : a.eval x = .slice (some ⟨W.heap.size, 0, none⟩) 1 1) (h1 : u.oneCell' = true)
    (hbytes : (n + 1) * bytes ≤ 140737488355328) (hb0 : 0 < bytes) (hbase : base ≤ W.heap.size)
    (h : ∀ v' w', w'.ownsRow base e 1 v' (n + 1) (xs ++ [u]) → W.grownBy w' v.ownBlock → (v'.ownBlock = v.ownBlock ∨ ∃ k, v'.ownBlock = some k ∧ W.heap.size + 1 ≤ k) → wpList P ops Q rest (a.put o.dst v') w') : wpList P ops Q (o :: rest) a (W.alloc (.cells #[u] ty)) := by
  subst hone
  have h63 : n + 1 ≤ maxLen := by
    have : (n + 1) * 1 ≤ (n + 1) * bytes := Nat.mul_le_mul_left _ hb0
    unfold maxLen; omega
  have hcell : (W.alloc (.cells #[u] ty)).cell? ⟨W.heap.size, 0, none⟩ = some u := by simp
  have hc : ∀ j q, [u][j]? = some q → (W.alloc (.cells #[u] ty)).cell? ((⟨W.heap.size, 0, none⟩ : Addr).add j) = some q := by
    intro j q hj
    match j, hj with
    | 0, hj => simp at hj; subst hj; simp [Addr.add]
  have hu : ∀ q ∈ [u], q.oneCell' = true := by intro q hq; simp at hq; subst hq; exact h1
  obtain ⟨v', w', hr, own', grown', _⟩ := run_append_own (P := P) (W.alloc (.cells #[u] ty)) base t o.type e i z 1 bytes ht hi hz hsize hby hzs (by decide) v n xs (hown.alloc _) ⟨W.heap.size, 0, none⟩ 1 1 [u] rfl hc hu h63 hbytes (by simp; omega)
  have hwh := one_where (P := P) (W.alloc (.cells #[u] ty)) base t o.type e i z bytes ht hi hz hsize hby hzs v n xs (hown.alloc _) ⟨W.heap.size, 0, none⟩ u hcell (by simp [Addr.add]) h1 hbytes h63 hr
  have hgo := h v' w' own' (grown_trans (World.grownBy_alloc W _ _) grown') (by simpa using hwh)
  refine wpList_plain hgd fun K hK => ?_
  simp [Oper.wp, execOp, ho, resolve, invoke, builtin, hs, hx, hr]
  exact hK _ _ hgo
end Go.Proofs.Ytkkklpchkkdhfaa.mem
