import Derived.Test.YtabiakcndddmkaaTo
import Derived.Test.YtabiakcndddmkaaMA
import Derived.Test.YtabiakcndddmkaaMB
/-
  EllOf of the model: two identities, stored into; plain mathematics of both.
-/
namespace Go.Proofs.Ytabiakcndddmkaa.gl
open Go.ChangeShapes Go.WideShapes Go.ChangeAt Go.RowKit
open Go.Proofs.Ytabiakcndddmkaa.mem Go.Proofs.Ytabiakcndddmkaa.ints Go.Proofs.Ytabiakcndddmkaa.arr Go.Proofs.Ytabiakcndddmkaa.pm Go.Proofs.Ytabiakcndddmkaa.permOk Go.Proofs.Ytabiakcndddmkaa.permOf Go.Proofs.Ytabiakcndddmkaa.inv Go.Proofs.Ytabiakcndddmkaa.fns Go.Proofs.Ytabiakcndddmkaa.sf
set_option linter.unusedVariables false
set_option maxRecDepth 100000

def lst (n : Nat) (f : Nat → Nat) : List Int := (List.range n).map fun i => (f i : Int)
theorem lst_len (n : Nat) (f : Nat → Nat) : (lst n f).length = n := by simp [lst]
theorem lst_set {n k z : Nat} {f f' : Nat → Nat} (h : ∀ i, i < n → f' i = if i = k then z else f i) : (lst n f).set k (z : Int) = lst n f' := by
  refine list_eq n (by simp [lst]) (lst_len _ _) fun i hi => ?_
  rw [getD_set, lst_len]
  have e : ∀ g : Nat → Nat, (lst n g).getD i 0 = (g i : Int) := fun g => by simp [lst, List.getD, hi]
  rw [e, e, h i hi]
  by_cases q : i = k
  · rw [if_pos ⟨q.symm, hi⟩, if_pos q]
  · rw [if_neg (fun x => q x.1.symm), if_neg q]
theorem lst_congr {n : Nat} {f f' : Nat → Nat} (h : ∀ i, i < n → f i = f' i) : lst n f = lst n f' := by
  unfold lst; exact List.map_congr_left fun i hi => by rw [h i (by simpa using hi)]
theorem lst_id (n : Nat) : lst n (fun i => i) = (List.range n).map (fun (i : Nat) => (i : Int)) := rfl
/-- Right: the first squares in a ring of 'arm'. -/
def elR (arm n k : Nat) : List Int := lst n fun i => if i < k then (i + 1) % arm else i
/-- Up: 0, arm, arm + 1, .. in a ring, done up to k. -/
def elS (arm n k : Nat) : List Int := lst n fun i => if i = 0 then arm else if arm ≤ i ∧ i < k then (i + 1) % n else i
def elT (arm n x : Nat) : List Int := lst n fun i => if i = 0 ∧ arm < x then arm else if arm ≤ i ∧ i + 1 < x then i + 1 else i
def elU (arm leg n : Nat) : List Int := if leg ≤ 1 then lst n (fun i => i) else elS arm n n
theorem elR_zero (arm n : Nat) : elR arm n 0 = lst n (fun i => i) := lst_congr fun i _ => by simp
theorem elR_succ {arm n k : Nat} (hk : k < n) : (elR arm n k).set k (((k + 1) % arm : Nat) : Int) = elR arm n (k + 1) := lst_set fun i _ => by
  by_cases q : i = k
  · subst q; simp
  · rw [if_neg q]; split <;> split <;> first | rfl | omega
theorem elS_start {arm n : Nat} (h0 : 0 < n) (ha : 1 ≤ arm) : (lst n (fun i => i)).set 0 (arm : Int) = elS arm n arm := lst_set fun i _ => by
  by_cases q : i = 0
  · simp [q]
  · rw [if_neg q, if_neg q, if_neg (by omega)]
theorem elS_succ {arm n k : Nat} (ha : 1 ≤ arm) (hk : arm ≤ k) : (elS arm n k).set k (((k + 1) % n : Nat) : Int) = elS arm n (k + 1) := lst_set fun i _ => by
  by_cases q : i = k
  · subst q; rw [if_neg (by omega), if_pos (by omega), if_pos rfl]
  · rw [if_neg q]
    by_cases q0 : i = 0
    · rw [if_pos q0, if_pos q0]
    · rw [if_neg q0, if_neg q0]; split <;> split <;> first | rfl | omega
theorem elT_start (arm n : Nat) : elT arm n arm = lst n (fun i => i) := lst_congr fun i _ => by
  rw [if_neg (by omega), if_neg (by omega)]
theorem elT_succ {arm n x : Nat} (ha : 1 ≤ arm) (hx : arm ≤ x) : (elT arm n x).set (if x = arm then 0 else x - 1) (x : Int) = elT arm n (x + 1) := lst_set fun i _ => by
  by_cases e : x = arm
  · subst e
    rw [if_pos rfl]
    by_cases q : i = 0
    · subst q; rw [if_pos (by omega), if_pos rfl]
    · rw [if_neg q, if_neg (by omega), if_neg (by omega), if_neg (by omega), if_neg (by omega)]
  · rw [if_neg e]
    by_cases q : i = x - 1
    · rw [if_neg (by omega), if_pos (by omega), if_pos q]; omega
    · rw [if_neg q]
      by_cases q0 : i = 0
      · rw [if_pos (by omega), if_pos (by omega)]
      · rw [if_neg (show ¬ (i = 0 ∧ arm < x + 1) by omega), if_neg (show ¬ (i = 0 ∧ arm < x) by omega)]; split <;> split <;> first | rfl | omega
theorem elT_end {arm leg n : Nat} (ha : 1 ≤ arm) (hl : 1 ≤ leg) (hn : n + 1 = arm + leg) : (elT arm n n).set (if n = arm then 0 else n - 1) 0 = elU arm leg n := by
  unfold elU
  by_cases e : n = arm
  · have : leg ≤ 1 := by omega
    rw [if_pos this, if_pos e]
    exact lst_set (z := 0) fun i hi => by
      by_cases q : i = 0
      · simp [q]
      · rw [if_neg q, if_neg (by omega), if_neg (by omega)]
  · have : ¬ leg ≤ 1 := by omega
    rw [if_neg this, if_neg e]
    exact lst_set (z := 0) fun i hi => by
      by_cases q0 : i = 0
      · rw [if_neg (show ¬ i = n - 1 by omega), if_pos (show i = 0 ∧ arm < n by omega), if_pos q0]
      · rw [if_neg q0]
        by_cases q1 : i = n - 1
        · rw [if_pos q1, if_pos (show arm ≤ i ∧ i < n by omega), show i + 1 = n by omega, Nat.mod_self]
        · rw [if_neg q1, if_neg (show ¬ (i = 0 ∧ arm < n) by omega)]
          by_cases q2 : arm ≤ i
          · rw [if_pos (show arm ≤ i ∧ i < n by omega), if_pos (show arm ≤ i ∧ i + 1 < n by omega), Nat.mod_eq_of_lt (by omega)]
          · rw [if_neg (show ¬ (arm ≤ i ∧ i < n) by omega), if_neg (show ¬ (arm ≤ i ∧ i + 1 < n) by omega)]
def elB (a h : Int) : Bool := decide (1 ≤ a ∧ 1 ≤ h ∧ a + h ≤ 25)
def elFR (a h : Int) : List Int := if elB a h then elR a.toNat (a + h - 1).toNat a.toNat else []
def elFU (a h : Int) : List Int := if elB a h then elU a.toNat h.toNat (a + h - 1).toNat else []
theorem elU_len (arm leg n : Nat) : (elU arm leg n).length = n := by unfold elU; split <;> exact lst_len _ _
theorem elFR_len (a h : Int) : (elFR a h).length ≤ 1048576 := by
  unfold elFR; split
  · rename_i q; have := of_decide_eq_true q; unfold elR; rw [lst_len]; omega
  · simp
theorem elFU_len (a h : Int) : (elFU a h).length ≤ 1048576 := by
  unfold elFU; split
  · rename_i q; have := of_decide_eq_true q; rw [elU_len]; omega
  · simp
theorem el_yes {A H n : Nat} (a1 : 1 ≤ A) (h1 : 1 ≤ H) (hn : n + 1 = A + H) (p : n ≤ 24) : elB A H = true ∧ elFR A H = elR A n A ∧ elFU A H = elU A H n := by
  have e : elB A H = true := by unfold elB; rw [decide_eq_true_eq]; omega
  have en : ((A : Int) + (H : Int) - 1).toNat = n := by omega
  refine ⟨e, ?_, ?_⟩
  · rw [elFR, e, if_pos rfl, en]; rfl
  · rw [elFU, e, if_pos rfl, en]; rfl
theorem el_no {a h : Int} (q : ¬ (1 ≤ a ∧ 1 ≤ h ∧ a + h ≤ 25)) : elB a h = false ∧ elFR a h = [] ∧ elFU a h = [] := by
  have e : elB a h = false := by unfold elB; rw [decide_eq_false_iff_not]; exact q
  exact ⟨e, by rw [elFR, e]; rfl, by rw [elFU, e]; rfl⟩
/-- Two rows in two blocks, their headers in a box, the result's box. -/
structure Eg (w wr : World) (b g1 g2 n c1 c2 : Nat) (l m : List Int) : Prop where
  res : Arr wr w.heap.size [.slice none 0 0, .slice none 0 0] 27
  box : Arr wr b [.slice (some ⟨g1, 0, none⟩) n c1, .slice (some ⟨g2, 0, none⟩) n c2] 27
  own1 : wr.ownsRow (w.heap.size + 1) 3 1 (.slice (some ⟨g1, 0, none⟩) n c1) n (V l)
  own2 : wr.ownsRow (w.heap.size + 1) 3 1 (.slice (some ⟨g2, 0, none⟩) n c2) n (V m)
  ne : g1 ≠ g2
  b1 : g1 < b
  b2 : g2 < b
  below : Below w.heap.size w wr
theorem own_set2 {W : World} {base b k : Nat} {e : TypeId} {v u : Value} {n : Nat} {xs : List Value} (h : W.ownsRow base e 1 v n xs) (hb : v.ownBlock ≠ some b) : (W.setCell ⟨b, k, none⟩ u).ownsRow base e 1 v n xs := by
  refine ⟨h.1, ?_⟩
  rcases h.2 with h0 | ⟨g, cap, cur, q1, q2, q3, q4⟩
  · exact .inl h0
  · exact .inr ⟨g, cap, cur, q1, q2, (Below.heap_setCell _ _ _ _ (by show g ≠ b; intro e; exact hb (by rw [q1, ← e]; rfl))).trans q3, q4⟩
theorem Eg.drew {w wr : World} {b g1 g2 n c1 c2 : Nat} {l m : List Int} (h : Eg w wr b g1 g2 n c1 c2 l m) : Eg w wr.drew b g1 g2 n c1 c2 l m := ⟨h.res, h.box, h.own1, h.own2, h.ne, h.b1, h.b2, ⟨h.below.os, h.below.tape, h.below.output, h.below.size, h.below.block⟩⟩
theorem Eg.g1 {w wr : World} {b g1 g2 n c1 c2 : Nat} {l m : List Int} (h : Eg w wr b g1 g2 n c1 c2 l m) : w.heap.size + 1 ≤ g1 := (h.own1.lt g1 rfl).1
theorem Eg.g2 {w wr : World} {b g1 g2 n c1 c2 : Nat} {l m : List Int} (h : Eg w wr b g1 g2 n c1 c2 l m) : w.heap.size + 1 ≤ g2 := (h.own2.lt g2 rfl).1
theorem Eg.set1 {w wr : World} {b g1 g2 n c1 c2 : Nat} {l m : List Int} (h : Eg w wr b g1 g2 n c1 c2 l m) (k : Nat) (z : Int) : Eg w (wr.setCell ⟨g1, k, none⟩ (.int .i64 z)) b g1 g2 n c1 c2 (l.set k z) m := by
  have q1 := h.g1; have q2 := h.b1; have q3 := h.ne
  refine ⟨(Below.heap_setCell _ _ _ _ (by show _ ≠ g1; omega)).trans h.res, (Below.heap_setCell _ _ _ _ (by show _ ≠ g1; omega)).trans h.box, ?_, own_set2 h.own2 (by show some g2 ≠ some g1; intro e; injection e with e; exact q3 e.symm), h.ne, h.b1, h.b2, h.below.setCell (by show w.heap.size ≤ g1; omega) _⟩
  have := (h.own1.stored k (.int .i64 z)).1
  rw [V_set] at this
  exact this
theorem Eg.set2 {w wr : World} {b g1 g2 n c1 c2 : Nat} {l m : List Int} (h : Eg w wr b g1 g2 n c1 c2 l m) (k : Nat) (z : Int) : Eg w (wr.setCell ⟨g2, k, none⟩ (.int .i64 z)) b g1 g2 n c1 c2 l (m.set k z) := by
  have q1 := h.g2; have q2 := h.b2; have q3 := h.ne
  refine ⟨(Below.heap_setCell _ _ _ _ (by show _ ≠ g2; omega)).trans h.res, (Below.heap_setCell _ _ _ _ (by show _ ≠ g2; omega)).trans h.box, own_set2 h.own1 (by show some g1 ≠ some g2; intro e; injection e with e; exact q3 e), ?_, h.ne, h.b1, h.b2, h.below.setCell (by show w.heap.size ≤ g2; omega) _⟩
  have := (h.own2.stored k (.int .i64 z)).1
  rw [V_set] at this
  exact this
theorem Eg.cell1 {w wr : World} {b g1 g2 n c1 c2 : Nat} {l m : List Int} (h : Eg w wr b g1 g2 n c1 c2 l m) {k : Nat} (hk : k < n) : wr.cell? ⟨g1, k, none⟩ = some (.int .i64 (l.getD k 0)) := by
  have hl : l.length = n := by have := h.own1.1; simpa [V] using this
  rw [h.own1.cellAt k (by omega)]; exact V_getD (by omega)
theorem Eg.cell2 {w wr : World} {b g1 g2 n c1 c2 : Nat} {l m : List Int} (h : Eg w wr b g1 g2 n c1 c2 l m) {k : Nat} (hk : k < n) : wr.cell? ⟨g2, k, none⟩ = some (.int .i64 (m.getD k 0)) := by
  have hl : m.length = n := by have := h.own2.1; simpa [V] using this
  rw [h.own2.cellAt k (by omega)]; exact V_getD (by omega)
theorem Eg.svl {w wr : World} {b g1 g2 n c1 c2 : Nat} {l m : List Int} (h : Eg w wr b g1 g2 n c1 c2 l m) (hn : 0 < n) : Svl wr (w.heap.size + 1) wr.heap.size (.agg #[.slice (some ⟨g1, 0, none⟩) n c1, .slice (some ⟨g2, 0, none⟩) n c2]) l m := by
  have e1 : l.length = n := by have := h.own1.1; simpa [V] using this
  have e2 : m.length = n := by have := h.own2.1; simpa [V] using this
  have r1 := h.own1; have r2 := h.own2
  have q := Svl.apart (P := some ⟨g1, 0, none⟩) (Q := some ⟨g2, 0, none⟩) (c := c1) (d := c2) (r := l) (u := m) (by rw [e1]; exact r1) (by rw [e2]; exact r2) (fun x a1 a2 => h.ne ((Option.some.inj (show some g1 = some x from a1)).trans (Option.some.inj (show some g2 = some x from a2)).symm)) (by omega) (by omega)
  rw [e1, e2] at q
  exact q
theorem elf {A k : Nat} (h1 : 1 ≤ A) (h2 : A ≤ 24) (h3 : k ≤ 24) : ∃ k1 z : Nat, ((k : Int) + 1 = (k1 : Int) ∧ IntKind.i64.wrap (k1 : Int) = (k1 : Int)) ∧ (k1 : Int).tmod (A : Int) = (z : Int) ∧ z = (k + 1) % A :=
  ⟨k + 1, (k + 1) % A, ⟨by simp, w_in (by omega)⟩, by rw [Int.tmod_eq_emod_of_nonneg (by omega)]; exact (Int.natCast_emod _ A).symm, rfl⟩

end Go.Proofs.Ytabiakcndddmkaa.gl

/-
  EllOf of the model.
-/
namespace Go.Proofs.Ytabiakcndddmkaa.gl
open Go.ChangeShapes Go.WideShapes Go.ChangeAt Go.RowKit
open Go.Proofs.Ytabiakcndddmkaa.mem Go.Proofs.Ytabiakcndddmkaa.ints Go.Proofs.Ytabiakcndddmkaa.arr Go.Proofs.Ytabiakcndddmkaa.pm Go.Proofs.Ytabiakcndddmkaa.permOk Go.Proofs.Ytabiakcndddmkaa.permOf Go.Proofs.Ytabiakcndddmkaa.inv Go.Proofs.Ytabiakcndddmkaa.fns Go.Proofs.Ytabiakcndddmkaa.sf
set_option linter.unusedVariables false
set_option maxRecDepth 100000

theorem own_at {W : World} {lo : Nat} {v : Value} {n : Nat} {xs : List Value} (h : W.ownsRow lo 3 1 v n xs) (hn : 0 < n) : ∃ g c, v = .slice (some ⟨g, 0, none⟩) n c := by
  rcases h.2 with h0 | ⟨g, c, cur, q, _⟩
  · exact absurd h0.2 (by omega)
  · exact ⟨g, c, q⟩
theorem own_below {W W' : World} {lo base g n c : Nat} {e : TypeId} {xs : List Value} (h : W.ownsRow base e 1 (.slice (some ⟨g, 0, none⟩) n c) n xs) (hb : Below lo W W') (hg : g < lo) : W'.ownsRow base e 1 (.slice (some ⟨g, 0, none⟩) n c) n xs := by
  refine ⟨h.1, ?_⟩
  rcases h.2 with h0 | ⟨g', cap, cur, q1, q2, q3, q4⟩
  · exact .inl h0
  · obtain rfl : g = g' := by injection q1 with q1; injection q1 with q1; injection q1
    exact .inr ⟨g, cap, cur, q1, q2, (hb.block g hg).trans q3, q4⟩
theorem own_lo {W : World} {base base' n : Nat} {v : Value} {e : TypeId} {xs : List Value} (h : W.ownsRow base e 1 v n xs) (hb : base' ≤ base) : W.ownsRow base' e 1 v n xs := by
  refine ⟨h.1, ?_⟩
  rcases h.2 with h0 | ⟨g', cap, cur, q1, q2, q⟩
  · exact .inl h0
  · exact .inr ⟨g', cap, cur, q1, by omega, q⟩
theorem Eg.start {w w1 w2 : World} {g1 g2 n c1 c2 : Nat} {l m : List Int} (hr : Arr (w.alloc (.cells #[.slice none 0 0, .slice none 0 0] 27)) w.heap.size [.slice none 0 0, .slice none 0 0] 27)
    (b1 : Below (w.alloc (.cells #[.slice none 0 0, .slice none 0 0] 27)).heap.size (w.alloc (.cells #[.slice none 0 0, .slice none 0 0] 27)) w1)
    (o1 : w1.ownsRow (w.alloc (.cells #[.slice none 0 0, .slice none 0 0] 27)).heap.size 3 1 (.slice (some ⟨g1, 0, none⟩) n c1) n (V l))
    (b2 : Below w1.heap.size w1 w2) (o2 : w2.ownsRow w1.heap.size 3 1 (.slice (some ⟨g2, 0, none⟩) n c2) n (V m)) :
    Eg w (w2.alloc (.cells #[.slice (some ⟨g1, 0, none⟩) n c1, .slice (some ⟨g2, 0, none⟩) n c2] 27)) w2.heap.size g1 g2 n c1 c2 l m := by
  have a1 := o1.lt g1 rfl; have a2 := o2.lt g2 rfl
  have s1 := b1.size; have s2 := b2.size
  have e : (w.alloc (.cells #[.slice none 0 0, .slice none 0 0] 27)).heap.size = w.heap.size + 1 := by simp
  rw [e] at a1 s1 b1
  refine ⟨?_, Arr.new w2 _ _ (by rfl), ?_, ?_, by omega, by omega, by omega, ?_⟩
  · exact Arr.alloc ((b2.block _ (by omega)).trans ((b1.block _ (by omega)).trans hr)) _
  · have := (own_below o1 b2 a1.2).alloc (.cells #[.slice (some ⟨g1, 0, none⟩) n c1, .slice (some ⟨g2, 0, none⟩) n c2] 27)
    rw [e] at this; exact this
  · exact (own_lo o2 (by omega)).alloc _
  · exact (((Below.refl w.heap.size w).alloc (Nat.le_refl _) _).trans ((b1.mono (by omega)).trans (b2.mono (by omega)))).alloc (by omega) _

end Go.Proofs.Ytabiakcndddmkaa.gl

/-
  EllOf of the program.
-/
namespace Go.Proofs.Ytabiakcndddmkaa.gl
open Go.ChangeShapes Go.WideShapes Go.ChangeAt Go.RowKit
open Go.Proofs.Ytabiakcndddmkaa.mem Go.Proofs.Ytabiakcndddmkaa.ints Go.Proofs.Ytabiakcndddmkaa.arr Go.Proofs.Ytabiakcndddmkaa.pm Go.Proofs.Ytabiakcndddmkaa.permOk Go.Proofs.Ytabiakcndddmkaa.permOf Go.Proofs.Ytabiakcndddmkaa.inv Go.Proofs.Ytabiakcndddmkaa.fns Go.Proofs.Ytabiakcndddmkaa.sf
set_option linter.unusedVariables false
set_option maxRecDepth 100000

theorem idF_lst {n : Nat} (h : n ≤ 24) : idF (n : Int) = lst n (fun i => i) := by
  unfold idF; rw [if_pos (by omega), Int.toNat_natCast]; rfl

end Go.Proofs.Ytabiakcndddmkaa.gl
