import Derived.Test.YtkkklpchkkdhfaaY18
import Derived.Test.YtkkklpchkkdhfaaY04
import Derived.Test.YtkkklpchkkdhfaaY07
import Derived.Test.YtkkklpchkkdhfaaY17
import Derived.RegionTactic
import Derived.BigRegion
/-
  EllOf of the model: two identities, stored into; plain mathematics of both.
-/
namespace Go.Proofs.Ytkkklpchkkdhfaa.gl
open Go.ChangeShapes Go.WideShapes Go.ChangeAt Go.RowKit
open Go.Proofs.Ytkkklpchkkdhfaa.mem Go.Proofs.Ytkkklpchkkdhfaa.ints Go.Proofs.Ytkkklpchkkdhfaa.arr Go.Proofs.Ytkkklpchkkdhfaa.pm Go.Proofs.Ytkkklpchkkdhfaa.permOk Go.Proofs.Ytkkklpchkkdhfaa.permOf Go.Proofs.Ytkkklpchkkdhfaa.inv Go.Proofs.Ytkkklpchkkdhfaa.fns Go.Proofs.Ytkkklpchkkdhfaa.sf
set_option linter.unusedVariables false
set_option maxRecDepth 100000

def lst (n : Nat) (f : Nat → Nat) : List Int := (List.range n).map fun i => (f i : Int)
theorem lst_len (n : Nat) (f : Nat → Nat) : (lst n f).length = n := by simp [lst]
theorem lst_set {n k z : Nat} {f f' : Nat → Nat} (h : ∀ i, i < n → f' i = if i = k then z else f i) : (lst n f).set k (z : Int) = lst n f' := by
  refine list_eq n (by simp [lst]) (lst_len _ _) fun i hi => ?_
  rw [getD_set, lst_len]
  have e : ∀ g : Nat → Nat, (lst n g).getD i 0 = (g i : Int) := fun g => by simp [lst, List.getD, hi]
  rw [e, e, h i hi]
  by_cases q : i = k
  · rw [if_pos ⟨q.symm, hi⟩, if_pos q]
  · rw [if_neg (fun x => q x.1.symm), if_neg q]
theorem lst_congr {n : Nat} {f f' : Nat → Nat} (h : ∀ i, i < n → f i = f' i) : lst n f = lst n f' := by
  unfold lst; exact List.map_congr_left fun i hi => by rw [h i (by simpa using hi)]
theorem lst_id (n : Nat) : lst n (fun i => i) = (List.range n).map (fun (i : Nat) => (i : Int)) := rfl
/-- Right: the first squares in a ring of 'arm'. -/
def elR (arm n k : Nat) : List Int := lst n fun i => if i < k then (i + 1) % arm else i
/-- Up: 0, arm, arm + 1, .. in a ring, done up to k. -/
def elS (arm n k : Nat) : List Int := lst n fun i => if i = 0 then arm else if arm ≤ i ∧ i < k then (i + 1) % n else i
def elT (arm n x : Nat) : List Int := lst n fun i => if i = 0 ∧ arm < x then arm else if arm ≤ i ∧ i + 1 < x then i + 1 else i
def elU (arm leg n : Nat) : List Int := if leg ≤ 1 then lst n (fun i => i) else elS arm n n
theorem elR_zero (arm n : Nat) : elR arm n 0 = lst n (fun i => i) := lst_congr fun i _ => by simp
theorem elR_succ {arm n k : Nat} (hk : k < n) : (elR arm n k).set k (((k + 1) % arm : Nat) : Int) = elR arm n (k + 1) := lst_set fun i _ => by
  by_cases q : i = k
  · subst q; simp
  · rw [if_neg q]; split <;> split <;> first | rfl | omega
theorem elS_start {arm n : Nat} (h0 : 0 < n) (ha : 1 ≤ arm) : (lst n (fun i => i)).set 0 (arm : Int) = elS arm n arm := lst_set fun i _ => by
  by_cases q : i = 0
  · simp [q]
  · rw [if_neg q, if_neg q, if_neg (by omega)]
theorem elS_succ {arm n k : Nat} (ha : 1 ≤ arm) (hk : arm ≤ k) : (elS arm n k).set k (((k + 1) % n : Nat) : Int) = elS arm n (k + 1) := lst_set fun i _ => by
  by_cases q : i = k
  · subst q; rw [if_neg (by omega), if_pos (by omega), if_pos rfl]
  · rw [if_neg q]
    by_cases q0 : i = 0
    · rw [if_pos q0, if_pos q0]
    · rw [if_neg q0, if_neg q0]; split <;> split <;> first | rfl | omega
theorem elT_start (arm n : Nat) : elT arm n arm = lst n (fun i => i) := lst_congr fun i _ => by
  rw [if_neg (by omega), if_neg (by omega)]
theorem elT_succ {arm n x : Nat} (ha : 1 ≤ arm) (hx : arm ≤ x) : (elT arm n x).set (if x = arm then 0 else x - 1) (x : Int) = elT arm n (x + 1) := lst_set fun i _ => by
  by_cases e : x = arm
  · subst e
    rw [if_pos rfl]
    by_cases q : i = 0
    · subst q; rw [if_pos (by omega), if_pos rfl]
    · rw [if_neg q, if_neg (by omega), if_neg (by omega), if_neg (by omega), if_neg (by omega)]
  · rw [if_neg e]
    by_cases q : i = x - 1
    · rw [if_neg (by omega), if_pos (by omega), if_pos q]; omega
    · rw [if_neg q]
      by_cases q0 : i = 0
      · rw [if_pos (by omega), if_pos (by omega)]
      · rw [if_neg (show ¬ (i = 0 ∧ arm < x + 1) by omega), if_neg (show ¬ (i = 0 ∧ arm < x) by omega)]; split <;> split <;> first | rfl | omega
theorem elT_end {arm leg n : Nat} (ha : 1 ≤ arm) (hl : 1 ≤ leg) (hn : n + 1 = arm + leg) : (elT arm n n).set (if n = arm then 0 else n - 1) 0 = elU arm leg n := by
  unfold elU
  by_cases e : n = arm
  · have : leg ≤ 1 := by omega
    rw [if_pos this, if_pos e]
    exact lst_set (z := 0) fun i hi => by
      by_cases q : i = 0
      · simp [q]
      · rw [if_neg q, if_neg (by omega), if_neg (by omega)]
  · have : ¬ leg ≤ 1 := by omega
    rw [if_neg this, if_neg e]
    exact lst_set (z := 0) fun i hi => by
      by_cases q0 : i = 0
      · rw [if_neg (show ¬ i = n - 1 by omega), if_pos (show i = 0 ∧ arm < n by omega), if_pos q0]
      · rw [if_neg q0]
        by_cases q1 : i = n - 1
        · rw [if_pos q1, if_pos (show arm ≤ i ∧ i < n by omega), show i + 1 = n by omega, Nat.mod_self]
        · rw [if_neg q1, if_neg (show ¬ (i = 0 ∧ arm < n) by omega)]
          by_cases q2 : arm ≤ i
          · rw [if_pos (show arm ≤ i ∧ i < n by omega), if_pos (show arm ≤ i ∧ i + 1 < n by omega), Nat.mod_eq_of_lt (by omega)]
          · rw [if_neg (show ¬ (arm ≤ i ∧ i < n) by omega), if_neg (show ¬ (arm ≤ i ∧ i + 1 < n) by omega)]
def elB (a h : Int) : Bool := decide (1 ≤ a ∧ 1 ≤ h ∧ a + h ≤ 25)
def elFR (a h : Int) : List Int := if elB a h then elR a.toNat (a + h - 1).toNat a.toNat else []
def elFU (a h : Int) : List Int := if elB a h then elU a.toNat h.toNat (a + h - 1).toNat else []
theorem elU_len (arm leg n : Nat) : (elU arm leg n).length = n := by unfold elU; split <;> exact lst_len _ _
theorem elFR_len (a h : Int) : (elFR a h).length ≤ 1048576 := by
  unfold elFR; split
  · rename_i q; have := of_decide_eq_true q; unfold elR; rw [lst_len]; omega
  · simp
theorem elFU_len (a h : Int) : (elFU a h).length ≤ 1048576 := by
  unfold elFU; split
  · rename_i q; have := of_decide_eq_true q; rw [elU_len]; omega
  · simp
theorem el_yes {A H n : Nat} (a1 : 1 ≤ A) (h1 : 1 ≤ H) (hn : n + 1 = A + H) (p : n ≤ 24) : elB A H = true ∧ elFR A H = elR A n A ∧ elFU A H = elU A H n := by
  have e : elB A H = true := by unfold elB; rw [decide_eq_true_eq]; omega
  have en : ((A : Int) + (H : Int) - 1).toNat = n := by omega
  refine ⟨e, ?_, ?_⟩
  · rw [elFR, e, if_pos rfl, en]; rfl
  · rw [elFU, e, if_pos rfl, en]; rfl
theorem el_no {a h : Int} (q : ¬ (1 ≤ a ∧ 1 ≤ h ∧ a + h ≤ 25)) : elB a h = false ∧ elFR a h = [] ∧ elFU a h = [] := by
  have e : elB a h = false := by unfold elB; rw [decide_eq_false_iff_not]; exact q
  exact ⟨e, by rw [elFR, e]; rfl, by rw [elFU, e]; rfl⟩
/-- Two rows in two blocks, their headers in a box, the result's box. -/
structure Eg (w wr : World) (b g1 g2 n c1 c2 : Nat) (l m : List Int) : Prop where
  res : Arr wr w.heap.size [.slice none 0 0, .slice none 0 0] 32
  box : Arr wr b [.slice (some ⟨g1, 0, none⟩) n c1, .slice (some ⟨g2, 0, none⟩) n c2] 32
  own1 : wr.ownsRow (w.heap.size + 1) 3 1 (.slice (some ⟨g1, 0, none⟩) n c1) n (V l)
  own2 : wr.ownsRow (w.heap.size + 1) 3 1 (.slice (some ⟨g2, 0, none⟩) n c2) n (V m)
  ne : g1 ≠ g2
  b1 : g1 < b
  b2 : g2 < b
  below : Below w.heap.size w wr
theorem own_set2 {W : World} {base b k : Nat} {e : TypeId} {v u : Value} {n : Nat} {xs : List Value} (h : W.ownsRow base e 1 v n xs) (hb : v.ownBlock ≠ some b) : (W.setCell ⟨b, k, none⟩ u).ownsRow base e 1 v n xs := by
  refine ⟨h.1, ?_⟩
  rcases h.2 with h0 | ⟨g, cap, cur, q1, q2, q3, q4⟩
  · exact .inl h0
  · exact .inr ⟨g, cap, cur, q1, q2, (Below.heap_setCell _ _ _ _ (by show g ≠ b; intro e; exact hb (by rw [q1, ← e]; rfl))).trans q3, q4⟩
theorem Eg.drew {w wr : World} {b g1 g2 n c1 c2 : Nat} {l m : List Int} (h : Eg w wr b g1 g2 n c1 c2 l m) : Eg w wr.drew b g1 g2 n c1 c2 l m := ⟨h.res, h.box, h.own1, h.own2, h.ne, h.b1, h.b2, ⟨h.below.os, h.below.tape, h.below.output, h.below.size, h.below.block⟩⟩
theorem Eg.g1 {w wr : World} {b g1 g2 n c1 c2 : Nat} {l m : List Int} (h : Eg w wr b g1 g2 n c1 c2 l m) : w.heap.size + 1 ≤ g1 := (h.own1.lt g1 rfl).1
theorem Eg.g2 {w wr : World} {b g1 g2 n c1 c2 : Nat} {l m : List Int} (h : Eg w wr b g1 g2 n c1 c2 l m) : w.heap.size + 1 ≤ g2 := (h.own2.lt g2 rfl).1
theorem Eg.set1 {w wr : World} {b g1 g2 n c1 c2 : Nat} {l m : List Int} (h : Eg w wr b g1 g2 n c1 c2 l m) (k : Nat) (z : Int) : Eg w (wr.setCell ⟨g1, k, none⟩ (.int .i64 z)) b g1 g2 n c1 c2 (l.set k z) m := by
  have q1 := h.g1; have q2 := h.b1; have q3 := h.ne
  refine ⟨(Below.heap_setCell _ _ _ _ (by show _ ≠ g1; omega)).trans h.res, (Below.heap_setCell _ _ _ _ (by show _ ≠ g1; omega)).trans h.box, ?_, own_set2 h.own2 (by show some g2 ≠ some g1; intro e; injection e with e; exact q3 e.symm), h.ne, h.b1, h.b2, h.below.setCell (by show w.heap.size ≤ g1; omega) _⟩
  have := (h.own1.stored k (.int .i64 z)).1
  rw [V_set] at this
  exact this
theorem Eg.set2 {w wr : World} {b g1 g2 n c1 c2 : Nat} {l m : List Int} (h : Eg w wr b g1 g2 n c1 c2 l m) (k : Nat) (z : Int) : Eg w (wr.setCell ⟨g2, k, none⟩ (.int .i64 z)) b g1 g2 n c1 c2 l (m.set k z) := by
  have q1 := h.g2; have q2 := h.b2; have q3 := h.ne
  refine ⟨(Below.heap_setCell _ _ _ _ (by show _ ≠ g2; omega)).trans h.res, (Below.heap_setCell _ _ _ _ (by show _ ≠ g2; omega)).trans h.box, own_set2 h.own1 (by show some g1 ≠ some g2; intro e; injection e with e; exact q3 e), ?_, h.ne, h.b1, h.b2, h.below.setCell (by show w.heap.size ≤ g2; omega) _⟩
  have := (h.own2.stored k (.int .i64 z)).1
  rw [V_set] at this
  exact this
theorem Eg.cell1 {w wr : World} {b g1 g2 n c1 c2 : Nat} {l m : List Int} (h : Eg w wr b g1 g2 n c1 c2 l m) {k : Nat} (hk : k < n) : wr.cell? ⟨g1, k, none⟩ = some (.int .i64 (l.getD k 0)) := by
  have hl : l.length = n := by have := h.own1.1; simpa [V] using this
  rw [h.own1.cellAt k (by omega)]; exact V_getD (by omega)
theorem Eg.cell2 {w wr : World} {b g1 g2 n c1 c2 : Nat} {l m : List Int} (h : Eg w wr b g1 g2 n c1 c2 l m) {k : Nat} (hk : k < n) : wr.cell? ⟨g2, k, none⟩ = some (.int .i64 (m.getD k 0)) := by
  have hl : m.length = n := by have := h.own2.1; simpa [V] using this
  rw [h.own2.cellAt k (by omega)]; exact V_getD (by omega)
theorem Eg.svl {w wr : World} {b g1 g2 n c1 c2 : Nat} {l m : List Int} (h : Eg w wr b g1 g2 n c1 c2 l m) (hn : 0 < n) : Svl wr (w.heap.size + 1) wr.heap.size (.agg #[.slice (some ⟨g1, 0, none⟩) n c1, .slice (some ⟨g2, 0, none⟩) n c2]) l m := by
  have e1 : l.length = n := by have := h.own1.1; simpa [V] using this
  have e2 : m.length = n := by have := h.own2.1; simpa [V] using this
  have r1 := h.own1; have r2 := h.own2
  have q := Svl.apart (P := some ⟨g1, 0, none⟩) (Q := some ⟨g2, 0, none⟩) (c := c1) (d := c2) (r := l) (u := m) (by rw [e1]; exact r1) (by rw [e2]; exact r2) (fun x a1 a2 => h.ne ((Option.some.inj (show some g1 = some x from a1)).trans (Option.some.inj (show some g2 = some x from a2)).symm)) (by omega) (by omega)
  rw [e1, e2] at q
  exact q
theorem elf {A k : Nat} (h1 : 1 ≤ A) (h2 : A ≤ 24) (h3 : k ≤ 24) : ∃ k1 z : Nat, ((k : Int) + 1 = (k1 : Int) ∧ IntKind.i64.wrap (k1 : Int) = (k1 : Int)) ∧ (k1 : Int).tmod (A : Int) = (z : Int) ∧ z = (k + 1) % A :=
  ⟨k + 1, (k + 1) % A, ⟨by simp, w_in (by omega)⟩, by rw [Int.tmod_eq_emod_of_nonneg (by omega)]; exact (Int.natCast_emod _ A).symm, rfl⟩

end Go.Proofs.Ytkkklpchkkdhfaa.gl

/-
  EllOf of the model.
-/
namespace Go.Proofs.Ytkkklpchkkdhfaa.gl
open Go.ChangeShapes Go.WideShapes Go.ChangeAt Go.RowKit
open Go.Proofs.Ytkkklpchkkdhfaa.mem Go.Proofs.Ytkkklpchkkdhfaa.ints Go.Proofs.Ytkkklpchkkdhfaa.arr Go.Proofs.Ytkkklpchkkdhfaa.pm Go.Proofs.Ytkkklpchkkdhfaa.permOk Go.Proofs.Ytkkklpchkkdhfaa.permOf Go.Proofs.Ytkkklpchkkdhfaa.inv Go.Proofs.Ytkkklpchkkdhfaa.fns Go.Proofs.Ytkkklpchkkdhfaa.sf
set_option linter.unusedVariables false
set_option maxRecDepth 100000

theorem own_at {W : World} {lo : Nat} {v : Value} {n : Nat} {xs : List Value} (h : W.ownsRow lo 3 1 v n xs) (hn : 0 < n) : ∃ g c, v = .slice (some ⟨g, 0, none⟩) n c := by
  rcases h.2 with h0 | ⟨g, c, cur, q, _⟩
  · exact absurd h0.2 (by omega)
  · exact ⟨g, c, q⟩
theorem own_below {W W' : World} {lo base g n c : Nat} {e : TypeId} {xs : List Value} (h : W.ownsRow base e 1 (.slice (some ⟨g, 0, none⟩) n c) n xs) (hb : Below lo W W') (hg : g < lo) : W'.ownsRow base e 1 (.slice (some ⟨g, 0, none⟩) n c) n xs := by
  refine ⟨h.1, ?_⟩
  rcases h.2 with h0 | ⟨g', cap, cur, q1, q2, q3, q4⟩
  · exact .inl h0
  · obtain rfl : g = g' := by injection q1 with q1; injection q1 with q1; injection q1
    exact .inr ⟨g, cap, cur, q1, q2, (hb.block g hg).trans q3, q4⟩
theorem own_lo {W : World} {base base' n : Nat} {v : Value} {e : TypeId} {xs : List Value} (h : W.ownsRow base e 1 v n xs) (hb : base' ≤ base) : W.ownsRow base' e 1 v n xs := by
  refine ⟨h.1, ?_⟩
  rcases h.2 with h0 | ⟨g', cap, cur, q1, q2, q⟩
  · exact .inl h0
  · exact .inr ⟨g', cap, cur, q1, by omega, q⟩
theorem Eg.start {w w1 w2 : World} {g1 g2 n c1 c2 : Nat} {l m : List Int} (hr : Arr (w.alloc (.cells #[.slice none 0 0, .slice none 0 0] 32)) w.heap.size [.slice none 0 0, .slice none 0 0] 32)
    (b1 : Below (w.alloc (.cells #[.slice none 0 0, .slice none 0 0] 32)).heap.size (w.alloc (.cells #[.slice none 0 0, .slice none 0 0] 32)) w1)
    (o1 : w1.ownsRow (w.alloc (.cells #[.slice none 0 0, .slice none 0 0] 32)).heap.size 3 1 (.slice (some ⟨g1, 0, none⟩) n c1) n (V l))
    (b2 : Below w1.heap.size w1 w2) (o2 : w2.ownsRow w1.heap.size 3 1 (.slice (some ⟨g2, 0, none⟩) n c2) n (V m)) :
    Eg w (w2.alloc (.cells #[.slice (some ⟨g1, 0, none⟩) n c1, .slice (some ⟨g2, 0, none⟩) n c2] 32)) w2.heap.size g1 g2 n c1 c2 l m := by
  have a1 := o1.lt g1 rfl; have a2 := o2.lt g2 rfl
  have s1 := b1.size; have s2 := b2.size
  have e : (w.alloc (.cells #[.slice none 0 0, .slice none 0 0] 32)).heap.size = w.heap.size + 1 := by simp
  rw [e] at a1 s1 b1
  refine ⟨?_, Arr.new w2 _ _ (by rfl), ?_, ?_, by omega, by omega, by omega, ?_⟩
  · exact Arr.alloc ((b2.block _ (by omega)).trans ((b1.block _ (by omega)).trans hr)) _
  · have := (own_below o1 b2 a1.2).alloc (.cells #[.slice (some ⟨g1, 0, none⟩) n c1, .slice (some ⟨g2, 0, none⟩) n c2] 32)
    rw [e] at this; exact this
  · exact (own_lo o2 (by omega)).alloc _
  · exact (((Below.refl w.heap.size w).alloc (Nat.le_refl _) _).trans ((b1.mono (by omega)).trans (b2.mono (by omega)))).alloc (by omega) _

set_option maxHeartbeats 4000000 in
theorem el_spec0 (a h : Int) (w : World) (lo1 : -9223372036854775808 ≤ a) (hi1 : a ≤ 9223372036854775807) (lo2 : -9223372036854775808 ≤ h) (hi2 : h ≤ 9223372036854775807) :
    Calls Try.prog 44 #[.int .i64 a, .int .i64 h] w (SB (elFR a h) (elFU a h) (elB a h) w) := by
  have RES := Lib.hid (Arr.new w [.slice none 0 0, .slice none 0 0] 32 rfl)
  by_cases ha : 1 ≤ a ∧ a ≤ 24
  · by_cases hh : 1 ≤ h ∧ h ≤ 24
    · obtain ⟨A, rfl⟩ := Int.eq_ofNat_of_zero_le (show 0 ≤ a by omega)
      obtain ⟨H, rfl⟩ := Int.eq_ofNat_of_zero_le (show 0 ≤ h by omega)
      obtain ⟨S, hS⟩ : ∃ S, S = A + H := ⟨_, rfl⟩
      obtain ⟨n, hn⟩ : ∃ n, n + 1 = A + H := ⟨A + H - 1, by omega⟩
      have hS1 : (A : Int) + (H : Int) = (S : Int) := by omega
      have hS2 : IntKind.i64.wrap (S : Int) = (S : Int) := w_in (by omega)
      have hn1 : (S : Int) - 1 = (n : Int) := by omega
      have hn2 : IntKind.i64.wrap (n : Int) = (n : Int) := w_in (by omega)
      have hA1 : 1 ≤ (A : Int) := ha.1
      have hA2 : (A : Int) ≤ 24 := ha.2
      have hH1 : 1 ≤ (H : Int) := hh.1
      have hH2 : (H : Int) ≤ 24 := hh.2
      clear ha hh hS
      by_cases hp : n ≤ 24
      · have hd : decide ((24 : Int) < (n : Int)) = false := by simp; omega
        obtain ⟨y1, y2, y3⟩ := el_yes (A := A) (H := H) (n := n) (by omega) (by omega) hn hp
        have Y1 := Lib.hid y1; have Y2 := Lib.hid y2; have Y3 := Lib.hid y3; clear y1 y2 y3
        go_enter Try.func44, Try.ntmps44
        go_wp2_with (first | (go_at_call 61; refine (permOk.in_yes _ _ _ _ (by omega) (by omega)).mono ?_; rintro e w' ⟨rfl, rfl⟩))
        refine (fns.l02id_any n _ hp).mono ?_
        rintro e w1 ⟨v1, rfl, ho1, b1⟩
        rw [← lst_id n] at ho1
        have l1 := lst_len n (fun i => i)
        rw [l1] at ho1
        obtain ⟨g1, c1, rfl⟩ := own_at ho1 (by omega)
        have HO1 := Lib.hid ho1; have B1 := Lib.hid b1; clear ho1 b1
        go_wp2_with fail
        refine (fns.l02id_any n _ hp).mono ?_
        rintro e w2 ⟨v2, rfl, ho2, b2⟩
        rw [← lst_id n, l1] at ho2
        obtain ⟨g2, c2, rfl⟩ := own_at ho2 (by omega)
        have HO2 := Lib.hid ho2; have B2 := Lib.hid b2; clear ho2 b2
        clear l1
        go_wp2_with (refine wpList_build rfl 32 _ rfl [] rfl #[.slice (some ⟨g1, 0, none⟩) n c1, .slice (some ⟨g2, 0, none⟩) n c2] ?_ ?_)
        have EG : Hid (Eg w (w2.alloc (.cells #[.slice (some ⟨g1, 0, none⟩) n c1, .slice (some ⟨g2, 0, none⟩) n c2] 32)) w2.heap.size g1 g2 n c1 c2 (elR A n 0) (lst n fun i => i)) := Lib.hid (by
          rw [elR_zero]
          exact Eg.start RES.out B1.out HO1.out B2.out HO2.out)
        clear RES HO1 B1 HO2 B2
        obtain ⟨b, hb⟩ : ∃ b, b = w2.heap.size := ⟨_, rfl⟩
        rw [← hb] at EG ⊢
        generalize (w2.alloc (.cells #[.slice (some ⟨g1, 0, none⟩) n c1, .slice (some ⟨g2, 0, none⟩) n c2] 32)) = w3 at EG ⊢
        clear hb w1 w2
        go_loopw [8] (fun i wr => ∃ k : Nat, k ≤ A ∧ i = .int .i64 k ∧ Eg w wr b g1 g2 n c1 c2 (elR A n k) (lst n fun i => i)) (fun i _ => A - (intOf i).toNat)
        case atStart => exact ⟨0, Nat.zero_le _, rfl, EG.out⟩
        case round =>
          obtain ⟨k, hk, rfl, ht⟩ := hrel
          have HT := Lib.hid ht; clear ht EG
          by_cases hlt : k < A
          · obtain ⟨k1, z, ⟨f1, f2⟩, f3, f4⟩ := elf (A := A) (k := k) (by omega) (by omega) (by omega)
            have hkn : k < n := by omega
            have NL : Hid ((elR A n k).set k (z : Int) = elR A n (k + 1)) := Lib.hid (by rw [f4]; exact elR_succ hkn)
            clear f4
            have hc := HT.out.box.cell (k := 0) rfl
            have hcx := HT.out.cell1 hkn
            have hfx := HT.out.own1.frozenAt k
            have hA0 : ¬ A = 0 := by omega
            clear hS1 hS2 hn1 hn2
            go_wp2
            go_region
            go_wp2
            go_roundw
            case rel =>
              refine ⟨k + 1, by omega, by go_num, ?_⟩
              have := (HT.out.set1 k z).drew
              rw [NL.out] at this
              exact this
            case measure => simp [intOf]; omega
          · obtain rfl : k = A := by omega
            clear hS1 hS2 hn1 hn2 hlt
            by_cases hH : 1 < H
            · have hdl : decide (1 < (H : Int)) = true := by simp; omega
              have hc1 := HT.out.box.cell (k := 1) rfl
              have hcx := HT.out.cell2 (k := 0) (by omega)
              have hfx := HT.out.own2.frozenAt 0
              have hn0 : 0 < n := by omega
              have NS : Hid ((lst n (fun i => i)).set 0 (k : Int) = elS k n k) := Lib.hid (elS_start (by omega) (by omega))
              go_wp2
              go_loopw [9] (fun i wr => ∃ j : Nat, k ≤ j ∧ j ≤ n ∧ i = .int .i64 j ∧ Eg w wr b g1 g2 n c1 c2 (elR k n k) (elS k n j)) (fun i _ => n - (intOf i).toNat)
              case atStart =>
                refine ⟨k, Nat.le_refl _, by omega, rfl, ?_⟩
                have := HT.out.set2 0 (k : Int)
                rw [NS.out] at this
                exact this
              case round =>
                obtain ⟨j, hkj, hj, rfl, ht⟩ := hrel
                clear hcx hfx hc1 HT
                have HT := Lib.hid ht; clear ht
                by_cases hlt : j < n
                · obtain ⟨k1, z, ⟨f1, f2⟩, f3, f4⟩ := elf (A := n) (k := j) (by omega) (by omega) (by omega)
                  have NL : Hid ((elS k n j).set j (z : Int) = elS k n (j + 1)) := Lib.hid (by rw [f4]; exact elS_succ (by omega) hkj)
                  clear f4
                  have hc := HT.out.box.cell (k := 1) rfl
                  have hcx := HT.out.cell2 hlt
                  have hfx := HT.out.own2.frozenAt j
                  have hA0 : ¬ n = 0 := by omega
                  go_wp2
                  go_region
                  go_wp2
                  go_roundw
                  case rel =>
                    refine ⟨j + 1, by omega, by omega, by go_num, ?_⟩
                    have := (HT.out.set2 j z).drew
                    rw [NL.out] at this
                    exact this
                  case measure => simp [intOf]; omega
                · obtain rfl : j = n := by omega
                  have Y4 : Hid (elU k H j = elS k j j) := Lib.hid (by unfold elU; rw [if_neg (show ¬ H ≤ 1 by omega)])
                  have SV := Lib.hid (HT.out.svl (by omega))
                  have hc := HT.out.box.cell (k := 0) rfl
                  have hc1 := HT.out.box.cell (k := 1) rfl
                  have hsz := HT.out.below.size
                  go_wp2_with (refine wpList_store_row rfl 32 _ _ rfl w.heap.size #[.slice (some ⟨g1, 0, none⟩) j c1, .slice (some ⟨g2, 0, none⟩) j c2] rfl rfl 32 #[.slice none 0 0, .slice none 0 0] HT.out.res size2 rfl (by simp [Value.oneCell']) ?_)
                  exact bodyPost_ret (v := .tuple #[.agg #[.slice (some ⟨g1, 0, none⟩) j c1, .slice (some ⟨g2, 0, none⟩) j c2], .bool true]) (permOf.results_cell_tmp rfl _ _ w.heap.size 32 #[.slice (some ⟨g1, 0, none⟩) j c1, .slice (some ⟨g2, 0, none⟩) j c2] (0, 0) _ _ rfl rfl HT.out.res.row Try.underlying32 rfl size2) rfl (by
                    rw [Y1.out, Y2.out, Y3.out, Y4.out]
                    have := Svl.row SV.out (g := w.heap.size) (by omega) #[.slice (some ⟨g1, 0, none⟩) j c1, .slice (some ⟨g2, 0, none⟩) j c2]
                    exact ⟨_, rfl, (by simpa using this.later (by omega)), below_setRow HT.out.below (Nat.le_refl _) _⟩)
            · have hdl : decide (1 < (H : Int)) = false := by simp; omega
              have Y4 : Hid (elU k H n = lst n (fun i => i)) := Lib.hid (by unfold elU; rw [if_pos (show H ≤ 1 by omega)])
              have SV := Lib.hid (HT.out.svl (by omega))
              have hc := HT.out.box.cell (k := 0) rfl
              have hc1 := HT.out.box.cell (k := 1) rfl
              have hsz := HT.out.below.size
              go_wp2_with (refine wpList_store_row rfl 32 _ _ rfl w.heap.size #[.slice (some ⟨g1, 0, none⟩) n c1, .slice (some ⟨g2, 0, none⟩) n c2] rfl rfl 32 #[.slice none 0 0, .slice none 0 0] HT.out.res size2 rfl (by simp [Value.oneCell']) ?_)
              exact bodyPost_ret (v := .tuple #[.agg #[.slice (some ⟨g1, 0, none⟩) n c1, .slice (some ⟨g2, 0, none⟩) n c2], .bool true]) (permOf.results_cell_tmp rfl _ _ w.heap.size 32 #[.slice (some ⟨g1, 0, none⟩) n c1, .slice (some ⟨g2, 0, none⟩) n c2] (0, 0) _ _ rfl rfl HT.out.res.row Try.underlying32 rfl size2) rfl (by
                rw [Y1.out, Y2.out, Y3.out, Y4.out]
                have := Svl.row SV.out (g := w.heap.size) (by omega) #[.slice (some ⟨g1, 0, none⟩) n c1, .slice (some ⟨g2, 0, none⟩) n c2]
                exact ⟨_, rfl, (by simpa using this.later (by omega)), below_setRow HT.out.below (Nat.le_refl _) _⟩)
      · obtain ⟨n1, n2, n3⟩ := el_no (a := A) (h := H) (fun q => by have := q.2.2; omega)
        have N1 := Lib.hid n1; have N2 := Lib.hid n2; have N3 := Lib.hid n3; clear n1 n2 n3
        have hd : decide ((24 : Int) < (n : Int)) = true := by simp; omega
        go_enter Try.func44, Try.ntmps44
        go_wp2_with (first | (go_at_call 61; refine (permOk.in_yes _ _ _ _ (by omega) (by omega)).mono ?_; rintro e w' ⟨rfl, rfl⟩) | (refine wpList_build rfl 32 _ rfl [] rfl #[.slice none 0 0, .slice none 0 0] built2 ?_) | (refine wpList_store_row rfl 32 _ _ rfl w.heap.size #[.slice none 0 0, .slice none 0 0] rfl rfl 32 #[.slice none 0 0, .slice none 0 0] RES.out size2 rfl (by simp [Value.oneCell']) ?_))
        exact bodyPost_ret (v := .tuple #[.agg #[.slice none 0 0, .slice none 0 0], .bool false]) (permOf.results_cell_tmp rfl _ _ w.heap.size 32 #[.slice none 0 0, .slice none 0 0] (0, 0) _ _ rfl rfl RES.out.row Try.underlying32 rfl size2) rfl (sb_nil N2.out N3.out N1.out (below_setRow ((Below.refl _ _).alloc (Nat.le_refl _) _) (Nat.le_refl _) _))
    · obtain ⟨n1, n2, n3⟩ := el_no (a := a) (h := h) (fun q => by omega)
      have N1 := Lib.hid n1; have N2 := Lib.hid n2; have N3 := Lib.hid n3; clear n1 n2 n3
      have hh' : h < 1 ∨ 24 < h := by omega
      clear hh
      go_enter Try.func44, Try.ntmps44
      go_wp2_with fail
      refine (permOk.in_yes _ _ _ _ (by omega) (by omega)).mono ?_
      rintro e w' ⟨rfl, rfl⟩
      go_wp2_with fail
      refine (permOk.in_no _ _ _ _ hh').mono ?_
      rintro e w' ⟨rfl, rfl⟩
      go_wp2_with (first | (refine wpList_build rfl 32 _ rfl [] rfl #[.slice none 0 0, .slice none 0 0] built2 ?_) | (refine wpList_store_row rfl 32 _ _ rfl w.heap.size #[.slice none 0 0, .slice none 0 0] rfl rfl 32 #[.slice none 0 0, .slice none 0 0] RES.out size2 rfl (by simp [Value.oneCell']) ?_))
      exact bodyPost_ret (v := .tuple #[.agg #[.slice none 0 0, .slice none 0 0], .bool false]) (permOf.results_cell_tmp rfl _ _ w.heap.size 32 #[.slice none 0 0, .slice none 0 0] (0, 0) _ _ rfl rfl RES.out.row Try.underlying32 rfl size2) rfl (sb_nil N2.out N3.out N1.out (below_setRow ((Below.refl _ _).alloc (Nat.le_refl _) _) (Nat.le_refl _) _))
  · obtain ⟨n1, n2, n3⟩ := el_no (a := a) (h := h) (fun q => by omega)
    have N1 := Lib.hid n1; have N2 := Lib.hid n2; have N3 := Lib.hid n3; clear n1 n2 n3
    have ha' : a < 1 ∨ 24 < a := by omega
    clear ha
    go_enter Try.func44, Try.ntmps44
    go_wp2_with fail
    refine (permOk.in_no _ _ _ _ ha').mono ?_
    rintro e w' ⟨rfl, rfl⟩
    go_wp2_with (first | (refine wpList_build rfl 32 _ rfl [] rfl #[.slice none 0 0, .slice none 0 0] built2 ?_) | (refine wpList_store_row rfl 32 _ _ rfl w.heap.size #[.slice none 0 0, .slice none 0 0] rfl rfl 32 #[.slice none 0 0, .slice none 0 0] RES.out size2 rfl (by simp [Value.oneCell']) ?_))
    exact bodyPost_ret (v := .tuple #[.agg #[.slice none 0 0, .slice none 0 0], .bool false]) (permOf.results_cell_tmp rfl _ _ w.heap.size 32 #[.slice none 0 0, .slice none 0 0] (0, 0) _ _ rfl rfl RES.out.row Try.underlying32 rfl size2) rfl (sb_nil N2.out N3.out N1.out (below_setRow ((Below.refl _ _).alloc (Nat.le_refl _) _) (Nat.le_refl _) _))

end Go.Proofs.Ytkkklpchkkdhfaa.gl

/-
  EllOf of the program.
-/
namespace Go.Proofs.Ytkkklpchkkdhfaa.gl
open Go.ChangeShapes Go.WideShapes Go.ChangeAt Go.RowKit
open Go.Proofs.Ytkkklpchkkdhfaa.mem Go.Proofs.Ytkkklpchkkdhfaa.ints Go.Proofs.Ytkkklpchkkdhfaa.arr Go.Proofs.Ytkkklpchkkdhfaa.pm Go.Proofs.Ytkkklpchkkdhfaa.permOk Go.Proofs.Ytkkklpchkkdhfaa.permOf Go.Proofs.Ytkkklpchkkdhfaa.inv Go.Proofs.Ytkkklpchkkdhfaa.fns Go.Proofs.Ytkkklpchkkdhfaa.sf
set_option linter.unusedVariables false
set_option maxRecDepth 100000

theorem idF_lst {n : Nat} (h : n ≤ 24) : idF (n : Int) = lst n (fun i => i) := by
  unfold idF; rw [if_pos (by omega), Int.toNat_natCast]; rfl

theorem el_spec (a h : Int) (w : World) (lo1 : -9223372036854775808 ≤ a) (hi1 : a ≤ 9223372036854775807) (lo2 : -9223372036854775808 ≤ h) (hi2 : h ≤ 9223372036854775807) :
    Calls Try.prog 44 #[.int .i64 a, .int .i64 h] w fun e w' => ∃ g, e = .returned (.tuple #[g, .bool (elB a h)]) ∧ Svl w' w.heap.size w'.heap.size g (elFR a h) (elFU a h) ∧ Below w.heap.size w w' := el_spec0 a h w lo1 hi1 lo2 hi2
end Go.Proofs.Ytkkklpchkkdhfaa.gl

/-
  Contracts of spec.l02Draw and spec.MakePerm: a permutation.
-/
namespace Go.Proofs.Ytkkklpchkkdhfaa.cur
open Go.ChangeShapes Go.WideShapes Go.ChangeAt Go.RowKit
open Go.Proofs.Ytkkklpchkkdhfaa.mem Go.Proofs.Ytkkklpchkkdhfaa.ints Go.Proofs.Ytkkklpchkkdhfaa.arr Go.Proofs.Ytkkklpchkkdhfaa.pm Go.Proofs.Ytkkklpchkkdhfaa.permOk Go.Proofs.Ytkkklpchkkdhfaa.fns
set_option linter.unusedVariables false
set_option maxRecDepth 100000

/-- One more element: k goes to a's place, and what was there to the end. -/
def put (xs : List Int) (a : Nat) : List Int := ((xs ++ [(xs.length : Int)]).set xs.length ((xs ++ [(xs.length : Int)]).getD a 0)).set a (xs.length : Int)
theorem put_len (xs : List Int) (a : Nat) : (put xs a).length = xs.length + 1 := by simp [put]
theorem put_at {xs : List Int} {a i : Nat} (ha : a ≤ xs.length) (hi : i ≤ xs.length) : (put xs a).getD i 0 = if i = a then (xs.length : Int) else if i = xs.length then xs.getD a 0 else xs.getD i 0 := by
  unfold put
  rw [getD_set]
  by_cases e : i = a
  · subst e; rw [if_pos rfl, if_pos ⟨rfl, by simp; omega⟩]
  · rw [if_neg (by omega), if_neg e, getD_set]
    by_cases e2 : i = xs.length
    · rw [if_pos ⟨e2.symm, by simp; omega⟩, if_pos e2]
      simp only [List.getD, List.getElem?_append]
      rw [if_pos (by omega)]
    · rw [if_neg (by omega), if_neg e2]
      simp only [List.getD, List.getElem?_append]
      rw [if_pos (by omega)]
theorem put_ok {xs : List Int} {a : Nat} (h : Ok xs) (hl : xs.length < 24) (ha : a ≤ xs.length) : Ok (put xs a) := by
  have key : ∀ i, i ≤ xs.length → (i = a ∧ (put xs a).getD i 0 = xs.length) ∨ (i ≠ a ∧ ∃ j, j < xs.length ∧ (put xs a).getD i 0 = xs.getD j 0 ∧ (i = xs.length → j = a) ∧ (i ≠ xs.length → j = i)) := by
    intro i hi
    rw [put_at ha hi]
    by_cases e : i = a
    · left; exact ⟨e, if_pos e⟩
    · right
      refine ⟨e, ?_⟩
      rw [if_neg e]
      by_cases e2 : i = xs.length
      · exact ⟨a, by omega, if_pos e2, fun _ => rfl, fun q => absurd e2 q⟩
      · exact ⟨i, by omega, if_neg e2, fun q => absurd q e2, fun _ => rfl⟩
  refine ⟨by rw [put_len]; omega, fun i hi => ?_, fun i hi => ?_, fun i j hi hj e => ?_⟩
  · rw [put_len] at hi
    rcases key i (by omega) with ⟨_, q⟩ | ⟨_, j, hj, q, _⟩
    · omega
    · have := h.lo j hj; omega
  · rw [put_len] at hi ⊢
    rcases key i (by omega) with ⟨_, q⟩ | ⟨_, j, hj, q, _⟩
    · omega
    · have := h.hi j hj; omega
  · rw [put_len] at hi hj
    rcases key i (by omega) with ⟨a1, q1⟩ | ⟨a1, i', b1, q1, c1, d1⟩ <;> rcases key j (by omega) with ⟨a2, q2⟩ | ⟨a2, j', b2, q2, c2, d2⟩
    · omega
    · have := h.hi j' b2; omega
    · have := h.hi i' b1; omega
    · have := h.inj i' j' b1 b2 (by omega)
      by_cases e1 : i = xs.length
      · by_cases e2 : j = xs.length
        · omega
        · have := c1 e1; have := d2 e2; omega
      · by_cases e2 : j = xs.length
        · have := c2 e2; have := d1 e1; omega
        · have := d1 e1; have := d2 e2; omega
theorem ok_nil : Ok [] := ⟨by simp, fun i hi => by simp at hi, fun i hi => by simp at hi, fun i j hi => by simp at hi⟩

/-- A permutation of n elements in new memory; the cursor stays a cursor. -/
def DrawsP (m : Nat) (g : Nat) (A : Option Addr) (n c : Nat) (l : List Int) (w : World) (e : Ending) (w' : World) : Prop :=
  ∃ v xs, Ok xs ∧ xs.length = m ∧ e = .returned v ∧ w'.ownsRow w.heap.size 3 1 v m (V xs) ∧ Cur w' g A n c l ∧ Out g (g + 1) w w'
structure Dr (w wr : World) (g : Nat) (A : Option Addr) (n c : Nat) (l : List Int) (v : Value) (xs : List Int) : Prop where
  own : wr.ownsRow w.heap.size 3 1 v xs.length (V xs)
  cur : Cur wr g A n c l
  out : Out g (g + 1) w wr
  lt : g < w.heap.size
theorem Dr.later {w wr w' : World} {g n c : Nat} {A : Option Addr} {l xs : List Int} {v : Value} (h : Dr w wr g A n c l v xs) (hc : Cur w' g A n c l) (ho : Out g (g + 1) wr w') : Dr w w' g A n c l v xs := by
  refine ⟨⟨h.own.1, ?_⟩, hc, h.out.trans ho, h.lt⟩
  rcases h.own.2 with h0 | ⟨b, cap, cur, q1, q2, q3, q4⟩
  · exact .inl h0
  · exact .inr ⟨b, cap, cur, q1, q2, (ho.block b (Array.getElem?_eq_some_iff.1 q3).1 (.inr (by have := h.lt; omega))).trans q3, q4⟩
theorem Dr.push {w wr w' : World} {g n c k : Nat} {A : Option Addr} {l xs : List Int} {v v' : Value} {z : Int} (h : Dr w wr g A n c l v xs) (ho : w'.ownsRow w.heap.size 3 1 v' (k + 1) (V xs ++ [.int .i64 z])) (hk : k = xs.length) (hg : wr.grownBy w' v.ownBlock) : Dr w w' g A n c l v' (xs ++ [z]) := by
  subst hk
  have e : V (xs ++ [z]) = V xs ++ [.int .i64 z] := by simp [V]
  have hb : Below w.heap.size wr w' := (Below.refl _ _).grown hg h.out.size (fun b hb => (h.own.lt b hb).1)
  exact ⟨by rw [e]; simpa using ho, h.cur.keep hb h.lt, ⟨hb.os.trans h.out.os, hb.tape.trans h.out.tape, hb.output.trans h.out.output, Nat.le_trans h.out.size hb.size, fun b q r => (hb.block b q).trans (h.out.block b q r)⟩, h.lt⟩
theorem Dr.set_ {w wr : World} {g n c b cc : Nat} {A : Option Addr} {l xs : List Int} (h : Dr w wr g A n c l (.slice (some ⟨b, 0, none⟩) xs.length cc) xs) (k : Nat) (z : Int) : Dr w (wr.setCell ⟨b, k, none⟩ (.int .i64 z)) g A n c l (.slice (some ⟨b, 0, none⟩) (xs.set k z).length cc) (xs.set k z) := by
  have hb := h.own.lt b rfl
  have B : Below w.heap.size wr (wr.setCell ⟨b, k, none⟩ (.int .i64 z)) := (Below.refl _ _).setCell hb.1 _
  have := (h.own.stored k (.int .i64 z)).1
  rw [V_set] at this
  refine ⟨by simpa using this, h.cur.keep B h.lt, ⟨h.out.os, h.out.tape, h.out.output, Nat.le_trans h.out.size B.size, fun q r s => (B.block q r).trans (h.out.block q r s)⟩, h.lt⟩

set_option maxHeartbeats 1000000 in
theorem drawP_any (w : World) (g : Nat) (A : Option Addr) (n c : Nat) (l : List Int) (m : Nat) (hm : m ≤ 24) (hc : Cur w g A n c l) :
    Calls Try.prog 65 #[.pointer (some ⟨g, 0, none⟩), .int .i64 m] w (DrawsP m g A n c l w) := by
  obtain ⟨i0, hi0, hz0, hz1, hz2⟩ := info_parts infoI
  have hlt0 := hc.lt
  have HC := Lib.hid hc; clear hc
  go_enter Try.func65, Try.ntmps65
  go_wp2
  go_loopw [5, 6] (fun v i wr => ∃ (k : Nat) (xs : List Int), k ≤ m ∧ i = .int .i64 k ∧ xs.length = k ∧ Ok xs ∧ Dr w wr g A n c l v xs) (fun _ i _ => m - (intOf i).toNat)
  case atStart =>
    have B := (Below.refl w.heap.size w).alloc (Nat.le_refl _) (.cells #[] 3)
    exact ⟨0, [], Nat.zero_le _, rfl, rfl, ok_nil, ⟨rfl, .inr ⟨w.heap.size, 0, #[], rfl, Nat.le_refl _, heap_alloc_last w _, Nat.le_refl _, by simp, rfl, rfl⟩⟩, HC.out.keep B hlt0, Out.of_below B, hlt0⟩
  case round =>
    obtain ⟨k, xs, hk, rfl, hl, ok, hdr⟩ := hrel
    obtain ⟨C, cc, rfl⟩ := own_form hdr.own
    subst hl
    have OK := Lib.hid ok; have DR := Lib.hid hdr; clear ok hdr
    have hsz := DR.out.out.size
    by_cases hlt : xs.length < m
    · go_wp2_with fail
      refine (below_any _ g A n c l ((xs.length : Int) + 1) (by omega) (by omega) DR.out.cur).mono ?_
      rintro e w2 ⟨a0, h0, h1, rfl, hcur, ho⟩
      obtain ⟨a, rfl⟩ := Int.eq_ofNat_of_zero_le h0
      have ha : a ≤ xs.length := by omega
      clear h0 h1
      have D2 := Lib.hid (DR.out.later hcur ho)
      have hsz2 := D2.out.out.size
      clear hcur ho DR
      go_wp2_with (at_builtin; refine wpList_append_one w2 _ _ rfl _ _ 30 rfl w.heap.size 3 i0 _ 8 Try.underlying30 hi0 hz0 hz1 hz2 rfl _ _ _ rfl D2.out.own rfl rfl ?c4 (by decide) hsz2 ?_)
      case c4 => omega
      intro v' w' ho hg
      have D3 := D2.out.push ho rfl hg
      clear ho hg D2
      obtain ⟨C', cc', rfl⟩ := own_form D3.own
      have hl1 : (xs ++ [(xs.length : Int)]).length = xs.length + 1 := by simp
      have hown := D3.own
      rw [hl1] at hown
      obtain ⟨b, rfl⟩ : ∃ b, C' = some ⟨b, 0, none⟩ := by
        rcases D3.own.2 with ⟨h0, hn0⟩ | ⟨b, cap, cur, q1, _⟩
        · simp at hn0
        · injection q1 with q1; exact ⟨b, q1⟩
      have hca : w'.cell? ⟨b, a, none⟩ = some (.int .i64 ((xs ++ [(xs.length : Int)]).getD a 0)) := by rw [D3.own.cellAt a (by simp; omega)]; exact V_getD (by simp; omega)
      have hck : w'.cell? ⟨b, xs.length, none⟩ = some (.int .i64 ((xs ++ [(xs.length : Int)]).getD xs.length 0)) := by rw [D3.own.cellAt xs.length (by simp)]; exact V_getD (by simp)
      have fa := D3.own.frozenAt a; have fk := D3.own.frozenAt xs.length
      generalize hq : (xs ++ [(xs.length : Int)]).getD a 0 = qa at *
      have D4 := D3.set_ xs.length qa
      have hca2 : (w'.setCell ⟨b, xs.length, none⟩ (.int .i64 qa)).cell? ⟨b, a, none⟩ = some (.int .i64 (((xs ++ [(xs.length : Int)]).set xs.length qa).getD a 0)) := by rw [D4.own.cellAt a (by simp; omega)]; exact V_getD (by simp; omega)
      have fa2 := D4.own.frozenAt a
      have D5 := D4.set_ a (xs.length : Int)
      have e5 : ((xs ++ [(xs.length : Int)]).set xs.length qa).set a (xs.length : Int) = put xs a := by unfold put; rw [hq]
      rw [e5] at D5
      have PL : Hid ((put xs a).length = xs.length + 1) := Lib.hid (put_len _ _)
      rw [PL.out] at D5
      rw [hl1]
      have D6 := Lib.hid D5
      have POK := Lib.hid (put_ok OK.out (by omega) ha)
      clear D3 D4 D5 hown hl1 hq e5
      go_wp2
      go_roundw
      case rel => exact ⟨xs.length + 1, put xs a, by omega, by go_num, PL.out, POK.out, D6.out⟩
      case measure => simp [intOf]; omega
    · obtain rfl : xs.length = m := by omega
      go_wp2
      go_ret
      exact ⟨_, xs, OK.out, rfl, rfl, DR.out.own, DR.out.cur, DR.out.out⟩

/-- A permutation of m elements in new memory. -/
def PermOut (m : Nat) (w : World) (e : Ending) (w' : World) : Prop :=
  ∃ A c xs, Ok xs ∧ xs.length = m ∧ e = .returned (.slice A m c) ∧ Row w' w.heap.size w'.heap.size A m (V xs) ∧ Below w.heap.size w w'
end Go.Proofs.Ytkkklpchkkdhfaa.cur

/-
  TorusOf of the program.
-/
namespace Go.Proofs.Ytkkklpchkkdhfaa.gl
open Go.ChangeShapes Go.WideShapes Go.ChangeAt Go.RowKit
open Go.Proofs.Ytkkklpchkkdhfaa.mem Go.Proofs.Ytkkklpchkkdhfaa.ints Go.Proofs.Ytkkklpchkkdhfaa.arr Go.Proofs.Ytkkklpchkkdhfaa.pm Go.Proofs.Ytkkklpchkkdhfaa.permOk Go.Proofs.Ytkkklpchkkdhfaa.permOf Go.Proofs.Ytkkklpchkkdhfaa.inv Go.Proofs.Ytkkklpchkkdhfaa.fns Go.Proofs.Ytkkklpchkkdhfaa.sf
set_option linter.unusedVariables false
set_option maxRecDepth 100000

theorem torg {A i j : Nat} (h1 : i < A) (h2 : j * A + A ≤ 24) : ∃ ja i1 i2 z : Nat, ((j : Int) * (A : Int) = (ja : Int) ∧ IntKind.i64.wrap (ja : Int) = (ja : Int)) ∧ ((i : Int) + 1 = (i1 : Int) ∧ IntKind.i64.wrap (i1 : Int) = (i1 : Int)) ∧ (i1 : Int).tmod (A : Int) = (i2 : Int) ∧ ((ja : Int) + (i2 : Int) = (z : Int) ∧ IntKind.i64.wrap (z : Int) = (z : Int)) ∧ (z : Int) = torAt A (j * A + i) := by
  have b3 : (i + 1) % A < A := Nat.mod_lt _ (by omega)
  have d1 : (j * A + i) / A = j := by rw [Nat.add_comm, Nat.add_mul_div_right _ _ (by omega), Nat.div_eq_of_lt h1]; omega
  have d2 : (j * A + i) % A = i := by rw [Nat.add_comm, Nat.add_mul_mod_self_right, Nat.mod_eq_of_lt h1]
  have e1 : (j : Int) * (A : Int) = ((j * A : Nat) : Int) := (Int.natCast_mul _ _).symm
  have e2 : (i : Int) + 1 = ((i + 1 : Nat) : Int) := by simp
  have e3 : ((i + 1 : Nat) : Int).tmod (A : Int) = (((i + 1) % A : Nat) : Int) := by rw [Int.tmod_eq_emod_of_nonneg (by omega)]; exact (Int.natCast_emod _ A).symm
  have e4 : ((j * A : Nat) : Int) + (((i + 1) % A : Nat) : Int) = ((j * A + (i + 1) % A : Nat) : Int) := (Int.natCast_add _ _).symm
  refine ⟨j * A, i + 1, (i + 1) % A, j * A + (i + 1) % A, ⟨e1, w_in (by omega)⟩, ⟨e2, w_in (by omega)⟩, e3, ⟨e4, w_in (by omega)⟩, ?_⟩
  unfold torAt; rw [d1, d2]
theorem torh {A H N i j : Nat} (h1 : i < A) (h2 : j < H) (hN : N = A * H) (h3 : N ≤ 24) : ∃ j1 j2 ja z : Nat, ((j : Int) + 1 = (j1 : Int) ∧ IntKind.i64.wrap (j1 : Int) = (j1 : Int)) ∧ (j1 : Int).tmod (H : Int) = (j2 : Int) ∧ ((j2 : Int) * (A : Int) = (ja : Int) ∧ IntKind.i64.wrap (ja : Int) = (ja : Int)) ∧ ((ja : Int) + (i : Int) = (z : Int) ∧ IntKind.i64.wrap (z : Int) = (z : Int)) ∧ (z : Int) = torUp A N (j * A + i) := by
  have hH : H ≤ N := by rw [hN]; exact Nat.le_mul_of_pos_left _ (by omega)
  have hA : A ≤ N := by rw [hN]; exact Nat.le_mul_of_pos_right _ (by omega)
  have b1 : (j + 1) % H < H := Nat.mod_lt _ (by omega)
  have b2 : (j + 1) % H * A + A ≤ N := by
    have : ((j + 1) % H + 1) * A ≤ H * A := Nat.mul_le_mul_right _ (by omega)
    rw [Nat.add_mul, Nat.one_mul] at this
    rw [hN, Nat.mul_comm A H]; exact this
  have key : (j * A + i + A) % N = (j + 1) % H * A + i := by
    have e : j * A + i + A = (j + 1) * A + i := by rw [Nat.add_mul, Nat.one_mul]; omega
    rw [e]
    by_cases q : j + 1 < H
    · rw [Nat.mod_eq_of_lt q] at b2 ⊢
      exact Nat.mod_eq_of_lt (by omega)
    · have q2 : j + 1 = H := by omega
      rw [q2, Nat.mod_self, Nat.zero_mul, Nat.zero_add, hN, Nat.mul_comm A H, Nat.add_comm, Nat.add_mod_right, Nat.mod_eq_of_lt]
      rw [← Nat.mul_comm A H, ← hN]; omega
  have e1 : (j : Int) + 1 = ((j + 1 : Nat) : Int) := by simp
  have e2 : ((j + 1 : Nat) : Int).tmod (H : Int) = (((j + 1) % H : Nat) : Int) := by rw [Int.tmod_eq_emod_of_nonneg (by omega)]; exact (Int.natCast_emod _ H).symm
  have e3 : (((j + 1) % H : Nat) : Int) * (A : Int) = (((j + 1) % H * A : Nat) : Int) := (Int.natCast_mul _ _).symm
  have e4 : (((j + 1) % H * A : Nat) : Int) + (i : Int) = (((j + 1) % H * A + i : Nat) : Int) := (Int.natCast_add _ _).symm
  refine ⟨j + 1, (j + 1) % H, (j + 1) % H * A, (j + 1) % H * A + i, ⟨e1, w_in (by omega)⟩, e2, ⟨e3, w_in (by omega)⟩, ⟨e4, w_in (by omega)⟩, ?_⟩
  unfold torUp; rw [key]


theorem to_spec (a h : Int) (w : World) (lo1 : -9223372036854775808 ≤ a) (hi1 : a ≤ 9223372036854775807) (lo2 : -9223372036854775808 ≤ h) (hi2 : h ≤ 9223372036854775807) :
    Calls Try.prog 42 #[.int .i64 a, .int .i64 h] w fun e w' => ∃ g, e = .returned (.tuple #[g, .bool (torB a h)]) ∧ Svl w' w.heap.size w'.heap.size g (toR a h) (toU a h) ∧ Below w.heap.size w w' := to_spec0 a h w lo1 hi1 lo2 hi2
end Go.Proofs.Ytkkklpchkkdhfaa.gl
