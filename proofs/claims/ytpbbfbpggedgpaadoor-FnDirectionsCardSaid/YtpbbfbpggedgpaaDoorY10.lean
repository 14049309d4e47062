import Derived.Test.YtpbbfbpggedgpaaDoorY09
import Derived.Test.YtpbbfbpggedgpaaDoorY04
import Derived.Test.YtpbbfbpggedgpaaDoorY06
import Derived.Test.YtpbbfbpggedgpaaDoorY08
/-
  EllOf of the model: two identities, stored into; plain mathematics of both.
-/
namespace Go.Proofs.YtpbbfbpggedgpaaDoor.gl
open Go.ChangeShapes Go.WideShapes Go.ChangeAt Go.RowKit
open Go.Proofs.YtpbbfbpggedgpaaDoor.mem Go.Proofs.YtpbbfbpggedgpaaDoor.ints Go.Proofs.YtpbbfbpggedgpaaDoor.arr Go.Proofs.YtpbbfbpggedgpaaDoor.pm Go.Proofs.YtpbbfbpggedgpaaDoor.permOk Go.Proofs.YtpbbfbpggedgpaaDoor.permOf Go.Proofs.YtpbbfbpggedgpaaDoor.inv Go.Proofs.YtpbbfbpggedgpaaDoor.fns Go.Proofs.YtpbbfbpggedgpaaDoor.sf
set_option linter.unusedVariables false
set_option maxRecDepth 100000

def lst (n : Nat) (f : Nat → Nat) : List Int := (List.range n).map fun i => (f i : Int)
theorem lst_len (n : Nat) (f : Nat → Nat) : (lst n f).length = n := by simp [lst]
theorem lst_set {n k z : Nat} {f f' : Nat → Nat} (h : ∀ i, i < n → f' i = if i = k then z else f i) : (lst n f).set k (z : Int) = lst n f' := by
  refine list_eq n (by simp [lst]) (lst_len _ _) fun i hi => ?_
  rw [getD_set, lst_len]
  have e : ∀ g : Nat → Nat, (lst n g).getD i 0 = (g i : Int) := fun g => by simp [lst, List.getD, hi]
  rw [e, e, h i hi]
  by_cases q : i = k
  · rw [if_pos ⟨q.symm, hi⟩, if_pos q]
  · rw [if_neg (fun x => q x.1.symm), if_neg q]
theorem lst_congr {n : Nat} {f f' : Nat → Nat} (h : ∀ i, i < n → f i = f' i) : lst n f = lst n f' := by
  unfold lst; exact List.map_congr_left fun i hi => by rw [h i (by simpa using hi)]
theorem lst_id (n : Nat) : lst n (fun i => i) = (List.range n).map (fun (i : Nat) => (i : Int)) := rfl
/-- Right: the first squares in a ring of 'arm'. -/
def elR (arm n k : Nat) : List Int := lst n fun i => if i < k then (i + 1) % arm else i
/-- Up: 0, arm, arm + 1, .. in a ring, done up to k. -/
def elS (arm n k : Nat) : List Int := lst n fun i => if i = 0 then arm else if arm ≤ i ∧ i < k then (i + 1) % n else i
def elT (arm n x : Nat) : List Int := lst n fun i => if i = 0 ∧ arm < x then arm else if arm ≤ i ∧ i + 1 < x then i + 1 else i
def elU (arm leg n : Nat) : List Int := if leg ≤ 1 then lst n (fun i => i) else elS arm n n
theorem elR_zero (arm n : Nat) : elR arm n 0 = lst n (fun i => i) := lst_congr fun i _ => by simp
theorem elR_succ {arm n k : Nat} (hk : k < n) : (elR arm n k).set k (((k + 1) % arm : Nat) : Int) = elR arm n (k + 1) := lst_set fun i _ => by
  by_cases q : i = k
  · subst q; simp
  · rw [if_neg q]; split <;> split <;> first | rfl | omega
theorem elS_start {arm n : Nat} (h0 : 0 < n) (ha : 1 ≤ arm) : (lst n (fun i => i)).set 0 (arm : Int) = elS arm n arm := lst_set fun i _ => by
  by_cases q : i = 0
  · simp [q]
  · rw [if_neg q, if_neg q, if_neg (by omega)]
theorem elS_succ {arm n k : Nat} (ha : 1 ≤ arm) (hk : arm ≤ k) : (elS arm n k).set k (((k + 1) % n : Nat) : Int) = elS arm n (k + 1) := lst_set fun i _ => by
  by_cases q : i = k
  · subst q; rw [if_neg (by omega), if_pos (by omega), if_pos rfl]
  · rw [if_neg q]
    by_cases q0 : i = 0
    · rw [if_pos q0, if_pos q0]
    · rw [if_neg q0, if_neg q0]; split <;> split <;> first | rfl | omega
theorem elT_start (arm n : Nat) : elT arm n arm = lst n (fun i => i) := lst_congr fun i _ => by
  rw [if_neg (by omega), if_neg (by omega)]
theorem elT_succ {arm n x : Nat} (ha : 1 ≤ arm) (hx : arm ≤ x) : (elT arm n x).set (if x = arm then 0 else x - 1) (x : Int) = elT arm n (x + 1) := lst_set fun i _ => by
  by_cases e : x = arm
  · subst e
    rw [if_pos rfl]
    by_cases q : i = 0
    · subst q; rw [if_pos (by omega), if_pos rfl]
    · rw [if_neg q, if_neg (by omega), if_neg (by omega), if_neg (by omega), if_neg (by omega)]
  · rw [if_neg e]
    by_cases q : i = x - 1
    · rw [if_neg (by omega), if_pos (by omega), if_pos q]; omega
    · rw [if_neg q]
      by_cases q0 : i = 0
      · rw [if_pos (by omega), if_pos (by omega)]
      · rw [if_neg (show ¬ (i = 0 ∧ arm < x + 1) by omega), if_neg (show ¬ (i = 0 ∧ arm < x) by omega)]; split <;> split <;> first | rfl | omega
theorem elT_end {arm leg n : Nat} (ha : 1 ≤ arm) (hl : 1 ≤ leg) (hn : n + 1 = arm + leg) : (elT arm n n).set (if n = arm then 0 else n - 1) 0 = elU arm leg n := by
  unfold elU
  by_cases e : n = arm
  · have : leg ≤ 1 := by omega
    rw [if_pos this, if_pos e]
    exact lst_set (z := 0) fun i hi => by
      by_cases q : i = 0
      · simp [q]
      · rw [if_neg q, if_neg (by omega), if_neg (by omega)]
  · have : ¬ leg ≤ 1 := by omega
    rw [if_neg this, if_neg e]
    exact lst_set (z := 0) fun i hi => by
      by_cases q0 : i = 0
      · rw [if_neg (show ¬ i = n - 1 by omega), if_pos (show i = 0 ∧ arm < n by omega), if_pos q0]
      · rw [if_neg q0]
        by_cases q1 : i = n - 1
        · rw [if_pos q1, if_pos (show arm ≤ i ∧ i < n by omega), show i + 1 = n by omega, Nat.mod_self]
        · rw [if_neg q1, if_neg (show ¬ (i = 0 ∧ arm < n) by omega)]
          by_cases q2 : arm ≤ i
          · rw [if_pos (show arm ≤ i ∧ i < n by omega), if_pos (show arm ≤ i ∧ i + 1 < n by omega), Nat.mod_eq_of_lt (by omega)]
          · rw [if_neg (show ¬ (arm ≤ i ∧ i < n) by omega), if_neg (show ¬ (arm ≤ i ∧ i + 1 < n) by omega)]
def elB (a h : Int) : Bool := decide (1 ≤ a ∧ 1 ≤ h ∧ a + h ≤ 25)
def elFR (a h : Int) : List Int := if elB a h then elR a.toNat (a + h - 1).toNat a.toNat else []
def elFU (a h : Int) : List Int := if elB a h then elU a.toNat h.toNat (a + h - 1).toNat else []
theorem elU_len (arm leg n : Nat) : (elU arm leg n).length = n := by unfold elU; split <;> exact lst_len _ _
theorem elFR_len (a h : Int) : (elFR a h).length ≤ 1048576 := by
  unfold elFR; split
  · rename_i q; have := of_decide_eq_true q; unfold elR; rw [lst_len]; omega
  · simp
theorem elFU_len (a h : Int) : (elFU a h).length ≤ 1048576 := by
  unfold elFU; split
  · rename_i q; have := of_decide_eq_true q; rw [elU_len]; omega
  · simp
theorem el_yes {A H n : Nat} (a1 : 1 ≤ A) (h1 : 1 ≤ H) (hn : n + 1 = A + H) (p : n ≤ 24) : elB A H = true ∧ elFR A H = elR A n A ∧ elFU A H = elU A H n := by
  have e : elB A H = true := by unfold elB; rw [decide_eq_true_eq]; omega
  have en : ((A : Int) + (H : Int) - 1).toNat = n := by omega
  refine ⟨e, ?_, ?_⟩
  · rw [elFR, e, if_pos rfl, en]; rfl
  · rw [elFU, e, if_pos rfl, en]; rfl
theorem el_no {a h : Int} (q : ¬ (1 ≤ a ∧ 1 ≤ h ∧ a + h ≤ 25)) : elB a h = false ∧ elFR a h = [] ∧ elFU a h = [] := by
  have e : elB a h = false := by unfold elB; rw [decide_eq_false_iff_not]; exact q
  exact ⟨e, by rw [elFR, e]; rfl, by rw [elFU, e]; rfl⟩
/-- Two rows in two blocks, their headers in a box, the result's box. -/
structure Eg (w wr : World) (b g1 g2 n c1 c2 : Nat) (l m : List Int) : Prop where
  res : Arr wr w.heap.size [.slice none 0 0, .slice none 0 0] 25
  box : Arr wr b [.slice (some ⟨g1, 0, none⟩) n c1, .slice (some ⟨g2, 0, none⟩) n c2] 25
  own1 : wr.ownsRow (w.heap.size + 1) 3 1 (.slice (some ⟨g1, 0, none⟩) n c1) n (V l)
  own2 : wr.ownsRow (w.heap.size + 1) 3 1 (.slice (some ⟨g2, 0, none⟩) n c2) n (V m)
  ne : g1 ≠ g2
  b1 : g1 < b
  b2 : g2 < b
  below : Below w.heap.size w wr
theorem own_set2 {W : World} {base b k : Nat} {e : TypeId} {v u : Value} {n : Nat} {xs : List Value} (h : W.ownsRow base e 1 v n xs) (hb : v.ownBlock ≠ some b) : (W.setCell ⟨b, k, none⟩ u).ownsRow base e 1 v n xs := by
  refine ⟨h.1, ?_⟩
  rcases h.2 with h0 | ⟨g, cap, cur, q1, q2, q3, q4⟩
  · exact .inl h0
  · exact .inr ⟨g, cap, cur, q1, q2, (Below.heap_setCell _ _ _ _ (by show g ≠ b; intro e; exact hb (by rw [q1, ← e]; rfl))).trans q3, q4⟩
theorem Eg.drew {w wr : World} {b g1 g2 n c1 c2 : Nat} {l m : List Int} (h : Eg w wr b g1 g2 n c1 c2 l m) : Eg w wr.drew b g1 g2 n c1 c2 l m := ⟨h.res, h.box, h.own1, h.own2, h.ne, h.b1, h.b2, ⟨h.below.os, h.below.tape, h.below.output, h.below.size, h.below.block⟩⟩
theorem Eg.g1 {w wr : World} {b g1 g2 n c1 c2 : Nat} {l m : List Int} (h : Eg w wr b g1 g2 n c1 c2 l m) : w.heap.size + 1 ≤ g1 := (h.own1.lt g1 rfl).1
theorem Eg.g2 {w wr : World} {b g1 g2 n c1 c2 : Nat} {l m : List Int} (h : Eg w wr b g1 g2 n c1 c2 l m) : w.heap.size + 1 ≤ g2 := (h.own2.lt g2 rfl).1
theorem Eg.set1 {w wr : World} {b g1 g2 n c1 c2 : Nat} {l m : List Int} (h : Eg w wr b g1 g2 n c1 c2 l m) (k : Nat) (z : Int) : Eg w (wr.setCell ⟨g1, k, none⟩ (.int .i64 z)) b g1 g2 n c1 c2 (l.set k z) m := by
  have q1 := h.g1; have q2 := h.b1; have q3 := h.ne
  refine ⟨(Below.heap_setCell _ _ _ _ (by show _ ≠ g1; omega)).trans h.res, (Below.heap_setCell _ _ _ _ (by show _ ≠ g1; omega)).trans h.box, ?_, own_set2 h.own2 (by show some g2 ≠ some g1; intro e; injection e with e; exact q3 e.symm), h.ne, h.b1, h.b2, h.below.setCell (by show w.heap.size ≤ g1; omega) _⟩
  have := (h.own1.stored k (.int .i64 z)).1
  rw [V_set] at this
  exact this
theorem Eg.set2 {w wr : World} {b g1 g2 n c1 c2 : Nat} {l m : List Int} (h : Eg w wr b g1 g2 n c1 c2 l m) (k : Nat) (z : Int) : Eg w (wr.setCell ⟨g2, k, none⟩ (.int .i64 z)) b g1 g2 n c1 c2 l (m.set k z) := by
  have q1 := h.g2; have q2 := h.b2; have q3 := h.ne
  refine ⟨(Below.heap_setCell _ _ _ _ (by show _ ≠ g2; omega)).trans h.res, (Below.heap_setCell _ _ _ _ (by show _ ≠ g2; omega)).trans h.box, own_set2 h.own1 (by show some g1 ≠ some g2; intro e; injection e with e; exact q3 e), ?_, h.ne, h.b1, h.b2, h.below.setCell (by show w.heap.size ≤ g2; omega) _⟩
  have := (h.own2.stored k (.int .i64 z)).1
  rw [V_set] at this
  exact this
theorem Eg.cell1 {w wr : World} {b g1 g2 n c1 c2 : Nat} {l m : List Int} (h : Eg w wr b g1 g2 n c1 c2 l m) {k : Nat} (hk : k < n) : wr.cell? ⟨g1, k, none⟩ = some (.int .i64 (l.getD k 0)) := by
  have hl : l.length = n := by have := h.own1.1; simpa [V] using this
  rw [h.own1.cellAt k (by omega)]; exact V_getD (by omega)
theorem Eg.cell2 {w wr : World} {b g1 g2 n c1 c2 : Nat} {l m : List Int} (h : Eg w wr b g1 g2 n c1 c2 l m) {k : Nat} (hk : k < n) : wr.cell? ⟨g2, k, none⟩ = some (.int .i64 (m.getD k 0)) := by
  have hl : m.length = n := by have := h.own2.1; simpa [V] using this
  rw [h.own2.cellAt k (by omega)]; exact V_getD (by omega)
theorem Eg.svl {w wr : World} {b g1 g2 n c1 c2 : Nat} {l m : List Int} (h : Eg w wr b g1 g2 n c1 c2 l m) (hn : 0 < n) : Svl wr (w.heap.size + 1) wr.heap.size (.agg #[.slice (some ⟨g1, 0, none⟩) n c1, .slice (some ⟨g2, 0, none⟩) n c2]) l m := by
  have e1 : l.length = n := by have := h.own1.1; simpa [V] using this
  have e2 : m.length = n := by have := h.own2.1; simpa [V] using this
  have r1 := h.own1; have r2 := h.own2
  have q := Svl.apart (P := some ⟨g1, 0, none⟩) (Q := some ⟨g2, 0, none⟩) (c := c1) (d := c2) (r := l) (u := m) (by rw [e1]; exact r1) (by rw [e2]; exact r2) (fun x a1 a2 => h.ne ((Option.some.inj (show some g1 = some x from a1)).trans (Option.some.inj (show some g2 = some x from a2)).symm)) (by omega) (by omega)
  rw [e1, e2] at q
  exact q
theorem elf {A k : Nat} (h1 : 1 ≤ A) (h2 : A ≤ 24) (h3 : k ≤ 24) : ∃ k1 z : Nat, ((k : Int) + 1 = (k1 : Int) ∧ IntKind.i64.wrap (k1 : Int) = (k1 : Int)) ∧ (k1 : Int).tmod (A : Int) = (z : Int) ∧ z = (k + 1) % A :=
  ⟨k + 1, (k + 1) % A, ⟨by simp, w_in (by omega)⟩, by rw [Int.tmod_eq_emod_of_nonneg (by omega)]; exact (Int.natCast_emod _ A).symm, rfl⟩

end Go.Proofs.YtpbbfbpggedgpaaDoor.gl

/-
  EllOf of the model.
-/
namespace Go.Proofs.YtpbbfbpggedgpaaDoor.gl
open Go.ChangeShapes Go.WideShapes Go.ChangeAt Go.RowKit
open Go.Proofs.YtpbbfbpggedgpaaDoor.mem Go.Proofs.YtpbbfbpggedgpaaDoor.ints Go.Proofs.YtpbbfbpggedgpaaDoor.arr Go.Proofs.YtpbbfbpggedgpaaDoor.pm Go.Proofs.YtpbbfbpggedgpaaDoor.permOk Go.Proofs.YtpbbfbpggedgpaaDoor.permOf Go.Proofs.YtpbbfbpggedgpaaDoor.inv Go.Proofs.YtpbbfbpggedgpaaDoor.fns Go.Proofs.YtpbbfbpggedgpaaDoor.sf
set_option linter.unusedVariables false
set_option maxRecDepth 100000

theorem own_at {W : World} {lo : Nat} {v : Value} {n : Nat} {xs : List Value} (h : W.ownsRow lo 3 1 v n xs) (hn : 0 < n) : ∃ g c, v = .slice (some ⟨g, 0, none⟩) n c := by
  rcases h.2 with h0 | ⟨g, c, cur, q, _⟩
  · exact absurd h0.2 (by omega)
  · exact ⟨g, c, q⟩
theorem own_below {W W' : World} {lo base g n c : Nat} {e : TypeId} {xs : List Value} (h : W.ownsRow base e 1 (.slice (some ⟨g, 0, none⟩) n c) n xs) (hb : Below lo W W') (hg : g < lo) : W'.ownsRow base e 1 (.slice (some ⟨g, 0, none⟩) n c) n xs := by
  refine ⟨h.1, ?_⟩
  rcases h.2 with h0 | ⟨g', cap, cur, q1, q2, q3, q4⟩
  · exact .inl h0
  · obtain rfl : g = g' := by injection q1 with q1; injection q1 with q1; injection q1
    exact .inr ⟨g, cap, cur, q1, q2, (hb.block g hg).trans q3, q4⟩
theorem own_lo {W : World} {base base' n : Nat} {v : Value} {e : TypeId} {xs : List Value} (h : W.ownsRow base e 1 v n xs) (hb : base' ≤ base) : W.ownsRow base' e 1 v n xs := by
  refine ⟨h.1, ?_⟩
  rcases h.2 with h0 | ⟨g', cap, cur, q1, q2, q⟩
  · exact .inl h0
  · exact .inr ⟨g', cap, cur, q1, by omega, q⟩
theorem Eg.start {w w1 w2 : World} {g1 g2 n c1 c2 : Nat} {l m : List Int} (hr : Arr (w.alloc (.cells #[.slice none 0 0, .slice none 0 0] 25)) w.heap.size [.slice none 0 0, .slice none 0 0] 25)
    (b1 : Below (w.alloc (.cells #[.slice none 0 0, .slice none 0 0] 25)).heap.size (w.alloc (.cells #[.slice none 0 0, .slice none 0 0] 25)) w1)
    (o1 : w1.ownsRow (w.alloc (.cells #[.slice none 0 0, .slice none 0 0] 25)).heap.size 3 1 (.slice (some ⟨g1, 0, none⟩) n c1) n (V l))
    (b2 : Below w1.heap.size w1 w2) (o2 : w2.ownsRow w1.heap.size 3 1 (.slice (some ⟨g2, 0, none⟩) n c2) n (V m)) :
    Eg w (w2.alloc (.cells #[.slice (some ⟨g1, 0, none⟩) n c1, .slice (some ⟨g2, 0, none⟩) n c2] 25)) w2.heap.size g1 g2 n c1 c2 l m := by
  have a1 := o1.lt g1 rfl; have a2 := o2.lt g2 rfl
  have s1 := b1.size; have s2 := b2.size
  have e : (w.alloc (.cells #[.slice none 0 0, .slice none 0 0] 25)).heap.size = w.heap.size + 1 := by simp
  rw [e] at a1 s1 b1
  refine ⟨?_, Arr.new w2 _ _ (by rfl), ?_, ?_, by omega, by omega, by omega, ?_⟩
  · exact Arr.alloc ((b2.block _ (by omega)).trans ((b1.block _ (by omega)).trans hr)) _
  · have := (own_below o1 b2 a1.2).alloc (.cells #[.slice (some ⟨g1, 0, none⟩) n c1, .slice (some ⟨g2, 0, none⟩) n c2] 25)
    rw [e] at this; exact this
  · exact (own_lo o2 (by omega)).alloc _
  · exact (((Below.refl w.heap.size w).alloc (Nat.le_refl _) _).trans ((b1.mono (by omega)).trans (b2.mono (by omega)))).alloc (by omega) _

set_option maxHeartbeats 4000000 in
theorem el_spec0 (a h : Int) (w : World) (lo1 : -9223372036854775808 ≤ a) (hi1 : a ≤ 9223372036854775807) (lo2 : -9223372036854775808 ≤ h) (hi2 : h ≤ 9223372036854775807) :
    Calls Tryd.prog 22 #[.int .i64 a, .int .i64 h] w (SB (elFR a h) (elFU a h) (elB a h) w) := by
  have RES := Lib.hid (Arr.new w [.slice none 0 0, .slice none 0 0] 25 rfl)
  by_cases ha : 1 ≤ a ∧ a ≤ 24
  · by_cases hh : 1 ≤ h ∧ h ≤ 24
    · obtain ⟨A, rfl⟩ := Int.eq_ofNat_of_zero_le (show 0 ≤ a by omega)
      obtain ⟨H, rfl⟩ := Int.eq_ofNat_of_zero_le (show 0 ≤ h by omega)
      obtain ⟨S, hS⟩ : ∃ S, S = A + H := ⟨_, rfl⟩
      obtain ⟨n, hn⟩ : ∃ n, n + 1 = A + H := ⟨A + H - 1, by omega⟩
      have hS1 : (A : Int) + (H : Int) = (S : Int) := by omega
      have hS2 : IntKind.i64.wrap (S : Int) = (S : Int) := w_in (by omega)
      have hn1 : (S : Int) - 1 = (n : Int) := by omega
      have hn2 : IntKind.i64.wrap (n : Int) = (n : Int) := w_in (by omega)
      have hA1 : 1 ≤ (A : Int) := ha.1
      have hA2 : (A : Int) ≤ 24 := ha.2
      have hH1 : 1 ≤ (H : Int) := hh.1
      have hH2 : (H : Int) ≤ 24 := hh.2
      clear ha hh hS
      by_cases hp : n ≤ 24
      · have hd : decide ((24 : Int) < (n : Int)) = false := by simp; omega
        obtain ⟨y1, y2, y3⟩ := el_yes (A := A) (H := H) (n := n) (by omega) (by omega) hn hp
        have Y1 := Lib.hid y1; have Y2 := Lib.hid y2; have Y3 := Lib.hid y3; clear y1 y2 y3
        go_enter Tryd.func22, Tryd.ntmps22
        go_wp2_with (first | (go_at_call 39; refine (permOk.in_yes _ _ _ _ (by omega) (by omega)).mono ?_; rintro e w' ⟨rfl, rfl⟩))
        refine (fns.l02id_any n _ hp).mono ?_
        rintro e w1 ⟨v1, rfl, ho1, b1⟩
        rw [← lst_id n] at ho1
        have l1 := lst_len n (fun i => i)
        rw [l1] at ho1
        obtain ⟨g1, c1, rfl⟩ := own_at ho1 (by omega)
        have HO1 := Lib.hid ho1; have B1 := Lib.hid b1; clear ho1 b1
        go_wp2_with fail
        refine (fns.l02id_any n _ hp).mono ?_
        rintro e w2 ⟨v2, rfl, ho2, b2⟩
        rw [← lst_id n, l1] at ho2
        obtain ⟨g2, c2, rfl⟩ := own_at ho2 (by omega)
        have HO2 := Lib.hid ho2; have B2 := Lib.hid b2; clear ho2 b2
        clear l1
        go_wp2_with (refine wpList_build rfl 25 _ rfl [] rfl #[.slice (some ⟨g1, 0, none⟩) n c1, .slice (some ⟨g2, 0, none⟩) n c2] ?_ ?_)
        have EG : Hid (Eg w (w2.alloc (.cells #[.slice (some ⟨g1, 0, none⟩) n c1, .slice (some ⟨g2, 0, none⟩) n c2] 25)) w2.heap.size g1 g2 n c1 c2 (elR A n 0) (lst n fun i => i)) := Lib.hid (by
          rw [elR_zero]
          exact Eg.start RES.out B1.out HO1.out B2.out HO2.out)
        clear RES HO1 B1 HO2 B2
        obtain ⟨b, hb⟩ : ∃ b, b = w2.heap.size := ⟨_, rfl⟩
        rw [← hb] at EG ⊢
        generalize (w2.alloc (.cells #[.slice (some ⟨g1, 0, none⟩) n c1, .slice (some ⟨g2, 0, none⟩) n c2] 25)) = w3 at EG ⊢
        clear hb w1 w2
        go_loopw [8] (fun i wr => ∃ k : Nat, k ≤ A ∧ i = .int .i64 k ∧ Eg w wr b g1 g2 n c1 c2 (elR A n k) (lst n fun i => i)) (fun i _ => A - (intOf i).toNat)
        case atStart => exact ⟨0, Nat.zero_le _, rfl, EG.out⟩
        case round =>
          obtain ⟨k, hk, rfl, ht⟩ := hrel
          have HT := Lib.hid ht; clear ht EG
          by_cases hlt : k < A
          · obtain ⟨k1, z, ⟨f1, f2⟩, f3, f4⟩ := elf (A := A) (k := k) (by omega) (by omega) (by omega)
            have hkn : k < n := by omega
            have NL : Hid ((elR A n k).set k (z : Int) = elR A n (k + 1)) := Lib.hid (by rw [f4]; exact elR_succ hkn)
            clear f4
            have hc := HT.out.box.cell (k := 0) rfl
            have hcx := HT.out.cell1 hkn
            have hfx := HT.out.own1.frozenAt k
            have hA0 : ¬ A = 0 := by omega
            clear hS1 hS2 hn1 hn2
            go_wp2
            go_region
            go_wp2
            go_roundw
            case rel =>
              refine ⟨k + 1, by omega, by go_num, ?_⟩
              have := (HT.out.set1 k z).drew
              rw [NL.out] at this
              exact this
            case measure => simp [intOf]; omega
          · obtain rfl : k = A := by omega
            clear hS1 hS2 hn1 hn2 hlt
            by_cases hH : 1 < H
            · have hdl : decide (1 < (H : Int)) = true := by simp; omega
              have hc1 := HT.out.box.cell (k := 1) rfl
              have hcx := HT.out.cell2 (k := 0) (by omega)
              have hfx := HT.out.own2.frozenAt 0
              have hn0 : 0 < n := by omega
              have NS : Hid ((lst n (fun i => i)).set 0 (k : Int) = elS k n k) := Lib.hid (elS_start (by omega) (by omega))
              go_wp2
              go_loopw [9] (fun i wr => ∃ j : Nat, k ≤ j ∧ j ≤ n ∧ i = .int .i64 j ∧ Eg w wr b g1 g2 n c1 c2 (elR k n k) (elS k n j)) (fun i _ => n - (intOf i).toNat)
              case atStart =>
                refine ⟨k, Nat.le_refl _, by omega, rfl, ?_⟩
                have := HT.out.set2 0 (k : Int)
                rw [NS.out] at this
                exact this
              case round =>
                obtain ⟨j, hkj, hj, rfl, ht⟩ := hrel
                clear hcx hfx hc1 HT
                have HT := Lib.hid ht; clear ht
                by_cases hlt : j < n
                · obtain ⟨k1, z, ⟨f1, f2⟩, f3, f4⟩ := elf (A := n) (k := j) (by omega) (by omega) (by omega)
                  have NL : Hid ((elS k n j).set j (z : Int) = elS k n (j + 1)) := Lib.hid (by rw [f4]; exact elS_succ (by omega) hkj)
                  clear f4
                  have hc := HT.out.box.cell (k := 1) rfl
                  have hcx := HT.out.cell2 hlt
                  have hfx := HT.out.own2.frozenAt j
                  have hA0 : ¬ n = 0 := by omega
                  go_wp2
                  go_region
                  go_wp2
                  go_roundw
                  case rel =>
                    refine ⟨j + 1, by omega, by omega, by go_num, ?_⟩
                    have := (HT.out.set2 j z).drew
                    rw [NL.out] at this
                    exact this
                  case measure => simp [intOf]; omega
                · obtain rfl : j = n := by omega
                  have Y4 : Hid (elU k H j = elS k j j) := Lib.hid (by unfold elU; rw [if_neg (show ¬ H ≤ 1 by omega)])
                  have SV := Lib.hid (HT.out.svl (by omega))
                  have hc := HT.out.box.cell (k := 0) rfl
                  have hc1 := HT.out.box.cell (k := 1) rfl
                  have hsz := HT.out.below.size
                  go_wp2_with (refine wpList_store_row rfl 25 _ _ rfl w.heap.size #[.slice (some ⟨g1, 0, none⟩) j c1, .slice (some ⟨g2, 0, none⟩) j c2] rfl rfl 25 #[.slice none 0 0, .slice none 0 0] HT.out.res size2 rfl (by simp [Value.oneCell']) ?_)
                  exact bodyPost_ret (v := .tuple #[.agg #[.slice (some ⟨g1, 0, none⟩) j c1, .slice (some ⟨g2, 0, none⟩) j c2], .bool true]) (permOf.results_cell_tmp rfl _ _ w.heap.size 25 #[.slice (some ⟨g1, 0, none⟩) j c1, .slice (some ⟨g2, 0, none⟩) j c2] (0, 0) _ _ rfl rfl HT.out.res.row Tryd.underlying25 rfl size2) rfl (by
                    rw [Y1.out, Y2.out, Y3.out, Y4.out]
                    have := Svl.row SV.out (g := w.heap.size) (by omega) #[.slice (some ⟨g1, 0, none⟩) j c1, .slice (some ⟨g2, 0, none⟩) j c2]
                    exact ⟨_, rfl, (by simpa using this.later (by omega)), below_setRow HT.out.below (Nat.le_refl _) _⟩)
            · have hdl : decide (1 < (H : Int)) = false := by simp; omega
              have Y4 : Hid (elU k H n = lst n (fun i => i)) := Lib.hid (by unfold elU; rw [if_pos (show H ≤ 1 by omega)])
              have SV := Lib.hid (HT.out.svl (by omega))
              have hc := HT.out.box.cell (k := 0) rfl
              have hc1 := HT.out.box.cell (k := 1) rfl
              have hsz := HT.out.below.size
              go_wp2_with (refine wpList_store_row rfl 25 _ _ rfl w.heap.size #[.slice (some ⟨g1, 0, none⟩) n c1, .slice (some ⟨g2, 0, none⟩) n c2] rfl rfl 25 #[.slice none 0 0, .slice none 0 0] HT.out.res size2 rfl (by simp [Value.oneCell']) ?_)
              exact bodyPost_ret (v := .tuple #[.agg #[.slice (some ⟨g1, 0, none⟩) n c1, .slice (some ⟨g2, 0, none⟩) n c2], .bool true]) (permOf.results_cell_tmp rfl _ _ w.heap.size 25 #[.slice (some ⟨g1, 0, none⟩) n c1, .slice (some ⟨g2, 0, none⟩) n c2] (0, 0) _ _ rfl rfl HT.out.res.row Tryd.underlying25 rfl size2) rfl (by
                rw [Y1.out, Y2.out, Y3.out, Y4.out]
                have := Svl.row SV.out (g := w.heap.size) (by omega) #[.slice (some ⟨g1, 0, none⟩) n c1, .slice (some ⟨g2, 0, none⟩) n c2]
                exact ⟨_, rfl, (by simpa using this.later (by omega)), below_setRow HT.out.below (Nat.le_refl _) _⟩)
      · obtain ⟨n1, n2, n3⟩ := el_no (a := A) (h := H) (fun q => by have := q.2.2; omega)
        have N1 := Lib.hid n1; have N2 := Lib.hid n2; have N3 := Lib.hid n3; clear n1 n2 n3
        have hd : decide ((24 : Int) < (n : Int)) = true := by simp; omega
        go_enter Tryd.func22, Tryd.ntmps22
        go_wp2_with (first | (go_at_call 39; refine (permOk.in_yes _ _ _ _ (by omega) (by omega)).mono ?_; rintro e w' ⟨rfl, rfl⟩) | (refine wpList_build rfl 25 _ rfl [] rfl #[.slice none 0 0, .slice none 0 0] built2 ?_) | (refine wpList_store_row rfl 25 _ _ rfl w.heap.size #[.slice none 0 0, .slice none 0 0] rfl rfl 25 #[.slice none 0 0, .slice none 0 0] RES.out size2 rfl (by simp [Value.oneCell']) ?_))
        exact bodyPost_ret (v := .tuple #[.agg #[.slice none 0 0, .slice none 0 0], .bool false]) (permOf.results_cell_tmp rfl _ _ w.heap.size 25 #[.slice none 0 0, .slice none 0 0] (0, 0) _ _ rfl rfl RES.out.row Tryd.underlying25 rfl size2) rfl (sb_nil N2.out N3.out N1.out (below_setRow ((Below.refl _ _).alloc (Nat.le_refl _) _) (Nat.le_refl _) _))
    · obtain ⟨n1, n2, n3⟩ := el_no (a := a) (h := h) (fun q => by omega)
      have N1 := Lib.hid n1; have N2 := Lib.hid n2; have N3 := Lib.hid n3; clear n1 n2 n3
      have hh' : h < 1 ∨ 24 < h := by omega
      clear hh
      go_enter Tryd.func22, Tryd.ntmps22
      go_wp2_with fail
      refine (permOk.in_yes _ _ _ _ (by omega) (by omega)).mono ?_
      rintro e w' ⟨rfl, rfl⟩
      go_wp2_with fail
      refine (permOk.in_no _ _ _ _ hh').mono ?_
      rintro e w' ⟨rfl, rfl⟩
      go_wp2_with (first | (refine wpList_build rfl 25 _ rfl [] rfl #[.slice none 0 0, .slice none 0 0] built2 ?_) | (refine wpList_store_row rfl 25 _ _ rfl w.heap.size #[.slice none 0 0, .slice none 0 0] rfl rfl 25 #[.slice none 0 0, .slice none 0 0] RES.out size2 rfl (by simp [Value.oneCell']) ?_))
      exact bodyPost_ret (v := .tuple #[.agg #[.slice none 0 0, .slice none 0 0], .bool false]) (permOf.results_cell_tmp rfl _ _ w.heap.size 25 #[.slice none 0 0, .slice none 0 0] (0, 0) _ _ rfl rfl RES.out.row Tryd.underlying25 rfl size2) rfl (sb_nil N2.out N3.out N1.out (below_setRow ((Below.refl _ _).alloc (Nat.le_refl _) _) (Nat.le_refl _) _))
  · obtain ⟨n1, n2, n3⟩ := el_no (a := a) (h := h) (fun q => by omega)
    have N1 := Lib.hid n1; have N2 := Lib.hid n2; have N3 := Lib.hid n3; clear n1 n2 n3
    have ha' : a < 1 ∨ 24 < a := by omega
    clear ha
    go_enter Tryd.func22, Tryd.ntmps22
    go_wp2_with fail
    refine (permOk.in_no _ _ _ _ ha').mono ?_
    rintro e w' ⟨rfl, rfl⟩
    go_wp2_with (first | (refine wpList_build rfl 25 _ rfl [] rfl #[.slice none 0 0, .slice none 0 0] built2 ?_) | (refine wpList_store_row rfl 25 _ _ rfl w.heap.size #[.slice none 0 0, .slice none 0 0] rfl rfl 25 #[.slice none 0 0, .slice none 0 0] RES.out size2 rfl (by simp [Value.oneCell']) ?_))
    exact bodyPost_ret (v := .tuple #[.agg #[.slice none 0 0, .slice none 0 0], .bool false]) (permOf.results_cell_tmp rfl _ _ w.heap.size 25 #[.slice none 0 0, .slice none 0 0] (0, 0) _ _ rfl rfl RES.out.row Tryd.underlying25 rfl size2) rfl (sb_nil N2.out N3.out N1.out (below_setRow ((Below.refl _ _).alloc (Nat.le_refl _) _) (Nat.le_refl _) _))

end Go.Proofs.YtpbbfbpggedgpaaDoor.gl

/-
  EllOf of the program.
-/
namespace Go.Proofs.YtpbbfbpggedgpaaDoor.gl
open Go.ChangeShapes Go.WideShapes Go.ChangeAt Go.RowKit
open Go.Proofs.YtpbbfbpggedgpaaDoor.mem Go.Proofs.YtpbbfbpggedgpaaDoor.ints Go.Proofs.YtpbbfbpggedgpaaDoor.arr Go.Proofs.YtpbbfbpggedgpaaDoor.pm Go.Proofs.YtpbbfbpggedgpaaDoor.permOk Go.Proofs.YtpbbfbpggedgpaaDoor.permOf Go.Proofs.YtpbbfbpggedgpaaDoor.inv Go.Proofs.YtpbbfbpggedgpaaDoor.fns Go.Proofs.YtpbbfbpggedgpaaDoor.sf
set_option linter.unusedVariables false
set_option maxRecDepth 100000

theorem idF_lst {n : Nat} (h : n ≤ 24) : idF (n : Int) = lst n (fun i => i) := by
  unfold idF; rw [if_pos (by omega), Int.toNat_natCast]; rfl

theorem el_spec (a h : Int) (w : World) (lo1 : -9223372036854775808 ≤ a) (hi1 : a ≤ 9223372036854775807) (lo2 : -9223372036854775808 ≤ h) (hi2 : h ≤ 9223372036854775807) :
    Calls Tryd.prog 22 #[.int .i64 a, .int .i64 h] w fun e w' => ∃ g, e = .returned (.tuple #[g, .bool (elB a h)]) ∧ Svl w' w.heap.size w'.heap.size g (elFR a h) (elFU a h) ∧ Below w.heap.size w w' := el_spec0 a h w lo1 hi1 lo2 hi2
end Go.Proofs.YtpbbfbpggedgpaaDoor.gl

/-
  The round about the corners: of the program's gluing, of the model.
-/
namespace Go.Proofs.YtpbbfbpggedgpaaDoor.gl
open Go.ChangeShapes Go.WideShapes Go.ChangeAt Go.RowKit
open Go.Proofs.YtpbbfbpggedgpaaDoor.mem Go.Proofs.YtpbbfbpggedgpaaDoor.ints Go.Proofs.YtpbbfbpggedgpaaDoor.arr Go.Proofs.YtpbbfbpggedgpaaDoor.pm Go.Proofs.YtpbbfbpggedgpaaDoor.permOk Go.Proofs.YtpbbfbpggedgpaaDoor.permOf Go.Proofs.YtpbbfbpggedgpaaDoor.inv Go.Proofs.YtpbbfbpggedgpaaDoor.fns Go.Proofs.YtpbbfbpggedgpaaDoor.sf
set_option linter.unusedVariables false
set_option maxRecDepth 100000

set_option maxHeartbeats 8000000 in
theorem around_any (p q : List Int) (n : Nat) (w : World) (hp : Sq p) (hq : Sq q) :
    Calls Tryd.prog 68 #[.agg (V (gl p q n)).toArray] w fun e w' => e = .returned (.agg (V (ar24 p q)).toArray) ∧ Below w.heap.size w w' := by
  have HP := Lib.hid hp; have HQ := Lib.hid hq; clear hp hq
  go_enter Tryd.func68, Tryd.ntmps68
  go_wp2_with fail
  generalize hw1 : (w.alloc (.cells (V (gl p q n)).toArray 69)).alloc (.cells #[.int .i64 0, .int .i64 0, .int .i64 0, .int .i64 0, .int .i64 0, .int .i64 0, .int .i64 0, .int .i64 0, .int .i64 0, .int .i64 0, .int .i64 0, .int .i64 0, .int .i64 0, .int .i64 0, .int .i64 0, .int .i64 0, .int .i64 0, .int .i64 0, .int .i64 0, .int .i64 0, .int .i64 0, .int .i64 0, .int .i64 0, .int .i64 0] 67) = w1
  have A2 : Hid (Arr w1 w.heap.size (V (gl p q n)) 69) := Lib.hid (by rw [← hw1]; exact (Arr.new w _ _ rfl).alloc _)
  have A4 : Hid (Arr w1 (w.heap.size + 1) (V zeros) 67) := Lib.hid (by rw [← hw1]; exact Arr.new _ (V zeros) _ (by simp))
  have B1 : Hid (Below w.heap.size w w1) := Lib.hid (by rw [← hw1]; exact ((Below.refl _ _).alloc (Nat.le_refl _) _).alloc (by simp) _)
  have s1 : w1.heap.size = w.heap.size + 2 := by rw [← hw1]; simp
  clear hw1
  refine wp_region_held_drew (S := Hld w.heap.size w1.heap.size w1 [(w.heap.size, V (gl p q n))]) (by kernel_rfl) ((Hld.start1 A2.out).lower (by omega)) (fun hHeld => ?_)
  have b1 : Below w1.heap.size w1 w1.drew := ⟨rfl, rfl, rfl, Nat.le_refl _, fun _ _ => rfl⟩
  generalize w1.drew = w4 at *
  have s4 := b1.size
  replace A4 := Lib.hid (A4.out.keep b1 A4.out.lt)
  replace B1 := Lib.hid (B1.out.trans (b1.mono B1.out.size))
  clear b1 A2
  refine wpAnyH_take (i := 0) (v := .pointer (some ⟨w.heap.size, 0, none⟩)) rfl (by kernel_rfl) (by kernel_rfl) (by kernel_rfl) (fun _ _ _ h => h) (Or.inl ⟨by rfl, fun w hSw => by go_simp⟩) hHeld ?_
  refine wpAnyH_take (i := 2) (v := .pointer (some ⟨w.heap.size, 24, none⟩)) rfl (by kernel_rfl) (by kernel_rfl) (by kernel_rfl) (fun _ _ _ h => h) (Or.inl ⟨by rfl, fun w hSw => by go_simp⟩) hHeld ?_
  refine wpAnyH_take (i := 5) (v := .pointer (some ⟨w.heap.size, 0, none⟩)) rfl (by kernel_rfl) (by kernel_rfl) (by kernel_rfl) (fun _ _ _ h => h) (Or.inl ⟨by rfl, fun w hSw => by go_simp⟩) hHeld ?_
  refine wpAnyH_take (i := 9) (v := .pointer (some ⟨w.heap.size, 24, none⟩)) rfl (by kernel_rfl) (by kernel_rfl) (by kernel_rfl) (fun _ _ _ h => h) (Or.inl ⟨by rfl, fun w hSw => by go_simp⟩) hHeld ?_
  refine wpAnyH_take (i := 1) (v := .agg (V p).toArray) rfl (by kernel_rfl) (by kernel_rfl) (by kernel_rfl) (fun _ _ _ h => h) (yieldsIf_load_mid (by rfl) _ _ rfl (w.heap.size) 0 rfl (V p) _ (fun w h => rg_right HP.out.len h.fst) Tryd.underlying67 rfl (hi24 HP.out.len)) hHeld ?_
  refine wpAnyH_take (i := 3) (v := .agg (V q).toArray) rfl (by kernel_rfl) (by kernel_rfl) (by kernel_rfl) (fun _ _ _ h => h) (yieldsIf_load_mid (by rfl) _ _ rfl (w.heap.size) 24 rfl (V q) _ (fun w h => rg_up HP.out.len HQ.out.len h.fst) Tryd.underlying67 rfl (hi24 HQ.out.len)) hHeld ?_
  refine wpAnyH_take (i := 6) (v := .agg (V p).toArray) rfl (by kernel_rfl) (by kernel_rfl) (by kernel_rfl) (fun _ _ _ h => h) (yieldsIf_load_mid (by rfl) _ _ rfl (w.heap.size) 0 rfl (V p) _ (fun w h => rg_right HP.out.len h.fst) Tryd.underlying67 rfl (hi24 HP.out.len)) hHeld ?_
  refine wpAnyH_take (i := 10) (v := .agg (V q).toArray) rfl (by kernel_rfl) (by kernel_rfl) (by kernel_rfl) (fun _ _ _ h => h) (yieldsIf_load_mid (by rfl) _ _ rfl (w.heap.size) 24 rfl (V q) _ (fun w h => rg_up HP.out.len HQ.out.len h.fst) Tryd.underlying67 rfl (hi24 HQ.out.len)) hHeld ?_
  refine wpAnyH_ready (rs := [4]) (by kernel_rfl) (by simp) (AllReadyH.cons rfl (fun K hK => ?_) AllReadyH.nil)
  go_simp
  refine (inv.then_any p q _ HP.out HQ.out).mono ?_
  rintro e w' ⟨rfl, b1⟩
  replace A4 := Lib.hid (A4.out.keep b1 A4.out.lt)
  replace B1 := Lib.hid (B1.out.trans (b1.mono B1.out.size))
  go_wp2_with fail
  have hHeld2 := hHeld.later b1 (by omega); clear b1 hHeld
  refine hK.out _ _ hHeld2 (fun hHeld => ?_)
  clear hK K hHeld2
  refine wpAnyH_ready (rs := [7]) (by kernel_rfl) (by simp) (AllReadyH.cons rfl (fun K hK => ?_) AllReadyH.nil)
  go_simp
  refine (inverse_any p _ HP.out).mono ?_
  rintro e w' ⟨rfl, b1⟩
  replace A4 := Lib.hid (A4.out.keep b1 A4.out.lt)
  replace B1 := Lib.hid (B1.out.trans (b1.mono B1.out.size))
  go_wp2_with fail
  have hHeld2 := hHeld.later b1 (by omega); clear b1 hHeld
  refine hK.out _ _ hHeld2 (fun hHeld => ?_)
  clear hK K hHeld2
  refine wpAnyH_ready (rs := [8]) (by kernel_rfl) (by simp) (AllReadyH.cons rfl (fun K hK => ?_) AllReadyH.nil)
  go_simp
  refine (inv.then_any (thenL p q) (invTo 24 p 24) _ (then_sq HP.out HQ.out) (inv_sq _)).mono ?_
  rintro e w' ⟨rfl, b1⟩
  replace A4 := Lib.hid (A4.out.keep b1 A4.out.lt)
  replace B1 := Lib.hid (B1.out.trans (b1.mono B1.out.size))
  go_wp2_with fail
  have hHeld2 := hHeld.later b1 (by omega); clear b1 hHeld
  refine hK.out _ _ hHeld2 (fun hHeld => ?_)
  clear hK K hHeld2
  refine wpAnyH_ready (rs := [11]) (by kernel_rfl) (by simp) (AllReadyH.cons rfl (fun K hK => ?_) AllReadyH.nil)
  go_simp
  refine (inverse_any q _ HQ.out).mono ?_
  rintro e w' ⟨rfl, b1⟩
  replace A4 := Lib.hid (A4.out.keep b1 A4.out.lt)
  replace B1 := Lib.hid (B1.out.trans (b1.mono B1.out.size))
  go_wp2_with fail
  have hHeld2 := hHeld.later b1 (by omega); clear b1 hHeld
  refine hK.out _ _ hHeld2 (fun hHeld => ?_)
  clear hK K hHeld2
  refine wpAnyH_ready (rs := [12]) (by kernel_rfl) (by simp) (AllReadyH.cons rfl (fun K hK => ?_) AllReadyH.nil)
  go_simp
  refine (inv.then_any (thenL (thenL p q) (invTo 24 p 24)) (invTo 24 q 24) _ (then_sq (then_sq HP.out HQ.out) (inv_sq _)) (inv_sq _)).mono ?_
  rintro e w' ⟨rfl, b1⟩
  replace A4 := Lib.hid (A4.out.keep b1 A4.out.lt)
  replace B1 := Lib.hid (B1.out.trans (b1.mono B1.out.size))
  go_wp2_with fail
  have hHeld2 := hHeld.later b1 (by omega); clear b1 hHeld
  refine hK.out _ _ hHeld2 (fun hHeld => ?_)
  clear hK K hHeld2
  have HA : Hid (thenL (thenL (thenL p q) (invTo 24 p 24)) (invTo 24 q 24) = ar24 p q) := Lib.hid rfl
  rw [HA.out]
  have HL := Lib.hid (ar24_len p q)
  generalize haa : ar24 p q = a at *
  have HAA := Lib.hid haa; clear haa
  clear HA
  refine wpAnyH_ready (rs := [13]) (by kernel_rfl) (by simp) (AllReadyH.cons rfl (fun K hK => ?_) AllReadyH.nil)
  refine step_store_row rfl 67 _ _ rfl (w.heap.size + 1) (V a).toArray rfl rfl 67 (V zeros).toArray A4.out (size_V HL.out) (by simp [V_len, HL.out, zeros]) (one_V _) ?_
  refine hK.out _ _ (hHeld.other (by omega) (by simp) _) (fun hHeld2 => ?_)
  clear hK K hHeld2
  refine wpAnyH_done (by kernel_rfl) ?_ _
  go_wp2_with fail
  exact bodyPost_ret (v := .agg (V a).toArray) (results_cell_row rfl _ _ (w.heap.size + 1) 67 (V a).toArray (0, 0) _ rfl A4.out.row Tryd.underlying67 rfl (size_V HL.out)) rfl ⟨by rw [HAA.out], below_setRow B1.out (by omega) _⟩

theorem l02inv_gives (A : Option Addr) (n c : Nat) (xs : List Int) (hi : Nat) (w : World) (hx : Rd w hi A n (V xs)) (ok : Ok xs) (hn : xs.length = n) :
    Calls Tryd.prog 41 #[.slice A n c] w (Gives (Inv xs) w) := by
  subst hn; exact l02inv_any A _ c xs hi w hx ok
theorem _root_.Go.Proofs.YtpbbfbpggedgpaaDoor.sf.Hld.c0 {base top a : Nat} {w W : World} {x y : Value} {l : List (Nat × List Value)} (h : Hld base top w ((a, [x, y]) :: l) W) : W.cell? ⟨a, 0, none⟩ = some x := by simpa using h.fst 0 x rfl
theorem _root_.Go.Proofs.YtpbbfbpggedgpaaDoor.sf.Hld.c1 {base top a : Nat} {w W : World} {x y : Value} {l : List (Nat × List Value)} (h : Hld base top w ((a, [x, y]) :: l) W) : W.cell? ⟨a, 1, none⟩ = some y := by simpa using h.fst 1 y rfl
end Go.Proofs.YtpbbfbpggedgpaaDoor.gl
