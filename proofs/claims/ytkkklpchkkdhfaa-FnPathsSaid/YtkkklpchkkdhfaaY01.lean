import Derived.Test.YtkkklpchkkdhfaaRows
import Derived.WalkKit
import Derived.ProofKit
import Derived.OpenShut
import Derived.ShutString
import Derived.Laws.RangeAny
import Derived.Lib.Hide
import Derived.Below
import Derived.Deep.QuietTactic
import Derived.BigQuiet
import Derived.Deep.RegionHeld3
import Derived.Deep.AppendLies
import Derived.Outline
import Derived.Laws.Rows
import Derived.Deep.WholeRow
/-
  Words for memory: a slice that reads as a list of cells, each of which may be written; what a quiet call leaves.
-/
namespace Go.Proofs.Ytkkklpchkkdhfaa.mem
open Go.ChangeShapes Go.WideShapes Go.ChangeAt Go.RowKit
set_option linter.unusedVariables false
set_option maxRecDepth 100000

theorem ret_bool {a b : Bool} (h : a = b) : Ending.returned (.bool a) = .returned (.bool b) := by rw [h]
theorem ret_int {k : IntKind} {a b : Int} (h : a = b) : Ending.returned (.int k a) = .returned (.int k b) := by rw [h]
theorem ret_str {a b : ByteArray} (h : a = b) : Ending.returned (.string a) = .returned (.string b) := by rw [h]

/-- The slice value '.slice A n c' reads as the cells xs; they lie in one block from 'lo' on and below 'hi', and none is frozen. -/
def Row (w : World) (lo hi : Nat) (A : Option Addr) (n : Nat) (xs : List Value) : Prop :=
  xs.length = n ∧ hi ≤ w.heap.size ∧ (0 < n → ∃ g off, A = some ⟨g, off, none⟩ ∧ lo ≤ g ∧ g < hi ∧ ∀ j, j < n → w.cell? ⟨g, off + j, none⟩ = xs[j]? ∧ w.frozen? ⟨g, off + j, none⟩ = false)

theorem Row.at_ {w : World} {lo hi n k : Nat} {A : Option Addr} {xs : List Value} (h : Row w lo hi A n xs) (hk : k < n) :
    ∃ g off u, A = some ⟨g, off, none⟩ ∧ lo ≤ g ∧ g < hi ∧ xs[k]? = some u ∧ w.cell? ⟨g, off + k, none⟩ = some u ∧ w.frozen? ⟨g, off + k, none⟩ = false := by
  obtain ⟨g, off, e, hb, hlt, hc⟩ := h.2.2 (by omega)
  have hl : k < xs.length := by have := h.1; omega
  obtain ⟨h1, h2⟩ := hc k hk
  exact ⟨g, off, xs[k], e, hb, hlt, List.getElem?_eq_getElem hl, by rw [h1, List.getElem?_eq_getElem hl], h2⟩

/-- All that was there is as it was, but for blocks from 'lo' on and below 'hi'. -/
structure Out (lo hi : Nat) (w w' : World) : Prop where
  os : w'.os = w.os
  tape : w'.tape = w.tape
  output : w'.output = w.output
  size : w.heap.size ≤ w'.heap.size
  block : ∀ k, k < w.heap.size → k < lo ∨ hi ≤ k → w'.heap[k]? = w.heap[k]?

theorem Out.refl (lo hi : Nat) (w : World) : Out lo hi w w := ⟨rfl, rfl, rfl, Nat.le_refl _, fun _ _ _ => rfl⟩
theorem Out.trans {lo hi : Nat} {a b c : World} (h : Out lo hi a b) (k : Out lo hi b c) : Out lo hi a c :=
  ⟨k.os.trans h.os, k.tape.trans h.tape, k.output.trans h.output, Nat.le_trans h.size k.size, fun i hi hne => (k.block i (Nat.lt_of_lt_of_le hi h.size) hne).trans (h.block i hi hne)⟩
theorem Out.of_below {lo hi : Nat} {w w' : World} (hb : Below w.heap.size w w') : Out lo hi w w' :=
  ⟨hb.os, hb.tape, hb.output, hb.size, fun k hk _ => hb.block k hk⟩
theorem Out.set_ {lo hi g off : Nat} {w w' : World} (h : Out lo hi w w') (h1 : lo ≤ g) (h2 : g < hi) (u : Value) : Out lo hi w (w'.setCell ⟨g, off, none⟩ u) :=
  ⟨h.os, h.tape, h.output, by simpa [World.setCell] using h.size, fun j hj hne => (Below.heap_setCell _ _ _ _ (by intro e; have e2 : j = g := e; omega)).trans (h.block j hj hne)⟩
theorem Out.below {lo hi B : Nat} {w w' : World} (h : Out lo hi w w') (h1 : B ≤ lo) (h2 : B ≤ w.heap.size) : Below B w w' :=
  ⟨h.os, h.tape, h.output, h.size, fun k hk => h.block k (by omega) (.inl (by omega))⟩
theorem Out.drewN {lo hi : Nat} {w w' : World} (h : Out lo hi w w') (n : Nat) : Out lo hi w (w'.drewN n) := ⟨h.os, h.tape, h.output, h.size, h.block⟩
theorem Out.wider {lo hi lo' hi' : Nat} {w w' : World} (h : Out lo hi w w') (h1 : lo' ≤ lo) (h2 : hi ≤ hi') : Out lo' hi' w w' :=
  ⟨h.os, h.tape, h.output, h.size, fun k hk hne => h.block k hk (by omega)⟩

theorem Row.out {w w' : World} {lo hi lo' hi' n : Nat} {A : Option Addr} {xs : List Value} (h : Row w lo hi A n xs) (ho : Out lo' hi' w w') (hd : hi ≤ lo' ∨ hi' ≤ lo) : Row w' lo hi A n xs := by
  refine ⟨h.1, Nat.le_trans h.2.1 ho.size, fun hn => ?_⟩
  obtain ⟨g, off, e, hg, hlt, hc⟩ := h.2.2 hn
  have hs := h.2.1
  have hblk : w'.heap[g]? = w.heap[g]? := ho.block g (by omega) (by omega)
  refine ⟨g, off, e, hg, hlt, fun j hj => ?_⟩
  rw [World.cell?_of_block (w := w) (a := ⟨g, off + j, none⟩) hblk, World.frozen?_of_block (w := w) (a := ⟨g, off + j, none⟩) hblk]
  exact hc j hj
theorem Row.keep {w w' : World} {lo hi n B : Nat} {A : Option Addr} {xs : List Value} (h : Row w lo hi A n xs) (hb : Below B w w') (hB : hi ≤ B) : Row w' lo hi A n xs := by
  refine ⟨h.1, Nat.le_trans h.2.1 hb.size, fun hn => ?_⟩
  obtain ⟨g, off, e, hg, hlt, hc⟩ := h.2.2 hn
  have hblk : w'.heap[g]? = w.heap[g]? := hb.block g (by omega)
  refine ⟨g, off, e, hg, hlt, fun j hj => ?_⟩
  rw [World.cell?_of_block (w := w) (a := ⟨g, off + j, none⟩) hblk, World.frozen?_of_block (w := w) (a := ⟨g, off + j, none⟩) hblk]
  exact hc j hj

theorem Row.wider {w : World} {lo hi lo' hi' n : Nat} {A : Option Addr} {xs : List Value} (h : Row w lo hi A n xs) (h1 : lo' ≤ lo) (h2 : hi ≤ hi') (h3 : hi' ≤ w.heap.size) : Row w lo' hi' A n xs :=
  ⟨h.1, h3, fun hn => by
    obtain ⟨g, off, e, hg, hlt, hc⟩ := h.2.2 hn
    exact ⟨g, off, e, by omega, by omega, hc⟩⟩

theorem below_drewN {B : Nat} {a w : World} (h : Below B a w) (n : Nat) : Below B a (w.drewN n) := ⟨h.os, h.tape, h.output, h.size, h.block⟩

theorem Row.of_own {w : World} {base : Nat} {e : TypeId} {A : Option Addr} {n c : Nat} {xs : List Value} (h : w.ownsRow base e 1 (.slice A n c) n xs) : Row w base w.heap.size A n xs := by
  refine ⟨by simpa using h.1, Nat.le_refl _, fun hn => ?_⟩
  have hlen := h.1
  rcases h.2 with ⟨hv, h0⟩ | ⟨g, cap, cur, hv, hb, hh, r⟩
  · omega
  · injection hv with hA hn' hc'
    subst hA; subst hc'
    have hlt : g < w.heap.size := by
      rcases Nat.lt_or_ge g w.heap.size with hlt | hge
      · exact hlt
      · rw [Array.getElem?_eq_none hge] at hh; cases hh
    refine ⟨g, 0, rfl, hb, hlt, fun j hj => ?_⟩
    rw [Nat.zero_add]
    exact ⟨h.cellAt j (by omega), h.frozenAt j⟩

theorem Row.set_ {w : World} {lo hi n k g off : Nat} {xs : List Value} (h : Row w lo hi (some ⟨g, off, none⟩) n xs) (hk : k < n) (u : Value) :
    Row (w.setCell ⟨g, off + k, none⟩ u) lo hi (some ⟨g, off, none⟩) n (xs.set k u) := by
  refine ⟨by rw [List.length_set]; exact h.1, by simpa [World.setCell] using h.2.1, fun hn => ?_⟩
  obtain ⟨g', off', e, hg, hlt, hc⟩ := h.2.2 hn
  injection e with e; injection e with e1 e2; subst e1; subst e2
  refine ⟨g, off, rfl, hg, hlt, fun j hj => ?_⟩
  have hl := h.1
  rw [World.frozen?_setCell]
  refine ⟨?_, (hc j hj).2⟩
  by_cases e : j = k
  · subst e
    rw [World.cell?_setCell_same' w _ u (by rw [(hc j hj).1, List.getElem?_eq_getElem (by omega)]; rfl), List.getElem?_set_self (by omega)]
  · rw [World.cell?_setCell_other w _ _ u (by intro q; injection q with _ q; omega), List.getElem?_set_ne (by omega)]
    exact (hc j hj).1

/-- The slice value '.slice A n c' reads as the cells xs, which lie in one block below 'hi'. -/
def Rd (w : World) (hi : Nat) (A : Option Addr) (n : Nat) (xs : List Value) : Prop :=
  xs.length = n ∧ hi ≤ w.heap.size ∧ (0 < n → ∃ g off, A = some ⟨g, off, none⟩ ∧ g < hi ∧ ∀ j, j < n → w.cell? ⟨g, off + j, none⟩ = xs[j]?)
theorem Row.rd {w : World} {lo hi n : Nat} {A : Option Addr} {xs : List Value} (h : Row w lo hi A n xs) : Rd w hi A n xs :=
  ⟨h.1, h.2.1, fun hn => by
    obtain ⟨g, off, e, hg, hlt, hc⟩ := h.2.2 hn
    exact ⟨g, off, e, hlt, fun j hj => (hc j hj).1⟩⟩
theorem Rd.at_ {w : World} {hi n k : Nat} {A : Option Addr} {xs : List Value} (h : Rd w hi A n xs) (hk : k < n) :
    ∃ g off u, A = some ⟨g, off, none⟩ ∧ g < hi ∧ xs[k]? = some u ∧ w.cell? ⟨g, off + k, none⟩ = some u := by
  obtain ⟨g, off, e, hlt, hc⟩ := h.2.2 (by omega)
  have hl : k < xs.length := by have := h.1; omega
  exact ⟨g, off, xs[k], e, hlt, List.getElem?_eq_getElem hl, by rw [hc k hk, List.getElem?_eq_getElem hl]⟩
theorem Rd.keep {w w' : World} {hi n B : Nat} {A : Option Addr} {xs : List Value} (h : Rd w hi A n xs) (hb : Below B w w') (hB : hi ≤ B) : Rd w' hi A n xs := by
  refine ⟨h.1, Nat.le_trans h.2.1 hb.size, fun hn => ?_⟩
  obtain ⟨g, off, e, hlt, hc⟩ := h.2.2 hn
  have hblk : w'.heap[g]? = w.heap[g]? := hb.block g (by omega)
  refine ⟨g, off, e, hlt, fun j hj => ?_⟩
  rw [World.cell?_of_block (w := w) (a := ⟨g, off + j, none⟩) hblk]
  exact hc j hj
theorem Rd.out {w w' : World} {hi lo' hi' n : Nat} {A : Option Addr} {xs : List Value} (h : Rd w hi A n xs) (ho : Out lo' hi' w w') (hd : hi ≤ lo' ∨ hi' ≤ 0) : Rd w' hi A n xs := by
  refine ⟨h.1, Nat.le_trans h.2.1 ho.size, fun hn => ?_⟩
  obtain ⟨g, off, e, hlt, hc⟩ := h.2.2 hn
  have hs := h.2.1
  have hblk : w'.heap[g]? = w.heap[g]? := ho.block g (by omega) (by omega)
  refine ⟨g, off, e, hlt, fun j hj => ?_⟩
  rw [World.cell?_of_block (w := w) (a := ⟨g, off + j, none⟩) hblk]
  exact hc j hj
/-- A slice that came in: its cells. -/
theorem Rd.of_cells {w : World} {a : Addr} {n : Nat} {xs : List Value} (hl : xs.length = n) (h : ∀ i, i < n → w.cell? (a.add i) = xs[i]?) : Rd w w.heap.size (some a) n xs := by
  refine ⟨hl, Nat.le_refl _, fun hn => ?_⟩
  obtain ⟨b, off, spot⟩ := a
  have h0 := h 0 hn
  rw [List.getElem?_eq_getElem (by omega)] at h0
  have hspot : spot = none := by simpa [Addr.add] using World.cell?_spot h0
  subst hspot
  have hb := World.block_lt_of_cell? w _ h0
  refine ⟨b, off, rfl, by simpa [Addr.add] using hb, fun j hj => ?_⟩
  rw [← h j hj]
  congr 1
  unfold Addr.add
  split
  · rename_i e; subst e; simp
  · rfl

theorem run_byte_string {P : Program} (W : World) (src dst e t : TypeId) (n : Int)
    (hs : P.underlying src = some (.slice e)) (he : P.underlying e = some (.int .u8)) (hd : P.underlying dst = some .string) :
    (convert src dst (.slice (some ⟨W.heap.size, 0, none⟩) 1 1)).run P (W.alloc (.cells #[.int .u8 n] t)) = .ok (.string ⟨#[UInt8.ofNat n.toNat]⟩) (W.alloc (.cells #[.int .u8 n] t)) := by
  rw [run_convert_bytes_string _ _ _ _ _ _ _ hs he hd]
  rw [run_bytesToString _ ⟨W.heap.size, 0, none⟩ 1 1 [n] ?_]
  · rfl
  · simp [go_sem]

theorem run_byte_cell {P : Program} (W : World) (src dst e : TypeId) (b : Nat) (n : Int)
    (hs : P.underlying src = some (.slice e)) (he : P.underlying e = some (.int .u8)) (hd : P.underlying dst = some .string) (hc : W.cell? ⟨b, 0, none⟩ = some (.int .u8 n)) :
    (convert src dst (.slice (some ⟨b, 0, none⟩) 1 1)).run P W = .ok (.string ⟨#[UInt8.ofNat n.toNat]⟩) W := by
  rw [run_convert_bytes_string _ _ _ _ _ _ _ hs he hd]
  rw [run_bytesToString _ ⟨b, 0, none⟩ 1 1 [n] ?_]
  · rfl
  · simp [go_sem, hc]
theorem cell_new {W w' : World} {v : Value} {t : TypeId} (hb : Below (W.alloc (.cells #[v] t)).heap.size (W.alloc (.cells #[v] t)) w') : w'.cell? ⟨W.heap.size, 0, none⟩ = some v := by
  rw [hb.cell (p := ⟨W.heap.size, 0, none⟩) (by simp)]
  simp [go_sem]

theorem grown_trans {a b c : World} {row : Option Nat} (h : a.grownBy b row) (k : b.grownBy c row) : a.grownBy c row :=
  ⟨k.os.trans h.os, k.tape.trans h.tape, k.output.trans h.output, Nat.le_trans h.size k.size, fun i hi hne => (k.block i (Nat.lt_of_lt_of_le hi h.size) hne).trans (h.block i hi hne)⟩

/-- 'out = append(out, u)': u lies in the one cell of a new block; the row is nil or the call's own. -/
theorem wpList_append_one {P : Program} {ops : Array Oper} {rest : List Oper} {o : Oper} {a : Act} {Q : Exit → Act → World → Prop} (W : World) (u : Value) (ty : TypeId) (hgd : o.guard = none) (s x : Operand) (t : TypeId)
    (ho : o.op = .call { callee := .builtin .append, args := #[s, x], argTypes := #[t, t] })
    (base : Nat) (e : TypeId) (i : TypeInfo) (z : Value) (bytes : Nat) (ht : P.underlying t = some (.slice e)) (hi : P.info? e = some i) (hz : i.zero = some z)
    (hsize : i.size = 1) (hby : i.bytes = bytes) (hzs : z.cells.size = 1)
    (v : Value) (n : Nat) (xs : List Value) (hs : a.eval s = v) (hown : W.ownsRow base e 1 v n xs)
    (hx : a.eval x = .slice (some ⟨W.heap.size, 0, none⟩) 1 1) (h1 : u.oneCell' = true)
    (hbytes : (n + 1) * bytes ≤ 140737488355328) (hb0 : 0 < bytes) (hbase : base ≤ W.heap.size)
    (h : ∀ v' w', w'.ownsRow base e 1 v' (n + 1) (xs ++ [u]) → W.grownBy w' v.ownBlock → wpList P ops Q rest (a.put o.dst v') w') : wpList P ops Q (o :: rest) a (W.alloc (.cells #[u] ty)) := by
  refine wpList_append_own _ hgd s x t ho base e i z 1 bytes ht hi hz hsize hby hzs (by decide) v n xs hs (hown.alloc _) ⟨W.heap.size, 0, none⟩ 1 1 [u] hx rfl ?_ ?_ ?_ hbytes ?_ ?_
  · intro j q hj
    match j, hj with
    | 0, hj => simp at hj; subst hj; simp [Addr.add]
  · intro q hq; simp at hq; subst hq; exact h1
  · have : (n + 1) * 1 ≤ (n + 1) * bytes := Nat.mul_le_mul_left _ hb0
    unfold maxLen; omega
  · simp; omega
  · intro v' w' h2 h3 _
    exact h v' w' h2 (grown_trans (World.grownBy_alloc W _ _) h3)

theorem own_form {w : World} {base : Nat} {e : TypeId} {size n : Nat} {v : Value} {xs : List Value} (h : w.ownsRow base e size v n xs) : ∃ A c, v = .slice A n c := by
  rcases h.2 with ⟨rfl, rfl⟩ | ⟨g, cap, cur, rfl, _⟩
  · exact ⟨_, _, rfl⟩
  · exact ⟨_, _, rfl⟩
theorem own_below {w w' : World} {base B : Nat} {e : TypeId} {size n : Nat} {v : Value} {xs : List Value} (h : w.ownsRow base e size v n xs) (hg : w.grownBy w' v.ownBlock) (hB : B ≤ base) (hb : base ≤ w.heap.size) : Below B w w' :=
  (Below.refl _ _).grown hg (by omega) (fun k hk => by have := (h.lt k hk).1; omega)

end Go.Proofs.Ytkkklpchkkdhfaa.mem

/-
  Contracts of the laws' helpers on slices of ints: eqIntS, markIntS, heldIntS, toIntS; a slice of ints that came in.
-/
namespace Go.Proofs.Ytkkklpchkkdhfaa.ints
open Go.ChangeShapes Go.WideShapes Go.ChangeAt Go.RowKit
open Go.Proofs.Ytkkklpchkkdhfaa.mem
set_option linter.unusedVariables false
set_option maxRecDepth 100000

def V (l : List Int) : List Value := l.map (Value.int .i64)
theorem V_len (l : List Int) : (V l).length = l.length := by simp [V]
theorem V_at {l : List Int} {k : Nat} {u : Value} (h : (V l)[k]? = some u) : ∃ z, l[k]? = some z ∧ u = .int .i64 z := by
  simp only [V, List.getElem?_map, Option.map_eq_some_iff] at h
  obtain ⟨s, h1, h2⟩ := h
  exact ⟨s, h1, h2.symm⟩
theorem V_get {l : List Int} {k : Nat} {z : Int} (h : l[k]? = some z) : (V l)[k]? = some (.int .i64 z) := by simp [V, h]
theorem V_set (l : List Int) (k : Nat) (z : Int) : (V l).set k (.int .i64 z) = V (l.set k z) := by simp [V, List.map_set]

def Drawn (w w' : World) : Prop := ∃ m, w' = w.drewN m
theorem Drawn.cell {w w' : World} (h : Drawn w w') (p : Addr) : w'.cell? p = w.cell? p := by obtain ⟨m, rfl⟩ := h; rfl
theorem Drawn.more {w w' : World} (h : Drawn w w') (n : Nat) : Drawn w (w'.drewN n) := by obtain ⟨m, rfl⟩ := h; exact ⟨m + n, by simp⟩
theorem Drawn.below {w w' : World} (h : Drawn w w') (B : Nat) : Below B w w' := by obtain ⟨m, rfl⟩ := h; exact below_drewN (Below.refl _ _) _
theorem infoI : (Try.prog.info? 3).map (fun i => (i.zero, i.size, i.bytes)) = some (some (.int .i64 0), 1, 8) := by kernel_rfl

def eqi (xs ys : List Int) : Bool := decide (xs = ys)
def Same (xs ys : List Int) (k : Nat) : Prop := ∀ j, j < k → xs[j]? = ys[j]?
theorem Same.step {xs ys : List Int} {k : Nat} {s : Int} (h : Same xs ys k) (h1 : xs[k]? = some s) (h2 : ys[k]? = some s) : Same xs ys (k + 1) := by
  intro j hj
  by_cases e : j = k
  · subst e; rw [h1, h2]
  · exact h j (by omega)
theorem eqi_no {xs ys : List Int} {k : Nat} {s t : Int} (h1 : xs[k]? = some s) (h2 : ys[k]? = some t) (h : s ≠ t) : eqi xs ys = false := by
  unfold eqi
  rw [decide_eq_false_iff_not]
  rintro rfl
  rw [h1] at h2
  exact h (Option.some.inj h2)
theorem eqi_len {xs ys : List Int} (h : xs.length ≠ ys.length) : eqi xs ys = false := by
  unfold eqi
  rw [decide_eq_false_iff_not]
  rintro rfl
  exact h rfl
theorem eqi_yes {xs ys : List Int} {n : Nat} (h1 : xs.length = n) (h2 : ys.length = n) (h : Same xs ys n) : eqi xs ys = true := by
  unfold eqi
  rw [decide_eq_true_iff]
  refine List.ext_getElem? fun i => ?_
  by_cases hi : i < n
  · exact h i hi
  · rw [List.getElem?_eq_none (by omega), List.getElem?_eq_none (by omega)]
theorem eqi_self (xs : List Int) : eqi xs xs = true := by simp [eqi]

set_option maxHeartbeats 400000 in
theorem eq_any (A : Option Addr) (n c : Nat) (B : Option Addr) (m d : Nat) (xs ys : List Int) (h1 h2 : Nat) (w : World)
    (hx : Rd w h1 A n (V xs)) (hy : Rd w h2 B m (V ys)) (hn : n ≤ maxLen) (hm : m ≤ maxLen) :
    Calls Try.prog 25 #[.slice A n c, .slice B m d] w fun e w' => e = .returned (.bool (eqi xs ys)) ∧ Drawn w w' := by
  unfold maxLen at hn hm
  have lx : xs.length = n := by simpa [V] using hx.1
  have ly : ys.length = m := by simpa [V] using hy.1
  have LX := Lib.hid lx; have LY := Lib.hid ly; clear lx ly
  have HX := Lib.hid hx; have HY := Lib.hid hy; clear hx hy
  by_cases hnm : n = m
  · obtain rfl : m = n := hnm.symm
    clear hnm
    go_enter Try.func25, Try.ntmps25
    go_wp2
    go_loopw [5] (fun i wr => ∃ k : Nat, k ≤ m ∧ i = .int .i64 k ∧ Drawn w wr ∧ Same xs ys k) (fun i _ => m - (intOf i).toNat)
    case atStart => exact ⟨0, Nat.zero_le _, rfl, ⟨0, rfl⟩, fun j hj => by omega⟩
    case round =>
      obtain ⟨k, hk, rfl, hdr, hsame⟩ := hrel
      have HS := Lib.hid hsame; have HD := Lib.hid hdr; clear hsame hdr
      by_cases hlt : k < m
      · obtain ⟨g, off, u, rfl, _, hxu, hcx⟩ := HX.out.at_ hlt
        obtain ⟨g', off', u', rfl, _, hyu, hcy⟩ := HY.out.at_ hlt
        obtain ⟨s, hxs, rfl⟩ := V_at hxu
        obtain ⟨t, hyt, rfl⟩ := V_at hyu
        rw [← HD.out.cell] at hcx hcy
        have HXS := Lib.hid hxs; have HYT := Lib.hid hyt; clear hxs hyt hxu hyu
        by_cases hst : s = t
        · subst hst
          go_wp2
          go_quiet (fail)
          go_wp2
          go_roundw
          case rel => exact ⟨k + 1, by omega, by go_num, HD.out.more _, HS.out.step HXS.out HYT.out⟩
          case measure => simp [intOf]; omega
        · have hb : (s != t) = true := by simpa using hst
          have HST := Lib.hid hst; clear hst
          go_wp2
          go_quiet (fail)
          go_wp2
          go_ret
          exact ⟨ret_bool (eqi_no HXS.out HYT.out HST.out).symm, HD.out.more _⟩
      · obtain rfl : k = m := by omega
        go_wp2
        go_ret
        exact ⟨ret_bool (eqi_yes LX.out LY.out HS.out).symm, HD.out⟩
  · have hb : ((n : Int) != (m : Int)) = true := by simp; omega
    have HB : eqi xs ys = false := eqi_len (by rw [LX.out, LY.out]; exact hnm)
    have HB := Lib.hid HB
    clear hnm
    go_enter Try.func25, Try.ntmps25
    go_wp2
    go_ret
    exact ⟨ret_bool HB.out.symm, 0, rfl⟩

def Marks (k : Int) (n : Nat) : List Int := (List.range n).map fun (i : Nat) => k + (i : Int)
theorem marks_at {k : Int} {n j : Nat} (h : j < n) : (V (Marks k n))[j]? = some (.int .i64 (k + j)) := by
  simp [V, Marks, h]
def MUpto (ys : List Value) (k : Int) (j : Nat) : Prop := ∀ i : Nat, i < j → ys[i]? = some (.int .i64 (k + i))
theorem MUpto.all {ys : List Value} {k : Int} {n : Nat} (h : MUpto ys k n) (hl : ys.length = n) : ys = V (Marks k n) := by
  refine List.ext_getElem? fun i => ?_
  by_cases hi : i < n
  · rw [h i hi, marks_at hi]
  · rw [List.getElem?_eq_none (by omega), List.getElem?_eq_none (by simp [V, Marks]; omega)]
theorem MUpto.step {ys : List Value} {k : Int} {j : Nat} (h : MUpto ys k j) (hl : j < ys.length) : MUpto (ys.set j (.int .i64 (k + j))) k (j + 1) := by
  intro i hi
  by_cases e : i = j
  · subst e; rw [List.getElem?_set_self hl]
  · rw [List.getElem?_set_ne (by omega)]; exact h i (by omega)
def MarkRel (A : Option Addr) (n lo hi : Nat) (k : Int) (w wr : World) (j : Nat) : Prop := ∃ ys, Row wr lo hi A n ys ∧ MUpto ys k j ∧ Out lo hi w wr

set_option maxHeartbeats 400000 in
theorem mark_any (A : Option Addr) (n c : Nat) (xs : List Value) (lo hi : Nat) (k : Int) (w : World)
    (hx : Row w lo hi A n xs) (hn : n ≤ 4611686018427387904) (h1 : 1 ≤ k) (h2 : k + n ≤ 4611686018427387904) :
    Calls Try.prog 28 #[.slice A n c, .int .i64 k] w fun e w' => e = .returned (.int .i64 (k + n)) ∧ Row w' lo hi A n (V (Marks k n)) ∧ Out lo hi w w' := by
  have HX := Lib.hid hx; clear hx
  go_enter Try.func28, Try.ntmps28
  go_wp2
  go_loopw [1, 5] (fun q i wr => ∃ j : Nat, j ≤ n ∧ q = .int .i64 (k + j) ∧ i = .int .i64 j ∧ MarkRel A n lo hi k w wr j) (fun _ i _ => n - (intOf i).toNat)
  case atStart => exact ⟨0, Nat.zero_le _, by simp, rfl, xs, HX.out, fun i hi => by omega, Out.refl _ _ _⟩
  case round =>
    obtain ⟨j, hj, rfl, rfl, hm⟩ := hrel
    have HM := Lib.hid hm; clear hm
    by_cases hlt : j < n
    · obtain ⟨ys, hr, hu, hbut⟩ := HM.out
      obtain ⟨g, off, u, rfl, hbg, hgl, hyu, hcy, hfr⟩ := hr.at_ hlt
      have HR := Lib.hid hr; have HU := Lib.hid hu; have HB := Lib.hid hbut; clear hr hu hbut hyu
      go_wp2
      go_roundw
      case rel =>
        refine ⟨j + 1, by omega, by go_num, by go_num, ys.set j (.int .i64 (k + j)), ?_, HU.out.step (by have := HR.out.1; omega), ?_⟩
        · exact HR.out.set_ hlt _
        · exact HB.out.set_ hbg hgl _
      case measure => simp [intOf]; omega
    · obtain rfl : j = n := by omega
      go_wp2
      go_ret
      obtain ⟨ys, hr, hu, hbut⟩ := HM.out
      refine ⟨rfl, ?_, hbut⟩
      rw [← hu.all hr.1]; exact hr

set_option maxHeartbeats 400000 in
theorem held_any (A : Option Addr) (n c : Nat) (lo hi : Nat) (k : Int) (w : World)
    (hx : Row w lo hi A n (V (Marks k n))) (hn : n ≤ 4611686018427387904) (h1 : 1 ≤ k) (h2 : k + n ≤ 4611686018427387904) :
    Calls Try.prog 29 #[.slice A n c, .int .i64 k] w fun e w' => e = .returned (.int .i64 (k + n)) ∧ Drawn w w' := by
  have HX := Lib.hid hx; clear hx
  go_enter Try.func29, Try.ntmps29
  go_wp2
  go_loopw [1, 5] (fun q i wr => ∃ j : Nat, j ≤ n ∧ q = .int .i64 (k + j) ∧ i = .int .i64 j ∧ Drawn w wr) (fun _ i _ => n - (intOf i).toNat)
  case atStart => exact ⟨0, Nat.zero_le _, by simp, rfl, 0, rfl⟩
  case round =>
    obtain ⟨j, hj, rfl, rfl, hb⟩ := hrel
    by_cases hlt : j < n
    · obtain ⟨g, off, u, rfl, hbg, hgl, hyu, hcy, hfr⟩ := HX.out.at_ hlt
      rw [marks_at hlt] at hyu
      obtain rfl := Option.some.inj hyu
      rw [← hb.cell] at hcy
      have HB := Lib.hid hb; clear hb hyu hfr
      go_wp2
      go_roundw
      case rel => exact ⟨j + 1, by omega, by go_num, by go_num, HB.out⟩
      case measure => simp [intOf]; omega
    · obtain rfl : j = n := by omega
      go_wp2
      go_ret
      exact ⟨rfl, hb⟩

def Upto (ys : List Value) (xs : List Int) (j : Nat) : Prop := ∀ i : Nat, i < j → ys[i]? = (V xs)[i]?
theorem Upto.step {ys : List Value} {xs : List Int} {j : Nat} {s : Int} (h : Upto ys xs j) (hl : j < ys.length) (hs : (V xs)[j]? = some (.int .i64 s)) : Upto (ys.set j (.int .i64 s)) xs (j + 1) := by
  intro i hi
  by_cases e : i = j
  · subst e; rw [List.getElem?_set_self hl, hs]
  · rw [List.getElem?_set_ne (by omega)]; exact h i (by omega)
theorem Upto.all {ys : List Value} {xs : List Int} {n : Nat} (h : Upto ys xs n) (hl : ys.length = n) (hx : xs.length = n) : ys = V xs := by
  refine List.ext_getElem? fun i => ?_
  by_cases hi : i < n
  · exact h i hi
  · rw [List.getElem?_eq_none (by omega), List.getElem?_eq_none (by simp [V]; omega)]
def CopyRel (xs : List Int) (n : Nat) (w wr : World) (j : Nat) : Prop := ∃ ys, wr.ownsRow w.heap.size 3 1 (.slice (some ⟨w.heap.size, 0, none⟩) n n) n ys ∧ Upto ys xs j ∧ Below w.heap.size w wr

set_option maxHeartbeats 400000 in
theorem to_any (A : Option Addr) (n c : Nat) (xs : List Int) (hi : Nat) (w : World)
    (hx : Rd w hi A n (V xs)) (hn : n ≤ 1048576) :
    Calls Try.prog 53 #[.slice A n c] w fun e w' => e = .returned (.slice (some ⟨w.heap.size, 0, none⟩) n n) ∧ w'.ownsRow w.heap.size 3 1 (.slice (some ⟨w.heap.size, 0, none⟩) n n) n (V xs) ∧ Below w.heap.size w w' := by
  obtain ⟨i0, hi0, hz0, hz1, hz2⟩ := info_parts infoI
  have lx : xs.length = n := by simpa [V] using hx.1
  have LX := Lib.hid lx; clear lx
  have HX := Lib.hid hx; clear hx
  have HZ2 := Lib.hid hz2; clear hz2
  go_enter Try.func53, Try.ntmps53
  go_wp2_with (at_make; refine wpList_make_full _ rfl _ _ 30 rfl w.heap.size 3 i0 _ 1 Try.underlying30 hi0 hz0 hz1 _ _ _ _ n rfl rfl rfl rfl ?b2 ?b3 (Nat.le_refl _) ?_)
  case b2 => rw [HZ2.out]; omega
  case b3 => unfold maxLen; omega
  intro w1 hown hg
  have hb1 : Below w.heap.size w w1 := (Below.refl _ _).grown hg (Nat.le_refl _) (by simp)
  have HO := Lib.hid hown; have HB := Lib.hid hb1; clear hown hg hb1
  go_wp2
  go_loopw [4] (fun i wr => ∃ j : Nat, j ≤ n ∧ i = .int .i64 j ∧ CopyRel xs n w wr j) (fun i _ => n - (intOf i).toNat)
  case atStart => exact ⟨0, Nat.zero_le _, rfl, _, HO.out, fun i hi => by omega, HB.out⟩
  case round =>
    obtain ⟨j, hj, rfl, hcr⟩ := hrel
    have HC := Lib.hid hcr; clear hcr
    by_cases hlt : j < n
    · obtain ⟨ys, hown, hu, hb⟩ := HC.out
      obtain ⟨g, off, u, rfl, hgl, hxu, hcx⟩ := HX.out.at_ hlt
      obtain ⟨s, hxs, rfl⟩ := V_at hxu
      have hgw : g < w.heap.size := Nat.lt_of_lt_of_le hgl HX.out.2.1
      have hcx' : wr.cell? ⟨g, off + j, none⟩ = some (.int .i64 s) := by rw [hb.cell (p := ⟨g, off + j, none⟩) hgw]; exact hcx
      have hly : ys.length = n := by simpa using hown.1
      have hcy : wr.cell? ⟨w.heap.size, j, none⟩ = some (ys.getD j undef) := by
        rw [hown.cellAt j (by omega), List.getElem?_eq_getElem (by omega)]; simp [List.getD, List.getElem?_eq_getElem (show j < ys.length by omega)]
      have hfy := hown.frozenAt j
      have HOW := Lib.hid hown; have HU := Lib.hid hu; have HBB := Lib.hid hb; have HXU := Lib.hid hxu; have HLY := Lib.hid hly
      clear hown hu hb hxu hxs hcx HC hly
      go_wp2
      go_roundw
      case rel => exact ⟨j + 1, by omega, by go_num, _, (HOW.out.stored j (.int .i64 s)).1, HU.out.step (by rw [HLY.out]; exact hlt) HXU.out, HBB.out.setCell (Nat.le_refl _) _⟩
      case measure => simp [intOf]; omega
    · obtain rfl : j = n := by omega
      go_wp2
      go_ret
      obtain ⟨ys, hown, hu, hb⟩ := HC.out
      refine ⟨rfl, ?_, hb⟩
      rw [← hu.all (by simpa using hown.1) LX.out]
      exact hown

theorem open_I {H : Type} {enc : TypeId × Value → H} {P : Program} {W : World} {t e : TypeId} {A : Option Addr} {n c : Nat} {d : DataW H} {ps : List MemPlace}
    (ht : P.underlying t = some (.slice e)) (he : P.underlying e = some (.int .i64)) (hc : P.cellsOf e = 1) (h : DataW.Trod enc P W 0 (fun _ => true) true t (.slice A n c) d ps) :
    ∃ xs : List Int, Rd W W.heap.size A n (V xs) ∧ n ≤ c ∧ c ≤ maxLen ∧ True := by
  obtain ⟨fuel, hf⟩ := h
  rcases open_ints ht he hc hf with ⟨hcs, _⟩ | ⟨x, l, cap, ss, hcs, _, hl, hm, hz, _, hcell, hwz⟩
  · simp [Value.cells] at hcs
    obtain ⟨rfl, rfl, rfl⟩ := hcs
    exact ⟨[], ⟨rfl, Nat.le_refl _, fun h => absurd h (by omega)⟩, Nat.le_refl _, by simp, trivial⟩
  · simp [Value.cells] at hcs
    obtain ⟨rfl, rfl, rfl⟩ := hcs
    have hz' : ss.length = c := by simpa using hz
    refine ⟨ss.take n, Rd.of_cells (by simp [V]; omega) (fun i hi => ?_), hl, hm, trivial⟩
    rw [hcell i (by omega)]
    simp [V, hi, List.getD, List.getElem?_eq_getElem (show i < ss.length by omega)]
end Go.Proofs.Ytkkklpchkkdhfaa.ints

/-
  Arrays: a block that holds a whole array; loading, storing and indexing one by value.
-/
namespace Go.Proofs.Ytkkklpchkkdhfaa.arr
open Go.ChangeShapes Go.WideShapes Go.ChangeAt Go.RowKit
open Go.Proofs.Ytkkklpchkkdhfaa.mem Go.Proofs.Ytkkklpchkkdhfaa.ints
set_option linter.unusedVariables false
set_option maxRecDepth 100000

/-- Block g holds the cells cs, none of them frozen. -/
def Arr (w : World) (g : Nat) (cs : List Value) (t : TypeId) : Prop := w.heap[g]? = some (.cells cs.toArray t (0, 0))
theorem Arr.lt {w : World} {g : Nat} {cs : List Value} {t : TypeId} (h : Arr w g cs t) : g < w.heap.size := (Array.getElem?_eq_some_iff.1 h).1
theorem Arr.cell {w : World} {g k : Nat} {cs : List Value} {t : TypeId} {v : Value} (h : Arr w g cs t) (hk : cs[k]? = some v) : w.cell? ⟨g, k, none⟩ = some v := by
  unfold Arr at h
  simp [World.cell?, h, hk]
theorem Arr.frozen {w : World} {g : Nat} {cs : List Value} {t : TypeId} (h : Arr w g cs t) (k : Nat) : w.frozen? ⟨g, k, none⟩ = false := by
  unfold Arr at h
  simp [World.frozen?, h]
theorem Arr.set_ {w : World} {g : Nat} {cs : List Value} {t : TypeId} (h : Arr w g cs t) (k : Nat) (v : Value) : Arr (w.setCell ⟨g, k, none⟩ v) g (cs.set k v) t := by
  have := heap_setCell_same w g k cs.toArray t v h
  simpa [Arr] using this
theorem Arr.other {w : World} {g g' k : Nat} {cs : List Value} {t : TypeId} (h : Arr w g cs t) (hne : g ≠ g') (v : Value) : Arr (w.setCell ⟨g', k, none⟩ v) g cs t :=
  (heap_setCell_other w ⟨g', k, none⟩ g v hne).trans h
theorem Arr.keep {w w' : World} {g B : Nat} {cs : List Value} {t : TypeId} (h : Arr w g cs t) (hb : Below B w w') (hB : g < B) : Arr w' g cs t :=
  (hb.block g hB).trans h
theorem Arr.alloc {w : World} {g : Nat} {cs : List Value} {t : TypeId} (h : Arr w g cs t) (o : Obj) : Arr (w.alloc o) g cs t :=
  (((Below.refl w.heap.size w).alloc (Nat.le_refl _) o).block g h.lt).trans h
theorem Arr.new (w : World) (cs : List Value) (t : TypeId) {g : Nat} (hg : g = w.heap.size) : Arr (w.alloc (.cells cs.toArray t)) g cs t := by
  subst hg
  exact heap_alloc_last w _
theorem Arr.row {w : World} {g : Nat} {cs cs' : List Value} {t : TypeId} (h : Arr w g cs t) : Arr (w.setRow g cs'.toArray) g cs' t := setRow_heap w g _ _ t _ h
theorem Arr.rowOther {w : World} {g g' : Nat} {cs : List Value} {cs' : Array Value} {t : TypeId} (h : Arr w g cs t) (hne : g ≠ g') : Arr (w.setRow g' cs') g cs t := (setRow_other w g' g cs' hne).trans h
theorem Arr.drew {w : World} {g : Nat} {cs : List Value} {t : TypeId} (h : Arr w g cs t) (n : Nat) : Arr (w.drewN n) g cs t := h

theorem below_setRow {B : Nat} {w w' : World} (h : Below B w w') {g : Nat} (hg : B ≤ g) (cs : Array Value) : Below B w (w'.setRow g cs) :=
  ⟨h.os, h.tape, h.output, by simpa using h.size, fun k hk => (setRow_other w' g k cs (by omega)).trans (h.block k hk)⟩

theorem one_V (l : List Int) : (V l).toArray.all (·.oneCell') = true := by simp [V, Value.oneCell']
theorem info44 : (Try.prog.info? 62).map (·.size) = some 24 := by kernel_rfl
theorem size_V {l : List Int} (h : l.length = 24) : (Try.prog.info? 62).map (·.size) = some (V l).toArray.size := by rw [info44]; simp [V, h]
def zeros : List Int := List.replicate 24 0

theorem V_getD {l : List Int} {k : Nat} (h : k < l.length) : (V l)[k]? = some (.int .i64 (l.getD k 0)) := by
  simp [V, List.getD, h]
/-- The numbers f 0, f 1, .. up to 24. -/
def tab (f : Nat → Int) : List Int := (List.range 24).map f
theorem tab_len (f : Nat → Int) : (tab f).length = 24 := by simp [tab]
theorem tab_at (f : Nat → Int) {k : Nat} (h : k < 24) : (tab f)[k]? = some (f k) := by simp [tab, h]
theorem tab_get (f : Nat → Int) {k : Nat} (h : k < 24) : (tab f).getD k 0 = f k := by simp [tab, h]
theorem tab_set (f f' : Nat → Int) {k : Nat} (h : ∀ j, j < 24 → f' j = if j = k then f' k else f j) : (tab f).set k (f' k) = tab f' := by
  refine List.ext_getElem? fun i => ?_
  by_cases hi : i < 24
  · rw [tab_at _ hi, List.getElem?_set]
    by_cases e : k = i
    · subst e; simp [tab_len, hi]
    · rw [if_neg e, tab_at _ hi, h i hi, if_neg (by omega)]
  · rw [List.getElem?_eq_none (by simp [tab_len]; omega), List.getElem?_eq_none (by simp [tab_len]; omega)]
theorem tab_zeros : tab (fun _ => 0) = zeros := by decide
def Stay (w wr : World) (k : Nat) : Prop := Arr wr w.heap.size (V zeros) 62 ∧ Arr wr (w.heap.size + 1) (V (tab fun i => if i < k then (i : Int) else 0)) 62 ∧ Below w.heap.size w wr
def idl : List Int := tab fun i => (i : Int)

set_option maxHeartbeats 400000 in
theorem staying_any (w : World) :
    Calls Try.prog 85 #[] w fun e w' => e = .returned (.agg (V idl).toArray) ∧ Below w.heap.size w w' := by
  go_enter Try.func85, Try.ntmps85
  go_wp2
  go_loopw [3] (fun i wr => ∃ k : Nat, k ≤ 24 ∧ i = .int .i64 k ∧ Stay w wr k) (fun i _ => 24 - (intOf i).toNat)
  case atStart =>
    exact ⟨0, Nat.zero_le _, rfl, (Arr.new w (V zeros) _ rfl).alloc _, Arr.new _ (V zeros) _ (by simp), ((Below.refl _ _).alloc (Nat.le_refl _) _).alloc (by simp) _⟩
  case round =>
    obtain ⟨k, hk, rfl, hst⟩ := hrel
    have HS := Lib.hid hst; clear hst
    by_cases hlt : k < 24
    · have hc := HS.out.2.1.cell (V_getD (k := k) (by rw [tab_len]; exact hlt))
      have hf := HS.out.2.1.frozen k
      go_wp2
      go_roundw
      case rel =>
        refine ⟨k + 1, by omega, by go_num, HS.out.1.other (by omega) _, ?_, HS.out.2.2.setCell (by simp) _⟩
        have h := HS.out.2.1.set_ k (.int .i64 (k : Int))
        rw [V_set] at h
        have e := tab_set (fun i => if i < k then (i : Int) else 0) (fun i => if i < k + 1 then (i : Int) else 0) (k := k) (fun j hj => by
          by_cases e : j = k
          · subst e; simp
          · simp [e]; split <;> split <;> omega)
        simp only [Nat.lt_succ_self, if_true] at e
        rw [e] at h
        exact h
      case measure => simp [intOf]; omega
    · obtain rfl : k = 24 := by omega
      have e : tab (fun i => if i < 24 then (i : Int) else 0) = idl := by decide
      have h2 := HS.out.2.1; rw [e] at h2
      have H2 := Lib.hid h2; clear h2 e
      go_wp2_with (first | (refine wpList_load_row rfl 62 _ rfl (w.heap.size + 1) rfl 62 (V idl).toArray (0, 0) _ H2.out Try.underlying62 rfl (size_V (tab_len _)) ?_) | (refine wpList_store_row rfl 62 _ _ rfl w.heap.size (V idl).toArray rfl rfl 62 (V zeros).toArray HS.out.1 (size_V (tab_len _)) (by simp [V_len, idl, tab_len, zeros]) (one_V _) ?_))
      exact bodyPost_ret (v := .agg (V idl).toArray) (results_cell_row rfl _ _ w.heap.size 62 (V idl).toArray (0, 0) _ rfl HS.out.1.row Try.underlying62 rfl (size_V (tab_len _))) rfl ⟨rfl, below_setRow HS.out.2.2 (Nat.le_refl _) _⟩
end Go.Proofs.Ytkkklpchkkdhfaa.arr

/-
  Permutations as lists of integers: plain mathematics.
-/
namespace Go.Proofs.Ytkkklpchkkdhfaa.pm
open Go.Proofs.Ytkkklpchkkdhfaa.arr
set_option linter.unusedVariables false
set_option maxRecDepth 100000

/-- The first k elements are different numbers from 0 up to the length. -/
def OkTo (xs : List Int) (k : Nat) : Prop := ∀ i, i < k → 0 ≤ xs.getD i 0 ∧ xs.getD i 0 < xs.length ∧ ∀ j, j < i → xs.getD j 0 ≠ xs.getD i 0
instance (xs : List Int) (k : Nat) : Decidable (OkTo xs k) := by unfold OkTo; exact inferInstance
def okB (xs : List Int) : Bool := decide (xs.length ≤ 24 ∧ OkTo xs xs.length)
structure Ok (xs : List Int) : Prop where
  len : xs.length ≤ 24
  lo : ∀ i, i < xs.length → 0 ≤ xs.getD i 0
  hi : ∀ i, i < xs.length → xs.getD i 0 < xs.length
  inj : ∀ i j, i < xs.length → j < xs.length → xs.getD i 0 = xs.getD j 0 → i = j
theorem Ok.of (xs : List Int) (h : okB xs = true) : Ok xs := by
  unfold okB at h
  rw [decide_eq_true_iff] at h
  refine ⟨h.1, fun i hi => (h.2 i hi).1, fun i hi => (h.2 i hi).2.1, fun i j hi hj e => ?_⟩
  rcases Nat.lt_trichotomy i j with hl | hl | hl
  · exact absurd e ((h.2 j hj).2.2 i hl)
  · exact hl
  · exact absurd e.symm ((h.2 i hi).2.2 j hl)
theorem Ok.b {xs : List Int} (h : Ok xs) : okB xs = true := by
  unfold okB
  rw [decide_eq_true_iff]
  exact ⟨h.len, fun i hi => ⟨h.lo i hi, h.hi i hi, fun j hj e => by have := h.inj j i (by omega) hi e; omega⟩⟩
theorem okB_long {xs : List Int} (h : 24 < xs.length) : okB xs = false := by
  unfold okB; rw [decide_eq_false_iff_not]; intro e; omega
theorem okB_bad {xs : List Int} {k : Nat} (hk : k < xs.length) (h : xs.getD k 0 < 0 ∨ xs.length ≤ xs.getD k 0) : okB xs = false := by
  unfold okB; rw [decide_eq_false_iff_not]; intro e
  have := e.2 k hk
  omega
theorem okB_dup {xs : List Int} {k : Nat} (hk : k < xs.length) (h : xs.getD k 0 ∈ xs.take k) : okB xs = false := by
  unfold okB; rw [decide_eq_false_iff_not]; intro e
  obtain ⟨j, hj, he⟩ := List.getElem_of_mem h
  simp at hj
  refine (e.2 k hk).2.2 j (by omega) ?_
  rw [← he]
  simp [List.getD, List.getElem?_eq_getElem (show j < xs.length by omega)]
theorem okB_yes {xs : List Int} (h : xs.length ≤ 24) (h2 : OkTo xs xs.length) : okB xs = true := by
  unfold okB; rw [decide_eq_true_iff]; exact ⟨h, h2⟩
theorem OkTo.step {xs : List Int} {k : Nat} (h : OkTo xs k) (hk : k < xs.length) (h1 : 0 ≤ xs.getD k 0) (h2 : xs.getD k 0 < xs.length) (h3 : ¬ xs.getD k 0 ∈ xs.take k) : OkTo xs (k + 1) := by
  intro i hi
  by_cases e : i = k
  · subst e
    refine ⟨h1, h2, fun j hj he => h3 ?_⟩
    rw [← he]
    have hl : j < xs.length := by omega
    have : xs.getD j 0 = (xs.take i)[j]'(by simp; omega) := by simp [List.getD, List.getElem?_eq_getElem hl]
    rw [this]
    exact List.getElem_mem _
  · exact h i (by omega)

def tabB (f : Nat → Bool) : List Bool := (List.range 24).map f
theorem tabB_len (f : Nat → Bool) : (tabB f).length = 24 := by simp [tabB]
theorem tabB_at (f : Nat → Bool) {k : Nat} (h : k < 24) : (tabB f)[k]? = some (f k) := by simp [tabB, h]
theorem tabB_set (f f' : Nat → Bool) {k : Nat} (h : ∀ j, j < 24 → f' j = if j = k then true else f j) : (tabB f).set k true = tabB f' := by
  refine List.ext_getElem? fun i => ?_
  by_cases hi : i < 24
  · rw [tabB_at _ hi, List.getElem?_set, h i hi]
    by_cases e : k = i
    · subst e; simp [tabB_len, hi]
    · rw [if_neg e, tabB_at _ hi, if_neg (by omega)]
  · rw [List.getElem?_eq_none (by simp [tabB_len]; omega), List.getElem?_eq_none (by simp [tabB_len]; omega)]
/-- Which numbers are among the first k. -/
def flags (xs : List Int) (k : Nat) : List Bool := tabB fun j => decide ((j : Int) ∈ xs.take k)
theorem flags_step {xs : List Int} {k z : Nat} (hk : k < xs.length) (hz : xs.getD k 0 = (z : Int)) : (flags xs k).set z true = flags xs (k + 1) := by
  refine tabB_set _ _ fun j hj => ?_
  have e : xs.take (k + 1) = xs.take k ++ [(z : Int)] := by
    rw [List.take_succ_eq_append_getElem hk, ← hz]; simp [List.getD, List.getElem?_eq_getElem hk]
  rw [e]
  by_cases hjz : j = z
  · subst hjz; simp
  · have : ¬ ((j : Int) = (z : Int)) := by omega
    simp [hjz, this]
def extTo (xs : List Int) (k : Nat) : List Int := tab fun i => if i < k then xs.getD i 0 else (i : Int)
theorem extTo_zero (xs : List Int) : extTo xs 0 = idl := by simp [extTo, idl]
theorem extTo_step (xs : List Int) (k : Nat) : (extTo xs k).set k (xs.getD k 0) = extTo xs (k + 1) := by
  have h := tab_set (fun i => if i < k then xs.getD i 0 else (i : Int)) (fun i => if i < k + 1 then xs.getD i 0 else (i : Int)) (k := k) (fun j hj => by
    by_cases e : j = k
    · subst e; simp
    · simp only [if_neg e]; split <;> split <;> first | rfl | omega)
  simpa [extTo] using h
/-- p among 24 elements: the others stay. -/
def ext (xs : List Int) : List Int := extTo xs xs.length
def pv (xs : List Int) : List Int := if okB xs then ext xs else zeros
theorem zeros_len : zeros.length = 24 := by simp [zeros]
theorem ext_len (xs : List Int) : (ext xs).length = 24 := tab_len _
theorem pv_len (xs : List Int) : (pv xs).length = 24 := by unfold pv; split; exact ext_len _; exact zeros_len
theorem ext_at {xs : List Int} {i : Nat} (h : i < 24) : (ext xs).getD i 0 = if i < xs.length then xs.getD i 0 else (i : Int) := by
  unfold ext extTo; rw [tab_get _ h]
end Go.Proofs.Ytkkklpchkkdhfaa.pm
