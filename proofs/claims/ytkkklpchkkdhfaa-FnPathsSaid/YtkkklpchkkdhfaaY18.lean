import Derived.Test.YtkkklpchkkdhfaaY17
import Derived.Test.YtkkklpchkkdhfaaY02
import Derived.Test.YtkkklpchkkdhfaaY12
import Derived.Deep.RegionLaw
import Derived.IntWalk
/-
  TorusOf, of the model and of the program: two rows that grow in one struct.
-/
namespace Go.Proofs.Ytkkklpchkkdhfaa.gl
open Go.ChangeShapes Go.WideShapes Go.ChangeAt Go.RowKit
open Go.Proofs.Ytkkklpchkkdhfaa.mem Go.Proofs.Ytkkklpchkkdhfaa.ints Go.Proofs.Ytkkklpchkkdhfaa.arr Go.Proofs.Ytkkklpchkkdhfaa.pm Go.Proofs.Ytkkklpchkkdhfaa.permOk Go.Proofs.Ytkkklpchkkdhfaa.permOf Go.Proofs.Ytkkklpchkkdhfaa.inv Go.Proofs.Ytkkklpchkkdhfaa.fns Go.Proofs.Ytkkklpchkkdhfaa.sf
set_option linter.unusedVariables false
set_option maxRecDepth 100000

/-- 'append(out, u)' as a step of a region that draws: u lies in the one cell of a new block. -/
theorem step_append_one2 {P : Program} {ops : Array Oper} {o : Oper} {a : Act} {K : Act → World → Prop} {Q : Exit → Act → World → Prop} {E : Prop} (W : World) (u : Value) (ty : TypeId) (hgd : o.guard = none) (s x : Operand) (t : TypeId)
    (ho : o.op = .call { callee := .builtin .append, args := #[s, x], argTypes := #[t, t] })
    (base : Nat) (e : TypeId) (i : TypeInfo) (z : Value) (bytes size : Nat) (ht : P.underlying t = some (.slice e)) (hi : P.info? e = some i) (hz : i.zero = some z)
    (hsize : i.size = size) (hone : size = 1) (hby : i.bytes = bytes) (hzs : z.cells.size = 1)
    (v : Value) (n : Nat) (xs : List Value) (hs : a.eval s = v) (hown : W.ownsRow base e 1 v n xs)
    (hx : a.eval x = .slice (some ⟨W.heap.size, 0, none⟩) 1 1) (h1 : u.oneCell' = true)
    (hbytes : (n + 1) * bytes ≤ 140737488355328) (hb0 : 0 < bytes) (hbase : base ≤ W.heap.size)
    (h : ∀ v' w', w'.ownsRow base e 1 v' (n + 1) (xs ++ [u]) → W.grownBy w' v.ownBlock → (v'.ownBlock = v.ownBlock ∨ ∃ k, v'.ownBlock = some k ∧ W.heap.size + 1 ≤ k) → K (a.put o.dst v') w') :
    if Region.wanted o (yielded ops a.tmps) = true then Oper.wp P o a (W.alloc (.cells #[u] ty)) K Q else E := by
  have hw : Region.wanted o (yielded ops a.tmps) = true := by simp [Region.wanted, hgd]
  rw [if_pos hw]
  subst hone
  have h63 : n + 1 ≤ maxLen := by
    have : (n + 1) * 1 ≤ (n + 1) * bytes := Nat.mul_le_mul_left _ hb0
    unfold maxLen; omega
  have hcell : (W.alloc (.cells #[u] ty)).cell? ⟨W.heap.size, 0, none⟩ = some u := by simp
  have hc : ∀ j q, [u][j]? = some q → (W.alloc (.cells #[u] ty)).cell? ((⟨W.heap.size, 0, none⟩ : Addr).add j) = some q := by
    intro j q hj
    match j, hj with
    | 0, hj => simp at hj; subst hj; simp [Addr.add]
  have hu : ∀ q ∈ [u], q.oneCell' = true := by intro q hq; simp at hq; subst hq; exact h1
  obtain ⟨v', w', hr, own', grown', _⟩ := run_append_own (P := P) (W.alloc (.cells #[u] ty)) base t o.type e i z 1 bytes ht hi hz hsize hby hzs (by decide) v n xs (hown.alloc _) ⟨W.heap.size, 0, none⟩ 1 1 [u] rfl hc hu h63 hbytes (by simp; omega)
  have hwh := one_where (P := P) (W.alloc (.cells #[u] ty)) base t o.type e i z bytes ht hi hz hsize hby hzs v n xs (hown.alloc _) ⟨W.heap.size, 0, none⟩ u hcell (by simp [Addr.add]) h1 hbytes h63 hr
  have hgo := h v' w' own' (grown_trans (World.grownBy_alloc W _ _) grown') (by simpa using hwh)
  unfold Oper.wp
  simp [execOp, ho, resolve, invoke, builtin, hs, hx, hr, Result.andThen]
  exact hgo

theorem step_append_one2d {P : Program} {ops : Array Oper} {o : Oper} {a : Act} {K : Act → World → Prop} {Q : Exit → Act → World → Prop} {E : Prop} (W : World) (u : Value) (ty : TypeId) (hgd : o.guard = none) (s x : Operand) (t : TypeId)
    (ho : o.op = .call { callee := .builtin .append, args := #[s, x], argTypes := #[t, t] })
    (base : Nat) (e : TypeId) (i : TypeInfo) (z : Value) (bytes size : Nat) (ht : P.underlying t = some (.slice e)) (hi : P.info? e = some i) (hz : i.zero = some z)
    (hsize : i.size = size) (hone : size = 1) (hby : i.bytes = bytes) (hzs : z.cells.size = 1)
    (v : Value) (n : Nat) (xs : List Value) (hs : a.eval s = v) (hown : W.ownsRow base e 1 v n xs)
    (hx : a.eval x = .slice (some ⟨W.heap.size, 0, none⟩) 1 1) (h1 : u.oneCell' = true)
    (hbytes : (n + 1) * bytes ≤ 140737488355328) (hb0 : 0 < bytes) (hbase : base ≤ W.heap.size)
    (h : ∀ v' w', w'.ownsRow base e 1 v' (n + 1) (xs ++ [u]) → W.drew.grownBy w' v.ownBlock → (v'.ownBlock = v.ownBlock ∨ ∃ k, v'.ownBlock = some k ∧ W.heap.size + 1 ≤ k) → K (a.put o.dst v') w') :
    if Region.wanted o (yielded ops a.tmps) = true then Oper.wp P o a (W.alloc (.cells #[u] ty)).drew K Q else E :=
  step_append_one2 W.drew u ty hgd s x t ho base e i z bytes size ht hi hz hsize hone hby hzs v n xs hs hown hx h1 hbytes hb0 hbase h
/-- A struct of two rows in block b, both of the call's own, apart; the result's box in the block ahead. -/
structure Tg (w wr : World) (v u : Value) (l m : List Int) : Prop where
  res : Arr wr w.heap.size [.slice none 0 0, .slice none 0 0] 32
  box : Arr wr (w.heap.size + 1) [v, u] 32
  own1 : wr.ownsRow (w.heap.size + 2) 3 1 v l.length (V l)
  own2 : wr.ownsRow (w.heap.size + 2) 3 1 u m.length (V m)
  ne : ∀ b, v.ownBlock = some b → u.ownBlock ≠ some b
  below : Below w.heap.size w wr
theorem own_grown {W w' : World} {base : Nat} {e : TypeId} {v : Value} {n : Nat} {xs : List Value} {row : Option Nat} (h : W.ownsRow base e 1 v n xs) (hg : W.grownBy w' row) (hne : ∀ b, v.ownBlock = some b → row ≠ some b) : w'.ownsRow base e 1 v n xs := by
  refine ⟨h.1, ?_⟩
  rcases h.2 with h0 | ⟨g, cap, cur, q1, q2, q3, q4⟩
  · exact .inl h0
  · exact .inr ⟨g, cap, cur, q1, q2, (hg.block g (Array.getElem?_eq_some_iff.1 q3).1 (fun e => hne g (by rw [q1]; rfl) e.symm)).trans q3, q4⟩
theorem own_set {W : World} {base b k : Nat} {e : TypeId} {v u : Value} {n : Nat} {xs : List Value} (h : W.ownsRow base e 1 v n xs) (hb : b < base) : (W.setCell ⟨b, k, none⟩ u).ownsRow base e 1 v n xs := by
  refine ⟨h.1, ?_⟩
  rcases h.2 with h0 | ⟨g, cap, cur, q1, q2, q3, q4⟩
  · exact .inl h0
  · exact .inr ⟨g, cap, cur, q1, q2, (Below.heap_setCell _ _ _ _ (by show g ≠ b; omega)).trans q3, q4⟩
theorem own_drew {W : World} {base : Nat} {e : TypeId} {v : Value} {n : Nat} {xs : List Value} (h : W.ownsRow base e 1 v n xs) : W.drew.ownsRow base e 1 v n xs := h
theorem Tg.drew {w wr : World} {v u : Value} {l m : List Int} (h : Tg w wr v u l m) : Tg w wr.drew v u l m := ⟨h.res, h.box, h.own1, h.own2, h.ne, ⟨h.below.os, h.below.tape, h.below.output, h.below.size, h.below.block⟩⟩
theorem Tg.lt {w wr : World} {v u : Value} {l m : List Int} (h : Tg w wr v u l m) : w.heap.size + 2 ≤ wr.heap.size := h.box.lt
theorem V_snoc (l : List Int) (z : Int) : V l ++ [.int .i64 z] = V (l ++ [z]) := by simp [V]
theorem Tg.left {w wr w' : World} {v u v' : Value} {l m : List Int} {z : Int} {n : Nat} (h : Tg w wr v u l m) (ho : w'.ownsRow (w.heap.size + 2) 3 1 v' (n + 1) (V l ++ [.int .i64 z])) (hn : n = l.length) (hg : wr.grownBy w' v.ownBlock)
    (hb : v'.ownBlock = v.ownBlock ∨ ∃ k, v'.ownBlock = some k ∧ wr.heap.size + 1 ≤ k) : Tg w (w'.setCell ⟨w.heap.size + 1, 0, none⟩ v') v' u (l ++ [z]) m := by
  subst hn
  have hlt := h.lt
  have keep : ∀ k, k < w.heap.size + 2 → w'.heap[k]? = wr.heap[k]? := fun k hk => hg.block k (by omega) (fun e => by have := (h.own1.lt k e.symm).1; omega)
  rw [V_snoc] at ho
  refine ⟨?_, ?_, own_set (by simpa using ho) (by omega), own_set (own_grown h.own2 hg (fun b q e => h.ne b e q)) (by omega), fun b q e => ?_, ?_⟩
  · exact (Below.heap_setCell _ _ _ _ (by simp)).trans ((keep _ (by omega)).trans h.res)
  · have := Arr.set_ ((keep _ (by omega)).trans h.box) 0 v'; simpa using this
  · rcases hb with q2 | ⟨k, q2, hk⟩
    · exact h.ne b (by rw [← q2]; exact q) e
    · rw [q2] at q; injection q with q
      have := (h.own2.lt b e).2; omega
  · exact (h.below.trans ((Below.refl _ _).grown hg h.below.size (fun b hb => by have := (h.own1.lt b hb).1; omega))).setCell (by simp) _
theorem Tg.right {w wr w' : World} {v u u' : Value} {l m : List Int} {z : Int} {n : Nat} (h : Tg w wr v u l m) (ho : w'.ownsRow (w.heap.size + 2) 3 1 u' (n + 1) (V m ++ [.int .i64 z])) (hn : n = m.length) (hg : wr.grownBy w' u.ownBlock)
    (hb : u'.ownBlock = u.ownBlock ∨ ∃ k, u'.ownBlock = some k ∧ wr.heap.size + 1 ≤ k) : Tg w (w'.setCell ⟨w.heap.size + 1, 1, none⟩ u') v u' l (m ++ [z]) := by
  subst hn
  have hlt := h.lt
  have keep : ∀ k, k < w.heap.size + 2 → w'.heap[k]? = wr.heap[k]? := fun k hk => hg.block k (by omega) (fun e => by have := (h.own2.lt k e.symm).1; omega)
  rw [V_snoc] at ho
  refine ⟨?_, ?_, own_set (own_grown h.own1 hg (fun b q e => h.ne b q e)) (by omega), own_set (by simpa using ho) (by omega), fun b q e => ?_, ?_⟩
  · exact (Below.heap_setCell _ _ _ _ (by simp)).trans ((keep _ (by omega)).trans h.res)
  · have := Arr.set_ ((keep _ (by omega)).trans h.box) 1 u'; simpa using this
  · rcases hb with q2 | ⟨k, q2, hk⟩
    · exact h.ne b q (by rw [← q2]; exact e)
    · rw [q2] at e; injection e with e
      have := (h.own1.lt b q).2; omega
  · exact (h.below.trans ((Below.refl _ _).grown hg h.below.size (fun b hb => by have := (h.own2.lt b hb).1; omega))).setCell (by simp) _
/-- Two rows in two blocks. -/
theorem Svl.apart {w : World} {lo : Nat} {P Q : Option Addr} {c d : Nat} {r u : List Int} (h1 : w.ownsRow lo 3 1 (.slice P r.length c) r.length (V r)) (h2 : w.ownsRow lo 3 1 (.slice Q u.length d) u.length (V u))
    (ne : ∀ b, (Value.slice P r.length c).ownBlock = some b → (Value.slice Q u.length d).ownBlock ≠ some b) (hr : 0 < r.length) (hu : 0 < u.length) : Svl w lo w.heap.size (.agg #[.slice P r.length c, .slice Q u.length d]) r u := by
  have e1 := (own_cap h1).2
  have e2 := (own_cap h2).2
  have h1' := h1; have h2' := h2
  rw [← V_len r] at h1'; rw [← V_len u] at h2'
  obtain ⟨g, hg, r1⟩ := own_row h1' (by rw [V_len]; exact hr)
  obtain ⟨g', hg', r2⟩ := own_row h2' (by rw [V_len]; exact hu)
  rw [V_len] at r1 r2
  obtain ⟨b, off, rfl, _, q1, _⟩ := r1.2.2 hr
  obtain ⟨b', off', rfl, _, q2, _⟩ := r2.2.2 hu
  have hne : g ≠ g' := fun e => by
    have a1 : b = g := by have := r1.2.2 hr; obtain ⟨_, _, e, _, _⟩ := this; injection e with e; injection e with e; omega
    have a2 : b' = g' := by have := r2.2.2 hu; obtain ⟨_, _, e, _, _⟩ := this; injection e with e; injection e with e; omega
    exact ne b rfl (by rw [a1, e, ← a2]; rfl)
  exact ⟨_, _, _, _, _, _, g, g + 1, g', g' + 1, rfl, r1, r2, e1, e2, hg, r1.2.1, hg', r2.2.1, by omega, Nat.le_refl _⟩

def torAt (a k : Nat) : Int := ((k / a * a + (k % a + 1) % a : Nat) : Int)
def torUp (a n k : Nat) : Int := (((k + a) % n : Nat) : Int)
def torL (a k : Nat) : List Int := (List.range k).map (torAt a)
def torU (a n k : Nat) : List Int := (List.range k).map (torUp a n)
theorem torL_succ (a k : Nat) : torL a (k + 1) = torL a k ++ [torAt a k] := by simp [torL, List.range_succ]
theorem torU_succ (a n k : Nat) : torU a n (k + 1) = torU a n k ++ [torUp a n k] := by simp [torU, List.range_succ]
theorem torL_len (a k : Nat) : (torL a k).length = k := by simp [torL]
theorem torU_len (a n k : Nat) : (torU a n k).length = k := by simp [torU]
def torB (a h : Int) : Bool := decide (1 ≤ a ∧ 1 ≤ h ∧ a * h ≤ 24)
def toR (a h : Int) : List Int := if torB a h then torL a.toNat (a * h).toNat else []
def toU (a h : Int) : List Int := if torB a h then torU a.toNat (a * h).toNat (a * h).toNat else []
theorem tor_small {a h : Int} (a1 : 1 ≤ a) (h1 : 1 ≤ h) (p : a * h ≤ 24) : a ≤ 24 ∧ h ≤ 24 := by
  have e1 : a * 1 ≤ a * h := Int.mul_le_mul_of_nonneg_left h1 (by omega)
  have e2 : 1 * h ≤ a * h := Int.mul_le_mul_of_nonneg_right a1 (by omega)
  omega
theorem toR_len (a h : Int) : (toR a h).length ≤ 1048576 := by
  unfold toR; split
  · rename_i q; have := of_decide_eq_true q; rw [torL_len]; omega
  · simp
theorem toU_len (a h : Int) : (toU a h).length ≤ 1048576 := by
  unfold toU; split
  · rename_i q; have := of_decide_eq_true q; rw [torU_len]; omega
  · simp
theorem to_yes {A H : Nat} (a1 : 1 ≤ A) (h1 : 1 ≤ H) (p : A * H ≤ 24) : torB A H = true ∧ toR A H = torL A (A * H) ∧ toU A H = torU A (A * H) (A * H) := by
  have e : torB A H = true := by unfold torB; rw [decide_eq_true_eq]; exact ⟨by omega, by omega, by exact_mod_cast p⟩
  refine ⟨e, ?_, ?_⟩
  · rw [toR, e, if_pos rfl]; congr 1
  · rw [toU, e, if_pos rfl]; congr 1
theorem to_no {a h : Int} (q : ¬ (1 ≤ a ∧ 1 ≤ h ∧ a * h ≤ 24)) : torB a h = false ∧ toR a h = [] ∧ toU a h = [] := by
  have e : torB a h = false := by unfold torB; rw [decide_eq_false_iff_not]; exact q
  exact ⟨e, by rw [toR, e]; rfl, by rw [toU, e]; rfl⟩

theorem w_in {a : Int} (h : 0 ≤ a ∧ a ≤ 1000) : IntKind.i64.wrap a = a := IntWalk.i64_in _ (by omega)
theorem torf {A k : Nat} (h1 : 1 ≤ A) (h2 : A ≤ 24) (h3 : k ≤ 24) : ∃ q x x1 x2 qa z : Nat,
    ((k : Int) / (A : Int) = (q : Int) ∧ IntKind.i64.wrap (q : Int) = (q : Int)) ∧ (k : Int).tmod (A : Int) = (x : Int) ∧ ((x : Int) + 1 = (x1 : Int) ∧ IntKind.i64.wrap (x1 : Int) = (x1 : Int)) ∧ (x1 : Int).tmod (A : Int) = (x2 : Int) ∧ ((q : Int) * (A : Int) = (qa : Int) ∧ IntKind.i64.wrap (qa : Int) = (qa : Int)) ∧ ((qa : Int) + (x2 : Int) = (z : Int) ∧ IntKind.i64.wrap (z : Int) = (z : Int)) ∧ (z : Int) = torAt A k := by
  have b1 : k / A ≤ 24 := Nat.le_trans (Nat.div_le_self _ _) h3
  have b2 : k % A < A := Nat.mod_lt _ (by omega)
  have b3 : (k % A + 1) % A < A := Nat.mod_lt _ (by omega)
  have b4 : k / A * A ≤ k := Nat.div_mul_le_self _ _
  have e1 : (k : Int) / (A : Int) = ((k / A : Nat) : Int) := (Int.natCast_ediv k A).symm
  have e3 : ((k % A : Nat) : Int) + 1 = ((k % A + 1 : Nat) : Int) := by simp
  have e5 : ((k / A : Nat) : Int) * (A : Int) = ((k / A * A : Nat) : Int) := (Int.natCast_mul _ _).symm
  have e6 : ((k / A * A : Nat) : Int) + (((k % A + 1) % A : Nat) : Int) = ((k / A * A + (k % A + 1) % A : Nat) : Int) := (Int.natCast_add _ _).symm
  have e7 : (k : Int).tmod (A : Int) = ((k % A : Nat) : Int) := by rw [Int.tmod_eq_emod_of_nonneg (by omega)]; exact (Int.natCast_emod k A).symm
  have e8 : ((k % A + 1 : Nat) : Int).tmod (A : Int) = (((k % A + 1) % A : Nat) : Int) := by rw [Int.tmod_eq_emod_of_nonneg (by omega)]; exact (Int.natCast_emod _ A).symm
  generalize hq : k / A = q at *
  generalize hx : k % A = x at *
  generalize hx2 : (x + 1) % A = x2 at *
  generalize hqa : q * A = qa at *
  refine ⟨q, x, x + 1, x2, qa, qa + x2, ⟨e1, w_in (by omega)⟩, e7, ⟨e3, w_in (by omega)⟩, e8, ⟨e5, w_in (by omega)⟩, ⟨e6, w_in (by omega)⟩, ?_⟩
  unfold torAt; rw [hq, hx, hx2, hqa]
theorem toruf {A k N : Nat} (h1 : A ≤ 24) (h2 : k < N) (h3 : N ≤ 24) : ∃ s y : Nat, ((k : Int) + (A : Int) = (s : Int) ∧ IntKind.i64.wrap (s : Int) = (s : Int)) ∧ (s : Int).tmod (N : Int) = (y : Int) ∧ (y : Int) = torUp A N k := by
  have e : (k : Int) + (A : Int) = ((k + A : Nat) : Int) := (Int.natCast_add _ _).symm
  exact ⟨k + A, (k + A) % N, ⟨e, w_in (by omega)⟩, by rw [Int.tmod_eq_emod_of_nonneg (by omega)]; exact (Int.natCast_emod _ N).symm, rfl⟩


set_option maxHeartbeats 4000000 in
theorem to_spec0 (a h : Int) (w : World) (lo1 : -9223372036854775808 ≤ a) (hi1 : a ≤ 9223372036854775807) (lo2 : -9223372036854775808 ≤ h) (hi2 : h ≤ 9223372036854775807) :
    Calls Try.prog 42 #[.int .i64 a, .int .i64 h] w (SB (toR a h) (toU a h) (torB a h) w) := by
  obtain ⟨i0, hi0, hz0, hz1, hz2⟩ := info_parts infoI
  have RES := Lib.hid (Arr.new w [.slice none 0 0, .slice none 0 0] 32 rfl)
  by_cases ha : 1 ≤ a ∧ a ≤ 24
  · by_cases hh : 1 ≤ h ∧ h ≤ 24
    · obtain ⟨A, rfl⟩ := Int.eq_ofNat_of_zero_le (show 0 ≤ a by omega)
      obtain ⟨H, rfl⟩ := Int.eq_ofNat_of_zero_le (show 0 ≤ h by omega)
      obtain ⟨N, hN⟩ : ∃ N, N = A * H := ⟨_, rfl⟩
      have hN2 : N ≤ 576 := by rw [hN]; exact Nat.mul_le_mul (show A ≤ 24 by omega) (show H ≤ 24 by omega)
      have hN1 : 1 ≤ N := by rw [hN]; exact Nat.mul_pos (by omega) (by omega)
      have hm0 : (A : Int) * (H : Int) = (N : Int) := by rw [hN]; exact (Int.natCast_mul A H).symm
      have hm : IntKind.i64.wrap ((A : Int) * (H : Int)) = (N : Int) := by rw [hm0]; exact IntWalk.i64_in _ (by omega)
      have hA1 : 1 ≤ (A : Int) := ha.1
      have hA2 : (A : Int) ≤ 24 := ha.2
      have hH1 : 1 ≤ (H : Int) := hh.1
      have hH2 : (H : Int) ≤ 24 := hh.2
      have HNN := Lib.hid hN; clear hN ha hh
      by_cases hp : N ≤ 24
      · have hd : decide ((24 : Int) < (N : Int)) = false := by simp; omega
        obtain ⟨y1, y2, y3⟩ := to_yes (A := A) (H := H) (by omega) (by omega) (by rw [← HNN.out]; exact hp)
        rw [← HNN.out] at y2 y3
        have Y1 := Lib.hid y1; have Y2 := Lib.hid y2; have Y3 := Lib.hid y3; clear y1 y2 y3
        go_enter Try.func42, Try.ntmps42
        go_wp2_with (first | (go_at_call 61; refine (permOk.in_yes _ _ _ _ (by omega) (by omega)).mono ?_; rintro e w' ⟨rfl, rfl⟩) | (refine wpList_build rfl 32 _ rfl [] rfl #[.slice none 0 0, .slice none 0 0] built2 ?_))
        go_loopw [7] (fun i wr => ∃ (k : Nat) (v u : Value), k ≤ N ∧ i = .int .i64 k ∧ Tg w wr v u (torL A k) (torU A N k)) (fun i _ => N - (intOf i).toNat)
        case atStart => exact ⟨0, _, _, Nat.zero_le _, rfl, (Arr.new w _ _ rfl).alloc _, Arr.new _ [.slice none 0 0, .slice none 0 0] _ (by simp), ⟨rfl, .inl ⟨rfl, rfl⟩⟩, ⟨rfl, .inl ⟨rfl, rfl⟩⟩, by simp [Value.ownBlock], ((Below.refl _ _).alloc (Nat.le_refl _) _).alloc (by simp) _⟩
        case round =>
          obtain ⟨k, v, u, hk, rfl, ht⟩ := hrel
          obtain ⟨C, cc, rfl⟩ := own_form ht.own1
          obtain ⟨D, dd, rfl⟩ := own_form ht.own2
          have HT := Lib.hid ht; clear ht
          have l1 := torL_len A k; have l2 := torU_len A N k
          by_cases hlt : k < N
          · have NL := Lib.hid (torL_succ A k); have NU := Lib.hid (torU_succ A N k)
            obtain ⟨q, x, x1, x2, qa, z, ⟨f1, f1'⟩, f2, ⟨f3, f3'⟩, f4, ⟨f5, f5'⟩, ⟨f6, f6'⟩, f7⟩ := torf (A := A) (k := k) (by omega) (by omega) (by omega)
            obtain ⟨s, y, ⟨g1, g1'⟩, g2, g3⟩ := toruf (A := A) (k := k) (N := N) (by omega) (by omega) (by omega)
            have Z1 := Lib.hid f7; have Z2 := Lib.hid g3
            have hc := HT.out.box.cell (k := 0) rfl
            have hf := HT.out.box.frozen 0
            have hca : ∀ o, (wr.alloc o).cell? ⟨w.heap.size + 1, 0, none⟩ = some (.slice C (torL A k).length cc) := fun o => (HT.out.box.alloc o).cell (k := 0) rfl
            have L1 : (torL A k).length ≤ 24 := by omega
            have L2 : (torU A N k).length ≤ 24 := by omega
            have hsz := HT.out.lt
            have hA0 : ¬ A = 0 := by omega
            have hN0 : ¬ N = 0 := by omega
            have hNw : IntKind.i64.wrap (N : Int) = (N : Int) := w_in (by omega)
            clear l1 l2 f7 g3
            generalize torL A k = l at *
            generalize torU A N k = m at *
            go_wp2_with fail
            go_region_law (refine step_append_one2d wr _ _ rfl _ _ 30 rfl (w.heap.size + 2) 3 i0 _ 8 1 Try.underlying30 hi0 hz0 hz1 rfl hz2 rfl _ _ _ rfl HT.out.own1 rfl rfl (by omega) (by decide) hsz ?_; intro v' w' ho hg hb; obtain ⟨C', cc', rfl⟩ := own_form ho; have TL := Lib.hid (Tg.left HT.out.drew ho rfl hg hb); have A2 : Arr w' (w.heap.size + 1) [.slice C l.length cc, .slice D m.length dd] 32 := (hg.block _ HT.out.box.lt (fun e => by have := (HT.out.own1.lt _ e.symm).1; omega)).trans HT.out.box; have hc2 := A2.cell (k := 0) rfl; have hf2 := A2.frozen 0; clear ho hg hb A2)
            all_goals
              generalize w'.setCell ⟨w.heap.size + 1, 0, none⟩ (.slice C' (l.length + 1) cc') = w2 at TL ⊢
              rw [Z1.out, ← NL.out] at TL
              have hl1 : (l ++ [torAt A k]).length = l.length + 1 := by simp
              clear hc2 hf2 hc hf hca
              have hsz2 := TL.out.lt
              have hc3 := TL.out.box.cell (k := 1) rfl
              have hf3 := TL.out.box.frozen 1
              have hcb : ∀ o, (w2.alloc o).cell? ⟨w.heap.size + 1, 1, none⟩ = some (.slice D m.length dd) := fun o => (TL.out.box.alloc o).cell (k := 1) rfl
              go_wp2_with fail
              go_region_law (refine step_append_one2d w2 _ _ rfl _ _ 30 rfl (w.heap.size + 2) 3 i0 _ 8 1 Try.underlying30 hi0 hz0 hz1 rfl hz2 rfl _ _ _ rfl TL.out.own2 rfl rfl (by omega) (by decide) hsz2 ?_; intro v' w' ho hg hb; obtain ⟨D', dd', rfl⟩ := own_form ho; have TR := Lib.hid (Tg.right TL.out.drew ho rfl hg hb); have A2 : Arr w' (w.heap.size + 1) [.slice C' (l.length + 1) cc', .slice D m.length dd] 32 := (hg.block _ TL.out.box.lt (fun e => by have := (TL.out.own2.lt _ e.symm).1; omega)).trans TL.out.box; have hc2 := A2.cell (k := 1) rfl; have hf2 := A2.frozen 1; clear ho hg hb A2)
              all_goals
                rw [Z2.out, ← NU.out] at TR
                clear hc2 hf2 hc3 hf3 hcb
                generalize w'.setCell ⟨w.heap.size + 1, 1, none⟩ (.slice D' (m.length + 1) dd') = w3 at TR ⊢
                go_wp2
                go_roundw
                case rel => exact ⟨k + 1, _, _, by omega, by go_num, TR.out⟩
                case measure => simp [intOf]; omega
          · obtain rfl : k = N := by omega
            have p1 : 0 < (torL A k).length := by omega
            have p2 : 0 < (torU A k k).length := by omega
            have p3 : (torL A k).length ≤ 24 := by omega
            have p4 : (torU A k k).length ≤ 24 := by omega
            clear l1 l2
            generalize torL A k = l at *
            generalize torU A k k = m at *
            have SV := Lib.hid (Svl.apart HT.out.own1 HT.out.own2 HT.out.ne p1 p2)
            have hc := HT.out.box.cell (k := 0) rfl
            have hc1 := HT.out.box.cell (k := 1) rfl
            have hsz := HT.out.lt
            go_wp2_with (refine wpList_store_row rfl 32 _ _ rfl w.heap.size #[.slice C l.length cc, .slice D m.length dd] rfl rfl 32 #[.slice none 0 0, .slice none 0 0] HT.out.res size2 rfl (by simp [Value.oneCell']) ?_)
            exact bodyPost_ret (v := .tuple #[.agg #[.slice C l.length cc, .slice D m.length dd], .bool true]) (permOf.results_cell_tmp rfl _ _ w.heap.size 32 #[.slice C l.length cc, .slice D m.length dd] (0, 0) _ _ rfl rfl HT.out.res.row Try.underlying32 rfl size2) rfl (by
              rw [Y1.out, Y2.out, Y3.out]
              have := Svl.row SV.out (g := w.heap.size) (by omega) #[.slice C l.length cc, .slice D m.length dd]
              exact ⟨_, rfl, (by simpa using this.later (by omega)), below_setRow HT.out.below (Nat.le_refl _) _⟩)
      · obtain ⟨n1, n2, n3⟩ := to_no (a := A) (h := H) (fun q => by have := q.2.2; rw [hm0] at this; omega)
        have N1 := Lib.hid n1; have N2 := Lib.hid n2; have N3 := Lib.hid n3; clear n1 n2 n3
        have hd : decide ((24 : Int) < (N : Int)) = true := by simp; omega
        go_enter Try.func42, Try.ntmps42
        go_wp2_with (first | (go_at_call 61; refine (permOk.in_yes _ _ _ _ (by omega) (by omega)).mono ?_; rintro e w' ⟨rfl, rfl⟩) | (refine wpList_build rfl 32 _ rfl [] rfl #[.slice none 0 0, .slice none 0 0] built2 ?_) | (refine wpList_store_row rfl 32 _ _ rfl w.heap.size #[.slice none 0 0, .slice none 0 0] rfl rfl 32 #[.slice none 0 0, .slice none 0 0] RES.out size2 rfl (by simp [Value.oneCell']) ?_))
        exact bodyPost_ret (v := .tuple #[.agg #[.slice none 0 0, .slice none 0 0], .bool false]) (permOf.results_cell_tmp rfl _ _ w.heap.size 32 #[.slice none 0 0, .slice none 0 0] (0, 0) _ _ rfl rfl RES.out.row Try.underlying32 rfl size2) rfl (sb_nil N2.out N3.out N1.out (below_setRow ((Below.refl _ _).alloc (Nat.le_refl _) _) (Nat.le_refl _) _))
    · obtain ⟨n1, n2, n3⟩ := to_no (a := a) (h := h) (fun q => by have := tor_small q.1 q.2.1 q.2.2; omega)
      have N1 := Lib.hid n1; have N2 := Lib.hid n2; have N3 := Lib.hid n3; clear n1 n2 n3
      have hh' : h < 1 ∨ 24 < h := by omega
      clear hh
      go_enter Try.func42, Try.ntmps42
      go_wp2_with fail
      refine (permOk.in_yes _ _ _ _ (by omega) (by omega)).mono ?_
      rintro e w' ⟨rfl, rfl⟩
      go_wp2_with fail
      refine (permOk.in_no _ _ _ _ hh').mono ?_
      rintro e w' ⟨rfl, rfl⟩
      go_wp2_with (first | (refine wpList_build rfl 32 _ rfl [] rfl #[.slice none 0 0, .slice none 0 0] built2 ?_) | (refine wpList_store_row rfl 32 _ _ rfl w.heap.size #[.slice none 0 0, .slice none 0 0] rfl rfl 32 #[.slice none 0 0, .slice none 0 0] RES.out size2 rfl (by simp [Value.oneCell']) ?_))
      exact bodyPost_ret (v := .tuple #[.agg #[.slice none 0 0, .slice none 0 0], .bool false]) (permOf.results_cell_tmp rfl _ _ w.heap.size 32 #[.slice none 0 0, .slice none 0 0] (0, 0) _ _ rfl rfl RES.out.row Try.underlying32 rfl size2) rfl (sb_nil N2.out N3.out N1.out (below_setRow ((Below.refl _ _).alloc (Nat.le_refl _) _) (Nat.le_refl _) _))
  · obtain ⟨n1, n2, n3⟩ := to_no (a := a) (h := h) (fun q => by have := tor_small q.1 q.2.1 q.2.2; omega)
    have N1 := Lib.hid n1; have N2 := Lib.hid n2; have N3 := Lib.hid n3; clear n1 n2 n3
    have ha' : a < 1 ∨ 24 < a := by omega
    clear ha
    go_enter Try.func42, Try.ntmps42
    go_wp2_with fail
    refine (permOk.in_no _ _ _ _ ha').mono ?_
    rintro e w' ⟨rfl, rfl⟩
    go_wp2_with (first | (refine wpList_build rfl 32 _ rfl [] rfl #[.slice none 0 0, .slice none 0 0] built2 ?_) | (refine wpList_store_row rfl 32 _ _ rfl w.heap.size #[.slice none 0 0, .slice none 0 0] rfl rfl 32 #[.slice none 0 0, .slice none 0 0] RES.out size2 rfl (by simp [Value.oneCell']) ?_))
    exact bodyPost_ret (v := .tuple #[.agg #[.slice none 0 0, .slice none 0 0], .bool false]) (permOf.results_cell_tmp rfl _ _ w.heap.size 32 #[.slice none 0 0, .slice none 0 0] (0, 0) _ _ rfl rfl RES.out.row Try.underlying32 rfl size2) rfl (sb_nil N2.out N3.out N1.out (below_setRow ((Below.refl _ _).alloc (Nat.le_refl _) _) (Nat.le_refl _) _))
end Go.Proofs.Ytkkklpchkkdhfaa.gl
