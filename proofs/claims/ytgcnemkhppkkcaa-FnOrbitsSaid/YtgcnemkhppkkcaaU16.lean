import Derived.Test.YtgcnemkhppkkcaaU04
import Derived.Test.YtgcnemkhppkkcaaU15
import Derived.Test.YtgcnemkhppkkcaaU10
import Derived.Test.YtgcnemkhppkkcaaU13
namespace Go.Proofs.Ytgcnemkhppkkcaa.orb
open Go.ChangeShapes Go.WideShapes Go.ChangeAt Go.RowKit Go.Maps
open mem ints arr pm sf gl
open Go.Proofs.Ytgcnemkhppkkcaa.ch (Chn)
set_option linter.unusedVariables false
set_option maxRecDepth 100000
theorem wpList_load_one_g {P : Program} {ops : Array Oper} {rest : List Oper} {o : Oper} {a : Act} {w : World} {Q : Exit → Act → World → Prop} (hw : Region.wanted o (yielded ops a.tmps) = true) (ty : TypeId) (x : Operand) (ho : o.op = .load ty x)
    (g : Nat) (hx : a.eval x = .pointer (some ⟨g, 0, none⟩)) (v : Value) (t : TypeId) (d : TypeDesc) (hc : Arr w g [v] t)
    (hu : P.underlying ty = some d) (hd : (match d with | .struct _ | .array _ _ => true | _ => false) = false)
    (h : wpList P ops Q rest (a.put o.dst v) w) : wpList P ops Q (o :: rest) a w := by
  refine wpList_step fun K hK => ?_
  rw [if_pos hw]
  have hl : (loadVar ty ⟨g, 0, none⟩).run P w = .ok v w := by
    have hagg : (isAgg ty).run P w = .ok false w := by
      unfold isAgg
      rw [Sem.run_bind, run_underlying hu w]
      cases d <;> simp_all
    have hcell : w.cell? ⟨g, 0, none⟩ = some v := hc.cell (k := 0) rfl
    simp [loadVar, Sem.run_bind, hagg, hcell]
  unfold Oper.wp execOp
  simp only [ho, hx, Instr.loadAt, Instr.sureAddr, Sem.run_bind, Sem.run_pure, Result.andThen_ok, hl]
  exact hK _ _ h
def addF (k : Nat) (c : UInt8) (l : Nat) (xs : List Fd) : List Fd :=
  if stp c ((xs.map Prod.fst).getD k ([], [])) ∈ xs.map Prod.fst then xs else xs ++ [(stp c ((xs.map Prod.fst).getD k ([], [])), k, l)]
def twoF (k : Nat) (xs : List Fd) : List Fd := addF k 83 2 (addF k 84 0 xs)
def frun : Nat → Nat → List Fd → List Fd
  | 0, _, xs => xs
  | f + 1, k, xs => if k < xs.length ∧ xs.length ≤ 120 then frun f (k + 1) (twoF k xs) else xs
def finds (s : Sur) : List Fd := frun 122 0 [(cn s, 0, 0)]
def fdB : Nat → UInt8
  | 0 => 84
  | _ => 83
structure Fq (xs : List Fd) (q : LW) : Prop where
  fst : q.1 = xs.map Prod.fst
  len : q.2.length = xs.length
  zero : ∀ w, q.2[0]? = some w → w = []
  word : ∀ (k : Nat) (x : Fd), xs[k]? = some x → 0 < k → x.2.1 < k ∧ q.2.getD k [] = q.2.getD x.2.1 [] ++ [fdB x.2.2]
theorem Fq.start (s : Sur) : Fq [(cn s, 0, 0)] ([cn s], [[]]) :=
  ⟨rfl, rfl, fun w h => by simpa using h.symm, fun k x h hk => by
    cases k with
    | zero => omega
    | succ k => simp at h⟩
theorem Fq.add {xs : List Fd} {q : LW} (h : Fq xs q) {k : Nat} (hk : k < xs.length) (l : Nat) : Fq (addF k (fdB l) l xs) (addL k (fdB l) q) := by
  have hl := h.len
  unfold addF addL
  rw [h.fst]
  split
  · exact h
  · refine ⟨by simp, by simp [hl], fun w hw => ?_, fun j x hx hj => ?_⟩
    · rw [List.getElem?_append_left (by omega)] at hw
      exact h.zero w hw
    · simp only
      rw [List.getElem?_append] at hx
      split at hx
      · rename_i hj2
        obtain ⟨a1, a2⟩ := h.word j x hx hj
        refine ⟨a1, ?_⟩
        simp only [List.getD_eq_getElem?_getD] at a2 ⊢
        rw [List.getElem?_append_left (by omega), List.getElem?_append_left (by omega), a2]
      · rename_i hj2
        have ej : j - xs.length = 0 := by
          rcases Nat.eq_zero_or_pos (j - xs.length) with e | e
          · exact e
          · rw [List.getElem?_eq_none (by simp; omega)] at hx; cases hx
        rw [ej] at hx
        simp at hx
        subst hx
        refine ⟨by simp only; omega, ?_⟩
        simp only [List.getD_eq_getElem?_getD]
        rw [List.getElem?_append_right (by omega), List.getElem?_append_left (by omega), show j - q.2.length = 0 by omega]
        rfl
theorem addF_len (k : Nat) (c : UInt8) (l : Nat) (xs : List Fd) : xs.length ≤ (addF k c l xs).length ∧ (addF k c l xs).length ≤ xs.length + 1 := by
  unfold addF
  split
  · omega
  · simp
theorem twoF_len (k : Nat) (xs : List Fd) : xs.length ≤ (twoF k xs).length ∧ (twoF k xs).length ≤ xs.length + 2 := by
  have h1 := addF_len k 84 0 xs
  have h2 := addF_len k 83 2 (addF k 84 0 xs)
  unfold twoF
  omega
theorem Fq.two {xs : List Fd} {q : LW} (h : Fq xs q) {k : Nat} (hk : k < xs.length) : Fq (twoF k xs) (two k q) :=
  (h.add hk 0).add (by have := addF_len k (fdB 0) 0 xs; omega) 2
theorem frun_eq {f k : Nat} {xs : List Fd} {q : LW} (h : Fq xs q) (hk : k ≤ xs.length) (hs : xs.length ≤ 120) (hf : 122 ≤ f + k) :
    (120 < (frun f k xs).length ∧ orun f k q = none) ∨ ((frun f k xs).length ≤ 120 ∧ ∃ q', orun f k q = some q' ∧ Fq (frun f k xs) q') := by
  induction f generalizing k xs q with
  | zero => omega
  | succ f ih =>
    have e1 : q.1.length = xs.length := by rw [h.fst]; simp
    rw [frun, orun, e1]
    by_cases hk2 : k < xs.length
    · have h2 := h.two hk2
      have e2 : (two k q).1.length = (twoF k xs).length := by rw [h2.fst]; simp
      rw [if_pos ⟨hk2, hs⟩, if_pos hk2, e2]
      have tl := twoF_len k xs
      by_cases hb : 120 < (twoF k xs).length
      · rw [if_pos hb]
        left
        refine ⟨?_, rfl⟩
        cases f with
        | zero => exact hb
        | succ f => rw [frun, if_neg (by omega)]; exact hb
      · rw [if_neg hb]
        exact ih h2 (by omega) (by omega) (by omega)
    · rw [if_neg (by omega), if_neg hk2]
      right
      exact ⟨hs, q, rfl, h⟩
theorem finds_orb (s : Sur) : (120 < (finds s).length ∧ orb s = none) ∨ ((finds s).length ≤ 120 ∧ ∃ q, orb s = some q ∧ Fq (finds s) q) :=
  frun_eq (Fq.start s) (by simp) (by simp) (by omega)
theorem frun_small {f k : Nat} {xs : List Fd} (h : xs.length ≤ 122) : (frun f k xs).length ≤ 122 := by
  induction f generalizing k xs with
  | zero => exact h
  | succ f ih =>
    rw [frun]
    split
    · rename_i h2
      exact ih (by have := twoF_len k xs; omega)
    · exact h
theorem finds_small (s : Sur) : (finds s).length ≤ 122 := frun_small (by simp)
theorem built_p1 {p q : List Int} (hp : p.length = 24) (hq : q.length = 24) (n : Nat) :
    sqp.prog.built 65 [(0, .agg (V (gl p q n)).toArray)] = some (V (gl p q n ++ [0, 0])).toArray := by
  obtain ⟨a0, a1, a2, a3, a4, a5, a6, a7, a8, a9, b0, b1, b2, b3, b4, b5, b6, b7, b8, b9, c0, c1, c2, c3, rfl⟩ := list24 hp
  obtain ⟨a0', a1', a2', a3', a4', a5', a6', a7', a8', a9', b0', b1', b2', b3', b4', b5', b6', b7', b8', b9', c0', c1', c2', c3', rfl⟩ := list24 hq
  kernel_rfl
theorem built_p3 {p q : List Int} (hp : p.length = 24) (hq : q.length = 24) (n k l : Nat) :
    sqp.prog.built 65 [(0, .agg (V (gl p q n)).toArray), (1, .int .i64 k), (2, .int .i64 l)] = some (V (gl p q n ++ [(k : Int), (l : Int)])).toArray := by
  obtain ⟨a0, a1, a2, a3, a4, a5, a6, a7, a8, a9, b0, b1, b2, b3, b4, b5, b6, b7, b8, b9, c0, c1, c2, c3, rfl⟩ := list24 hp
  obtain ⟨a0', a1', a2', a3', a4', a5', a6', a7', a8', a9', b0', b1', b2', b3', b4', b5', b6', b7', b8', b9', c0', c1', c2', c3', rfl⟩ := list24 hq
  kernel_rfl
theorem built_fd1 (s : Sur) (n : Nat) : sqp.prog.built 65 [(0, .agg (V (gS s n)).toArray)] = some (V (fdL s n 0 0)).toArray := built_p1 (ext_len s.1) (ext_len s.2) n
theorem built_fd3 (s : Sur) (n k l : Nat) : sqp.prog.built 65 [(0, .agg (V (gS s n)).toArray), (1, .int .i64 k), (2, .int .i64 l)] = some (V (fdL s n k l)).toArray := built_p3 (ext_len s.1) (ext_len s.2) n k l
theorem built_ls : sqp.prog.built 133 [(0, .int .i64 0), (1, .int .i64 2)] = some #[.int .i64 0, .int .i64 2] := by kernel_rfl
theorem after_gL (l : Nat) (hl : l = 0 ∨ l = 2) (s : Sur) (n : Nat) (A : Option Addr) (hi : Nat) (w : World) (hL : Rd w hi A 1 (V [(l : Int)])) (hh : hi ≤ w.heap.size) (hs : Sf n s.1 s.2) :
    Calls sqp.prog 73 #[.agg (V (gS s n)).toArray, .slice A 1 1] w fun e w' => e = .returned (.agg (V (gS (letS (fdB l) s) n)).toArray) ∧ Below w.heap.size w w' := by
  have h1 : la.runN [(l : Int)] = letS (fdB l) := by
    funext s
    rcases hl with rfl | rfl <;> simp [la.runN, la.letN, letS, fdB]
  rw [← h1]
  exact la.after_any s.1 s.2 n A 1 1 [(l : Int)] hi w hL hh (by simp; omega) hs (by omega)
structure Q4 (w w4 : World) (c n : Nat) (s : Sur) : Prop where
  own : Arr w4 w.heap.size (V (gS s n)) 62
  cv : Arr w4 (w.heap.size + 1) [.chan (some c)] 131
  fnd : Arr w4 (w.heap.size + 1 + 1 + 1) [.map (some (w.heap.size + 1 + 1))] 89
  map : w4.ownsMap sqp.prog 62 (plainElem (H := Unit) sqp.prog 4) (w.heap.size + 1 + 1) 0 (.map [])
  size : w4.heap.size = w.heap.size + 4
  bel : Below w.heap.size w w4
theorem q4_start (w : World) (c n : Nat) (s : Sur) : Q4 w (((((w.alloc (.cells (V (gS s n)).toArray 62)).alloc (.cells #[.chan (some c)] 131)).alloc (.map #[] 0)).alloc (.cells #[.map none] 89)).setRow (w.heap.size + 1 + 1 + 1) #[.map (some (w.heap.size + 1 + 1))]) c n s := by
  have s1 : (w.alloc (.cells (V (gS s n)).toArray 62)).heap.size = w.heap.size + 1 := by simp
  have b1 : Below w.heap.size w (w.alloc (.cells (V (gS s n)).toArray 62)) := (Below.refl _ _).alloc (Nat.le_refl _) _
  have a1 : Arr (w.alloc (.cells (V (gS s n)).toArray 62)) w.heap.size (V (gS s n)) 62 := Arr.new w _ _ rfl
  generalize w.alloc (.cells (V (gS s n)).toArray 62) = w1 at *
  have s2 : (w1.alloc (.cells #[.chan (some c)] 131)).heap.size = w.heap.size + 2 := by simp [s1]
  have b2 : Below w.heap.size w (w1.alloc (.cells #[.chan (some c)] 131)) := b1.alloc (by omega) _
  have a2 : Arr (w1.alloc (.cells #[.chan (some c)] 131)) w.heap.size (V (gS s n)) 62 := a1.alloc _
  have c2 : Arr (w1.alloc (.cells #[.chan (some c)] 131)) (w.heap.size + 1) [.chan (some c)] 131 := Arr.new w1 [.chan (some c)] _ s1.symm
  generalize w1.alloc (.cells #[.chan (some c)] 131) = w2 at *
  have s3 : (w2.alloc (.map #[] 0)).heap.size = w.heap.size + 3 := by simp [s2]
  have b3 : Below w.heap.size w (w2.alloc (.map #[] 0)) := b2.alloc (by omega) _
  have a3 : Arr (w2.alloc (.map #[] 0)) w.heap.size (V (gS s n)) 62 := a2.alloc _
  have c3 : Arr (w2.alloc (.map #[] 0)) (w.heap.size + 1) [.chan (some c)] 131 := c2.alloc _
  have m3 : (w2.alloc (.map #[] 0)).ownsMap sqp.prog 62 (plainElem (H := Unit) sqp.prog 4) (w.heap.size + 1 + 1) 0 (.map []) := by
    rw [show w.heap.size + 1 + 1 = w2.heap.size by omega]
    exact World.ownsMap_made _ _ _ _
  generalize w2.alloc (.map #[] 0) = w3 at *
  have s4 : (w3.alloc (.cells #[.map none] 89)).heap.size = w.heap.size + 4 := by simp [s3]
  have b4 : Below w.heap.size w (w3.alloc (.cells #[.map none] 89)) := b3.alloc (by omega) _
  have f4 : Arr (w3.alloc (.cells #[.map none] 89)) (w.heap.size + 1 + 1 + 1) [.map none] 89 := Arr.new w3 [.map none] _ s3.symm
  have a4 := a3.alloc (.cells #[.map none] 89)
  have c4 := c3.alloc (.cells #[.map none] 89)
  have m4 := m3.alloc (.cells #[.map none] 89)
  generalize w3.alloc (.cells #[.map none] 89) = w4 at *
  refine ⟨a4.rowOther (by omega), c4.rowOther (by omega), f4.row (cs' := [_]), ?_, ?_, below_setRow b4 (by omega) _⟩
  · obtain ⟨es, cl, e1, e2⟩ := m4
    exact ⟨es, cl, (setRow_other _ _ _ _ (by omega)).trans e1, e2⟩
  · have := (below_setRow (Below.refl w4.heap.size w4) (g := w4.heap.size) (Nat.le_refl _) #[]).size
    rw [← s4]
    simp [World.setRow]
theorem Q4.open_ {w w4 : World} {c n : Nat} {s : Sur} (h : Q4 w w4 c n s) (hc : Chn w c 1000 [] false) :
    Qs (w4.alloc (.cells #[.slice none 0 0] 90)) w.heap.size (w.heap.size + 1 + 1) (w.heap.size + 1 + 1 + 1) w4.heap.size (w.heap.size + 1) c n [] := by
  have hs := h.size
  have hl := hc.lt
  exact ⟨fun x hx => by simp at hx, h.fnd.alloc _, ⟨_, h.map.alloc _, Kb.empty⟩, ⟨none, 0, Arr.new w4 [.slice none 0 0] _ rfl, ⟨rfl, .inl ⟨rfl, rfl⟩⟩, fun b hb => by simp [Value.ownBlock] at hb⟩, (hc.keep h.bel hl).keep ((Below.refl w4.heap.size w4).alloc (Nat.le_refl _) _) (by omega), h.cv.alloc _, ⟨by omega, by omega, by omega, by omega, hl⟩, ⟨by omega, by omega, by omega, by omega, by omega, by omega⟩⟩
theorem frun_stop {k : Nat} {xs : List Fd} (hk : k ≤ 121) (h : ¬ (k < xs.length ∧ xs.length ≤ 120)) : frun (122 - k) k xs = xs := by
  rw [show 122 - k = (121 - k) + 1 by omega, frun, if_neg h]
theorem frun_step {k : Nat} {xs : List Fd} (hk : k ≤ 121) (h : k < xs.length ∧ xs.length ≤ 120) : frun (122 - k) k xs = frun (122 - (k + 1)) (k + 1) (twoF k xs) := by
  rw [show 122 - k = (121 - k) + 1 by omega, frun, if_pos h, show 121 - k = 122 - (k + 1) by omega]
theorem run_load_one {P : Program} {o : Oper} {a : Act} {w : World} (ty : TypeId) (x : Operand) (ho : o.op = .load ty x)
    (g : Nat) (hx : a.eval x = .pointer (some ⟨g, 0, none⟩)) (v : Value) (t : TypeId) (d : TypeDesc) (hc : Arr w g [v] t)
    (hu : P.underlying ty = some d) (hd : (match d with | .struct _ | .array _ _ => true | _ => false) = false) : (execOp a.eval o).run P w = .ok (.value v) w := by
  have hl : (loadVar ty ⟨g, 0, none⟩).run P w = .ok v w := by
    have hagg : (isAgg ty).run P w = .ok false w := by
      unfold isAgg
      rw [Sem.run_bind, run_underlying hu w]
      cases d <;> simp_all
    have hcell : w.cell? ⟨g, 0, none⟩ = some v := hc.cell (k := 0) rfl
    simp [loadVar, Sem.run_bind, hagg, hcell]
  unfold execOp
  simp only [ho, hx, Instr.loadAt, Instr.sureAddr, Sem.run_bind, Sem.run_pure, Result.andThen_ok, hl]
theorem fdF_at {n : Nat} {xs : List Fd} {k : Nat} {x : Fd} (hx : xs[k]? = some x) : ∀ (j : Nat) v, (V (gS x.1 n))[j]? = some v → (fdF n xs)[k * 49 + j]? = some v := by
  induction xs generalizing k with
  | nil => simp at hx
  | cons y ys ih =>
    intro j v hj
    have hl : j < 49 := by have := (List.getElem?_eq_some_iff.1 hj).1; rwa [V_len, gS_len] at this
    have e : fdF n (y :: ys) = V (gS y.1 n) ++ fdF n ys := rfl
    have ly : (V (gS y.1 n)).length = 49 := by rw [V_len, gS_len]
    rw [e]
    cases k with
    | zero =>
      obtain rfl : y = x := by simpa using hx
      rw [List.getElem?_append_left (by omega), Nat.zero_mul, Nat.zero_add]
      exact hj
    | succ k =>
      rw [List.getElem?_append_right (by rw [ly]; omega), ly, show (k + 1) * 49 + j - 49 = k * 49 + j by omega]
      exact ih (by simpa using hx) j v hj
theorem que_at {w : World} {B n : Nat} {xs : List Fd} {A : Option Addr} {cp k : Nat} (h : w.ownsRow B 62 49 (.slice A xs.length cp) xs.length (fdF n xs)) (hk : k < xs.length) :
    ∃ g, A = some ⟨g, 0, none⟩ ∧ ∀ x, xs[k]? = some x → ∀ (j : Nat) v, (V (gS x.1 n))[j]? = some v → w.cell? ⟨g, k * 49 + j, none⟩ = some v := by
  rcases h.2 with ⟨_, q⟩ | ⟨g, cap, cur, q1, q2, q3, q4, q5, q6, q7⟩
  · omega
  · injection q1 with e1 e2 e3
    refine ⟨g, e1, fun x hx j v hj => ?_⟩
    have h1 := fdF_at (n := n) hx j v hj
    rw [cell_of_row w g _ cur _ _ q3]
    have h2 : (List.take (xs.length * 49) cur.toList)[k * 49 + j]? = some v := by rw [q7]; exact h1
    rw [List.getElem?_take] at h2
    split at h2
    · simpa using h2
    · cases h2
theorem addF_eq {k : Nat} {c : UInt8} {l : Nat} {ys : List Fd} {x : Fd} (hx : ys[k]? = some x) :
    (if cn (letS c x.1) ∈ ys.map Prod.fst then ys else ys ++ [(cn (letS c x.1), k, l)]) = addF k c l ys := by
  have e : (ys.map Prod.fst).getD k ([], []) = x.1 := by simp [hx]
  unfold addF stp
  rw [e]
theorem ix0 (w : World) : Sem.run sqp.prog (Instr.index 133 (.agg #[.int .i64 0, .int .i64 2]) (.int .i64 0)) w = .ok (.int .i64 0) w := by kernel_rfl
theorem ix1 (w : World) : Sem.run sqp.prog (Instr.index 133 (.agg #[.int .i64 0, .int .i64 2]) (.int .i64 1)) w = .ok (.int .i64 2) w := by kernel_rfl
set_option maxHeartbeats 4000000 in
theorem search_any (s : Sur) (n c : Nat) (w : World) (hs : Sf n s.1 s.2) (hc : Chn w c 1000 [] false) :
    Calls sqp.prog 66 #[.agg (V (gS s n)).toArray, .chan (some c)] w fun e w' =>
      e = .returned (.tuple #[]) ∧ Chn w' c 1000 ((finds s).map (fdV n)) true ∧ Frc w.heap.size c w w' := by
  have HS := Lib.hid hs; clear hs
  have HC := Lib.hid hc; clear hc
  have L49 := gS_len s n
  go_enter sqp.func66, sqp.ntmps66
  generalize hC : Code.region 13 #[{ dst := some 46, op := Op.load 131 (Operand.tmp 3), type := 131, pos := "l06_orbit.go:43", after := #[], guard := none }, { dst := none, op := Op.call { callee := Callee.builtin Builtin.close, args := #[Operand.tmp 46], argTypes := #[131] }, type := 0, pos := "l06_orbit.go:43", after := #[{ on := 0, ground := Ground.data }], guard := none }] false = C13
  have hmm := @run_makeMap sqp.prog
  have SZ : Hid (∀ a b d, Arr ((((w.alloc (.cells (V (gS s n)).toArray 62)).alloc a).alloc b).alloc (.cells #[d] 89)) (w.heap.size + 1 + 1 + 1) [d] 89) := Lib.hid (fun a b d => Arr.new _ [d] _ (by simp))
  have Q0 := Lib.hid (q4_start w c n s)
  have X5 : Hid (∀ w4, Q4 w w4 c n s → Arr (w4.alloc (.cells #[.slice none 0 0] 90)) w.heap.size (V (gS s n)) 62) := Lib.hid (fun w4 h => h.own.alloc _)
  go_wp2_with (first | (refine wpList_store_oneTo rfl 89 _ _ rfl rfl (w.heap.size + 1 + 1 + 1) (.map (some (w.heap.size + 1 + 1))) rfl rfl rfl _ _ (SZ.out _ _ _) (by kernel_rfl) ?_; generalize (((((w.alloc (.cells (V (gS s n)).toArray 62)).alloc (.cells #[.chan (some c)] 131)).alloc (.map #[] 0)).alloc (.cells #[.map none] 89)).setRow (w.heap.size + 1 + 1 + 1) #[.map (some (w.heap.size + 1 + 1))]) = w4 at *; clear SZ) | (refine wpList_load_row rfl 62 _ rfl w.heap.size rfl 62 (V (gS s n)).toArray (0, 0) _ (X5.out _ Q0.out) sqp.underlying62 rfl (size49 L49) ?_) | fail)
  have hq4 := Q0.out.size
  have s5 : (w4.alloc (.cells #[.slice none 0 0] 90)).heap.size = w.heap.size + 5 := by simp [hq4]
  have U5 := Lib.hid (Q0.out.open_ HC.out)
  have G5 : Hid (Frc w.heap.size c w (w4.alloc (.cells #[.slice none 0 0] 90))) := Lib.hid (Frc.of_below (Q0.out.bel.alloc (by omega) _))
  generalize w4.heap.size = qb at *
  subst hq4
  generalize w4.alloc (.cells #[.slice none 0 0] 90) = w5 at *
  refine (form_gS s n _ HS.out).mono ?_
  rintro e w6 ⟨rfl, b6⟩
  have s6 := b6.size
  have U6 := Lib.hid (U5.out.keep b6)
  have G6 := Lib.hid (G5.out.trans (Frc.of_below (b6.mono (by omega))))
  clear U5 G5 Q0 X5 b6
  have BF := Lib.hid (built_fd1 (cn s) n)
  have L51 := fdL_len (cn s) n 0 0
  have MT := Lib.hid (meet_any w.heap.size (w.heap.size + 1 + 1) (w.heap.size + 1 + 1 + 1) (w.heap.size + 4) (w.heap.size + 1) c n [] (cn s) 0 0 w6 U6.out (cn_sf HS.out) (by simp) (by omega))
  generalize fdL (cn s) n 0 0 = LF at *
  generalize gS (cn s) n = G1 at *
  go_wp2_with (first | (refine gl.wpList_build rfl 65 _ rfl [(0, .agg (V G1).toArray)] rfl (V LF).toArray BF.out ?_) | fail)
  refine MT.out.mono ?_
  rintro e w7 ⟨rfl, u7, g7⟩
  have U7 : Hid (Qs w7 w.heap.size (w.heap.size + 1 + 1) (w.heap.size + 1 + 1 + 1) (w.heap.size + 4) (w.heap.size + 1) c n [(cn s, 0, 0)]) := Lib.hid (by simpa using u7)
  have G7 := Lib.hid (G6.out.trans g7)
  clear U6 G6 u7 g7 MT BF
  go_wp2_with fail
  have FN : Hid (finds s = frun 122 0 [(cn s, 0, 0)]) := Lib.hid rfl
  go_loopw [7] (fun v7 wr => ∃ (k : Nat) (xs : List Fd), v7 = .int .i64 k ∧ Qs wr w.heap.size (w.heap.size + 1 + 1) (w.heap.size + 1 + 1 + 1) (w.heap.size + 4) (w.heap.size + 1) c n xs ∧ Frc w.heap.size c w wr ∧ k ≤ xs.length ∧ xs.length ≤ 122 ∧ k ≤ 121 ∧ finds s = frun (122 - k) k xs) (fun v7 _ => 122 - (intOf v7).toNat)
  case atStart => exact ⟨0, _, by go_num, U7.out, G7.out, by simp, by simp, by omega, FN.out⟩
  case round =>
    obtain ⟨k, xs, rfl, hU, hG, h1, h2, h3, h4⟩ := hrel
    have U := Lib.hid hU
    have G := Lib.hid hG
    have HF := Lib.hid h4
    clear hU hG h4 U7 G7 FN
    obtain ⟨A0, cp0, q1, q2, q3⟩ := U.out.que
    have QV := Lib.hid q1
    have QR := Lib.hid q2
    clear q1 q2 q3
    by_cases hk : k < xs.length
    · by_cases hl : xs.length ≤ 120
      · have HN : Hid (finds s = frun (122 - (k + 1)) (k + 1) (twoF k xs)) := Lib.hid (by rw [HF.out, frun_step h3 ⟨hk, hl⟩])
        clear HF
        go_wp2_with (first | (refine wpList_load_one rfl 90 _ rfl (w.heap.size + 4) rfl _ _ _ QV.out sqp.underlying90 rfl ?_) | (refine wpList_load_one_g (by rfl) 90 _ rfl (w.heap.size + 4) rfl _ _ _ QV.out sqp.underlying90 rfl ?_) | (refine gl.wpList_build rfl 133 _ rfl [(0, .int .i64 0), (1, .int .i64 2)] rfl #[.int .i64 0, .int .i64 2] built_ls ?_) | fail)
        go_loopw [29] (fun v29 wq => ∃ (i : Nat) (ys : List Fd), v29 = .int .i64 i ∧ i ≤ 2 ∧ ys = (if i = 0 then xs else if i = 1 then addF k 84 0 xs else twoF k xs) ∧ Qs wq w.heap.size (w.heap.size + 1 + 1) (w.heap.size + 1 + 1 + 1) (w.heap.size + 4) (w.heap.size + 1) c n ys ∧ Frc w.heap.size c w wq) (fun v29 _ => 2 - (intOf v29).toNat)
        case atStart => exact ⟨0, xs, by go_num, by omega, rfl, U.out, G.out⟩
        case round =>
          obtain ⟨i, ys, rfl, hi2, hys, hU', hG'⟩ := hrel
          have hal := addF_len k 84 0 xs
          have hix0 := ix0
          have hix1 := ix1
          by_cases hi0 : i = 0
          · subst hi0
            rw [if_pos rfl] at hys
            subst hys
            have hky := hk
            obtain ⟨x, hx⟩ : ∃ x, ys[k]? = some x := ⟨_, List.getElem?_eq_getElem hky⟩
            have U1 := Lib.hid hU'
            have W1 := Lib.hid hG'
            clear hU' hG'
            obtain ⟨A1, cp1, q1, q2, q3⟩ := U1.out.que
            obtain ⟨g, rfl, hat⟩ := que_at q2 hky
            have QV1 := Lib.hid q1
            have SX := Lib.hid (U1.out.sf x (List.mem_of_getElem? hx))
            have PX := Lib.hid (hat x hx)
            clear q1 q2 q3 hat
            have L49x := gS_len x.1 n
            go_wp2_with (first | (refine wpList_load_one rfl 90 _ rfl (w.heap.size + 4) rfl _ _ _ QV1.out sqp.underlying90 rfl ?_) | (refine wpList_load_part rfl 62 _ rfl g (k * 49) rfl (V (gS x.1 n)) _ PX.out sqp.underlying62 rfl (size49 L49x) ?_) | fail)
            have RD := Lib.hid (rd_let wr 0 wr.heap.size rfl)
            have b1 : Below wr.heap.size wr (wr.alloc (.cells #[.int .i64 0] 63)) := (Below.refl _ _).alloc (Nat.le_refl _) _
            have sz1 : (wr.alloc (.cells #[.int .i64 0] 63)).heap.size = wr.heap.size + 1 := by simp
            generalize wr.alloc (.cells #[.int .i64 0] 63) = w8 at *
            have hwr := W1.out.size
            have SL : Hid (Sf n (letS (fdB 0) x.1).1 (letS (fdB 0) x.1).2) := Lib.hid (letS_sf (R := x.1.1) (U := x.1.2) SX.out _)
            refine (after_gL 0 (by omega) x.1 n _ _ w8 (by simpa using RD.out) (by omega) SX.out).mono ?_
            rintro e w9 ⟨rfl, b2⟩
            have sz2 := b2.size
            go_wp2_with fail
            refine (form_gS (letS (fdB 0) x.1) n w9 SL.out).mono ?_
            rintro e w10 ⟨rfl, b3⟩
            have sz3 := b3.size
            have b4 := (b1.trans (b2.mono (by omega))).trans (b3.mono (by omega))
            have U10 := Lib.hid (U1.out.keep b4)
            have W10 := Lib.hid (W1.out.trans (Frc.of_below (b4.mono (by omega))))
            clear U1 W1 b1 b2 b3 b4 RD PX QV1
            have BF := Lib.hid (built_fd3 (cn (letS (fdB 0) x.1)) n k 0)
            have MT := meet_any w.heap.size (w.heap.size + 1 + 1) (w.heap.size + 1 + 1 + 1) (w.heap.size + 4) (w.heap.size + 1) c n ys (cn (letS (fdB 0) x.1)) k 0 w10 U10.out (cn_sf SL.out) (by omega) (by omega)
            rw [addF_eq hx] at MT
            have MT := Lib.hid MT
            generalize fdL (cn (letS (fdB 0) x.1)) n k 0 = LF1 at *
            generalize gS (cn (letS (fdB 0) x.1)) n = G2 at *
            go_wp2_with (first | (refine gl.wpList_build rfl 65 _ rfl [(0, .agg (V G2).toArray), (1, .int .i64 (k : Int)), (2, .int .i64 0)] rfl (V LF1).toArray BF.out ?_) | fail)
            refine MT.out.mono ?_
            rintro e w11 ⟨rfl, u11, g11⟩
            have U11 := Lib.hid u11
            have W11 := Lib.hid (W10.out.trans g11)
            clear u11 g11 U10 W10 MT BF
            go_wp2_with fail
            go_roundw
            case rel => exact ⟨1, addF k 84 0 ys, by go_num, by omega, rfl, U11.out, W11.out⟩
            case measure => simp [intOf]
          · by_cases hi1 : i = 1
            · subst hi1
              rw [if_neg (by omega), if_pos rfl] at hys
              have hky : k < ys.length := by rw [hys]; omega
              have hyl : ys.length ≤ 121 := by rw [hys]; omega
              obtain ⟨x, hx⟩ : ∃ x, ys[k]? = some x := ⟨_, List.getElem?_eq_getElem hky⟩
              have U1 := Lib.hid hU'
              have W1 := Lib.hid hG'
              clear hU' hG'
              obtain ⟨A1, cp1, q1, q2, q3⟩ := U1.out.que
              obtain ⟨g, rfl, hat⟩ := que_at q2 hky
              have QV1 := Lib.hid q1
              have SX := Lib.hid (U1.out.sf x (List.mem_of_getElem? hx))
              have PX := Lib.hid (hat x hx)
              clear q1 q2 q3 hat
              have L49x := gS_len x.1 n
              go_wp2_with (first | (refine wpList_load_one rfl 90 _ rfl (w.heap.size + 4) rfl _ _ _ QV1.out sqp.underlying90 rfl ?_) | (refine wpList_load_part rfl 62 _ rfl g (k * 49) rfl (V (gS x.1 n)) _ PX.out sqp.underlying62 rfl (size49 L49x) ?_) | fail)
              have RD := Lib.hid (rd_let wr 2 wr.heap.size rfl)
              have b1 : Below wr.heap.size wr (wr.alloc (.cells #[.int .i64 2] 63)) := (Below.refl _ _).alloc (Nat.le_refl _) _
              have sz1 : (wr.alloc (.cells #[.int .i64 2] 63)).heap.size = wr.heap.size + 1 := by simp
              generalize wr.alloc (.cells #[.int .i64 2] 63) = w8 at *
              have hwr := W1.out.size
              have SL : Hid (Sf n (letS (fdB 2) x.1).1 (letS (fdB 2) x.1).2) := Lib.hid (letS_sf (R := x.1.1) (U := x.1.2) SX.out _)
              refine (after_gL 2 (by omega) x.1 n _ _ w8 (by simpa using RD.out) (by omega) SX.out).mono ?_
              rintro e w9 ⟨rfl, b2⟩
              have sz2 := b2.size
              go_wp2_with fail
              refine (form_gS (letS (fdB 2) x.1) n w9 SL.out).mono ?_
              rintro e w10 ⟨rfl, b3⟩
              have sz3 := b3.size
              have b4 := (b1.trans (b2.mono (by omega))).trans (b3.mono (by omega))
              have U10 := Lib.hid (U1.out.keep b4)
              have W10 := Lib.hid (W1.out.trans (Frc.of_below (b4.mono (by omega))))
              clear U1 W1 b1 b2 b3 b4 RD PX QV1
              have BF := Lib.hid (built_fd3 (cn (letS (fdB 2) x.1)) n k 2)
              have MT := meet_any w.heap.size (w.heap.size + 1 + 1) (w.heap.size + 1 + 1 + 1) (w.heap.size + 4) (w.heap.size + 1) c n ys (cn (letS (fdB 2) x.1)) k 2 w10 U10.out (cn_sf SL.out) (by omega) (by omega)
              rw [addF_eq hx] at MT
              have MT := Lib.hid MT
              generalize fdL (cn (letS (fdB 2) x.1)) n k 2 = LF1 at *
              generalize gS (cn (letS (fdB 2) x.1)) n = G2 at *
              go_wp2_with (first | (refine gl.wpList_build rfl 65 _ rfl [(0, .agg (V G2).toArray), (1, .int .i64 (k : Int)), (2, .int .i64 2)] rfl (V LF1).toArray BF.out ?_) | fail)
              refine MT.out.mono ?_
              rintro e w11 ⟨rfl, u11, g11⟩
              have U11 := Lib.hid u11
              have W11 := Lib.hid (W10.out.trans g11)
              clear u11 g11 U10 W10 MT BF
              go_wp2_with fail
              go_roundw
              case rel => exact ⟨2, addF k (fdB 2) 2 ys, by go_num, by omega, by rw [hys]; rfl, U11.out, W11.out⟩
              case measure => simp [intOf]
            · obtain rfl : i = 2 := by omega
              rw [if_neg hi0, if_neg hi1] at hys
              have htl := twoF_len k xs
              go_wp2_with fail
              go_roundw
              case rel => exact ⟨k + 1, ys, by go_num, hU', hG', by rw [hys]; omega, by rw [hys]; omega, by omega, by rw [hys]; exact HN.out⟩
              case measure => simp [intOf]; omega
      · go_wp2_with (first | (refine wpList_load_one rfl 90 _ rfl (w.heap.size + 4) rfl _ _ _ QV.out sqp.underlying90 rfl ?_) | (refine wpList_load_one_g (by rfl) 90 _ rfl (w.heap.size + 4) rfl _ _ _ QV.out sqp.underlying90 rfl ?_) | fail)
        subst hC
        refine ch.region rfl ?_
        simp only [List.size_toArray, List.length_cons, List.length_nil, Nat.reduceAdd, Nat.zero_add, List.range, List.range.loop]
        refine ch.Rw.plain (v := .chan (some c)) rfl rfl (run_load_one 131 (.tmp 3) rfl (w.heap.size + 1) rfl (.chan (some c)) _ _ U.out.cv sqp.underlying131 rfl) ?_
        refine ch.Rw.closeL (c := c) rfl rfl rfl rfl U.out.chn (fun w9 C9 o9 => ?_)
        refine ch.Rw.nil ?_
        go_end0
        exact ⟨rfl, by rw [HF.out, frun_stop h3 (by omega)]; exact C9, G.out.trans (Frc.of_out o9 (by have := G.out.size; omega))⟩
    · go_wp2_with (first | (refine wpList_load_one rfl 90 _ rfl (w.heap.size + 4) rfl _ _ _ QV.out sqp.underlying90 rfl ?_) | (refine wpList_load_one_g (by rfl) 90 _ rfl (w.heap.size + 4) rfl _ _ _ QV.out sqp.underlying90 rfl ?_) | fail)
      subst hC
      refine ch.region rfl ?_
      simp only [List.size_toArray, List.length_cons, List.length_nil, Nat.reduceAdd, Nat.zero_add, List.range, List.range.loop]
      refine ch.Rw.plain (v := .chan (some c)) rfl rfl (run_load_one 131 (.tmp 3) rfl (w.heap.size + 1) rfl (.chan (some c)) _ _ U.out.cv sqp.underlying131 rfl) ?_
      refine ch.Rw.closeL (c := c) rfl rfl rfl rfl U.out.chn (fun w9 C9 o9 => ?_)
      refine ch.Rw.nil ?_
      go_end0
      exact ⟨rfl, by rw [HF.out, frun_stop h3 (by omega)]; exact C9, G.out.trans (Frc.of_out o9 (by have := G.out.size; omega))⟩
end Go.Proofs.Ytgcnemkhppkkcaa.orb

namespace Go.Proofs.Ytgcnemkhppkkcaa.orb
open Go.ChangeShapes Go.WideShapes Go.ChangeAt Go.RowKit Go.Maps
open mem ints arr pm sf gl
open Go.Proofs.Ytgcnemkhppkkcaa.ch (Chn)
set_option linter.unusedVariables false
set_option maxRecDepth 100000
@[simp] theorem callSrch (args : Array Value) (w : World) : Sem.run sqp.prog (callFunc sq.srch args) w = .ok (.enter 66 args) w := by kernel_rfl
theorem Frc.mono {B B' c : Nat} {w w' : World} (h : Frc B' c w w') (hB : B ≤ B') : Frc B c w w' := ⟨h.os, h.tape, h.output, h.size, fun k h1 h2 => h.block k (by omega) h2⟩
theorem eql_none (c : Nat) (w : World) : Sem.run sqp.prog (binOp .eql 103 (.chan (some c)) (.chan none)) w = .ok (.bool false) w := by kernel_rfl
theorem eql_same (c : Nat) (w : World) : Sem.run sqp.prog (binOp .eql 103 (.chan (some c)) (.chan (some c))) w = .ok (.bool true) w := by
  have h : Sem.run sqp.prog (binOp .eql 103 (.chan (some c)) (.chan (some c))) w = .ok (.bool (some c == some c)) w := by kernel_rfl
  rw [h]
  simp
set_option maxHeartbeats 800000 in
theorem go_any (s : Sur) (n c : Nat) (w : World) (hs : Sf n s.1 s.2) (hc : Chn w c 1000 [] false) :
    Calls sqp.prog (sq.nfn + 1) #[.chan (some c), .agg (V (gS s n)).toArray, .chan (some c), .bool true, .bool false] w fun e w' =>
      e = .returned (.tuple #[]) ∧ Chn w' c 1000 ((finds s).map (fdV n)) true ∧ Frc w.heap.size c w w' := by
  have HS := Lib.hid hs; clear hs
  have HC := Lib.hid hc; clear hc
  have L49 := gS_len s n
  go_enter sqp.funcGo, sqp.ntmpsGo
  simp only [sq.goC, sq.goD, sq.opsA, sq.oNo]
  have EQ : Hid (∀ W, (Op.equalIn 10000 62 (.agg (V (gS s n)).toArray) (.agg (V (gS s n)).toArray)).run sqp.prog W = .ok true W) := Lib.hid (fun W => by have h := eq_cn HS.out HS.out W; rwa [decide_eq_true rfl] at h)
  have ST := Lib.hid (search_any s n c)
  have hlc := HC.out.lt
  generalize gS s n = G at *
  refine wp_seq ?_
  refine wp_region_lit ?_
  refine wpList_eql_gl rfl (.tmp 1) (.tmp 1) _ rfl (V G).toArray (V G).toArray rfl rfl true (EQ.out _) ?_
  refine wpList_bs_gl rfl (.tmp 1) rfl G L49 rfl ?_
  refine wpList_nil ?_
  simp only [Act.put, Exit.then]
  have b1 : Below w.heap.size w (w.alloc (.cells (V G).toArray 62)) := (Below.refl _ _).alloc (Nat.le_refl _) _
  have C1 : Hid (Chn (w.alloc (.cells (V G).toArray 62)) c 1000 [] false) := Lib.hid (HC.out.keep b1 hlc)
  have F1 : Hid (Frc w.heap.size c w (w.alloc (.cells (V G).toArray 62))) := Lib.hid (Frc.of_below b1)
  generalize w.alloc (.cells (V G).toArray 62) = w1 at *
  generalize hC : Code.region 3 (sq.opsT 103) false = C3
  have en := eql_none c
  have es := eql_same c
  simp only [sq.opsN, sq.opsE, sq.opsS, sq.oNo]
  go_wp2_with fail
  rename_i K3 hK3
  subst hC
  refine ch.region rfl ?_
  simp only [sq.opsT, sq.oNo, List.size_toArray, List.length_cons, List.length_nil, Nat.reduceAdd, Nat.zero_add, List.range, List.range.loop]
  refine ch.Rw.sendL (c := c) (v := .bool true) (z' := .tuple #[]) rfl rfl (by simp [execOp, Conc.scase, Act.eval]) C1.out (by simp) (fun w2 C2 o2 => ?_)
  refine ch.Rw.recvL (c := c) (v := .bool true) (vs := []) (z := .agg (V zero51).toArray) true rfl rfl (by kernel_rfl) C2 (fun w3 C3 o3 => ?_)
  refine ch.Rw.nil ?_
  simp only [Exit.then]
  refine hK3 _ _ ?_
  go_wp2_with fail
  have s1 := F1.out.size
  have F2 := F1.out.trans (Frc.of_out o2 (by omega))
  have s2 := F2.size
  have F3 := Lib.hid (F2.trans (Frc.of_out o3 (by omega)))
  refine (ST.out w3 HS.out C3).mono ?_
  rintro e w4 ⟨rfl, C4, F4⟩
  have HC4 := Lib.hid C4
  have HF4 := Lib.hid (F3.out.trans (F4.mono F3.out.size))
  clear C4 F4 F2 C3 C2 o2 o3
  go_wp2_with fail
  go_end0
  exact ⟨rfl, HC4.out, HF4.out⟩
end Go.Proofs.Ytgcnemkhppkkcaa.orb

namespace Go.Proofs.Ytgcnemkhppkkcaa.orb
open Go.ChangeShapes Go.WideShapes Go.ChangeAt Go.RowKit Go.Maps
open mem ints arr pm sf gl
open Go.Proofs.Ytgcnemkhppkkcaa.ch (Chn)
set_option linter.unusedVariables false
set_option maxRecDepth 100000
theorem wpList_bs_od {ops : Array Oper} {rest : List Oper} {o : Oper} {a : Act} {w : World} {Q : Exit → Act → World → Prop} (hgd : o.guard = none) (x : Operand) (ho : o.op = .buildSlice 56 1 #[(0, x)])
    (L : List Int) (hL : L.length = 51) (hx : a.eval x = .agg (V L).toArray)
    (h : wpList sqp.prog ops Q rest (a.put o.dst (.slice (some ⟨w.heap.size, 0, none⟩) 1 1)) (w.alloc (.cells (V L).toArray 65))) : wpList sqp.prog ops Q (o :: rest) a w := by
  obtain ⟨i, hi, hz, hs, hb⟩ := info_parts infoFd
  refine wpList_buildSlice hgd 56 65 1 _ ho (V L).toArray i _ sqp.underlying56 hi hz (by rw [hs]; decide) (by rw [hs]; decide) ?_ h
  rw [hs]
  have := Great.fill_whole (s := 51) (by decide) [.agg (V L).toArray] ((Array.range (1 * 51)).map ((Value.agg (V zero51).toArray).cells[· % (Value.agg (V zero51).toArray).cells.size]!)) (by simp [Value.cells, V_len, hL]) (by simp)
  simpa [hx, Value.cells] using this
def fdsV (n : Nat) (xs : List Fd) : List Value := xs.flatMap fun x => V (fdL x.1 n x.2.1 x.2.2)
theorem fdsV_put (n : Nat) (xs : List Fd) (x : Fd) : fdsV n (xs ++ [x]) = fdsV n xs ++ V (fdL x.1 n x.2.1 x.2.2) := by simp [fdsV]
def OfPost (r u : List Int) (w : World) (e : Ending) (w' : World) : Prop :=
  Below w.heap.size w w' ∧
  ((transB r u = true ∧ (finds (r, u)).length ≤ 120 ∧ ∃ A cp, e = .returned (.tuple #[.slice A (finds (r, u)).length cp, .bool true]) ∧ w'.ownsRow w.heap.size 65 51 (.slice A (finds (r, u)).length cp) (finds (r, u)).length (fdsV r.length (finds (r, u)))) ∨
   ((transB r u = false ∨ 120 < (finds (r, u)).length) ∧ e = .returned (.tuple #[.slice none 0 0, .bool false])))
set_option maxHeartbeats 2000000 in
theorem orbitOf_any (v : Value) (r u : List Int) (hi : Nat) (w : World) (hx : Srd w hi v r u) (hn : r.length ≤ 1048576) (hm : u.length ≤ 1048576) :
    Calls sqp.prog 37 #[v] w fun e w' => OfPost r u w e w' := by
  have HX := Lib.hid hx
  obtain ⟨P, n, c, Q, m, d, rfl, q1, q2, e1, e2, ht, HR⟩ := hx.open
  have L1 := Lib.hid q1
  clear hx
  have hmc := fun w => ch.mk (P := sqp.prog) sqp.underlying103 (B := 408) (by kernel_rfl) 1000 (by omega) (by omega) 1000 rfl w
  go_enter sqp.func37, sqp.ntmps37
  simp only [sq.mapC, sq.seqO, List.map_toArray, List.map_cons, List.map_nil]
  generalize hR : Code.region 8 #[{ dst := some 20, op := Op.recv 103 (Operand.tmp 19) true, type := 0, pos := "l06_orbit.go:55", after := #[], guard := none }, { dst := some 21, op := Op.extract (Operand.tmp 20) 1, type := 4, pos := "l06_orbit.go:55", after := #[{ on := 0, ground := Ground.data }], guard := none }] false = C8
  go_wp2_with fail
  refine (gluingOf_any _ r u hi _ (HX.out.keep ((Below.refl hi w).alloc ht _) (Nat.le_refl _)) hn hm).mono ?_
  rintro e w1 ⟨rfl, b1⟩
  have B1 := Lib.hid (below1 _ _ b1); clear b1
  cases hq : transB r u
  · have HQ := Lib.hid hq
    clear hq
    go_wp2_with (first | (refine wpList_store_row rfl 62 _ _ rfl w1.heap.size (V (glv r u)).toArray rfl rfl 62 (V zero49).toArray (Arr.new w1 (V zero49) _ rfl) (size49 (glv_len _ _)) (by simp [V_len, glv_len, zero49]) (one_V _) ?_; generalize hw2 : (w1.alloc (.cells #[.int .i64 0, .int .i64 0, .int .i64 0, .int .i64 0, .int .i64 0, .int .i64 0, .int .i64 0, .int .i64 0, .int .i64 0, .int .i64 0, .int .i64 0, .int .i64 0, .int .i64 0, .int .i64 0, .int .i64 0, .int .i64 0, .int .i64 0, .int .i64 0, .int .i64 0, .int .i64 0, .int .i64 0, .int .i64 0, .int .i64 0, .int .i64 0, .int .i64 0, .int .i64 0, .int .i64 0, .int .i64 0, .int .i64 0, .int .i64 0, .int .i64 0, .int .i64 0, .int .i64 0, .int .i64 0, .int .i64 0, .int .i64 0, .int .i64 0, .int .i64 0, .int .i64 0, .int .i64 0, .int .i64 0, .int .i64 0, .int .i64 0, .int .i64 0, .int .i64 0, .int .i64 0, .int .i64 0, .int .i64 0, .int .i64 0] 62)).setRow w1.heap.size (V (glv r u)).toArray = w2; have A2 : Hid (Arr w2 w1.heap.size (V (glv r u)) 62) := Lib.hid (by rw [← hw2]; exact (Arr.new w1 (V zero49) _ rfl).row); have b1 : Below w1.heap.size w1 w2 := (by rw [← hw2]; exact arr.below_setRow ((Below.refl _ _).alloc (Nat.le_refl _) _) (Nat.le_refl _) _); have s2 := b1.size; replace B1 : Hid (Below w.heap.size w w2) := Lib.hid (B1.out.trans (b1.mono B1.out.size)); clear hw2 b1) | fail)
    go_ret2
    exact ⟨B1.out, .inr ⟨.inl HQ.out, rfl⟩⟩
  · have HQ := Lib.hid hq
    have HS : Hid (Sf n r u) := Lib.hid (by have := transB_iff.1 hq; rwa [L1.out] at this)
    have HG : Hid (glv r u = gS (r, u) n) := Lib.hid (by rw [glv_yes hq, L1.out]; rfl)
    have HGO := Lib.hid (go_any (r, u) n)
    clear hq
    go_wp2_with (first | (refine wpList_store_row rfl 62 _ _ rfl w1.heap.size (V (glv r u)).toArray rfl rfl 62 (V zero49).toArray (Arr.new w1 (V zero49) _ rfl) (size49 (glv_len _ _)) (by simp [V_len, glv_len, zero49]) (one_V _) ?_; generalize hw2 : (w1.alloc (.cells #[.int .i64 0, .int .i64 0, .int .i64 0, .int .i64 0, .int .i64 0, .int .i64 0, .int .i64 0, .int .i64 0, .int .i64 0, .int .i64 0, .int .i64 0, .int .i64 0, .int .i64 0, .int .i64 0, .int .i64 0, .int .i64 0, .int .i64 0, .int .i64 0, .int .i64 0, .int .i64 0, .int .i64 0, .int .i64 0, .int .i64 0, .int .i64 0, .int .i64 0, .int .i64 0, .int .i64 0, .int .i64 0, .int .i64 0, .int .i64 0, .int .i64 0, .int .i64 0, .int .i64 0, .int .i64 0, .int .i64 0, .int .i64 0, .int .i64 0, .int .i64 0, .int .i64 0, .int .i64 0, .int .i64 0, .int .i64 0, .int .i64 0, .int .i64 0, .int .i64 0, .int .i64 0, .int .i64 0, .int .i64 0, .int .i64 0] 62)).setRow w1.heap.size (V (glv r u)).toArray = w2; have A2 : Hid (Arr w2 w1.heap.size (V (glv r u)) 62) := Lib.hid (by rw [← hw2]; exact (Arr.new w1 (V zero49) _ rfl).row); have b1 : Below w1.heap.size w1 w2 := (by rw [← hw2]; exact arr.below_setRow ((Below.refl _ _).alloc (Nat.le_refl _) _) (Nat.le_refl _) _); have s2 := b1.size; replace B1 : Hid (Below w.heap.size w w2) := Lib.hid (B1.out.trans (b1.mono B1.out.size)); clear hw2 b1; rw [HG.out] at A2) | (refine wpList_load_row rfl 62 _ rfl w1.heap.size rfl 62 (V (gS (r, u) n)).toArray (0, 0) _ ((A2.out).alloc _) sqp.underlying62 rfl (size49 (gS_len _ _)) ?_) | fail)
    have bc : Below w2.heap.size w2 (w2.alloc (.chan 1000 #[] false 0 0 false)) := (Below.refl _ _).alloc (Nat.le_refl _) _
    have szc : (w2.alloc (.chan 1000 #[] false 0 0 false)).heap.size = w2.heap.size + 1 := by simp
    have NC := ch.Chn.new w2 1000
    have hw2 := B1.out.size
    generalize hcc : w2.heap.size = cc at *
    refine (HGO.out cc _ HS.out NC).mono ?_
    rintro e w4 ⟨rfl, hch, hfr⟩
    have CH := Lib.hid hch
    have B4 : Hid (Below w.heap.size w w4) := Lib.hid ⟨hfr.os.trans (bc.os.trans B1.out.os), hfr.tape.trans (bc.tape.trans B1.out.tape), hfr.output.trans (bc.output.trans B1.out.output), by have := hfr.size; omega, fun k hk => (hfr.block k (by omega) (by omega)).trans ((bc.block k (by omega)).trans (B1.out.block k hk))⟩
    have sz4 := hfr.size
    clear hch hfr NC bc HGO A2 hmc
    have FL := finds_small (r, u)
    go_wp2_with fail
    subst hR
    go_loopw [7] (fun v7 wr => ∃ (j : Nat) (A : Option Addr) (cp : Nat), v7 = .slice A j cp ∧ j ≤ (finds (r, u)).length ∧ wr.ownsRow w.heap.size 65 51 v7 j (fdsV n ((finds (r, u)).take j)) ∧ Chn wr cc 1000 (((finds (r, u)).drop j).map (fdV n)) true ∧ Below w.heap.size w wr ∧ (∀ b, v7.ownBlock = some b → b ≠ cc)) (fun v7 _ => (finds (r, u)).length + 1 - slen v7)
    case atStart => exact ⟨0, none, 0, rfl, by omega, ⟨rfl, .inl ⟨rfl, rfl⟩⟩, by rw [List.drop_zero]; exact CH.out, B4.out, fun b hb => by simp [Value.ownBlock] at hb⟩
    case round =>
      obtain ⟨j, A, cp, rfl, hj, hrow, hch, hbl, hnc⟩ := hrel
      have HRW := Lib.hid hrow
      have HCH := Lib.hid hch
      have HBL := Lib.hid hbl
      have HNC := Lib.hid hnc
      clear hrow hch hbl hnc
      refine wp_seq ?_
      refine ch.region rfl ?_
      simp only [List.size_toArray, List.length_cons, List.length_nil, Nat.reduceAdd, Nat.zero_add, List.range, List.range.loop]
      by_cases hjl : j < (finds (r, u)).length
      · have hd : (finds (r, u)).drop j = (finds (r, u))[j] :: (finds (r, u)).drop (j + 1) := List.drop_eq_getElem_cons hjl
        rw [hd, List.map_cons] at HCH
        refine ch.Rw.recvL (c := cc) (z := .agg (V zero51).toArray) true rfl rfl (by kernel_rfl) HCH.out (fun w5 C5 o5 => ?_)
        simp only [Go.Conc.got, if_true]
        refine ch.Rw.plain (w' := w5) (v := .bool true) rfl rfl (by kernel_rfl) ?_
        refine ch.Rw.nil ?_
        simp only [Exit.then]
        generalize hx : (finds (r, u))[j] = x at *
        have hx' : (finds (r, u))[j]? = some x := by rw [List.getElem?_eq_getElem hjl, hx]
        have L51 := fdL_len x.1 n x.2.1 x.2.2
        have hfd : fdV n x = .agg (V (fdL x.1 n x.2.1 x.2.2)).toArray := rfl
        rw [hfd]
        have L51 := fdL_len x.1 n x.2.1 x.2.2
        have HRW5 : Hid (w5.ownsRow w.heap.size 65 51 (.slice A j cp) j (fdsV n ((finds (r, u)).take j))) := Lib.hid (own_block_keep HRW.out (fun b hb => o5.block b (World.ownsRow.lt HRW.out b hb).2 (by have := HNC.out b hb; omega)))
        have HB5 : Hid (∀ b, (Value.slice A j cp).ownBlock = some b → w.heap.size ≤ b ∧ b < w5.heap.size) := Lib.hid (fun b hb => World.ownsRow.lt HRW5.out b hb)
        have BL5 : Hid (Below w.heap.size w w5) := Lib.hid ⟨o5.os.trans HBL.out.os, o5.tape.trans HBL.out.tape, o5.output.trans HBL.out.output, by have := o5.size; have := HBL.out.size; omega, fun k hk => (o5.block k (by have := HBL.out.size; omega) (by omega)).trans (HBL.out.block k hk)⟩
        have CC5 := Lib.hid C5
        have hc5 := C5.lt
        have hb5 := BL5.out.size
        clear HRW HCH HBL C5 o5
        generalize hLX : fdL x.1 n x.2.1 x.2.2 = LX at *
        obtain ⟨i0, hi0, hz0, hz1, hz2⟩ := info_parts infoFd
        go_wp2_with (first | (refine wpList_store_row rfl 65 _ _ rfl w5.heap.size (V LX).toArray rfl rfl 65 (V zero51).toArray (Arr.new w5 (V zero51) _ rfl) (size51 L51) (by simp [V_len, L51, zero51]) (one_V _) ?_; generalize hw6 : (w5.alloc (.cells #[.int .i64 0, .int .i64 0, .int .i64 0, .int .i64 0, .int .i64 0, .int .i64 0, .int .i64 0, .int .i64 0, .int .i64 0, .int .i64 0, .int .i64 0, .int .i64 0, .int .i64 0, .int .i64 0, .int .i64 0, .int .i64 0, .int .i64 0, .int .i64 0, .int .i64 0, .int .i64 0, .int .i64 0, .int .i64 0, .int .i64 0, .int .i64 0, .int .i64 0, .int .i64 0, .int .i64 0, .int .i64 0, .int .i64 0, .int .i64 0, .int .i64 0, .int .i64 0, .int .i64 0, .int .i64 0, .int .i64 0, .int .i64 0, .int .i64 0, .int .i64 0, .int .i64 0, .int .i64 0, .int .i64 0, .int .i64 0, .int .i64 0, .int .i64 0, .int .i64 0, .int .i64 0, .int .i64 0, .int .i64 0, .int .i64 0, .int .i64 0, .int .i64 0] 65)).setRow w5.heap.size (V LX).toArray = w6; have A6 : Hid (Arr w6 w5.heap.size (V LX) 65) := Lib.hid (by rw [← hw6]; exact (Arr.new w5 (V zero51) _ rfl).row); have b6 : Below w5.heap.size w5 w6 := (by rw [← hw6]; exact arr.below_setRow ((Below.refl _ _).alloc (Nat.le_refl _) _) (Nat.le_refl _) _); have s6 := b6.size; have HRW6 : Hid (w6.ownsRow w.heap.size 65 51 (.slice A j cp) j (fdsV n ((finds (r, u)).take j))) := Lib.hid (own_block_keep HRW5.out (fun b hb => b6.block b (HB5.out b hb).2)); have CC6 := Lib.hid (CC5.out.keep b6 hc5); have BL6 := Lib.hid (BL5.out.trans (b6.mono hb5)); clear hw6 b6) | (refine wpList_load_row rfl 65 _ rfl w5.heap.size rfl 65 (V LX).toArray (0, 0) _ A6.out sqp.underlying65 rfl (size51 L51) ?_) | (refine wpList_bs_od rfl _ rfl LX L51 rfl ?_) | (at_builtin; refine wpList_append_lies (w6.alloc (.cells (V LX).toArray 65)) rfl _ _ 56 rfl w.heap.size 65 i0 _ 51 408 sqp.underlying56 hi0 hz0 hz1 hz2 rfl (by decide) (.slice A j cp) j (fdsV n ((finds (r, u)).take j)) rfl (HRW6.out.alloc _) ⟨w6.heap.size, 0, none⟩ 1 1 (V LX) rfl (by simp [V_len, L51]) ?hn ?h1 (by decide) ?c4 ?c5 ?c6 _ rfl ?_) | fail)
        case hn =>
          intro q z hz
          have h := (Arr.new w6 (V LX) 65 rfl).cell hz
          have e : (⟨w6.heap.size, 0, none⟩ : Addr).add q = ⟨w6.heap.size, q, none⟩ := by unfold Addr.add; split <;> simp_all
          rw [e]
          exact h
        case h1 => intro q hq; obtain ⟨z, _, rfl⟩ := List.mem_map.1 hq; rfl
        case c4 => unfold maxLen; omega
        case c5 => omega
        case c6 => first | omega | (simp; omega)
        intro g7 cap7 w7 ho hg hb hlt7
        have hsz6 : (w6.alloc (.cells (V LX).toArray 65)).heap.size = w6.heap.size + 1 := by simp
        have b7 : Below w6.heap.size w6 (w6.alloc (.cells (V LX).toArray 65)) := (Below.refl _ _).alloc (Nat.le_refl _) _
        have hc6 := CC6.out.lt
        have CC7 := Lib.hid (chn_grown (CC6.out.keep b7 hc6) hg (fun e => HNC.out cc e.symm rfl))
        have BL7 : Hid (Below w.heap.size w w7) := Lib.hid (((BL6.out.trans (b7.mono BL6.out.size))).trans ⟨hg.os, hg.tape, hg.output, hg.size, fun k hk => hg.block k (by omega) (fun e => by have := (HB5.out k e.symm).1; omega)⟩)
        have OW7 := Lib.hid ho
        have G7 : Hid (g7 ≠ cc) := Lib.hid (fun e => by
          rcases hb with q | q
          · exact HNC.out g7 q e
          · omega)
        clear ho hg hb CC6 BL6 HRW6 A6 b7
        go_wp2_with fail
        go_roundw
        case rel =>
          refine ⟨j + 1, some ⟨g7, 0, none⟩, cap7, rfl, by omega, ?_, CC7.out, BL7.out, fun b hb => ?_⟩
          · rw [List.take_add_one, hx', Option.toList_some, fdsV_put, hLX]; exact OW7.out
          · have e : g7 = b := by simpa [Value.ownBlock] using hb
            subst e; exact G7.out
        case measure => simp [slen]; omega
      · have HEJ : Hid ((finds (r, u)).length = j) := Lib.hid (by omega)
        have HCH0 : Hid (Chn wr cc 1000 [] true) := Lib.hid (by have h := HCH.out; rwa [← HEJ.out, List.drop_length, List.map_nil] at h)
        have HRW0 : Hid (wr.ownsRow w.heap.size 65 51 (.slice A j cp) j (fdsV n (finds (r, u)))) := Lib.hid (by have h := HRW.out; rwa [← HEJ.out, List.take_length, HEJ.out] at h)
        clear HCH HRW hjl hj FL CH
        refine ch.Rw.shutL (c := cc) (z := .agg (V zero51).toArray) true rfl rfl (by kernel_rfl) HCH0.out ?_
        simp only [Go.Conc.got, if_true]
        refine ch.Rw.plain (w' := wr) (v := .bool false) rfl rfl (by kernel_rfl) ?_
        refine ch.Rw.nil ?_
        simp only [Exit.then]
        have hL : r.length = n := L1.out
        by_cases hl : j ≤ 120
        · go_wp2_with fail
          go_ret2
          exact ⟨HBL.out, .inl ⟨HQ.out, by rw [HEJ.out]; exact hl, A, cp, by (rw [HEJ.out] <;> rfl), by rw [hL, HEJ.out]; exact HRW0.out⟩⟩
        · go_wp2_with fail
          go_ret2
          exact ⟨HBL.out, .inr ⟨.inr (by rw [HEJ.out]; omega), rfl⟩⟩
end Go.Proofs.Ytgcnemkhppkkcaa.orb

namespace Go.Proofs.Ytgcnemkhppkkcaa.orb
open Go.ChangeShapes Go.WideShapes Go.ChangeAt Go.RowKit
open mem ints arr pm sf gl
set_option linter.unusedVariables false
set_option maxRecDepth 100000
theorem idx_yes {r u : List Int} (h : transB r u = true) (hl : (finds (r, u)).length ≤ 120) : idxF r u = ((finds (r, u)).length : Int) := by
  rcases finds_orb (r, u) with ⟨a, b⟩ | ⟨a, q, b, c⟩
  · omega
  · have e : q.1.length = (finds (r, u)).length := by rw [c.fst]; simp
    obtain ⟨x, y⟩ := orbL_some (show orbF r u = some q by rw [orbF_yes h]; exact b)
    unfold idxF
    rw [if_pos y, x, e]
theorem idx_no {r u : List Int} (h : transB r u = false ∨ 120 < (finds (r, u)).length) : idxF r u = -1 := by
  have h0 : orbF r u = none := by
    rcases h with h | h
    · exact orbF_no h
    · rcases finds_orb (r, u) with ⟨a, b⟩ | ⟨a, q, b, c⟩
      · cases ht : transB r u
        · exact orbF_no ht
        · rw [orbF_yes ht]; exact b
      · omega
  unfold idxF
  rw [(orbL_none h0).2]
  rfl
set_option maxHeartbeats 1000000 in
theorem idx_impl (v : Value) (r u : List Int) (hi : Nat) (w : World) (hx : Srd w hi v r u) (hn : r.length ≤ 1048576) (hm : u.length ≤ 1048576) :
    Calls sqp.prog 10 #[v] w fun e w' => e = .returned (.int .i64 (idxF r u)) ∧ Below w.heap.size w w' := by
  have HX := Lib.hid hx
  obtain ⟨P, n, c, Q, m, d, rfl, q1, q2, e1, e2, ht, HR⟩ := hx.open
  clear hx q1 q2 HR
  have YES : Hid (transB r u = true → (finds (r, u)).length ≤ 120 → idxF r u = ((finds (r, u)).length : Int)) := Lib.hid idx_yes
  have NO : Hid (transB r u = false ∨ 120 < (finds (r, u)).length → idxF r u = -1) := Lib.hid idx_no
  go_enter sqp.func10, sqp.ntmps10
  go_wp2_with fail
  refine (orbitOf_any _ r u hi _ (HX.out.keep ((Below.refl hi w).alloc ht _) (Nat.le_refl _)) hn hm).mono ?_
  rintro e w1 ⟨b1, h⟩
  have B1 := Lib.hid (below1 _ _ b1); clear b1
  rcases h with ⟨h1, h2, A, cp, rfl, h3⟩ | ⟨h1, rfl⟩
  · have HI := Lib.hid (YES.out h1 h2)
    clear h3 YES NO h1 h2
    generalize (finds (r, u)).length = k at *
    go_wp2_with fail
    go_ret
    exact ⟨ret_int HI.out.symm, B1.out⟩
  · have HI := Lib.hid (NO.out h1)
    clear YES NO h1
    go_wp2_with fail
    go_ret
    exact ⟨ret_int HI.out.symm, B1.out⟩
end Go.Proofs.Ytgcnemkhppkkcaa.orb

namespace Go.Proofs.Ytgcnemkhppkkcaa.orb
open Go.ChangeShapes Go.WideShapes Go.ChangeAt Go.RowKit Go.Maps
open mem ints arr pm sf gl
set_option linter.unusedVariables false
set_option maxRecDepth 100000
theorem fdsV_at {n : Nat} {xs : List Fd} {k : Nat} {x : Fd} (hx : xs[k]? = some x) : ∀ (j : Nat) v, (V (fdL x.1 n x.2.1 x.2.2))[j]? = some v → (fdsV n xs)[k * 51 + j]? = some v := by
  induction xs generalizing k with
  | nil => simp at hx
  | cons y ys ih =>
    intro j v hj
    have hl : j < 51 := by have := (List.getElem?_eq_some_iff.1 hj).1; rwa [V_len, fdL_len] at this
    have e : fdsV n (y :: ys) = V (fdL y.1 n y.2.1 y.2.2) ++ fdsV n ys := rfl
    have ly : (V (fdL y.1 n y.2.1 y.2.2)).length = 51 := by rw [V_len, fdL_len]
    rw [e]
    cases k with
    | zero =>
      obtain rfl : y = x := by simpa using hx
      rw [List.getElem?_append_left (by omega), Nat.zero_mul, Nat.zero_add]
      exact hj
    | succ k =>
      rw [List.getElem?_append_right (by rw [ly]; omega), ly, show (k + 1) * 51 + j - 51 = k * 51 + j by omega]
      exact ih (by simpa using hx) j v hj
theorem fds_mem {w : World} {B n : Nat} {xs : List Fd} {A : Option Addr} {cp m : Nat} (h : w.ownsRow B 65 51 (.slice A m cp) m (fdsV n xs)) (hm : m = xs.length) (h0 : 0 < m) :
    ∃ g, A = some ⟨g, 0, none⟩ ∧ g < w.heap.size ∧ ∀ (k : Nat) x, xs[k]? = some x → ∀ (j : Nat) v, (V (fdL x.1 n x.2.1 x.2.2))[j]? = some v → w.cell? ⟨g, k * 51 + j, none⟩ = some v := by
  subst hm
  rcases h.2 with ⟨_, q⟩ | ⟨g, cap, cur, q1, q2, q3, q4, q5, q6, q7⟩
  · omega
  · injection q1 with e1 e2 e3
    refine ⟨g, e1, ?_, fun k x hx j v hj => ?_⟩
    · rcases Nat.lt_or_ge g w.heap.size with hlt | hge
      · exact hlt
      · rw [Array.getElem?_eq_none hge] at q3; cases q3
    have h1 := fdsV_at (n := n) hx j v hj
    rw [cell_of_row w g _ cur _ _ q3]
    have h2 : (List.take (xs.length * 51) cur.toList)[k * 51 + j]? = some v := by rw [q7]; exact h1
    rw [List.getElem?_take] at h2
    split at h2
    · simpa using h2
    · cases h2
theorem fin_open {r u : List Int} (h : transB r u = true) (hl : (finds (r, u)).length ≤ 120) :
    ∃ q, orbF r u = some q ∧ Fq (finds (r, u)) q ∧ orbL r u = (finds (r, u)).map Prod.fst ∧ orbB r u = true ∧ Oi r.length q ∧ ∀ x ∈ finds (r, u), Sf r.length x.1.1 x.1.2 := by
  rcases finds_orb (r, u) with ⟨a, b⟩ | ⟨a, q, b, c⟩
  · omega
  · have e : orbF r u = some q := by rw [orbF_yes h]; exact b
    obtain ⟨x, y⟩ := orbL_some e
    obtain ⟨z1, z2, z3⟩ := orbF_inv e
    refine ⟨q, e, c, by rw [x, c.fst], y, z2, fun f hf => z2.sf f.1 (by rw [c.fst]; exact List.mem_map_of_mem hf)⟩
theorem fin_shut {r u : List Int} (h : transB r u = false ∨ 120 < (finds (r, u)).length) : orbF r u = none := by
  rcases h with h | h
  · exact orbF_no h
  · rcases finds_orb (r, u) with ⟨a, b⟩ | ⟨a, q, b, c⟩
    · cases ht : transB r u
      · exact orbF_no ht
      · rw [orbF_yes ht]; exact b
    · omega
theorem frun_ge : ∀ (f k : Nat) (xs : List Fd), xs.length ≤ (frun f k xs).length
  | 0, _, xs => Nat.le_refl _
  | f + 1, k, xs => by
    rw [frun]
    split
    · exact Nat.le_trans (twoF_len k xs).1 (frun_ge f (k + 1) (twoF k xs))
    · exact Nat.le_refl _
theorem finds_pos (s : Sur) : 0 < (finds s).length := Nat.lt_of_lt_of_le (by simp) (frun_ge 122 0 [(cn s, 0, 0)])
end Go.Proofs.Ytgcnemkhppkkcaa.orb
