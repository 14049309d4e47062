import Derived.Test.YtgcnemkhppkkcaaZ04
import Derived.Test.YtgcnemkhppkkcaaZ10
import Derived.DeepKeys5
import Derived.Maps.Own
import Derived.Maps.OwnSet
import Derived.Maps.OwnOps
import Derived.Test.YtgcnemkhppkkcaaZ15
namespace Go.Proofs.Ytgcnemkhppkkcaa.gl
open Go.ChangeShapes Go.WideShapes Go.ChangeAt Go.RowKit Go.Maps
open mem ints pm
set_option linter.unusedVariables false
set_option maxRecDepth 100000
theorem laidOut : laidOutB sqp.prog = true := by kernel_rfl
theorem rowG : (62 : TypeId) < sqp.prog.types.size := of_decide_eq_true (by kernel_rfl)
theorem fewT : sqp.prog.types.size + 2 ≤ 10000 := of_decide_eq_true (by kernel_rfl)
theorem keyG : sqp.prog.keyType 62 = true := by kernel_rfl
theorem wideG : (match sqp.prog.underlying 62 with | some (.array _ _) | some (.struct _) => true | _ => false) = true := by kernel_rfl
theorem lawG : Keyed sqp.prog 62 := Keyed.of_law (deep_law_gate laidOut fewT rowG keyG wideG)
def lits (l : List Int) : List Lit := l.map fun a => .int .i64 a
def Wf (l : List Int) : Prop := ∀ a ∈ l, (Lit.int .i64 a).wf = true
def kG (l : List Int) : Lit := .string (keyBytes (lits l))
theorem lits_int (d : Nat) (a : Int) (h : (Lit.int .i64 a).wf = true) : sqp.prog.keyLits (d + 1) 3 [.int .i64 a] = some [.int .i64 a] := by
  unfold Program.keyLits
  rw [sqp.underlying3]
  simp [h]
theorem mapM_range {α : Type} {f : Nat → Option (List α)} : ∀ (n : Nat) (l : List α), l.length = n → (∀ i (h : i < l.length), f i = some [l[i]]) → ((List.range n).mapM f).map List.flatten = some l := by
  intro n
  induction n with
  | zero => intro l h _; obtain rfl := List.eq_nil_of_length_eq_zero h; simp
  | succ n ih =>
    intro l h hf
    have h2 := ih (l.take n) (by simp; omega) (fun i hi => by
      have hi' : i < n := by simpa [h] using hi
      rw [hf i (by omega)]; simp)
    rw [List.range_succ, List.mapM_append]
    obtain ⟨xs, e1, e2⟩ := Option.map_eq_some_iff.1 h2
    rw [e1]
    have e3 := hf n (by omega)
    simp [e3, e2]
    exact List.take_of_length_le (by omega)
theorem lits_perm (d : Nat) (l : List Int) (hl : l.length = 24) (h : Wf l) : sqp.prog.keyLits (d + 2) 60 (V l) = some (lits l) := by
  have hc : sqp.prog.cellsOf 60 = 24 := by kernel_rfl
  have hi : sqp.prog.cellsOf 3 = 1 := by kernel_rfl
  unfold Program.keyLits
  rw [sqp.underlying60]
  simp only [hc, hi, V_len, hl, if_true, Nat.mul_one]
  refine mapM_range 24 (lits l) (by simp [lits, hl]) (fun i hi2 => ?_)
  have hi3 : i < l.length := by simpa [lits] using hi2
  have e : ((V l).drop i).take 1 = [.int .i64 l[i]] := by
    rw [List.take_one, List.head?_drop]
    simp [V, hi3]
  rw [e, lits_int d _ (h _ (List.getElem_mem hi3))]
  simp [lits]
theorem lits_gl (d : Nat) (p q : List Int) (n : Nat) (hp : p.length = 24) (hq : q.length = 24) (h1 : Wf p) (h2 : Wf q) (h3 : n ≤ 1048576) :
    sqp.prog.keyLits (d + 3) 62 (V (gl p q n)) = some (lits (gl p q n)) := by
  have hc : sqp.prog.cellsOf 62 = 49 := by kernel_rfl
  have hc2 : sqp.prog.cellsOf 60 = 24 := by kernel_rfl
  have hi : sqp.prog.cellsOf 3 = 1 := by kernel_rfl
  have e1 : (V (gl p q n)).take 24 = V p := by simp [V, gl, ← hp]
  have e2 : ((V (gl p q n)).drop 24).take 24 = V q := by simp [V, gl, ← hp, hq]
  have e3 : ((V (gl p q n)).drop 48).take 1 = [.int .i64 (n : Int)] := by
    have e : V (gl p q n) = (V p ++ V q) ++ [.int .i64 (n : Int)] := by simp [V, gl]
    rw [e, List.drop_left' (by simp [V, hp, hq])]; rfl
  have hn : (Lit.int .i64 (n : Int)).wf = true := by simp [Lit.wf, IntKind.min, IntKind.max, IntKind.signed, IntKind.bits]; omega
  unfold Program.keyLits
  rw [sqp.underlying62]
  simp [hc, hc2, hi, V_len, gl_len hp hq, e1, e2, e3, lits_perm d p hp h1, lits_perm d q hq h2, lits_int (d + 1) _ hn]
  simp [lits, gl]
theorem kG_key (p q : List Int) (n : Nat) (hp : p.length = 24) (hq : q.length = 24) (h1 : Wf p) (h2 : Wf q) (h3 : n ≤ 1048576) :
    keyOf sqp.prog 62 (.agg (V (gl p q n)).toArray) = some (kG (gl p q n)) := by
  have hs : sqp.prog.types.size + 1 = (sqp.prog.types.size - 2) + 3 := by have : 2 ≤ sqp.prog.types.size := of_decide_eq_true (by kernel_rfl); omega
  have hf : (Value.agg (V (gl p q n)).toArray).formed sqp.prog 62 = true := by
    have hc : sqp.prog.cellsOf 62 = 49 := by kernel_rfl
    simp [Value.formed, sqp.underlying62, hc, V_len, gl_len hp hq]
  unfold keyOf
  rw [sqp.underlying62]
  simp only [keyG, hf, Bool.and_true, if_true, hs]
  have hv : (Value.agg (V (gl p q n)).toArray).cells.toList = V (gl p q n) := by simp [Value.cells]
  rw [hv, lits_gl _ p q n hp hq h1 h2 h3]
  rfl
theorem kG_inj {p q p' q' : List Int} {n n' : Nat} (hp : p.length = 24) (hq : q.length = 24) (h1 : Wf p) (h2 : Wf q) (h3 : n ≤ 1048576) (hp' : p'.length = 24) (hq' : q'.length = 24) (h1' : Wf p') (h2' : Wf q') (h3' : n' ≤ 1048576)
    (e : kG (gl p q n) = kG (gl p' q' n')) : gl p q n = gl p' q' n' := by
  have a := kG_key p q n hp hq h1 h2 h3
  have b := kG_key p' q' n' hp' hq' h1' h2' h3'
  rw [← e] at b
  have := lawG.inj a b
  injection this with this
  have := congrArg Array.toList this
  have this : V (gl p q n) = V (gl p' q' n') := this
  have h1 := unI_V (gl p q n)
  rw [this, unI_V] at h1
  exact (Option.some.inj h1).symm
end Go.Proofs.Ytgcnemkhppkkcaa.gl

namespace Go.Proofs.Ytgcnemkhppkkcaa.gm
open Go.ChangeShapes Go.WideShapes Go.ChangeAt Go.RowKit Go.Maps
set_option linter.unusedVariables false
set_option maxRecDepth 100000
end Go.Proofs.Ytgcnemkhppkkcaa.gm

namespace Go.Proofs.Ytgcnemkhppkkcaa.orb
open Go.ChangeShapes Go.WideShapes Go.ChangeAt Go.RowKit Go.Maps
open mem ints arr pm sf gl
open Go.Proofs.Ytgcnemkhppkkcaa.ch (Chn)
set_option linter.unusedVariables false
set_option maxRecDepth 100000
section
variable {P : Program}
theorem run_loadVar_part (w : World) (g off : Nat) (ty : TypeId) (cs : List Value) (d : TypeDesc) (hc : ∀ (j : Nat) v, cs[j]? = some v → w.cell? ⟨g, off + j, none⟩ = some v)
    (hu : P.underlying ty = some d) (hd : (match d with | .struct _ | .array _ _ => true | _ => false) = true) (hi : (P.info? ty).map (·.size) = some cs.length) :
    (loadVar ty ⟨g, off, none⟩).run P w = .ok (.agg cs.toArray) w := by
  have hl : (loadCells ⟨g, off, none⟩ cs.length).run P w = .ok cs.toArray w :=
    run_loadCells_list (P := P) w ⟨g, off, none⟩ cs (fun j v hv => by
      have hadd : (⟨g, off, none⟩ : Addr).add j = ⟨g, off + j, none⟩ := by unfold Addr.add; split <;> simp_all
      rw [hadd]
      exact hc j v hv)
  cases hq : P.info? ty with
  | none => simp [hq] at hi
  | some i =>
    have hs : i.size = cs.length := by simpa [hq] using hi
    have hagg : (isAgg ty).run P w = .ok true w := by
      unfold isAgg
      rw [Sem.run_bind, run_underlying hu w]
      cases d <;> simp_all
    simp [loadVar, Sem.run_bind, hagg, sizeOf, typeInfo, hq, hs, hl]
theorem wpList_load_part {ops : Array Oper} {rest : List Oper} {o : Oper} {a : Act} {w : World} {Q : Exit → Act → World → Prop} (hgd : o.guard = none) (ty : TypeId) (x : Operand) (ho : o.op = .load ty x)
    (g off : Nat) (hx : a.eval x = .pointer (some ⟨g, off, none⟩)) (cs : List Value) (d : TypeDesc) (hc : ∀ (j : Nat) v, cs[j]? = some v → w.cell? ⟨g, off + j, none⟩ = some v)
    (hu : P.underlying ty = some d) (hd : (match d with | .struct _ | .array _ _ => true | _ => false) = true) (hi : (P.info? ty).map (·.size) = some cs.length)
    (h : wpList P ops Q rest (a.put o.dst (.agg cs.toArray)) w) : wpList P ops Q (o :: rest) a w := by
  refine wpList_plain hgd fun _ hK => ?_
  unfold Oper.wp execOp
  simp only [ho, hx, Instr.loadAt, Instr.sureAddr, Sem.run_bind, Sem.run_pure, Result.andThen_ok, run_loadVar_part w g off ty cs d hc hu hd hi]
  exact hK _ _ h
theorem wpList_lookup_own_bool {H : Type} (w : World) {ops : Array Oper} {rest : List Oper} {o : Oper} {a : Act} {Q : Exit → Act → World → Prop}
    (hg : o.guard = none) (m x : Operand) (t : TypeId) (hop : o.op = Op.lookup t m x false)
    (k e : TypeId) (K : Keyed P k) (ht : P.underlying t = some (.map k e)) (he : P.underlying e = some .bool) (hz : (zeroValue e).run P w = .ok (.bool false) w) (b n : Nat) (D : DataW H)
    (hm : a.eval m = .map (some b)) (hown : w.ownsMap P k (plainElem P e) b n D) (key : Value) (kl : Lit) (hx : a.eval x = key) (hkey : keyOf P k key = some kl) (c : Bool) (hat : D.atKey kl (.lit (.bool false)) = .lit (.bool c))
    (hK : wpList P ops Q rest (a.put o.dst (.bool c)) w) : wpList P ops Q (o :: rest) a w := by
  refine wpList_plain hg fun K' hK' => ?_
  obtain ⟨v, ps, hrun, hv⟩ := hown.lookup K ht hz (plainElem_bool he false) hkey
  have e1 : v = .bool c := by
    unfold plainElem at hv
    rw [he] at hv
    cases v with
    | bool y =>
      simp only [Option.some.injEq, Prod.mk.injEq] at hv
      rw [hat] at hv
      have := hv.1
      injection this with this
      injection this with this
      rw [this]
    | _ => simp at hv
  subst e1
  unfold Oper.wp
  simp [execOp, hop, hm, hx, hrun, Result.andThen]
  exact hK' _ _ hK
end
structure Kb (D : DataW Unit) (ks : List Lit) : Prop where
  tidy : Tidy D
  yes : ∀ k, k ∈ ks → D.atKey k (.lit (.bool false)) = .lit (.bool true)
  no : ∀ k, k ∉ ks → D.atKey k (.lit (.bool false)) = .lit (.bool false)
theorem Kb.empty : Kb (.map []) [] := ⟨tidy_empty, fun k h => by simp at h, fun k _ => by simp [DataW.atKey]⟩
theorem Kb.put {D : DataW Unit} {ks : List Lit} (h : Kb D ks) {k : Lit} (hk : WideAt.IsKeyLit k) : Kb (D.put k (.lit (.bool true))) (ks ++ [k]) := by
  refine ⟨h.tidy.put hk _, fun j hj => ?_, fun j hj => ?_⟩
  · by_cases e : j = k
    · subst e
      rw [atKey_put_same h.tidy.isMap hk]
    · rw [atKey_put_other e]
      refine h.yes j ?_
      rcases List.mem_append.1 hj with z | z
      · exact z
      · exact absurd (by simpa using z) e
  · have e : j ≠ k := fun e => hj (by simp [e])
    rw [atKey_put_other e]
    exact h.no j fun z => hj (List.mem_append_left _ z)
abbrev Fd := Sur × Nat × Nat
def fdV (n : Nat) (x : Fd) : Value := .agg (V (fdL x.1 n x.2.1 x.2.2)).toArray
def fdK (n : Nat) (x : Fd) : Lit := kG (gS x.1 n)
def fdF (n : Nat) (xs : List Fd) : List Value := xs.flatMap fun x => V (gS x.1 n)
structure Frc (B c : Nat) (w w' : World) : Prop where
  os : w'.os = w.os
  tape : w'.tape = w.tape
  output : w'.output = w.output
  size : w.heap.size ≤ w'.heap.size
  block : ∀ k, k < B → k ≠ c → w'.heap[k]? = w.heap[k]?
theorem Frc.trans {B c : Nat} {u v w : World} (h : Frc B c u v) (k : Frc B c v w) : Frc B c u w := ⟨k.os.trans h.os, k.tape.trans h.tape, k.output.trans h.output, Nat.le_trans h.size k.size, fun i h1 h2 => (k.block i h1 h2).trans (h.block i h1 h2)⟩
theorem Frc.of_below {B c : Nat} {w w' : World} (h : Below B w w') : Frc B c w w' := ⟨h.os, h.tape, h.output, h.size, fun k hk _ => h.block k hk⟩
theorem Frc.of_out {B c : Nat} {w w' : World} (h : Out c (c + 1) w w') (hB : B ≤ w.heap.size) : Frc B c w w' := ⟨h.os, h.tape, h.output, h.size, fun k hk hne => h.block k (by omega) (by omega)⟩
structure Qs (w : World) (B mp fb qb cb c n : Nat) (xs : List Fd) : Prop where
  sf : ∀ x ∈ xs, Sf n x.1.1 x.1.2
  fnd : Arr w fb [.map (some mp)] 89
  map : ∃ D : DataW Unit, w.ownsMap sqp.prog 62 (plainElem sqp.prog 4) mp xs.length D ∧ Kb D (xs.map (fdK n))
  que : ∃ A cp, Arr w qb [.slice A xs.length cp] 90 ∧ w.ownsRow B 62 49 (.slice A xs.length cp) xs.length (fdF n xs) ∧ ∀ b, (Value.slice A xs.length cp).ownBlock = some b → b ≠ fb ∧ b ≠ qb ∧ b ≠ cb ∧ b ≠ mp
  chn : Chn w c 1000 (xs.map (fdV n)) false
  cv : Arr w cb [.chan (some c)] 131
  lo : B ≤ mp ∧ B ≤ fb ∧ B ≤ qb ∧ B ≤ cb ∧ c < B
  ne : fb ≠ qb ∧ fb ≠ cb ∧ qb ≠ cb ∧ mp ≠ fb ∧ mp ≠ qb ∧ mp ≠ cb
end Go.Proofs.Ytgcnemkhppkkcaa.orb

namespace Go.Proofs.Ytgcnemkhppkkcaa.orb
open Go.ChangeShapes Go.WideShapes Go.ChangeAt Go.RowKit Go.Maps
open mem ints arr pm sf gl
open Go.Proofs.Ytgcnemkhppkkcaa.ch (Chn)
set_option linter.unusedVariables false
set_option maxRecDepth 100000
theorem wf_ext {xs : List Int} (h : Ok xs) : Wf (ext xs) := by
  intro a ha
  have h2 := ext_ok h
  have hl := ext_len xs
  obtain ⟨i, hi, e⟩ := List.mem_iff_getElem.1 ha
  have h3 := h2.lo i hi
  have h4 := h2.hi i hi
  have h5 : (ext xs).getD i 0 = a := by rw [List.getD_eq_getElem?_getD, List.getElem?_eq_getElem hi, ← e]; rfl
  rw [h5] at h3 h4
  rw [hl] at h4
  simp [Lit.wf, IntKind.min, IntKind.max, IntKind.signed, IntKind.bits]
  omega
theorem n_le {n : Nat} {s : Sur} (h : Sf n s.1 s.2) : n ≤ 24 := by have := h.r.len; rw [h.lr] at this; exact this
theorem key_fd {n : Nat} {s : Sur} (h : Sf n s.1 s.2) : keyOf sqp.prog 62 (.agg (V (gS s n)).toArray) = some (kG (gS s n)) :=
  kG_key _ _ n (ext_len _) (ext_len _) (wf_ext h.r) (wf_ext h.u) (by have := n_le h; omega)
theorem key_inj {n : Nat} {s t : Sur} (h : Sf n s.1 s.2) (k : Sf n t.1 t.2) (e : kG (gS s n) = kG (gS t n)) : s = t := by
  have hn := n_le h
  have e2 := kG_inj (ext_len _) (ext_len _) (wf_ext h.r) (wf_ext h.u) (by omega) (ext_len _) (ext_len _) (wf_ext k.r) (wf_ext k.u) (by omega) e
  have e3 : (ext s.1 ++ (ext s.2 ++ [(n : Int)])) = (ext t.1 ++ (ext t.2 ++ [(n : Int)])) := by simpa [gl] using e2
  have e4 := List.append_inj e3 (by rw [ext_len, ext_len])
  have e5 := List.append_inj e4.2 (by rw [ext_len, ext_len])
  exact Prod.ext (ext_inj (by rw [h.lr, k.lr]) (by rw [h.lr]; exact hn) e4.1) (ext_inj (by rw [h.lu, k.lu]) (by rw [h.lu]; exact hn) e5.1)
section
variable {P : Program}
theorem wpList_load_one {ops : Array Oper} {rest : List Oper} {o : Oper} {a : Act} {w : World} {Q : Exit → Act → World → Prop} (hgd : o.guard = none) (ty : TypeId) (x : Operand) (ho : o.op = .load ty x)
    (g : Nat) (hx : a.eval x = .pointer (some ⟨g, 0, none⟩)) (v : Value) (t : TypeId) (d : TypeDesc) (hc : Arr w g [v] t)
    (hu : P.underlying ty = some d) (hd : (match d with | .struct _ | .array _ _ => true | _ => false) = false)
    (h : wpList P ops Q rest (a.put o.dst v) w) : wpList P ops Q (o :: rest) a w := by
  refine wpList_plain hgd fun _ hK => ?_
  have hl : (loadVar ty ⟨g, 0, none⟩).run P w = .ok v w := by
    have hagg : (isAgg ty).run P w = .ok false w := by
      unfold isAgg
      rw [Sem.run_bind, run_underlying hu w]
      cases d <;> simp_all
    have hcell : w.cell? ⟨g, 0, none⟩ = some v := hc.cell (k := 0) rfl
    simp [loadVar, Sem.run_bind, hagg, hcell]
  unfold Oper.wp execOp
  simp only [ho, hx, Instr.loadAt, Instr.sureAddr, Sem.run_bind, Sem.run_pure, Result.andThen_ok, hl]
  exact hK _ _ h
end
theorem Qs.keep {w w' : World} {B mp fb qb cb c n : Nat} {xs : List Fd} (h : Qs w B mp fb qb cb c n xs) (hg : Below w.heap.size w w') : Qs w' B mp fb qb cb c n xs := by
  obtain ⟨D, hD, hK⟩ := h.map
  obtain ⟨A, cp, q1, q2, q3⟩ := h.que
  refine ⟨h.sf, h.fnd.keep hg h.fnd.lt, ⟨D, hD.kept (row := none) ⟨hg.os, hg.tape, hg.output, hg.size, fun k hk _ => hg.block k hk⟩ (by simp), hK⟩, ⟨A, cp, q1.keep hg q1.lt, own_block_keep q2 (fun b hb => hg.block b (World.ownsRow.lt q2 b hb).2), q3⟩, h.chn.keep hg h.chn.lt, h.cv.keep hg h.cv.lt, h.lo, h.ne⟩
theorem fdF_put (n : Nat) (xs : List Fd) (x : Fd) : fdF n (xs ++ [x]) = fdF n xs ++ V (gS x.1 n) := by simp [fdF]
theorem part_find (s : Sur) (n p l : Nat) : ∀ (j : Nat) v, (V (gS s n))[j]? = some v → (V (fdL s n p l))[j]? = some v := by
  intro j v h
  have hj : j < (V (gS s n)).length := (List.getElem?_eq_some_iff.1 h).1
  rw [V_len] at hj
  simp only [fdL, V, List.map_append]
  rw [List.getElem?_append_left (by simpa using hj)]
  exact h
theorem mem_keys {n : Nat} {s : Sur} {xs : List Fd} (hs : Sf n s.1 s.2) (hx : ∀ x ∈ xs, Sf n x.1.1 x.1.2) : kG (gS s n) ∈ xs.map (fdK n) ↔ s ∈ xs.map Prod.fst := by
  constructor
  · intro h
    obtain ⟨x, h1, h2⟩ := List.mem_map.1 h
    exact List.mem_map.2 ⟨x, h1, key_inj (hx x h1) hs h2⟩
  · intro h
    obtain ⟨x, h1, rfl⟩ := List.mem_map.1 h
    exact List.mem_map.2 ⟨x, h1, rfl⟩
structure Qz (w : World) (B mp fb qb cb c n : Nat) (xm xq xc : List Fd) (v : Value) : Prop where
  fnd : Arr w fb [.map (some mp)] 89
  map : ∃ D : DataW Unit, w.ownsMap sqp.prog 62 (plainElem sqp.prog 4) mp xm.length D ∧ Kb D (xm.map (fdK n))
  que : Arr w qb [v] 90
  row : w.ownsRow B 62 49 v xq.length (fdF n xq)
  frm : ∃ A cp, v = .slice A xq.length cp
  far : ∀ b, v.ownBlock = some b → b ≠ fb ∧ b ≠ qb ∧ b ≠ cb ∧ b ≠ mp
  chn : Chn w c 1000 (xc.map (fdV n)) false
  cv : Arr w cb [.chan (some c)] 131
  lo : B ≤ mp ∧ B ≤ fb ∧ B ≤ qb ∧ B ≤ cb ∧ c < B
  ne : fb ≠ qb ∧ fb ≠ cb ∧ qb ≠ cb ∧ mp ≠ fb ∧ mp ≠ qb ∧ mp ≠ cb
theorem Qs.open_ {w : World} {B mp fb qb cb c n : Nat} {xs : List Fd} (h : Qs w B mp fb qb cb c n xs) : ∃ v, Qz w B mp fb qb cb c n xs xs xs v := by
  obtain ⟨A, cp, q1, q2, q3⟩ := h.que
  exact ⟨_, h.fnd, h.map, q1, q2, ⟨A, cp, rfl⟩, q3, h.chn, h.cv, h.lo, h.ne⟩
theorem Qz.close_ {w : World} {B mp fb qb cb c n : Nat} {xs : List Fd} {v : Value} (h : Qz w B mp fb qb cb c n xs xs xs v) (hs : ∀ x ∈ xs, Sf n x.1.1 x.1.2) : Qs w B mp fb qb cb c n xs := by
  obtain ⟨A, cp, rfl⟩ := h.frm
  exact ⟨hs, h.fnd, h.map, ⟨A, cp, h.que, h.row, h.far⟩, h.chn, h.cv, h.lo, h.ne⟩
theorem Qz.mpl {w : World} {B mp fb qb cb c n : Nat} {xm xq xc : List Fd} {v : Value} (h : Qz w B mp fb qb cb c n xm xq xc v) : mp < w.heap.size := by
  obtain ⟨D, hD, _⟩ := h.map
  exact hD.lt
theorem Qz.keep {w w' : World} {B mp fb qb cb c n : Nat} {xm xq xc : List Fd} {v : Value} (h : Qz w B mp fb qb cb c n xm xq xc v) (hg : Below w.heap.size w w') : Qz w' B mp fb qb cb c n xm xq xc v := by
  obtain ⟨D, hD, hK⟩ := h.map
  exact ⟨h.fnd.keep hg h.fnd.lt, ⟨D, hD.kept (row := none) ⟨hg.os, hg.tape, hg.output, hg.size, fun k hk _ => hg.block k hk⟩ (by simp), hK⟩, h.que.keep hg h.que.lt, own_block_keep h.row (fun b hb => hg.block b (World.ownsRow.lt h.row b hb).2), h.frm, h.far, h.chn.keep hg h.chn.lt, h.cv.keep hg h.cv.lt, h.lo, h.ne⟩
theorem arr_grown {w w' : World} {row : Option Nat} {g : Nat} {cs : List Value} {t : TypeId} (h : Arr w g cs t) (hg : w.grownBy w' row) (hne : some g ≠ row) : Arr w' g cs t := (hg.block g h.lt hne).trans h
theorem chn_grown {w w' : World} {row : Option Nat} {c cap : Nat} {vs : List Value} {cl : Bool} (h : Chn w c cap vs cl) (hg : w.grownBy w' row) (hne : some c ≠ row) : Chn w' c cap vs cl := by
  have e := hg.block c h.lt hne
  obtain ⟨a, b, q⟩ := h
  exact ⟨a, b, e.trans q⟩
theorem Qz.put {w w' : World} {B mp fb qb cb c n : Nat} {xm xq xc : List Fd} {v : Value} (h : Qz w B mp fb qb cb c n xm xq xc v) (x : Fd) {D : DataW Unit} (hK : Kb D (xm.map (fdK n)))
    (ho : w'.ownsMap sqp.prog 62 (plainElem sqp.prog 4) mp (xm.length + 1) (D.put (fdK n x) (.lit (.bool true)))) (hg : w.grownBy w' (some mp)) : Qz w' B mp fb qb cb c n (xm ++ [x]) xq xc v := by
  have hlo := h.lo
  have hne := h.ne
  exact ⟨arr_grown h.fnd hg (by simp; omega), ⟨_, by rw [List.length_append]; exact ho, by rw [List.map_append]; exact hK.put trivial⟩, arr_grown h.que hg (by simp; omega), own_block_keep h.row (fun b hb => hg.block b (World.ownsRow.lt h.row b hb).2 (by have := (h.far b hb).2.2.2; simp; omega)), h.frm, h.far, chn_grown h.chn hg (by simp; omega), arr_grown h.cv hg (by simp; omega), h.lo, h.ne⟩
theorem Qz.push {w w' : World} {B mp fb qb cb c n : Nat} {xm xq xc : List Fd} {v : Value} (h : Qz w B mp fb qb cb c n xm xq xc v) (x : Fd) {g cp : Nat}
    (ho : w'.ownsRow B 62 49 (.slice (some ⟨g, 0, none⟩) (xq.length + 1) cp) (xq.length + 1) (fdF n xq ++ V (gS x.1 n))) (hg : w.grownBy w' v.ownBlock) (hat : v.ownBlock = some g ∨ g = w.heap.size) :
    Qz (w'.setRow qb #[.slice (some ⟨g, 0, none⟩) (xq.length + 1) cp]) B mp fb qb cb c n xm (xq ++ [x]) xc (.slice (some ⟨g, 0, none⟩) (xq.length + 1) cp) := by
  obtain ⟨D, hD, hK⟩ := h.map
  have l1 := h.fnd.lt
  have l2 := h.que.lt
  have l3 := h.cv.lt
  have l4 := hD.lt
  have hgn : g ≠ fb ∧ g ≠ qb ∧ g ≠ cb ∧ g ≠ mp := by
    rcases hat with e | e
    · exact h.far g e
    · subst e; omega
  have hlo := h.lo
  have hne := h.ne
  have nf : ∀ k, v.ownBlock = some k → B ≤ k := fun k hk => (World.ownsRow.lt h.row k hk).1
  have M : w'.ownsMap sqp.prog 62 (plainElem sqp.prog 4) mp xm.length D := hD.kept hg (fun e => (h.far mp e.symm).2.2.2 rfl)
  have Q : Arr w' qb [v] 90 := arr_grown h.que hg (fun e => (h.far qb e.symm).2.1 rfl)
  have C : Chn w' c 1000 (xc.map (fdV n)) false := chn_grown h.chn hg (fun e => by have := nf c e.symm; omega)
  refine ⟨(arr_grown h.fnd hg (fun e => (h.far fb e.symm).1 rfl)).rowOther hne.1, ⟨D, ?_, hK⟩, Q.row (cs' := [_]), ?_, ⟨_, cp, by rw [List.length_append]; rfl⟩, fun b hb => ?_, ?_, (arr_grown h.cv hg (fun e => (h.far cb e.symm).2.2.1 rfl)).rowOther (by omega), h.lo, h.ne⟩
  · obtain ⟨es, cl, e1, e2⟩ := M
    exact ⟨es, cl, (setRow_other _ _ _ _ (by omega)).trans e1, e2⟩
  · rw [List.length_append, fdF_put]
    exact own_block_keep ho (fun b hb => setRow_other _ _ _ _ (by have e : g = b := by simpa [Value.ownBlock] using hb
                                                                  omega))
  · have e : g = b := by simpa [Value.ownBlock] using hb
    subst e; exact hgn
  · obtain ⟨a, b, e⟩ := C
    exact ⟨a, b, (setRow_other _ _ _ _ (by omega)).trans e⟩
theorem Qz.sent {w w' : World} {B mp fb qb cb c n : Nat} {xm xq xc : List Fd} {v : Value} (h : Qz w B mp fb qb cb c n xm xq xc v) (x : Fd) (hc : Chn w' c 1000 (xc.map (fdV n) ++ [fdV n x]) false) (ho : Out c (c + 1) w w') :
    Qz w' B mp fb qb cb c n xm xq (xc ++ [x]) v := by
  obtain ⟨D, hD, hK⟩ := h.map
  have hlo := h.lo
  have l1 := h.fnd.lt
  have l2 := h.que.lt
  have l3 := h.cv.lt
  have l4 := hD.lt
  have bk : ∀ k, B ≤ k → k < w.heap.size → w'.heap[k]? = w.heap[k]? := fun k h1 h2 => ho.block k h2 (by omega)
  refine ⟨(bk fb (by omega) l1).trans h.fnd, ⟨D, ?_, hK⟩, (bk qb (by omega) l2).trans h.que, own_block_keep h.row (fun b hb => bk b (World.ownsRow.lt h.row b hb).1 (World.ownsRow.lt h.row b hb).2), h.frm, h.far, by rw [List.map_append]; exact hc, (bk cb (by omega) l3).trans h.cv, h.lo, h.ne⟩
  obtain ⟨es, cl, e1, e2⟩ := hD
  exact ⟨es, cl, (bk mp (by omega) l4).trans e1, e2⟩
theorem Frc.of_grown {B c : Nat} {w w' : World} {row : Option Nat} (h : w.grownBy w' row) (hr : ∀ b, row = some b → B ≤ b) (hB : B ≤ w.heap.size) : Frc B c w w' :=
  ⟨h.os, h.tape, h.output, h.size, fun k h1 _ => h.block k (by omega) (fun e => by have := hr k e.symm; omega)⟩
theorem Frc.of_row {B c : Nat} (w : World) {g : Nat} (hg : B ≤ g) (cs : Array Value) : Frc B c w (w.setRow g cs) := Frc.of_below (below_setRow (Below.refl B w) hg cs)
theorem size51 {L : List Int} (h : L.length = 51) : (sqp.prog.info? 65).map (·.size) = some (V L).toArray.size := by
  obtain ⟨i, hi, hz, hs, hb⟩ := info_parts infoFd
  rw [hi]
  simp [hs, V_len, h]
set_option maxHeartbeats 800000 in
theorem meet_any (B mp fb qb cb c n : Nat) (xs : List Fd) (s : Sur) (p l : Nat) (w : World) (hq : Qs w B mp fb qb cb c n xs) (hs : Sf n s.1 s.2) (hx : xs.length < 900) (hB : B ≤ w.heap.size) :
    Calls sqp.prog 94 #[.agg (V (fdL s n p l)).toArray, .pointer (some ⟨fb, 0, none⟩), .pointer (some ⟨qb, 0, none⟩), .pointer (some ⟨cb, 0, none⟩)] w fun e w' =>
      e = .returned (.tuple #[]) ∧ Qs w' B mp fb qb cb c n (if s ∈ xs.map Prod.fst then xs else xs ++ [(s, p, l)]) ∧ Frc B c w w' := by
  have HS : Hid (Sf n s.1 s.2) := Lib.hid hs
  have HX : Hid (xs.length < 900) := Lib.hid hx; clear hx
  have MK : Hid (kG (gS s n) ∈ xs.map (fdK n) ↔ s ∈ xs.map Prod.fst) := Lib.hid (mem_keys hs hq.sf)
  have KF : Hid (keyOf sqp.prog 62 (.agg (V (gS s n)).toArray) = some (kG (gS s n))) := Lib.hid (key_fd hs)
  clear hs
  have L51 := fdL_len s n p l
  have L49 := gS_len s n
  have PF : Hid (∀ (j : Nat) v, (V (gS s n))[j]? = some v → (V (fdL s n p l))[j]? = some v) := Lib.hid (part_find s n p l)
  have HQ := Lib.hid hq; clear hq
  generalize hZ : (if s ∈ xs.map Prod.fst then xs else xs ++ [(s, p, l)]) = Z
  have ZX := Lib.hid hZ; clear hZ
  go_enter sqp.func94, sqp.ntmps94
  simp only [sq.mapC, sq.seqO, List.map_toArray, List.map_cons, List.map_nil]
  have b1 : Below w.heap.size w (w.alloc (.cells (V (fdL s n p l)).toArray 65)) := (Below.refl _ _).alloc (Nat.le_refl _) _
  have Q1 : Hid (Qs (w.alloc (.cells (V (fdL s n p l)).toArray 65)) B mp fb qb cb c n xs) := Lib.hid (HQ.out.keep b1)
  have F1 : Hid (Frc B c w (w.alloc (.cells (V (fdL s n p l)).toArray 65))) := Lib.hid (Frc.of_below (b1.mono hB))
  have X1 : Hid (Arr (w.alloc (.cells (V (fdL s n p l)).toArray 65)) w.heap.size (V (fdL s n p l)) 65) := Lib.hid (Arr.new w _ _ rfl)
  have PX : Hid (∀ (j : Nat) v, (V (gS s n))[j]? = some v → (w.alloc (.cells (V (fdL s n p l)).toArray 65)).cell? ⟨w.heap.size, 0 + j, none⟩ = some v) := Lib.hid (fun j v h => by rw [Nat.zero_add]; exact X1.out.cell (PF.out j v h))
  obtain ⟨v0, hz0⟩ := HQ.out.open_
  have SF := HQ.out.sf
  have Z1 : Hid (Qz (w.alloc (.cells (V (fdL s n p l)).toArray 65)) B mp fb qb cb c n xs xs xs v0) := Lib.hid (hz0.keep b1)
  have W0 : Hid (∀ b, v0.ownBlock = some b → b < w.heap.size) := Lib.hid (fun b hb => (World.ownsRow.lt hz0.row b hb).2)
  have hlm := hz0.mpl
  have hlq := hz0.que.lt
  have hlo := hz0.lo
  have hs1 : (w.alloc (.cells (V (fdL s n p l)).toArray 65)).heap.size = w.heap.size + 1 := by simp
  have PR : Hid (∀ W, Arr W w.heap.size (V (fdL s n p l)) 65 → ∀ (j : Nat) v, (V (gS s n))[j]? = some v → W.cell? ⟨w.heap.size, 0 + j, none⟩ = some v) := Lib.hid (fun W hW j v h => by rw [Nat.zero_add]; exact hW.cell (PF.out j v h))
  clear HQ b1 hz0
  by_cases hm : s ∈ xs.map Prod.fst
  · have HM := Lib.hid hm
    obtain ⟨D, hD, hKb⟩ := Q1.out.map
    have HD := Lib.hid hD
    have HT : Hid (D.atKey (kG (gS s n)) (.lit (.bool false)) = .lit (.bool true)) := Lib.hid (hKb.yes _ (MK.out.2 hm))
    clear hD hKb hm
    go_wp2_with (first | (refine wpList_load_one rfl 89 _ rfl fb rfl _ _ _ Q1.out.fnd sqp.underlying89 rfl ?_) | (refine wpList_load_part rfl 62 _ rfl w.heap.size 0 rfl (V (gS s n)) _ PX.out sqp.underlying62 rfl (size49 L49) ?_) | (refine wpList_lookup_own_bool _ rfl _ _ 89 rfl 62 4 lawG sqp.underlying89 sqp.underlying4 (by kernel_rfl) mp _ D rfl HD.out _ _ rfl KF.out true HT.out ?_) | fail)
    go_end0
    exact ⟨rfl, by rw [← ZX.out, if_pos HM.out]; exact Q1.out, F1.out⟩
  · have HM := Lib.hid hm
    obtain ⟨D, hD, hKb⟩ := Z1.out.map
    have HD := Lib.hid hD
    have HK := Lib.hid hKb
    have HT : Hid (D.atKey (kG (gS s n)) (.lit (.bool false)) = .lit (.bool false)) := Lib.hid (hKb.no _ (fun e => hm (MK.out.1 e)))
    have IK : Hid (WideAt.IsKeyLit (kG (gS s n))) := Lib.hid trivial
    clear hD hKb hm
    have hx9 := HX.out
    obtain ⟨i0, hi0, hz0, hz1, hz2⟩ := info_parts infoGl
    go_wp2_with (first | (refine wpList_load_one rfl 89 _ rfl fb rfl _ _ _ Q1.out.fnd sqp.underlying89 rfl ?_) | (refine wpList_load_part rfl 62 _ rfl w.heap.size 0 rfl (V (gS s n)) _ PX.out sqp.underlying62 rfl (size49 L49) ?_) | (refine wpList_lookup_own_bool _ rfl _ _ 89 rfl 62 4 lawG sqp.underlying89 sqp.underlying4 (by kernel_rfl) mp _ D rfl HD.out _ _ rfl KF.out false HT.out ?_) | (at_mapUpdate; refine wpList_mapUpdate_own _ rfl _ _ _ 89 rfl 62 4 lawG sqp.underlying89 (plainElem sqp.prog 4) mp xs.length D rfl HD.out (by unfold maxLen; omega) _ _ (kG (gS s n)) rfl rfl KF.out (.lit (.bool true)) [] (plainElem_bool sqp.underlying4 true) ?_; intro w2 hown2 hgrow2; have X2 : Hid (Arr w2 w.heap.size (V (fdL s n p l)) 65) := Lib.hid (arr_grown X1.out hgrow2 (by simp; omega)); have Z2 : Hid (Qz w2 B mp fb qb cb c n (xs ++ [(s, p, l)]) xs xs v0) := Lib.hid (Z1.out.put (s, p, l) HK.out hown2 hgrow2); have F2 : Hid (Frc B c w w2) := Lib.hid (F1.out.trans ⟨hgrow2.os, hgrow2.tape, hgrow2.output, hgrow2.size, fun k h1 _ => hgrow2.block k (by omega) (by simp; omega)⟩); have P2 := Lib.hid (PR.out w2 X2.out); have hs2 := hgrow2.size; clear hown2 hgrow2) | (refine wpList_load_one rfl 90 _ rfl qb rfl _ _ _ Z2.out.que sqp.underlying90 rfl ?_) | (refine wpList_load_part rfl 62 _ rfl w.heap.size 0 rfl (V (gS s n)) _ P2.out sqp.underlying62 rfl (size49 L49) ?_) | (refine wpList_bs_gl rfl _ rfl (gS s n) L49 rfl ?_) | (at_builtin; refine wpList_append_lies (w2.alloc (.cells (V (gS s n)).toArray 62)) rfl _ _ 90 rfl B 62 i0 _ 49 392 sqp.underlying90 hi0 hz0 hz1 hz2 rfl (by decide) v0 xs.length (fdF n xs) rfl (Z2.out.row.alloc _) ⟨w2.heap.size, 0, none⟩ 1 1 (V (gS s n)) rfl (by simp [V_len, L49]) ?hn ?h1 (by decide) ?c4 ?c5 ?c6 _ rfl ?_) | fail)
    case h1 => intro q hq; obtain ⟨z, _, rfl⟩ := List.mem_map.1 hq; rfl
    case c4 => unfold maxLen; omega
    case c5 => omega
    case c6 => first | omega | (simp; omega)
    intro g7 cap7 w7 ho hg hb hlt7
    have Z3 := Z2.out.keep ((Below.refl w2.heap.size w2).alloc (Nat.le_refl _) (.cells (V (gS s n)).toArray 62))
    have Z4 := Lib.hid (Z3.push (s, p, l) ho hg (hb.imp id (fun e => by simp [e])))
    have Q7 : Hid (Arr w7 qb [v0] 90) := Lib.hid (arr_grown Z3.que hg (fun e => (Z2.out.far qb e.symm).2.1 rfl))
    have X7 : Hid (Arr w7 w.heap.size (V (fdL s n p l)) 65) := Lib.hid (arr_grown (X2.out.alloc _) hg (fun e => by have := W0.out _ e.symm; omega))
    have F7 : Hid (Frc B c w w7) := Lib.hid ((F2.out.trans (Frc.of_below ((Below.refl B w2).alloc (by omega) _))).trans (Frc.of_grown hg (fun b e => (World.ownsRow.lt Z2.out.row b e).1) (by simp; omega)))
    clear Z3 ho hg hb hlt7 Q1 Z1 F1 X1 PX HD HK HT Z2 F2 X2 P2
    go_wp2_with (first | (refine wpList_store_oneTo rfl 90 _ _ rfl rfl qb (.slice (some ⟨g7, 0, none⟩) (xs.length + 1) cap7) rfl rfl rfl _ _ Q7.out (by kernel_rfl) ?_; have X8 : Hid (Arr (w7.setRow qb #[.slice (some ⟨g7, 0, none⟩) (xs.length + 1) cap7]) w.heap.size (V (fdL s n p l)) 65) := Lib.hid (X7.out.rowOther (by omega)); have F8 : Hid (Frc B c w (w7.setRow qb #[.slice (some ⟨g7, 0, none⟩) (xs.length + 1) cap7])) := Lib.hid (F7.out.trans (Frc.of_row w7 (by omega) _)); generalize w7.setRow qb #[.slice (some ⟨g7, 0, none⟩) (xs.length + 1) cap7] = w8 at *) | (refine wpList_load_one rfl 131 _ rfl cb rfl _ _ _ Z4.out.cv sqp.underlying131 rfl ?_) | (refine wpList_load_row rfl 65 _ rfl w.heap.size rfl 65 (V (fdL s n p l)).toArray (0, 0) _ X8.out sqp.underlying65 rfl (size51 L51) ?_) | fail)
    refine (snd_any c (xs.map (fdV n)) s n p l (.chan (some c)) w8 Z4.out.chn (by rw [List.length_map]; omega)).mono ?_
    rintro e w9 ⟨rfl, hc9, ho9⟩
    have Z9 := Lib.hid (Z4.out.sent (s, p, l) hc9 ho9)
    have F9 := Lib.hid (F8.out.trans (Frc.of_out ho9 (by have := F8.out.size; omega)))
    clear hc9 ho9 Z4 F8
    go_wp2_with fail
    go_end0
    refine ⟨rfl, ?_, F9.out⟩
    rw [← ZX.out, if_neg HM.out]
    refine Z9.out.close_ (fun x hx => ?_)
    rcases List.mem_append.1 hx with h | h
    · exact SF x h
    · obtain rfl : x = (s, p, l) := by simpa using h
      exact HS.out
end Go.Proofs.Ytgcnemkhppkkcaa.orb
