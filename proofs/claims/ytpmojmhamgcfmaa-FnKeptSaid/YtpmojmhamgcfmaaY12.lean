import Derived.Test.YtpmojmhamgcfmaaY11
import Derived.Test.YtpmojmhamgcfmaaY10
import Derived.Test.YtpmojmhamgcfmaaY08
import Derived.Test.YtpmojmhamgcfmaaY09
import Derived.Test.YtpmojmhamgcfmaaY02
/-
  Contracts of CyclesOf, of the program and of the model.
-/
namespace Go.Proofs.Ytpmojmhamgcfmaa.fns
open Go.ChangeShapes Go.WideShapes Go.ChangeAt Go.RowKit
open Go.Proofs.Ytpmojmhamgcfmaa.mem Go.Proofs.Ytpmojmhamgcfmaa.ints Go.Proofs.Ytpmojmhamgcfmaa.arr Go.Proofs.Ytpmojmhamgcfmaa.pm Go.Proofs.Ytpmojmhamgcfmaa.permOk Go.Proofs.Ytpmojmhamgcfmaa.permOf Go.Proofs.Ytpmojmhamgcfmaa.inv Go.Proofs.Ytpmojmhamgcfmaa.mat
set_option linter.unusedVariables false
set_option maxRecDepth 100000

theorem mgives_nil {w w' : World} (h : Below w.heap.size w w') : MGives [] w (.returned (.slice none 0 0)) w' := ⟨none, 0, rfl, Mat.nil _ _ _ _ (Nat.le_refl _), h⟩
theorem mgives_later {w w1 w' : World} {r : List (List Int)} {e : Ending} (hb : Below w.heap.size w w1) (h : MGives r w1 e w') : MGives r w e w' := by
  obtain ⟨A, c, he, ho, hb'⟩ := h
  exact ⟨A, c, he, ho.wider hb.size (Nat.le_refl _) (Nat.le_refl _), hb.trans (hb'.mono hb.size)⟩

theorem infoB : (Try.prog.info? 4).map (fun i => (i.zero, i.size, i.bytes)) = some (some (.bool false), 1, 1) := by kernel_rfl
def flagsN (n : Nat) (l : List Int) : List Bool := (List.range n).map fun (j : Nat) => decide ((j : Int) ∈ l)
theorem flagsN_at (n : Nat) (l : List Int) {k : Nat} (h : k < n) : (flagsN n l)[k]? = some (decide ((k : Int) ∈ l)) := by simp [flagsN, h]
theorem flagsN_set {n : Nat} {l : List Int} {z : Nat} : (flagsN n l).set z true = flagsN n (l ++ [(z : Int)]) := by
  refine List.ext_getElem? fun i => ?_
  by_cases hi : i < n
  · rw [flagsN_at _ _ hi, List.getElem?_set]
    by_cases e : z = i
    · subst e; simp [flagsN, hi]
    · rw [if_neg e, flagsN_at _ _ hi]
      have : ¬ ((i : Int) = (z : Int)) := by omega
      simp [this]
  · rw [List.getElem?_eq_none (by simp [flagsN]; omega), List.getElem?_eq_none (by simp [flagsN]; omega)]
theorem flagsN_nil (n : Nat) : flagsN n [] = List.replicate n false := by
  refine List.ext_getElem? fun i => ?_
  by_cases hi : i < n
  · rw [flagsN_at _ _ hi]; simp [hi]
  · rw [List.getElem?_eq_none (by simp [flagsN]; omega), List.getElem?_eq_none (by simp; omega)]
theorem flagsN_cell {w : World} {g n : Nat} {l : List Int} {t : TypeId} (h : Arr w g (VB (flagsN n l)) t) {k : Nat} (hk : k < n) {b : Bool} (hb : decide ((k : Int) ∈ l) = b) : w.cell? ⟨g, k, none⟩ = some (.bool b) :=
  h.cell (by simp [VB, flagsN_at n l hk, hb])
/-- The flags of all rows, and the rows that grow. -/
structure Sm (w wr : World) (n : Nat) (v : Value) (xss : List (List Int)) : Prop where
  met : Arr wr (w.heap.size + 1) (VB (flagsN n xss.flatten)) 4
  below : Below w.heap.size w wr
  mg : Mg wr w.heap.size (w.heap.size + 2) (w.heap.size + 1) v xss
/-- Inside a round that began at wo: a row acc that grows in new blocks, the flags of S and of acc. -/
structure Si (w wo wr : World) (n : Nat) (S : List Int) (v : Value) (acc : List Int) : Prop where
  own : wr.ownsRow wo.heap.size 3 1 v acc.length (V acc)
  met : Arr wr (w.heap.size + 1) (VB (flagsN n (S ++ acc))) 4
  out : Out (w.heap.size + 1) (w.heap.size + 2) wo wr
/-- The state of the model's walk along a cycle: not begun, or begun and not back. -/
def Sw (n : Nat) (ps : List Int) (f x : Int) (acc S : List Int) : Prop := (acc = [] ∧ x = f) ∨ (∃ m, Cw n ps f x acc m) ∧ (∀ y ∈ acc, ¬ y ∈ S)

theorem Sw.x_in {n : Nat} {ps acc S : List Int} {f x : Int} (h : Sw n ps f x acc S) (hb : Bij n ps) (f0 : 0 ≤ f) (f1 : f < n) : ∃ z : Nat, x = (z : Int) ∧ z < n := by
  have : 0 ≤ x ∧ x < n := by
    rcases h with ⟨_, rfl⟩ | ⟨⟨m, hc⟩, _⟩
    · exact ⟨f0, f1⟩
    · exact hc.way.x_in hb
  exact ⟨x.toNat, by omega, by omega⟩
theorem Sw.len {n : Nat} {ps acc S : List Int} {f x : Int} (h : Sw n ps f x acc S) : acc.length ≤ n := by
  rcases h with ⟨rfl, _⟩ | ⟨⟨m, hc⟩, _⟩
  · simp
  · exact hc.way.inn.len
theorem Sw.exit {n k : Nat} {ps acc : List Int} {out : List (List Int)} {f x : Int} (h : Sw n ps f x acc out.flatten) (hb : Bij n ps) (hc : Cs n ps k out) (hx : x ∈ out.flatten ++ acc) :
    (acc = [] ∧ f ∈ out.flatten) ∨ (acc = cyc ps n f ∧ ¬ f ∈ out.flatten) := by
  rcases h with ⟨rfl, rfl⟩ | ⟨⟨m, hw⟩, hd⟩
  · exact .inl ⟨rfl, by simpa using hx⟩
  · have hp := hw.way.pos
    have hf : f ∈ acc := by have := getD_mem (l := acc) (i := 0) hp; rw [hw.way.head] at this; exact this
    by_cases e : x = f
    · subst e; exact .inr ⟨hw.done, hd _ hf⟩
    · exfalso
      rcases List.mem_append.1 hx with q | q
      · have m1 := getD_mem (l := acc) (i := acc.length - 1) (by omega)
        have a1 := hw.way.inn.lo _ m1; have a2 := hw.way.inn.hi _ m1
        rw [hw.way.last] at q
        have := hc.back _ (by omega) q
        rw [Int.toNat_of_nonneg a1] at this
        exact hd _ m1 this
      · exact hw.way.fresh hb e q
theorem Sw.next {n : Nat} {ps acc S : List Int} {f x : Int} (h : Sw n ps f x acc S) (hb : Bij n ps) (f0 : 0 ≤ f) (f1 : f < n) (hx : ¬ x ∈ S ++ acc) : Sw n ps f (ps.getD x.toNat 0) (acc ++ [x]) S := by
  have hxS : ¬ x ∈ S := fun q => hx (List.mem_append.2 (.inl q))
  have hxa : ¬ x ∈ acc := fun q => hx (List.mem_append.2 (.inr q))
  rcases h with ⟨rfl, rfl⟩ | ⟨⟨m, hw⟩, hd⟩
  · exact .inr ⟨⟨n, Cw.start f0 f1⟩, fun y hy => by simp at hy; subst hy; exact hxS⟩
  · have hp := hw.way.pos
    have hf : f ∈ acc := by have := getD_mem (l := acc) (i := 0) hp; rw [hw.way.head] at this; exact this
    refine .inr ⟨⟨m - 1, hw.next hb (fun e => hxa (e ▸ hf))⟩, fun y hy => ?_⟩
    rcases List.mem_append.1 hy with q | q
    · exact hd y q
    · simp at q; subst q; exact hxS

theorem Si.next {w wo wr w1 w' : World} {n : Nat} {S acc : List Int} {v v' : Value} {z m : Nat} (h : Si w wo wr n S v acc) (hw1 : w1 = wr.setCell ⟨w.heap.size + 1, z, none⟩ (.bool true))
    (ho : w'.ownsRow wo.heap.size 3 1 v' (m + 1) (V acc ++ [.int .i64 (z : Int)])) (hm : m = acc.length) (hg : w1.grownBy w' v.ownBlock) (hso : w.heap.size + 2 ≤ wo.heap.size) : Si w wo w' n S v' (acc ++ [(z : Int)]) := by
  subst hm
  have e : V (acc ++ [(z : Int)]) = V acc ++ [.int .i64 (z : Int)] := by simp [V]
  have s1 : w1.heap.size = wr.heap.size := by rw [hw1]; simp [World.setCell]
  have hm := h.met.lt
  have O1 : Out (w.heap.size + 1) (w.heap.size + 2) wo w1 := by rw [hw1]; exact h.out.set_ (by omega) (by omega) _
  refine ⟨by rw [e]; simpa using ho, ?_, ⟨hg.os.trans O1.os, hg.tape.trans O1.tape, hg.output.trans O1.output, Nat.le_trans O1.size hg.size, fun b hb hne => (hg.block b (by have := O1.size; omega) (fun e => by have := (h.own.lt b e.symm).1; omega)).trans (O1.block b hb hne)⟩⟩
  refine (hg.block _ (by omega) (fun e => by have := (h.own.lt _ e.symm).1; omega)).trans ?_
  have hh := h.met.set_ z (.bool true)
  rw [VB_set, flagsN_set, ← hw1, List.append_assoc] at hh
  exact hh

end Go.Proofs.Ytpmojmhamgcfmaa.fns

/-
  Contracts of the model's AroundOf, CornersOf, AnglesOf, StratumOf, GenusOf, IsRegularCorner.
-/
namespace Go.Proofs.Ytpmojmhamgcfmaa.gl
open Go.ChangeShapes Go.WideShapes Go.ChangeAt Go.RowKit
open Go.Proofs.Ytpmojmhamgcfmaa.mem Go.Proofs.Ytpmojmhamgcfmaa.ints Go.Proofs.Ytpmojmhamgcfmaa.arr Go.Proofs.Ytpmojmhamgcfmaa.pm Go.Proofs.Ytpmojmhamgcfmaa.permOk Go.Proofs.Ytpmojmhamgcfmaa.permOf Go.Proofs.Ytpmojmhamgcfmaa.inv Go.Proofs.Ytpmojmhamgcfmaa.fns Go.Proofs.Ytpmojmhamgcfmaa.sf Go.Proofs.Ytpmojmhamgcfmaa.mat
set_option linter.unusedVariables false
set_option maxRecDepth 100000

theorem gives_eq {r r' : List Int} {w w' : World} {e : Ending} (h : r' = r) (g : Gives r w e w') : Gives r' w e w' := h ▸ g
theorem mgives_eq {r r' : List (List Int)} {w w' : World} {e : Ending} (h : r' = r) (g : MGives r w e w') : MGives r' w e w' := h ▸ g

theorem angF_range (r u : List Int) : ∀ x ∈ angF r u, 0 ≤ x ∧ x ≤ 24 := by
  intro x hx
  have h := (sortD_perm _).mem_iff.1 hx
  obtain ⟨c, hc, rfl⟩ := List.mem_map.1 h
  have h2 := (corF_small r u).2
  have h3 : c.length ≤ ((corF r u).map List.length).sum := by
    obtain ⟨k, hk⟩ := List.getElem?_of_mem hc
    exact tot_row hk
  omega
/-- The stratum that grows: from the block behind the box on. -/
structure Sg (w w1 wr : World) (v : Value) (l : List Int) : Prop where
  own : wr.ownsRow (w.heap.size + 1) 3 1 v l.length (V l)
  out : Out (w.heap.size + 1) (w.heap.size + 2) w1 wr
  at_ : ∀ b, v.ownBlock = some b → b = w.heap.size + 1 ∨ w1.heap.size ≤ b
theorem Sg.next {w w1 wr w' : World} {v v' : Value} {l : List Int} {z : Int} {n : Nat} (h : Sg w w1 wr v l) (ho : w'.ownsRow (w.heap.size + 1) 3 1 v' (n + 1) (V l ++ [.int .i64 z])) (hn : n = l.length)
    (hg : wr.grownBy w' v.ownBlock) (hb : v'.ownBlock = v.ownBlock ∨ ∃ k, v'.ownBlock = some k ∧ wr.heap.size + 1 ≤ k) : Sg w w1 w' v' (l ++ [z]) := by
  subst hn
  have e : V (l ++ [z]) = V l ++ [.int .i64 z] := by simp [V]
  have hs := h.out.size
  refine ⟨by rw [e]; simpa using ho, ⟨hg.os.trans h.out.os, hg.tape.trans h.out.tape, hg.output.trans h.out.output, Nat.le_trans hs hg.size, fun k hk hne => ?_⟩, fun b hq => ?_⟩
  · refine (hg.block k (by omega) (fun e => ?_)).trans (h.out.block k hk hne)
    have := h.at_ k e.symm
    omega
  · rcases hb with q | ⟨k, q, hk⟩
    · exact h.at_ b (by rw [← q]; exact hq)
    · rw [q] at hq; injection hq with hq; omega

end Go.Proofs.Ytpmojmhamgcfmaa.gl

/-
  IsTurn: contracts of the specification's l11Turn and IsTurn.
-/
namespace Go.Proofs.Ytpmojmhamgcfmaa.ht
open Go.ChangeShapes Go.WideShapes Go.ChangeAt Go.RowKit
open Go.Proofs.Ytpmojmhamgcfmaa.mem Go.Proofs.Ytpmojmhamgcfmaa.ints Go.Proofs.Ytpmojmhamgcfmaa.arr Go.Proofs.Ytpmojmhamgcfmaa.pm Go.Proofs.Ytpmojmhamgcfmaa.permOk Go.Proofs.Ytpmojmhamgcfmaa.permOf Go.Proofs.Ytpmojmhamgcfmaa.inv Go.Proofs.Ytpmojmhamgcfmaa.fns Go.Proofs.Ytpmojmhamgcfmaa.sf Go.Proofs.Ytpmojmhamgcfmaa.gl
set_option linter.unusedVariables false
set_option maxRecDepth 100000

def htAt (r u xs : List Int) (i : Nat) : Prop := xs.getD (r.getD i 0).toNat 0 = (Inv r).getD (xs.getD i 0).toNat 0 ∧ xs.getD (u.getD i 0).toNat 0 = (Inv u).getD (xs.getD i 0).toNat 0
theorem htB_no {r u xs : List Int} {k : Nat} (hk : k < xs.length) (h : ¬ htAt r u xs k) : htB r u xs = false := by
  unfold htB; rw [decide_eq_false_iff_not]; exact fun q => h (q k hk)
theorem htB_all {r u xs : List Int} {n : Nat} (hn : xs.length = n) (h : ∀ j, j < n → htAt r u xs j) : htB r u xs = true := by
  unfold htB; rw [decide_eq_true_eq, hn]; exact h
/-- A row whose cells are known, at a place that is told as a number. -/
theorem _root_.Go.Proofs.Ytpmojmhamgcfmaa.mem.Rd.nat {w : World} {hi n : Nat} {g off : Nat} {xs : List Int} (h : Rd w hi (some ⟨g, off, none⟩) n (V xs)) {k : Nat} (hk : k < n) : w.cell? ⟨g, off + k, none⟩ = some (.int .i64 (xs.getD k 0)) := by
  obtain ⟨g', off', x, e, _, h1, h2⟩ := h.at_ hk
  injection e with e; injection e with e1 e2 e3; subst e1; subst e2
  rw [h2, ← h1]
  have hl : k < xs.length := by have := h.1; rw [V_len] at this; omega
  exact V_getD hl
theorem _root_.Go.Proofs.Ytpmojmhamgcfmaa.mem.Rd.addr {w : World} {hi n : Nat} {A : Option Addr} {xs : List Value} (h : Rd w hi A n xs) (hn : 0 < n) : ∃ g off, A = some ⟨g, off, none⟩ := by
  obtain ⟨g, off, e, _⟩ := h.2.2 hn
  exact ⟨g, off, e⟩
theorem nat_of {z : Int} {n : Nat} (h : 0 ≤ z ∧ z < n) : ∃ k : Nat, k < n ∧ z = (k : Int) := ⟨z.toNat, by omega, by omega⟩
set_option maxHeartbeats 2000000 in
theorem turn_spec (v : Value) (r u : List Int) (A : Option Addr) (a ca : Nat) (xs : List Int) (hi h2 n : Nat) (w : World) (hx : Srd w hi v r u) (hy : Rd w h2 A a (V xs)) (hs : Sf n r u) (ho : Ok xs) (hl : xs.length = n) :
    Calls Try.prog 54 #[v, .slice A a ca] w fun e w' => e = .returned (.bool (htB r u xs)) ∧ Below w.heap.size w w' := by
  have HX := Lib.hid hx; clear hx
  have HY := Lib.hid hy; clear hy
  have HS := Lib.hid hs; clear hs
  have HO := Lib.hid ho; have HLN := Lib.hid hl; clear ho hl
  obtain ⟨P, n1, c, Q, m, d, rfl, q1, q2, e1, e2, ht, HR⟩ := HX.out.open
  obtain rfl : n = n1 := by rw [← q1]; exact HS.out.lr.symm
  obtain rfl : n = m := by rw [← q2]; exact HS.out.lu.symm
  obtain rfl : n = a := by have := HY.out.1; rw [V_len, HLN.out] at this; exact this
  have Q1 := Lib.hid q1; have Q2 := Lib.hid q2; clear q1 q2
  have hN24 : n ≤ 24 := by have := HS.out.r.len; rw [HS.out.lr] at this; omega
  have hN0 : 0 < n := HS.out.pos
  go_enter Try.func54, Try.ntmps54
  go_wp2_with fail
  refine (l02inv_gives P n c r _ _ (HR.out _).1 HS.out.r Q1.out).mono ?_
  rintro e w1 ⟨v1, rfl, o1, b1⟩
  obtain ⟨P1, c1, rfl⟩ := own_form o1
  rw [Inv_len, Q1.out] at o1
  rw [Inv_len, Q1.out]
  have hs1 : w.heap.size + 1 ≤ w1.heap.size := by have := b1.size; simpa using this
  have A0 := Lib.hid ((Arr.new w [.slice P n c, .slice Q n d] 25 rfl).keep b1 (by simp))
  have R1 := Lib.hid (Row.of_own o1).rd
  have B1 := Lib.hid (below1 _ _ b1)
  clear o1 b1 HR
  have c1_ := A0.out.cell (k := 1) rfl
  go_wp2_with fail
  have X1 : Hid (Srd w1 hi (.agg #[.slice P n c, .slice Q n d]) r u) := Lib.hid (HX.out.keep (B1.out.mono ht) (Nat.le_refl _))
  refine (l02inv_gives Q n d u hi _ (Srd.snd X1.out) HS.out.u Q2.out).mono ?_
  rintro e w2 ⟨v2, rfl, o2, b1⟩
  obtain ⟨P2, c2, rfl⟩ := own_form o2
  rw [Inv_len, Q2.out] at o2
  rw [Inv_len, Q2.out]
  have hs2 := b1.size
  replace A0 := Lib.hid (A0.out.keep b1 A0.out.lt)
  replace R1 := Lib.hid (R1.out.keep b1 R1.out.2.1)
  have R2 := Lib.hid (Row.of_own o2).rd
  replace B1 := Lib.hid (B1.out.trans (b1.mono B1.out.size))
  clear o2 b1 c1_ X1
  have hY2 := HY.out.2.1
  have Y1 : Hid (Rd w2 h2 A n (V xs)) := Lib.hid (HY.out.keep (B1.out.mono hY2) (Nat.le_refl _))
  have X1 : Hid (Srd w2 hi (.agg #[.slice P n c, .slice Q n d]) r u) := Lib.hid (HX.out.keep (B1.out.mono ht) (Nat.le_refl _))
  obtain ⟨ga, oa, rfl⟩ := Y1.out.addr hN0
  obtain ⟨gp, op, rfl⟩ := (Srd.fst X1.out).addr hN0
  obtain ⟨gq, oq, rfl⟩ := (Srd.snd X1.out).addr hN0
  obtain ⟨g1, o1, rfl⟩ := R1.out.addr hN0
  obtain ⟨g2, o2, rfl⟩ := R2.out.addr hN0
  go_wp2_with fail
  go_loopw [17] (fun i wr => ∃ k : Nat, k ≤ n ∧ i = .int .i64 k ∧ Below w2.heap.size w2 wr ∧ ∀ j, j < k → htAt r u xs j) (fun i _ => n - (intOf i).toNat)
  case atStart => exact ⟨0, Nat.zero_le _, rfl, Below.refl _ _, fun j hj => by omega⟩
  case round =>
    obtain ⟨k, hk, rfl, hb, hall⟩ := hrel
    have HA := Lib.hid hall; have HB := Lib.hid hb; clear hall hb
    by_cases hlt : k < n
    · have Z0 := A0.out.keep HB.out A0.out.lt
      have z0 := Z0.cell (k := 0) rfl
      have z1 := Z0.cell (k := 1) rfl
      clear Z0
      have hrk : 0 ≤ r.getD k 0 ∧ r.getD k 0 < n := HS.out.br.maps k hlt
      have huk : 0 ≤ u.getD k 0 ∧ u.getD k 0 < n := HS.out.bu.maps k hlt
      have hxk : 0 ≤ xs.getD k 0 ∧ xs.getD k 0 < n := by have := HO.out.maps k (by rw [HLN.out]; exact hlt); rw [HLN.out] at this; exact this
      have D : Hid (htAt r u xs k ↔ (xs.getD (r.getD k 0).toNat 0 = (Inv r).getD (xs.getD k 0).toNat 0 ∧ xs.getD (u.getD k 0).toNat 0 = (Inv u).getD (xs.getD k 0).toNat 0)) := Lib.hid Iff.rfl
      have y0 := (Y1.out.keep HB.out Y1.out.2.1).nat hlt
      have y1 := ((Srd.fst X1.out).keep HB.out X1.out.top).nat hlt
      have y2 := ((Srd.snd X1.out).keep HB.out X1.out.top).nat hlt
      obtain ⟨ri, hri, er⟩ := nat_of hrk
      obtain ⟨ui, hui, eu⟩ := nat_of huk
      obtain ⟨xi, hxi, ex⟩ := nat_of hxk
      rw [er, eu, ex, Int.toNat_natCast, Int.toNat_natCast, Int.toNat_natCast] at D
      have y3 := (Y1.out.keep HB.out Y1.out.2.1).nat hri
      have y4 := (Y1.out.keep HB.out Y1.out.2.1).nat hui
      have y5 := (R1.out.keep HB.out R1.out.2.1).nat hxi
      have y6 := (R2.out.keep HB.out R2.out.2.1).nat hxi
      rw [ex] at y0; rw [er] at y1; rw [eu] at y2
      clear hrk huk hxk er eu ex
      generalize xs.getD ri 0 = v3 at *
      generalize xs.getD ui 0 = v4 at *
      generalize (Inv r).getD xi 0 = v5 at *
      generalize (Inv u).getD xi 0 = v6 at *
      by_cases h35 : v3 = v5
      · have hne : (v3 != v5) = false := by simpa using h35
        by_cases h46 : v4 = v6
        · have HD : Hid (htAt r u xs k) := Lib.hid (D.out.2 ⟨h35, h46⟩)
          have hne' : (v4 != v6) = false := by simpa using h46
          clear D h35 h46
          go_wp2
          go_quiet (fail)
          go_wp2
          go_roundw
          case rel => exact ⟨k + 1, by omega, by go_num, below_drewN HB.out _, fun j hj => by
            rcases Nat.lt_or_ge j k with q | q
            · exact HA.out j q
            · obtain rfl : j = k := by omega
              exact HD.out⟩
          case measure => simp [intOf]; omega
        · have HD : Hid (htB r u xs = false) := Lib.hid (htB_no (by rw [HLN.out]; exact hlt) (fun q => h46 (D.out.1 q).2))
          have hne' : (v4 != v6) = true := by simpa using h46
          clear D h35 h46
          go_wp2
          go_quiet (fail)
          go_wp2
          go_ret
          exact ⟨ret_bool HD.out.symm, B1.out.trans ((below_drewN HB.out _).mono B1.out.size)⟩
      · have HD : Hid (htB r u xs = false) := Lib.hid (htB_no (by rw [HLN.out]; exact hlt) (fun q => h35 (D.out.1 q).1))
        have hne : (v3 != v5) = true := by simpa using h35
        clear D h35
        go_wp2
        go_quiet (fail)
        go_wp2
        go_ret
        exact ⟨ret_bool HD.out.symm, B1.out.trans ((below_drewN HB.out _).mono B1.out.size)⟩
    · obtain rfl : k = n := by omega
      have HT := Lib.hid (htB_all HLN.out HA.out)
      go_wp2
      go_ret
      exact ⟨ret_bool HT.out.symm, B1.out.trans (HB.out.mono B1.out.size)⟩
end Go.Proofs.Ytpmojmhamgcfmaa.ht

/-
  IsTurn and TurnsOf: contracts of the specification's functions.
-/
namespace Go.Proofs.Ytpmojmhamgcfmaa.ht
open Go.ChangeShapes Go.WideShapes Go.ChangeAt Go.RowKit
open Go.Proofs.Ytpmojmhamgcfmaa.mem Go.Proofs.Ytpmojmhamgcfmaa.ints Go.Proofs.Ytpmojmhamgcfmaa.arr Go.Proofs.Ytpmojmhamgcfmaa.pm Go.Proofs.Ytpmojmhamgcfmaa.permOk Go.Proofs.Ytpmojmhamgcfmaa.permOf Go.Proofs.Ytpmojmhamgcfmaa.inv Go.Proofs.Ytpmojmhamgcfmaa.fns Go.Proofs.Ytpmojmhamgcfmaa.sf Go.Proofs.Ytpmojmhamgcfmaa.gl Go.Proofs.Ytpmojmhamgcfmaa.mat
set_option linter.unusedVariables false
set_option maxRecDepth 100000

theorem it_no1 {r u xs : List Int} (h : transB r u = false) : itB r u xs = false := by simp [itB, h]
theorem it_no2 {r u xs : List Int} (h : okB xs = false) : itB r u xs = false := by simp [itB, h]
theorem it_no3 {r u xs : List Int} (h : ¬ xs.length = r.length) : itB r u xs = false := by simp [itB, h]
theorem it_yes {r u xs : List Int} (h1 : transB r u = true) (h2 : okB xs = true) (h3 : xs.length = r.length) : itB r u xs = htB r u xs := by simp [itB, h1, h2, h3]
set_option maxHeartbeats 2000000 in
theorem it_spec (v : Value) (r u : List Int) (A : Option Addr) (a ca : Nat) (xs : List Int) (hi h2 : Nat) (w : World) (hx : Srd w hi v r u) (hy : Rd w h2 A a (V xs)) (hn : r.length ≤ 1048576) (hm : u.length ≤ 1048576) (hna : a ≤ 1048576) (hca : a ≤ ca) :
    Calls Try.prog 19 #[v, .slice A a ca] w fun e w' => e = .returned (.bool (itB r u xs)) ∧ Below w.heap.size w w' := by
  have la : xs.length = a := by simpa [V] using hy.1
  have HX := Lib.hid hx; have HY := Lib.hid hy
  obtain ⟨P, n, c, Q, m, d, rfl, q1, q2, e1, e2, ht, HR⟩ := hx.open
  have h2' := hy.2.1
  have Q1 := Lib.hid q1; have LA := Lib.hid la
  clear hx hy HR q1 la
  go_enter Try.func19, Try.ntmps19
  go_wp2_with fail
  refine (ok_spec _ r u hi _ (HX.out.keep ((Below.refl hi w).alloc ht _) (Nat.le_refl _)) hn hm).mono ?_
  rintro e w1 ⟨rfl, b1⟩
  have A0 := Lib.hid ((Arr.new w [.slice P n c, .slice Q m d] 25 rfl).keep b1 (by simp))
  have c0 := A0.out.cell (k := 0) rfl
  have c1 := A0.out.cell (k := 1) rfl
  have B1 := Lib.hid (below1 _ _ b1); clear b1
  by_cases hq : transB r u = true
  · rw [hq]
    go_wp2_with fail
    refine (permOk.spec_any A a ca xs _ _ (HY.out.keep (B1.out.mono h2') (Nat.le_refl _)) hna hca).mono ?_
    rintro e w2 ⟨rfl, rfl⟩
    by_cases oy : okB xs = true
    · rw [oy]
      by_cases he : a = n
      · have HF := Lib.hid (it_yes hq oy (by rw [LA.out, Q1.out]; exact he))
        have HS : Hid (Sf n r u) := Lib.hid (by have := transB_iff.1 hq; rwa [Q1.out] at this)
        have HO := Lib.hid (Ok.of xs oy)
        subst he
        clear hq oy
        go_wp2_with fail
        refine (turn_spec _ r u A a ca xs hi h2 a _ (HX.out.keep (B1.out.mono ht) (Nat.le_refl _)) (HY.out.keep (B1.out.mono h2') (Nat.le_refl _)) HS.out HO.out LA.out).mono ?_
        rintro e w3 ⟨rfl, b1⟩
        have B3 := Lib.hid (B1.out.trans (b1.mono B1.out.size)); clear b1
        go_wp2_with fail
        go_ret
        exact ⟨ret_bool HF.out.symm, B3.out⟩
      · have HF := Lib.hid (it_no3 (r := r) (u := u) (xs := xs) (by rw [LA.out, Q1.out]; exact he))
        have hne : ((a : Int) == (n : Int)) = false := by simpa using (by omega : ¬ (a : Int) = n)
        clear he
        go_wp2_with fail
        go_ret
        exact ⟨ret_bool HF.out.symm, B1.out⟩
    · have oy' : okB xs = false := by simpa using oy
      have HF := Lib.hid (it_no2 (r := r) (u := u) oy')
      rw [oy']
      clear oy
      go_wp2_with fail
      go_ret
      exact ⟨ret_bool HF.out.symm, B1.out⟩
  · have hq' : transB r u = false := by simpa using hq
    have HF := Lib.hid (it_no1 (xs := xs) hq')
    rw [hq']
    clear hq
    go_wp2_with fail
    go_ret
    exact ⟨ret_bool HF.out.symm, B1.out⟩
theorem own_keep {w w' : World} {base : Nat} {e : TypeId} {v : Value} {n B : Nat} {xs : List Value} (h : w.ownsRow base e 1 v n xs) (hb : Below B w w') (hB : w.heap.size ≤ B) : w'.ownsRow base e 1 v n xs := by
  refine ⟨h.1, ?_⟩
  rcases h.2 with h0 | ⟨g, cap, cur, h1, h2, h3, h4⟩
  · exact .inl h0
  · exact .inr ⟨g, cap, cur, h1, h2, (hb.block g (by have := (Array.getElem?_eq_some_iff.1 h3).1; omega)).trans h3, h4⟩
theorem Made.keep {n : Nat} {w wr w' : World} {l : List Int} (h : Made n w wr l) (hb : Below wr.heap.size wr w') : Made n w w' l :=
  ⟨own_keep h.1 hb (Nat.le_refl _), h.2.trans (hb.mono h.2.size)⟩
set_option maxHeartbeats 4000000 in
theorem from_spec (v : Value) (r u : List Int) (j hi n : Nat) (w : World) (hx : Srd w hi v r u) (hs : Sf n r u) (hj : j < n) :
    Calls Try.prog 56 #[v, .int .i64 j] w (Gives (frF r u (j : Int)) w) := by
  obtain ⟨i0, hi0, hz0, hz1, hz2⟩ := info_parts infoI
  have HX := Lib.hid hx; clear hx
  have HS := Lib.hid hs; clear hs
  obtain ⟨P, n1, c, Q, m, d, rfl, q1, q2, e1, e2, ht, HR⟩ := HX.out.open
  obtain rfl : n = n1 := by rw [← q1]; exact HS.out.lr.symm
  obtain rfl : n = m := by rw [← q2]; exact HS.out.lu.symm
  have Q1 := Lib.hid q1; have Q2 := Lib.hid q2; clear q1 q2
  have hN24 : n ≤ 24 := by have := HS.out.r.len; rw [HS.out.lr] at this; omega
  have hN0 : 0 < n := HS.out.pos
  have HZ2 := Lib.hid hz2; clear hz2
  go_enter Try.func56, Try.ntmps56
  go_wp2_with fail
  refine (l02inv_gives P n c r _ _ (HR.out _).1 HS.out.r Q1.out).mono ?_
  rintro e w1 ⟨v1, rfl, o1, b1⟩
  obtain ⟨P1, c1, rfl⟩ := own_form o1
  rw [Inv_len, Q1.out] at o1
  rw [Inv_len, Q1.out]
  have hs1 : w.heap.size + 1 ≤ w1.heap.size := by have := b1.size; simpa using this
  have A0 := Lib.hid ((Arr.new w [.slice P n c, .slice Q n d] 25 rfl).keep b1 (by simp))
  have R1 := Lib.hid (Row.of_own o1).rd
  have B1 := Lib.hid (below1 _ _ b1)
  clear o1 b1 HR
  have c1_ := A0.out.cell (k := 1) rfl
  go_wp2_with fail
  have X1 : Hid (Srd w1 hi (.agg #[.slice P n c, .slice Q n d]) r u) := Lib.hid (HX.out.keep (B1.out.mono ht) (Nat.le_refl _))
  refine (l02inv_gives Q n d u hi _ (Srd.snd X1.out) HS.out.u Q2.out).mono ?_
  rintro e w2 ⟨v2, rfl, o2, b1⟩
  obtain ⟨P2, c2, rfl⟩ := own_form o2
  rw [Inv_len, Q2.out] at o2
  rw [Inv_len, Q2.out]
  have hs2 := b1.size
  replace A0 := Lib.hid (A0.out.keep b1 A0.out.lt)
  replace R1 := Lib.hid (R1.out.keep b1 R1.out.2.1)
  have R2 := Lib.hid (Row.of_own o2).rd
  replace B1 := Lib.hid (B1.out.trans (b1.mono B1.out.size))
  clear o2 b1 c1_ X1
  have c0_ := A0.out.cell (k := 0) rfl
  go_wp2_with (at_make; refine wpList_make_full _ rfl _ _ 23 rfl w2.heap.size 3 i0 _ 1 Try.underlying23 hi0 hz0 hz1 _ _ _ _ n rfl rfl rfl rfl ?b2 ?b3 (Nat.le_refl _) ?_)
  case b2 => rw [HZ2.out]; omega
  case b3 => unfold maxLen; omega
  intro w3 hown hg
  have hb1 : Below w2.heap.size w2 w3 := (Below.refl _ _).grown hg (Nat.le_refl _) (by simp)
  have HM : Hid (Made n w2 w3 (List.replicate n 0)) := Lib.hid ⟨by simpa [V, toList_madeCells_one] using hown, hb1⟩
  generalize hz0_ : List.replicate n (0 : Int) = z0 at HM
  have HZ0 : Hid (z0 = List.replicate n (0 : Int)) := Lib.hid hz0_.symm
  clear hz0_
  have hc0 := HM.out.cell (k := 0) hN0
  have hf0 := HM.out.1.frozenAt 0
  have A3 : Hid (Arr w3 w.heap.size [.slice P n c, .slice Q n d] 25) := Lib.hid (A0.out.keep hb1 (by omega))
  have A4 : Hid (Arr (w3.setCell ⟨w2.heap.size, 0, none⟩ (.int .i64 (j : Int))) w.heap.size [.slice P n c, .slice Q n d] 25) := Lib.hid (A3.out.other (by omega) _)
  have c04 := A4.out.cell (k := 0) rfl
  have c14 := A4.out.cell (k := 1) rfl
  have hn3 : (some w2.heap.size) ≠ (none : Option Nat) := by simp
  clear hown hg hb1
  go_wp2_with fail
  have M4 : Hid (Made n w2 (w3.setCell ⟨w2.heap.size, 0, none⟩ (.int .i64 (j : Int))) (z0.set 0 (j : Int))) := Lib.hid (HM.out.set_ 0 _)
  generalize w3.setCell ⟨w2.heap.size, 0, none⟩ (.int .i64 (j : Int)) = w4 at *
  clear A3 hc0 hf0 c04 c14 HM
  have B4 : Hid (Below w.heap.size w w4) := Lib.hid (B1.out.trans (M4.out.2.mono B1.out.size))
  have X4 : Hid (Srd w4 hi (.agg #[.slice P n c, .slice Q n d]) r u) := Lib.hid (HX.out.keep (B4.out.mono ht) (Nat.le_refl _))
  refine (reach_any P n c Q n d r u 0 _ _ _ (Srd.fst X4.out) (Srd.snd X4.out) HS.out.r HS.out.u rfl (Int.le_refl _) (by omega)).mono ?_
  rintro e w5 ⟨v5, rfl, o5, b1⟩
  obtain ⟨P5, c5, rfl⟩ := own_form o5
  have FL := HS.out.flen (f := 0) (by omega) (by omega)
  rw [FL] at o5
  rw [FL]
  have M5 : Hid (Made n w2 w5 (z0.set 0 (j : Int))) := Lib.hid (Made.keep M4.out b1)
  have R5 : Hid (Row w5 w4.heap.size w5.heap.size P5 n (V (reach r u 0))) := Lib.hid (Row.of_own o5)
  have A5 : Hid (Arr w5 w.heap.size [.slice P n c, .slice Q n d] 25) := Lib.hid (A4.out.keep b1 A4.out.lt)
  have B5 : Hid (Below w.heap.size w w5) := Lib.hid (B4.out.trans (b1.mono B4.out.size))
  have hs5 := b1.size
  have hs4 : w2.heap.size + 1 ≤ w4.heap.size := by
    obtain ⟨g', _, _, q, q2, _⟩ := (M4.out.1).2.resolve_left (by rintro ⟨q, _⟩; cases q)
    have := (M4.out.1).lt w2.heap.size rfl
    omega
  clear M4 X4 A4 o5 b1 FL
  have RR1 : Hid (Rd w5 w1.heap.size P1 n (V (Inv r))) := Lib.hid (R1.out.keep M5.out.2 (by omega))
  have RR2 : Hid (Rd w5 w2.heap.size P2 n (V (Inv u))) := Lib.hid (R2.out.keep M5.out.2 (by omega))
  have X5 : Hid (Srd w5 hi (.agg #[.slice P n c, .slice Q n d]) r u) := Lib.hid (HX.out.keep (B5.out.mono ht) (Nat.le_refl _))
  clear R1 R2 B4 A0 B1 c0_
  obtain ⟨gp, op, rfl⟩ := (Srd.fst X5.out).addr hN0
  obtain ⟨gq, oq, rfl⟩ := (Srd.snd X5.out).addr hN0
  obtain ⟨g1, o1, rfl⟩ := RR1.out.addr hN0
  obtain ⟨g2, o2, rfl⟩ := RR2.out.addr hN0
  obtain ⟨g5, o5, rfl⟩ := R5.out.rd.addr hN0
  have K0 : Hid (z0.set 0 (j : Int) = frK r u (j : Int) 0) := Lib.hid (by rw [HZ0.out]; unfold frK; rw [Q1.out]; simp)
  rw [K0.out] at M5
  go_wp2_with fail
  go_loopw [29] (fun i wr => ∃ k : Nat, k ≤ n ∧ i = .int .i64 k ∧ Made n w2 wr (frK r u (j : Int) k) ∧ Out w2.heap.size (w2.heap.size + 1) w5 wr) (fun i _ => n - (intOf i).toNat)
  case atStart => exact ⟨0, Nat.zero_le _, rfl, M5.out, Out.refl _ _ _⟩
  case round =>
    obtain ⟨k, hk, rfl, hm, ho⟩ := hrel
    have MR := Lib.hid hm; have OR := Lib.hid ho; clear hm ho M5 K0
    by_cases hlt : k < n
    · have bnd := fr_bnd HS.out (j := (j : Int)) (by omega) (by omega) k hk
      have fl := HS.out.flen (f := 0) (by omega) (by omega)
      have hkl : k < (reach r u 0).length := by rw [fl]; exact hlt
      have hin := HS.out.inn (f := 0) (by omega) (by omega)
      obtain ⟨z, hz, ez, ezd⟩ := hin.at_ hkl
      have NX : Hid (frK r u (j : Int) (k + 1) = frW u (Inv u) (frW r (Inv r) (frK r u (j : Int) k) z) z) := Lib.hid (frK_succ ez)
      have y0 := (R5.out.out OR.out (.inr (by omega))).rd.nat hlt
      rw [ezd] at y0
      have Z0 := A5.out.out OR.out (.inl (by omega))
      have z0_ := Z0.cell (k := 0) rfl
      have z1_ := Z0.cell (k := 1) rfl
      have y1 := (Rd.out (Srd.fst X5.out) OR.out (.inl (by omega))).nat hz
      have y2 := (Rd.out (Srd.snd X5.out) OR.out (.inl (by omega))).nat hz
      obtain ⟨rz, hrz, er⟩ := nat_of (HS.out.br.maps z hz)
      obtain ⟨uz, huz, eu⟩ := nat_of (HS.out.bu.maps z hz)
      obtain ⟨sz, hsz, es⟩ := nat_of (bnd.2 z hz)
      rw [er] at y1; rw [eu] at y2
      have y3 := MR.out.cell hz
      rw [es] at y3
      have y4 := (Rd.out RR1.out OR.out (.inl (by omega))).nat hsz
      have hf := MR.out.1.frozenAt rz
      have y5 := MR.out.cell hrz
      have F1 : Hid (frW r (Inv r) (frK r u (j : Int) k) z = (frK r u (j : Int) k).set rz ((Inv r).getD sz 0)) := Lib.hid (by unfold frW; rw [Int.toNat_natCast, er, es, Int.toNat_natCast, Int.toNat_natCast])
      have MB := Lib.hid (MR.out.set_ rz ((Inv r).getD sz 0))
      rw [← F1.out] at MB
      have bnd2 := frW_ok (C := fun _ _ => True) (W := [(z : Int)]) (i := (z : Int)) HS.out.br.maps (binv HS.out.r HS.out.lr).maps bnd.1 bnd.2 (by omega) (by omega) (by simp) (fun y hy => by simp at hy; omega) (fun _ _ _ _ _ _ _ => trivial) (fun _ _ => trivial)
      obtain ⟨tz, htz, et⟩ := nat_of (bnd2.2.1 z hz)
      have F2 : Hid (frW u (Inv u) (frW r (Inv r) (frK r u (j : Int) k) z) z = (frW r (Inv r) (frK r u (j : Int) k) z).set uz ((Inv u).getD tz 0)) := Lib.hid (by rw [frW, Int.toNat_natCast, eu, et, Int.toNat_natCast, Int.toNat_natCast])
      have ET := Lib.hid et
      have EU := Lib.hid eu
      clear fl hkl hin bnd bnd2 ez ezd er eu es et Z0
      generalize (Inv r).getD sz 0 = val at *
      generalize frW r (Inv r) (frK r u (j : Int) k) z = st2 at *
      go_wp2_with fail
      go_region
      have OA : Hid (Out w2.heap.size (w2.heap.size + 1) w5 (wr.setCell ⟨w2.heap.size, rz, none⟩ (.int .i64 val)).drew) := Lib.hid (by have h := OR.out.set_ (g := w2.heap.size) (off := rz) (Nat.le_refl _) (Nat.lt_succ_self _) (.int .i64 val); exact ⟨h.os, h.tape, h.output, h.size, h.block⟩)
      replace MB := Lib.hid (MB.out.drew)
      generalize (wr.setCell ⟨w2.heap.size, rz, none⟩ (.int .i64 val)).drew = wa at *
      clear y0 y1 y2 y3 y4 y5 z0_ z1_ hf
      have z0_ := (A5.out.out OA.out (.inl (by omega))).cell (k := 0) rfl
      have z1_ := (A5.out.out OA.out (.inl (by omega))).cell (k := 1) rfl
      have y2 := (Rd.out (Srd.snd X5.out) OA.out (.inl (by omega))).nat hz
      have y3 := MB.out.cell hz
      have y4 := (Rd.out RR2.out OA.out (.inl (by omega))).nat htz
      have y5 := MB.out.cell huz
      have hf := MB.out.1.frozenAt uz
      rw [EU.out] at y2
      rw [ET.out] at y3
      have MC := Lib.hid (MB.out.set_ uz ((Inv u).getD tz 0)).drew
      have OC : Hid (Out w2.heap.size (w2.heap.size + 1) w5 (wa.setCell ⟨w2.heap.size, uz, none⟩ (.int .i64 ((Inv u).getD tz 0))).drew) := Lib.hid (by have h := OA.out.set_ (g := w2.heap.size) (off := uz) (Nat.le_refl _) (Nat.lt_succ_self _) (.int .i64 ((Inv u).getD tz 0)); exact ⟨h.os, h.tape, h.output, h.size, h.block⟩)
      rw [← F2.out, ← NX.out] at MC
      clear F1 F2 NX ET EU OA MB OR MR
      generalize (Inv u).getD tz 0 = val2 at *
      go_wp2_with fail
      go_region
      go_wp2_with fail
      go_roundw
      case rel => exact ⟨k + 1, by omega, by go_num, MC.out, OC.out⟩
      case measure => simp [intOf]; omega
    · obtain rfl : k = n := by omega
      go_wp2
      go_ret
      have hF : frF r u (j : Int) = frK r u (j : Int) k := by unfold frF; rw [Q1.out]
      rw [hF]
      have hb := B5.out.trans (OR.out.below (B := w.heap.size) (by omega) B5.out.size)
      refine ⟨_, rfl, ?_, hb⟩
      have hl := (fr_bnd HS.out (j := (j : Int)) (by omega) (by omega) k (Nat.le_refl _)).1
      rw [hl]
      exact own_base MR.out.1 (by omega)
/-- Rows that grow: what a step of append asks, and what it gives. -/
theorem Mg.ready {wo W : World} {bs lo s k c : Nat} {C A : Option Addr} {cc : Nat} {xss : List (List Int)} {xs : List Int} (h : Mg wo bs lo s (.slice C k cc) xss) (hk : k = xss.length) (hb : Below wo.heap.size wo W) (hbs : bs ≤ lo) (hlo : lo ≤ wo.heap.size) (hs0 : s < lo)
    (hr : W.ownsRow wo.heap.size 3 1 (.slice A xs.length c) xs.length (V xs)) (h0 : 0 < xs.length) :
    ∃ hs, W.ownsRow bs 23 1 (.slice C k cc) k hs ∧ hs.length = k ∧ ∀ v' w', w'.ownsRow bs 23 1 v' (k + 1) (hs ++ [.slice A xs.length c]) → W.grownBy w' (Value.slice C k cc).ownBlock → (v'.ownBlock = (Value.slice C k cc).ownBlock ∨ ∃ q, v'.ownBlock = some q ∧ W.heap.size + 1 ≤ q) →
      Mg w' bs lo s v' (xss ++ [xs]) ∧ Below bs W w' := by
  subst hk
  obtain ⟨hs, bl, own, hh, ne⟩ := h
  have own' := own_keep own hb (Nat.le_refl _)
  obtain ⟨g, hg0, hrow⟩ := own_row (xs := V xs) (by rw [V_len]; exact hr) (by rw [V_len]; exact h0)
  rw [V_len] at hrow
  refine ⟨hs, own', by simpa using own.1, fun v' w' ho hg hq => ⟨?_, ?_⟩⟩
  · exact Mg.push hh ne hb.size (fun b q1 q2 => hb.block b q2) hlo hs0 hrow hg0 (fun b e => (own.lt b e).2) rfl ho hg hq
  · exact (Below.refl _ _).grown hg (Nat.le_trans (Nat.le_trans hbs hlo) hb.size) (fun b e => (own.lt b e).1)
/-- A boxed surface, and the rows that grow. -/
structure Tr (w wr : World) (vs : List Value) (v : Value) (xss : List (List Int)) : Prop where
  box : Arr wr w.heap.size vs 25
  below : Below w.heap.size w wr
  mg : Mg wr (w.heap.size + 1) (w.heap.size + 1) w.heap.size v xss
theorem tuS_succ {n : Nat} {r u : List Int} (s : Sf n r u) {k : Nat} (hk : k < n) : tuK r u (k + 1) = if itB r u (frF r u (k : Int)) then tuK r u k ++ [frF r u (k : Int)] else tuK r u k := by
  have e := fr_im s (j := (k : Int)) (by omega) (by omega)
  rw [tuK_succ s.lr hk, e.1]
  cases hb : itB r u (imF r u (k : Int))
  · simp
  · rw [e.2 hb]
theorem frF_len {n : Nat} {r u : List Int} (s : Sf n r u) {k : Nat} (hk : k < n) : (frF r u (k : Int)).length = n := by
  unfold frF; rw [s.lr]; exact (fr_bnd s (by omega) (by omega) n (Nat.le_refl _)).1
set_option maxHeartbeats 4000000 in
theorem tu_spec (v : Value) (r u : List Int) (hi : Nat) (w : World) (hx : Srd w hi v r u) (hn : r.length ≤ 1048576) (hm : u.length ≤ 1048576) :
    Calls Try.prog 25 #[v] w (MGives (tuF r u) w) := by
  have HX := Lib.hid hx; clear hx
  obtain ⟨P, n, c, Q, m, d, rfl, q1, q2, e1, e2, ht, HR⟩ := HX.out.open
  obtain ⟨i0, hi0, hz0, hz1, hz2⟩ := info_parts infoII
  have L1 := Lib.hid q1
  go_enter Try.func25, Try.ntmps25
  go_wp2_with fail
  refine (ok_spec _ r u hi _ (HX.out.keep ((Below.refl hi w).alloc ht _) (Nat.le_refl _)) hn hm).mono ?_
  rintro e w1 ⟨rfl, b1⟩
  have A0 := Lib.hid ((Arr.new w [.slice P n c, .slice Q m d] 25 rfl).keep b1 (by simp))
  have hs1 : w.heap.size + 1 ≤ w1.heap.size := by have := b1.size; simpa using this
  have B1 := Lib.hid (below1 _ _ b1); clear b1 HR
  cases hq : transB r u
  · have HF := Lib.hid (tuF_no hq); clear hq
    go_wp2_with fail
    go_ret
    exact mgives_eq HF.out (mgives_nil B1.out)
  · have HS : Hid (Sf n r u) := Lib.hid (by have := transB_iff.1 hq; rwa [L1.out] at this)
    have HF := Lib.hid (tuF_yes hq L1.out)
    have hN24 : n ≤ 24 := by have := HS.out.r.len; rw [HS.out.lr] at this; omega
    have hN0 : 0 < n := HS.out.pos
    clear hq
    have A1 : Hid (Arr (w1.alloc (.cells #[] 23)) w.heap.size [.slice P n c, .slice Q m d] 25) := Lib.hid (A0.out.alloc _)
    have c0 := A1.out.cell (k := 0) rfl
    have T1 : Hid (Tr w (w1.alloc (.cells #[] 23)) [.slice P n c, .slice Q m d] (.slice (some ⟨w1.heap.size, 0, none⟩) 0 0) (tuK r u 0)) := Lib.hid
      ⟨A1.out, B1.out.alloc (by omega) _, Mg.empty (heap_alloc_last w1 _) (by omega) (by omega)⟩
    go_wp2_with fail
    generalize w1.alloc (.cells #[] 23) = w2 at *
    clear A0 A1 c0 B1
    go_loopw [3, 13] (fun v i wr => ∃ k : Nat, k ≤ n ∧ i = .int .i64 k ∧ Tr w wr [.slice P n c, .slice Q m d] v (tuK r u k)) (fun _ i _ => n - (intOf i).toNat)
    case atStart => exact ⟨0, Nat.zero_le _, rfl, T1.out⟩
    case round =>
      clear T1
      obtain ⟨k, hk, rfl, hm⟩ := hrel
      obtain ⟨wo, rfl⟩ : ∃ wo : World, wo = wr := ⟨_, rfl⟩
      obtain ⟨C, cc, rfl⟩ := hm.mg.form
      have TR := Lib.hid hm; clear hm
      have hso : w.heap.size + 1 ≤ wo.heap.size := TR.out.box.lt
      by_cases hlt : k < n
      · have NX := Lib.hid (tuS_succ HS.out hlt)
        have FL := Lib.hid (frF_len HS.out hlt)
        have KL := (tuK_len HS.out k).1
        have X1 : Hid (Srd wo hi (.agg #[.slice P n c, .slice Q m d]) r u) := Lib.hid (HX.out.keep (TR.out.below.mono ht) (Nat.le_refl _))
        generalize hfk : frF r u (k : Int) = fk at NX FL
        generalize hK : tuK r u k = xk at *
        go_wp2_with (refine wpList_load_row rfl 25 _ rfl w.heap.size rfl 25 #[.slice P n c, .slice Q m d] (0, 0) _ TR.out.box Try.underlying25 rfl size2 ?_)
        refine (from_spec _ r u k hi n _ X1.out HS.out hlt).mono ?_
        rintro e w3 hg
        rw [hfk] at hg
        obtain ⟨v3, rfl, o3, b3⟩ := hg
        obtain ⟨P3, c3, rfl⟩ := own_form o3
        rw [FL.out] at o3
        rw [FL.out]
        have hle3 : n ≤ c3 := (own_cap o3).2
        have A3 : Hid (Arr w3 w.heap.size [.slice P n c, .slice Q m d] 25) := Lib.hid (TR.out.box.keep b3 hso)
        have B3 := Lib.hid b3
        have R3 := Lib.hid (Row.of_own o3).rd
        have O3 := Lib.hid o3
        have hs3 := b3.size
        have X3 : Hid (Srd w3 hi (.agg #[.slice P n c, .slice Q m d]) r u) := Lib.hid (X1.out.keep b3 X1.out.top)
        clear o3 b3 X1
        go_wp2_with (refine wpList_load_row rfl 25 _ rfl w.heap.size rfl 25 #[.slice P n c, .slice Q m d] (0, 0) _ A3.out Try.underlying25 rfl size2 ?_)
        refine (it_spec _ r u P3 n c3 fk hi _ _ X3.out R3.out hn hm (by omega) hle3).mono ?_
        rintro e w4 ⟨rfl, b4⟩
        have B4 : Hid (Below wo.heap.size wo w4) := Lib.hid (B3.out.trans (b4.mono hs3))
        have O4 : Hid (w4.ownsRow wo.heap.size 3 1 (.slice P3 fk.length c3) fk.length (V fk)) := Lib.hid (by rw [FL.out]; exact own_keep O3.out b4 (Nat.le_refl _))
        have hs4 : wo.heap.size ≤ w4.heap.size := B4.out.size
        clear b4 O3 R3 X3 A3
        cases hq : itB r u fk
        · have NX' : Hid (tuK r u (k + 1) = xk) := Lib.hid (by rw [NX.out, hq]; simp)
          have TN : Hid (Tr w w4 [.slice P n c, .slice Q m d] (.slice C xk.length cc) (tuK r u (k + 1))) := Lib.hid (by
            rw [NX'.out]
            exact ⟨TR.out.box.keep B4.out hso, TR.out.below.trans (B4.out.mono (by omega)), TR.out.mg.keep hs4 (Nat.le_refl _) (by omega) (fun b q1 q2 q3 => B4.out.block b q2)⟩)
          go_wp2_with fail
          go_roundw
          case rel => exact ⟨k + 1, by omega, by go_num, TN.out⟩
          case measure => simp [intOf]; omega
        · have NX' : Hid (tuK r u (k + 1) = xk ++ [fk]) := Lib.hid (by rw [NX.out, hq]; simp)
          obtain ⟨hs, own, hln, push⟩ := Mg.ready TR.out.mg rfl B4.out (Nat.le_refl _) hso (by omega) O4.out (by rw [FL.out]; exact hN0)
          rw [FL.out] at push
          have OWN := Lib.hid own; have PUSH := Lib.hid push; clear own push hq NX hln
          go_wp2_with (at_builtin; refine wpList_append_one2 w4 _ _ rfl _ _ 34 rfl (w.heap.size + 1) 23 i0 _ 24 1 Try.underlying34 hi0 hz0 hz1 rfl hz2 rfl _ _ _ rfl OWN.out rfl rfl ?c4 (by decide) (by omega) ?_)
          case c4 => omega
          intro v' w' ho hg hb
          obtain ⟨mg, bl⟩ := PUSH.out v' w' ho hg hb
          have TN : Hid (Tr w w' [.slice P n c, .slice Q m d] v' (tuK r u (k + 1))) := Lib.hid (by
            rw [NX'.out]
            exact ⟨(bl.block _ (by omega)).trans (TR.out.box.keep B4.out hso), (TR.out.below.trans (B4.out.mono (by omega))).trans (bl.mono (by omega)), mg⟩)
          clear ho hg hb mg bl PUSH OWN TR
          go_wp2_with fail
          go_roundw
          case rel => exact ⟨k + 1, by omega, by go_num, TN.out⟩
          case measure => simp [intOf]; omega
      · obtain rfl : k = n := by omega
        rw [← HF.out] at *
        go_wp2
        go_ret
        exact ⟨C, cc, rfl, TR.out.mg.mat (by omega) (by omega), TR.out.below⟩
end Go.Proofs.Ytpmojmhamgcfmaa.ht
