import Derived.Test.YtngglhbcpeigcaaY12
import Derived.Test.YtngglhbcpeigcaaY09
import Derived.Test.YtngglhbcpeigcaaY07
/-
  Contract of the program's cycles and CyclesOf.
-/
namespace Go.Proofs.Ytngglhbcpeigcaa.fns
open Go.ChangeShapes Go.WideShapes Go.ChangeAt Go.RowKit
open Go.Proofs.Ytngglhbcpeigcaa.mem Go.Proofs.Ytngglhbcpeigcaa.ints Go.Proofs.Ytngglhbcpeigcaa.arr Go.Proofs.Ytngglhbcpeigcaa.pm Go.Proofs.Ytngglhbcpeigcaa.permOk Go.Proofs.Ytngglhbcpeigcaa.permOf Go.Proofs.Ytngglhbcpeigcaa.inv Go.Proofs.Ytngglhbcpeigcaa.mat
set_option linter.unusedVariables false
set_option maxRecDepth 100000

theorem infoII : (Try.prog.info? 26).map (fun i => (i.zero, i.size, i.bytes)) = some (some (.slice none 0 0), 1, 24) := by kernel_rfl
theorem flagsOf_set {l : List Int} {z : Nat} : (flagsOf l).set z true = flagsOf (l ++ [(z : Int)]) := by
  refine tabB_set _ _ fun j hj => ?_
  by_cases hjz : j = z
  · subst hjz; simp
  · have : ¬ ((j : Int) = (z : Int)) := by omega
    simp [hjz, this]
/-- A boxed permutation, the flags of all rows, and the rows that grow. -/
structure Cm (w wr : World) (ps : List Int) (v : Value) (xss : List (List Int)) : Prop where
  p : Arr wr w.heap.size (V ps) 60
  met : Arr wr (w.heap.size + 1) (VB (flagsOf xss.flatten)) 111
  below : Below w.heap.size w wr
  mg : Mg wr (w.heap.size + 2) (w.heap.size + 2) (w.heap.size + 1) v xss
def MGives (xss : List (List Int)) (w : World) (e : Ending) (w' : World) : Prop := ∃ A c, e = .returned (.slice A xss.length c) ∧ Mat w' w.heap.size w'.heap.size A xss.length xss ∧ Below w.heap.size w w'
def Mk (w w1 wr : World) (S : List Int) : Prop := Out (w.heap.size + 1) (w.heap.size + 2) w1 wr ∧ Arr wr (w.heap.size + 1) (VB (flagsOf S)) 111

set_option maxHeartbeats 2000000 in
theorem cycles_any (ps : List Int) (n : Nat) (w : World) (hl : ps.length = 24) (hb : Bij n ps) (hn : n ≤ 24) :
    Calls Try.prog 61 #[.agg (V ps).toArray, .int .i64 n] w (MGives (cso ps n n) w) := by
  obtain ⟨i0, hi0, hz0, hz1, hz2⟩ := info_parts infoII
  have HL := Lib.hid hl; have HB := Lib.hid hb; clear hl hb
  go_enter Try.func61, Try.ntmps61
  go_wp2
  go_loopw [6, 12] (fun v i wr => ∃ k : Nat, k ≤ n ∧ i = .int .i64 k ∧ Cm w wr ps v (cso ps n k)) (fun _ i _ => n - (intOf i).toNat)
  case atStart =>
    exact ⟨0, Nat.zero_le _, rfl, (Arr.new w (V ps) _ rfl).alloc _, Arr.new _ (VB (flagsOf [])) _ (by simp), ((Below.refl _ _).alloc (Nat.le_refl _) _).alloc (by simp) _, Mg.nil _ _ _ _⟩
  case round =>
    obtain ⟨k, hk, rfl, hm⟩ := hrel
    obtain ⟨wo, rfl⟩ : ∃ wo : World, wo = wr := ⟨_, rfl⟩
    obtain ⟨C, cc, rfl⟩ := hm.mg.form
    have CM := Lib.hid hm; clear hm
    have hso : w.heap.size + 2 ≤ wo.heap.size := CM.out.met.lt
    by_cases hlt : k < n
    · have CS := Lib.hid (cso_cs HB.out k hk)
      by_cases hin : (k : Int) ∈ (cso ps n k).flatten
      · have hfl : wo.cell? ⟨w.heap.size + 1, k, none⟩ = some (.bool true) := flags_cell CM.out.met (by omega) (by simpa using hin)
        have NX : Hid (cso ps n (k + 1) = cso ps n k) := Lib.hid (by rw [cso, if_pos hin])
        clear hin
        go_wp2
        go_roundw
        case rel => exact ⟨k + 1, by omega, by go_num, by rw [NX.out]; exact CM.out⟩
        case measure => simp [intOf]; omega
      · have hfl : wo.cell? ⟨w.heap.size + 1, k, none⟩ = some (.bool false) := flags_cell CM.out.met (by omega) (by simpa using hin)
        have NX : Hid (cso ps n (k + 1) = cso ps n k ++ [cyc ps n k]) := Lib.hid (by rw [cso, if_neg hin])
        have FL : Hid ((cso ps n (k + 1)).flatten = (cso ps n k).flatten ++ cyc ps n k) := Lib.hid (by rw [NX.out]; simp)
        have CY := Lib.hid (cyc_way (f := (k : Int)) HB.out (by omega) (by omega))
        have hcl : (cyc ps n (k : Int)).length ≤ n := CY.out.inn.len
        clear hin
        go_wp2_with (refine wpList_load_row rfl 60 (.tmp 2) rfl w.heap.size rfl 60 (V ps).toArray (0, 0) _ CM.out.p Try.underlying60 rfl (size_V HL.out) ?_)
        refine (cycleFrom_any ps n k _ HL.out HB.out hn hlt).mono ?_
        rintro e w1 ⟨v1, rfl, ho1, b1⟩
        obtain ⟨C1, c1, rfl⟩ := own_form ho1
        have OW := Lib.hid ho1; have B1 := Lib.hid b1
        have hs1 := b1.size
        have A1 := Lib.hid (CM.out.met.keep b1 (by omega))
        clear ho1 b1 hfl
        go_wp2
        go_loopw [23] (fun i wr => ∃ j : Nat, j ≤ (cyc ps n (k : Int)).length ∧ i = .int .i64 j ∧ Mk w w1 wr ((cso ps n k).flatten ++ (cyc ps n (k : Int)).take j)) (fun i _ => (cyc ps n (k : Int)).length - (intOf i).toNat)
        case atStart => exact ⟨0, Nat.zero_le _, rfl, Out.refl _ _ _, by simpa using A1.out⟩
        case round =>
          obtain ⟨j, hj, rfl, hmk⟩ := hrel
          have MK := Lib.hid hmk; clear hmk
          have RO := Row.out (Row.of_own OW.out) (lo' := w.heap.size + 1) (hi' := w.heap.size + 2) MK.out.1 (.inr (by omega))
          by_cases hjl : j < (cyc ps n (k : Int)).length
          · obtain ⟨z, hz, hzs, hzd⟩ := CY.out.inn.at_ hjl
            obtain ⟨go, oo, uo, rfl, hgo, hgo2, huo, hco, hfo⟩ := RO.at_ hjl
            rw [V_get hzs] at huo
            obtain rfl := Option.some.inj huo
            obtain ⟨bz, hcz⟩ : ∃ b : Bool, wr.cell? ⟨w.heap.size + 1, z, none⟩ = some (.bool b) := ⟨_, flags_cell MK.out.2 (by omega) rfl⟩
            have hfz := MK.out.2.frozen z
            have HZ := Lib.hid hzs
            clear hzs hzd huo hfo RO
            go_wp2
            go_roundw
            case rel =>
              refine ⟨j + 1, by omega, by go_num, MK.out.1.set_ (by omega) (by omega) _, ?_⟩
              have h := MK.out.2.set_ z (.bool true)
              rw [VB_set, flagsOf_set] at h
              rw [List.take_add_one, HZ.out, ← List.append_assoc]
              exact h
            case measure => simp [intOf]; omega
          · obtain rfl : j = (cyc ps n (k : Int)).length := by omega
            have CPOS := CY.out.pos
            obtain ⟨hs, bl, own, hh, ne⟩ := CM.out.mg
            have hlx : hs.length = (cso ps n k).length := by simpa using own.1
            obtain ⟨g, hg0, hrow⟩ := own_row (xs := V (cyc ps n (k : Int))) (by rw [V_len]; exact OW.out) (by rw [V_len]; exact CPOS)
            rw [V_len] at hrow
            have HROW := Lib.hid (mat.Row.block hrow (w' := wr) (MK.out.1.block g (by have := hrow.2.1; omega) (by omega)) MK.out.1.size)
            have hs2 := MK.out.1.size
            have KEEP : Hid (∀ b, w.heap.size + 2 ≤ b → b < wo.heap.size → wr.heap[b]? = wo.heap[b]?) := Lib.hid (fun b q1 q2 => (MK.out.1.block b (by omega) (by omega)).trans (B1.out.block b q2))
            have OWN : Hid (wr.ownsRow (w.heap.size + 2) 26 1 (.slice C (cso ps n k).length cc) (cso ps n k).length hs) := Lib.hid (by
              refine ⟨own.1, ?_⟩
              rcases own.2 with h0 | ⟨g, cap, cur, q1, q2, q3, q4⟩
              · exact .inl h0
              · exact .inr ⟨g, cap, cur, q1, q2, (KEEP.out g q2 (Array.getElem?_eq_some_iff.1 q3).1).trans q3, q4⟩)
            have HHH := Lib.hid hh; have NE := Lib.hid ne
            have VLT : Hid (∀ b, (Value.slice C (cso ps n k).length cc).ownBlock = some b → b < wo.heap.size) := Lib.hid (fun b e => (own.lt b e).2)
            have hcle : (cso ps n k).length ≤ k := CS.out.len
            clear own hh ne hrow RO hlx
            go_wp2_with (at_builtin; refine wpList_append_one2 wr _ _ rfl _ _ 100 rfl (w.heap.size + 2) 26 i0 _ 24 1 Try.underlying100 hi0 hz0 hz1 rfl hz2 rfl _ _ _ rfl OWN.out rfl rfl ?c4 (by decide) (by omega) ?_)
            case c4 => omega
            intro v' w' ho hg hb
            have HN : Hid (Mg w' (w.heap.size + 2) (w.heap.size + 2) (w.heap.size + 1) v' (cso ps n (k + 1))) := Lib.hid (by
              rw [NX.out]
              exact Mg.push HHH.out NE.out (by omega) KEEP.out hso (by omega) HROW.out hg0 VLT.out rfl ho hg hb)
            have HP : Hid (Arr w' w.heap.size (V ps) 60) := Lib.hid ((hg.block _ (by omega) (fun e => by have := (OWN.out.lt _ e.symm).1; omega)).trans ((MK.out.1.block _ (by omega) (by omega)).trans (CM.out.p.keep B1.out (by omega))))
            have HM : Hid (Arr w' (w.heap.size + 1) (VB (flagsOf (cso ps n (k + 1)).flatten)) 111) := Lib.hid (by
              have := MK.out.2
              rw [List.take_of_length_le (Nat.le_refl _), ← FL.out] at this
              exact (hg.block _ (by omega) (fun e => by have := (OWN.out.lt _ e.symm).1; omega)).trans this)
            have HBL : Hid (Below w.heap.size w w') := Lib.hid (((CM.out.below.trans (B1.out.mono (by omega))).trans (MK.out.1.below (by omega) (by omega))).trans ((Below.refl _ _).grown hg (by omega) (fun b hb => by have := (OWN.out.lt b hb).1; omega)))
            clear ho hg hb MK OWN HHH KEEP CM
            go_wp2
            go_roundw
            case rel => exact ⟨k + 1, by omega, by go_num, HP.out, HM.out, HBL.out, HN.out⟩
            case measure => simp [intOf]; omega
    · obtain rfl : k = n := by omega
      go_wp2
      go_ret
      exact ⟨C, cc, rfl, CM.out.mg.mat (by omega) (by omega), CM.out.below⟩
end Go.Proofs.Ytngglhbcpeigcaa.fns

/-
  Contracts of CyclesOf, of the program and of the model.
-/
namespace Go.Proofs.Ytngglhbcpeigcaa.fns
open Go.ChangeShapes Go.WideShapes Go.ChangeAt Go.RowKit
open Go.Proofs.Ytngglhbcpeigcaa.mem Go.Proofs.Ytngglhbcpeigcaa.ints Go.Proofs.Ytngglhbcpeigcaa.arr Go.Proofs.Ytngglhbcpeigcaa.pm Go.Proofs.Ytngglhbcpeigcaa.permOk Go.Proofs.Ytngglhbcpeigcaa.permOf Go.Proofs.Ytngglhbcpeigcaa.inv Go.Proofs.Ytngglhbcpeigcaa.mat
set_option linter.unusedVariables false
set_option maxRecDepth 100000

theorem mgives_nil {w w' : World} (h : Below w.heap.size w w') : MGives [] w (.returned (.slice none 0 0)) w' := ⟨none, 0, rfl, Mat.nil _ _ _ _ (Nat.le_refl _), h⟩
theorem mgives_later {w w1 w' : World} {r : List (List Int)} {e : Ending} (hb : Below w.heap.size w w1) (h : MGives r w1 e w') : MGives r w e w' := by
  obtain ⟨A, c, he, ho, hb'⟩ := h
  exact ⟨A, c, he, ho.wider hb.size (Nat.le_refl _) (Nat.le_refl _), hb.trans (hb'.mono hb.size)⟩

theorem infoB : (Try.prog.info? 4).map (fun i => (i.zero, i.size, i.bytes)) = some (some (.bool false), 1, 1) := by kernel_rfl
def flagsN (n : Nat) (l : List Int) : List Bool := (List.range n).map fun (j : Nat) => decide ((j : Int) ∈ l)
theorem flagsN_at (n : Nat) (l : List Int) {k : Nat} (h : k < n) : (flagsN n l)[k]? = some (decide ((k : Int) ∈ l)) := by simp [flagsN, h]
theorem flagsN_set {n : Nat} {l : List Int} {z : Nat} : (flagsN n l).set z true = flagsN n (l ++ [(z : Int)]) := by
  refine List.ext_getElem? fun i => ?_
  by_cases hi : i < n
  · rw [flagsN_at _ _ hi, List.getElem?_set]
    by_cases e : z = i
    · subst e; simp [flagsN, hi]
    · rw [if_neg e, flagsN_at _ _ hi]
      have : ¬ ((i : Int) = (z : Int)) := by omega
      simp [this]
  · rw [List.getElem?_eq_none (by simp [flagsN]; omega), List.getElem?_eq_none (by simp [flagsN]; omega)]
theorem flagsN_nil (n : Nat) : flagsN n [] = List.replicate n false := by
  refine List.ext_getElem? fun i => ?_
  by_cases hi : i < n
  · rw [flagsN_at _ _ hi]; simp [hi]
  · rw [List.getElem?_eq_none (by simp [flagsN]; omega), List.getElem?_eq_none (by simp; omega)]
theorem flagsN_cell {w : World} {g n : Nat} {l : List Int} {t : TypeId} (h : Arr w g (VB (flagsN n l)) t) {k : Nat} (hk : k < n) {b : Bool} (hb : decide ((k : Int) ∈ l) = b) : w.cell? ⟨g, k, none⟩ = some (.bool b) :=
  h.cell (by simp [VB, flagsN_at n l hk, hb])
/-- The flags of all rows, and the rows that grow. -/
structure Sm (w wr : World) (n : Nat) (v : Value) (xss : List (List Int)) : Prop where
  met : Arr wr (w.heap.size + 1) (VB (flagsN n xss.flatten)) 4
  below : Below w.heap.size w wr
  mg : Mg wr w.heap.size (w.heap.size + 2) (w.heap.size + 1) v xss
/-- Inside a round that began at wo: a row acc that grows in new blocks, the flags of S and of acc. -/
structure Si (w wo wr : World) (n : Nat) (S : List Int) (v : Value) (acc : List Int) : Prop where
  own : wr.ownsRow wo.heap.size 3 1 v acc.length (V acc)
  met : Arr wr (w.heap.size + 1) (VB (flagsN n (S ++ acc))) 4
  out : Out (w.heap.size + 1) (w.heap.size + 2) wo wr
/-- The state of the model's walk along a cycle: not begun, or begun and not back. -/
def Sw (n : Nat) (ps : List Int) (f x : Int) (acc S : List Int) : Prop := (acc = [] ∧ x = f) ∨ (∃ m, Cw n ps f x acc m) ∧ (∀ y ∈ acc, ¬ y ∈ S)

theorem Sw.x_in {n : Nat} {ps acc S : List Int} {f x : Int} (h : Sw n ps f x acc S) (hb : Bij n ps) (f0 : 0 ≤ f) (f1 : f < n) : ∃ z : Nat, x = (z : Int) ∧ z < n := by
  have : 0 ≤ x ∧ x < n := by
    rcases h with ⟨_, rfl⟩ | ⟨⟨m, hc⟩, _⟩
    · exact ⟨f0, f1⟩
    · exact hc.way.x_in hb
  exact ⟨x.toNat, by omega, by omega⟩
theorem Sw.len {n : Nat} {ps acc S : List Int} {f x : Int} (h : Sw n ps f x acc S) : acc.length ≤ n := by
  rcases h with ⟨rfl, _⟩ | ⟨⟨m, hc⟩, _⟩
  · simp
  · exact hc.way.inn.len
theorem Sw.exit {n k : Nat} {ps acc : List Int} {out : List (List Int)} {f x : Int} (h : Sw n ps f x acc out.flatten) (hb : Bij n ps) (hc : Cs n ps k out) (hx : x ∈ out.flatten ++ acc) :
    (acc = [] ∧ f ∈ out.flatten) ∨ (acc = cyc ps n f ∧ ¬ f ∈ out.flatten) := by
  rcases h with ⟨rfl, rfl⟩ | ⟨⟨m, hw⟩, hd⟩
  · exact .inl ⟨rfl, by simpa using hx⟩
  · have hp := hw.way.pos
    have hf : f ∈ acc := by have := getD_mem (l := acc) (i := 0) hp; rw [hw.way.head] at this; exact this
    by_cases e : x = f
    · subst e; exact .inr ⟨hw.done, hd _ hf⟩
    · exfalso
      rcases List.mem_append.1 hx with q | q
      · have m1 := getD_mem (l := acc) (i := acc.length - 1) (by omega)
        have a1 := hw.way.inn.lo _ m1; have a2 := hw.way.inn.hi _ m1
        rw [hw.way.last] at q
        have := hc.back _ (by omega) q
        rw [Int.toNat_of_nonneg a1] at this
        exact hd _ m1 this
      · exact hw.way.fresh hb e q
theorem Sw.next {n : Nat} {ps acc S : List Int} {f x : Int} (h : Sw n ps f x acc S) (hb : Bij n ps) (f0 : 0 ≤ f) (f1 : f < n) (hx : ¬ x ∈ S ++ acc) : Sw n ps f (ps.getD x.toNat 0) (acc ++ [x]) S := by
  have hxS : ¬ x ∈ S := fun q => hx (List.mem_append.2 (.inl q))
  have hxa : ¬ x ∈ acc := fun q => hx (List.mem_append.2 (.inr q))
  rcases h with ⟨rfl, rfl⟩ | ⟨⟨m, hw⟩, hd⟩
  · exact .inr ⟨⟨n, Cw.start f0 f1⟩, fun y hy => by simp at hy; subst hy; exact hxS⟩
  · have hp := hw.way.pos
    have hf : f ∈ acc := by have := getD_mem (l := acc) (i := 0) hp; rw [hw.way.head] at this; exact this
    refine .inr ⟨⟨m - 1, hw.next hb (fun e => hxa (e ▸ hf))⟩, fun y hy => ?_⟩
    rcases List.mem_append.1 hy with q | q
    · exact hd y q
    · simp at q; subst q; exact hxS

theorem Si.next {w wo wr w1 w' : World} {n : Nat} {S acc : List Int} {v v' : Value} {z m : Nat} (h : Si w wo wr n S v acc) (hw1 : w1 = wr.setCell ⟨w.heap.size + 1, z, none⟩ (.bool true))
    (ho : w'.ownsRow wo.heap.size 3 1 v' (m + 1) (V acc ++ [.int .i64 (z : Int)])) (hm : m = acc.length) (hg : w1.grownBy w' v.ownBlock) (hso : w.heap.size + 2 ≤ wo.heap.size) : Si w wo w' n S v' (acc ++ [(z : Int)]) := by
  subst hm
  have e : V (acc ++ [(z : Int)]) = V acc ++ [.int .i64 (z : Int)] := by simp [V]
  have s1 : w1.heap.size = wr.heap.size := by rw [hw1]; simp [World.setCell]
  have hm := h.met.lt
  have O1 : Out (w.heap.size + 1) (w.heap.size + 2) wo w1 := by rw [hw1]; exact h.out.set_ (by omega) (by omega) _
  refine ⟨by rw [e]; simpa using ho, ?_, ⟨hg.os.trans O1.os, hg.tape.trans O1.tape, hg.output.trans O1.output, Nat.le_trans O1.size hg.size, fun b hb hne => (hg.block b (by have := O1.size; omega) (fun e => by have := (h.own.lt b e.symm).1; omega)).trans (O1.block b hb hne)⟩⟩
  refine (hg.block _ (by omega) (fun e => by have := (h.own.lt _ e.symm).1; omega)).trans ?_
  have hh := h.met.set_ z (.bool true)
  rw [VB_set, flagsN_set, ← hw1, List.append_assoc] at hh
  exact hh

set_option maxHeartbeats 2000000 in
theorem cyc_spec (A : Option Addr) (n c : Nat) (xs : List Int) (hi : Nat) (w : World) (hx : Rd w hi A n (V xs)) (hn : n ≤ 1048576) (hc : n ≤ c) :
    Calls Try.prog 64 #[.slice A n c] w (MGives (cycF xs) w) := by
  have lx : xs.length = n := by simpa [V] using hx.1
  have LX := Lib.hid lx; clear lx
  have HX := Lib.hid hx; clear hx
  by_cases ox : okB xs = true
  · have OK := Lib.hid (Ok.of xs ox)
    have hn24 : n ≤ 24 := by have := OK.out.len; rw [LX.out] at this; exact this
    have HF : Hid (cycF xs = cso xs n n) := Lib.hid (by rw [← LX.out]; simp [cycF, ox])
    have BJ : Hid (Bij n xs) := Lib.hid (by have := OK.out.bij; rw [LX.out] at this; exact this)
    have HO := Lib.hid ox; clear ox
    obtain ⟨i0, hi0, hz0, hz1, hz2⟩ := info_parts infoII
    obtain ⟨j0, hj0, hy0, hy1, hy2⟩ := info_parts infoB
    obtain ⟨q0, hq0, hq1, hq2, hq3⟩ := info_parts infoI
    have HY2 := Lib.hid hy2; clear hy2
    rw [HF.out]
    go_enter Try.func64, Try.ntmps64
    go_wp2_with fail
    refine (permOk.spec_any A n c xs _ _ HX.out hn hc).mono ?_
    rintro e w1 ⟨rfl, rfl⟩
    rw [HO.out]
    go_wp2_with (at_make; refine wpList_make_full _ rfl _ _ 106 rfl (w.heap.size + 1) 4 j0 _ 1 Try.underlying106 hj0 hy0 hy1 _ _ _ _ n rfl rfl rfl rfl ?b2 ?b3 (by simp) ?_)
    case b2 => rw [HY2.out]; omega
    case b3 => unfold maxLen; omega
    intro w1 hown hg
    have hb1 : Below (w.heap.size + 1) (w.alloc (.cells #[] 26)) w1 := (Below.refl _ _).grown hg (by simp) (by simp)
    have hs1 : w.heap.size + 1 ≤ w1.heap.size := by have := hb1.size; simpa using this
    have OA := own_arr hown
    have SM : Hid (Sm w w1 n (.slice (some ⟨w.heap.size, 0, none⟩) 0 0) []) := Lib.hid ⟨by simpa [flagsN_nil, VB, toList_madeCells_one] using OA, ((Below.refl _ _).alloc (Nat.le_refl _) _).trans (hb1.mono (by omega)), Mg.empty ((hb1.block w.heap.size (by omega)).trans (heap_alloc_last w _)) (Nat.le_refl _) (by omega)⟩
    clear hown hg hb1 OA
    go_wp2
    go_loopw [3, 17] (fun v i wr => ∃ k : Nat, k ≤ n ∧ i = .int .i64 k ∧ Sm w wr n v (cso xs n k)) (fun _ i _ => n - (intOf i).toNat)
    case atStart => exact ⟨0, Nat.zero_le _, rfl, SM.out⟩
    case round =>
      obtain ⟨k, hk, rfl, hm⟩ := hrel
      obtain ⟨wo, rfl⟩ : ∃ wo : World, wo = wr := ⟨_, rfl⟩
      obtain ⟨C, cc, rfl⟩ := hm.mg.form
      have CM := Lib.hid hm; clear hm SM hs1
      have hso : w.heap.size + 2 ≤ wo.heap.size := CM.out.met.lt
      by_cases hlt : k < n
      · have CS := Lib.hid (cso_cs BJ.out k hk)
        go_wp2
        go_loopw [6, 7] (fun v x wr => ∃ (z : Int) (acc : List Int), x = .int .i64 z ∧ Sw n xs k z acc (cso xs n k).flatten ∧ Si w wo wr n (cso xs n k).flatten v acc) (fun v _ _ => n + 1 - lenV v)
        case atStart =>
          refine ⟨k, [], rfl, .inl ⟨rfl, rfl⟩, ?_, ?_, Out.of_below ((Below.refl _ _).alloc (Nat.le_refl _) _)⟩
          · exact ⟨rfl, .inr ⟨wo.heap.size, 0, #[], rfl, Nat.le_refl _, heap_alloc_last wo _, Nat.le_refl _, by simp, rfl, rfl⟩⟩
          · rw [List.append_nil]; exact CM.out.met.alloc _
        case round =>
          obtain ⟨z0, acc, rfl, hsw, hsi⟩ := hrel
          obtain ⟨z, rfl, hz⟩ := hsw.x_in BJ.out (by omega) (by omega)
          obtain ⟨C1, c1, rfl⟩ := own_form hsi.own
          have hal := hsw.len
          have SW := Lib.hid hsw; have SI := Lib.hid hsi; clear hsw hsi
          have hs2 := SI.out.out.size
          by_cases hin : (z : Int) ∈ (cso xs n k).flatten ++ acc
          · have hfl : wr.cell? ⟨w.heap.size + 1, z, none⟩ = some (.bool true) := flagsN_cell SI.out.met hz (by simpa using hin)
            have EX := SW.out.exit BJ.out CS.out hin
            clear hin
            rcases EX with ⟨rfl, hkin⟩ | ⟨hacc, hkn⟩
            · have NX : Hid (cso xs n (k + 1) = cso xs n k) := Lib.hid (by rw [cso, if_pos hkin])
              clear hkin
              have HN : Hid (Sm w wr n (.slice C (cso xs n k).length cc) (cso xs n (k + 1))) := Lib.hid (by
                rw [NX.out]
                refine ⟨by simpa using SI.out.met, CM.out.below.trans (SI.out.out.below (by omega) CM.out.below.size), CM.out.mg.keep hs2 (by omega) (by omega) (fun b q1 q2 q3 => SI.out.out.block b q2 (by omega))⟩)
              go_wp2
              go_roundw
              case rel => exact ⟨k + 1, by omega, by go_num, HN.out⟩
              case measure => simp [intOf]; omega
            · have NX : Hid (cso xs n (k + 1) = cso xs n k ++ [acc]) := Lib.hid (by rw [cso, if_neg hkn, hacc])
              have CPOS : 0 < acc.length := by rw [hacc]; exact (cyc_way (f := (k : Int)) BJ.out (by omega) (by omega)).pos
              clear hacc hkn
              have FL : Hid ((cso xs n (k + 1)).flatten = (cso xs n k).flatten ++ acc) := Lib.hid (by rw [NX.out]; simp)
              obtain ⟨hs, bl, own, hh, ne⟩ := CM.out.mg
              obtain ⟨g, hg0, hrow⟩ := own_row (xs := V acc) (by rw [V_len]; exact SI.out.own) (by rw [V_len]; exact CPOS)
              rw [V_len] at hrow
              have HROW := Lib.hid hrow
              have KEEP : Hid (∀ b, w.heap.size + 2 ≤ b → b < wo.heap.size → wr.heap[b]? = wo.heap[b]?) := Lib.hid (fun b q1 q2 => SI.out.out.block b q2 (by omega))
              have OWN : Hid (wr.ownsRow w.heap.size 26 1 (.slice C (cso xs n k).length cc) (cso xs n k).length hs) := Lib.hid (by
                refine ⟨own.1, ?_⟩
                rcases own.2 with h0 | ⟨g, cap, cur, q1, q2, q3, q4⟩
                · exact .inl h0
                · refine .inr ⟨g, cap, cur, q1, q2, (SI.out.out.block g (Array.getElem?_eq_some_iff.1 q3).1 ?_).trans q3, q4⟩
                  have : g ≠ w.heap.size + 1 := fun e => ne (by rw [q1, e]; rfl)
                  omega)
              have HHH := Lib.hid hh; have NE := Lib.hid ne
              have VLT : Hid (∀ b, (Value.slice C (cso xs n k).length cc).ownBlock = some b → b < wo.heap.size) := Lib.hid (fun b e => (own.lt b e).2)
              have hcle : (cso xs n k).length ≤ k := CS.out.len
              clear own hh ne hrow
              have hd : decide ((0 : Int) < (acc.length : Int)) = true := by simp; omega
              go_wp2_with (at_builtin; refine wpList_append_one2 wr _ _ rfl _ _ 100 rfl w.heap.size 26 i0 _ 24 1 Try.underlying100 hi0 hz0 hz1 rfl hz2 rfl _ _ _ rfl OWN.out rfl rfl ?c4 (by decide) (by omega) ?_)
              case c4 => omega
              intro v' w' ho hg hb
              have HN : Hid (Mg w' w.heap.size (w.heap.size + 2) (w.heap.size + 1) v' (cso xs n (k + 1))) := Lib.hid (by
                rw [NX.out]
                exact Mg.push HHH.out NE.out (by omega) KEEP.out hso (by omega) HROW.out hg0 VLT.out rfl ho hg hb)
              have HM : Hid (Arr w' (w.heap.size + 1) (VB (flagsN n (cso xs n (k + 1)).flatten)) 4) := Lib.hid (by
                have := SI.out.met
                rw [← FL.out] at this
                exact (hg.block _ (by omega) (fun e => NE.out e.symm)).trans this)
              have HBL : Hid (Below w.heap.size w w') := Lib.hid ((CM.out.below.trans (SI.out.out.below (by omega) CM.out.below.size)).trans ((Below.refl _ _).grown hg (by omega) (fun b hb => by have := (OWN.out.lt b hb).1; omega)))
              clear ho hg hb SI OWN HHH KEEP CM hfl
              go_wp2
              go_roundw
              case rel => exact ⟨k + 1, by omega, by go_num, HM.out, HBL.out, HN.out⟩
              case measure => simp [intOf]; omega
          · have hfl : wr.cell? ⟨w.heap.size + 1, z, none⟩ = some (.bool false) := flagsN_cell SI.out.met hz (by simpa using hin)
            have hff := SI.out.met.frozen z
            have NX := SW.out.next BJ.out (by omega) (by omega) hin
            rw [Int.toNat_natCast] at NX
            have NXX := Lib.hid NX; clear NX hin
            obtain ⟨g, off, u, rfl, hgl, hxu, hcx⟩ := HX.out.at_ hz
            obtain ⟨s, hxs, rfl⟩ := V_at hxu
            have hgd := permOk.getD_of hxs
            have hgw : g < w.heap.size := Nat.lt_of_lt_of_le hgl HX.out.2.1
            have OW : Hid ((wr.setCell ⟨w.heap.size + 1, z, none⟩ (.bool true)).ownsRow wo.heap.size 3 1 (.slice C1 acc.length c1) acc.length (V acc)) := Lib.hid (by
              refine SI.out.own.kept (row := some (w.heap.size + 1)) ⟨rfl, rfl, rfl, by simp [World.setCell], fun i hi hne => heap_setCell_other _ _ _ _ (fun e => hne (by rw [e]))⟩ (.inr (fun e => by have := (SI.out.own.lt _ e).1; omega)))
            generalize hw1 : wr.setCell ⟨w.heap.size + 1, z, none⟩ (.bool true) = w2 at OW
            have HW1 := Lib.hid hw1
            have hsz1 : wo.heap.size ≤ w2.heap.size := by rw [← hw1]; simpa [World.setCell] using hs2
            rw [hgd] at NXX
            clear hxu hxs hgd
            go_wp2_with (at_builtin; refine wpList_append_one w2 _ _ rfl _ _ 26 rfl wo.heap.size 3 q0 _ 8 Try.underlying26 hq0 hq1 hq2 hq3 rfl _ _ _ rfl OW.out rfl rfl ?c4 (by decide) hsz1 ?_)
            case c4 => omega
            intro v' w' ho hg
            have HN := Lib.hid (SI.out.next HW1.out.symm ho rfl hg hso)
            obtain ⟨C', cc', rfl⟩ := own_form HN.out.own
            have hcx' : w'.cell? ⟨g, off + z, none⟩ = some (.int .i64 s) := by
              rw [World.cell?_of_block (w := wo) (a := ⟨g, off + z, none⟩) (HN.out.out.block g (by omega) (by omega)), CM.out.below.cell (p := ⟨g, off + z, none⟩) hgw]
              exact hcx
            clear ho hg SI hw1 hfl hff hcx OW
            go_wp2
            go_roundw
            case rel => exact ⟨_, _, rfl, NXX.out, HN.out⟩
            case measure => simp [lenV]; omega
      · obtain rfl : k = n := by omega
        go_wp2
        go_ret
        exact ⟨C, cc, rfl, CM.out.mg.mat (by omega) (by omega), CM.out.below⟩
  · have ox' : okB xs = false := by simpa using ox
    have HF : Hid (cycF xs = []) := Lib.hid (by simp [cycF, ox'])
    have HO := Lib.hid ox'; clear ox ox'
    rw [HF.out]
    go_enter Try.func64, Try.ntmps64
    go_wp2_with fail
    refine (permOk.spec_any A n c xs _ _ HX.out hn hc).mono ?_
    rintro e w1 ⟨rfl, rfl⟩
    rw [HO.out]
    go_wp2_with fail
    go_ret
    exact mgives_nil (Below.refl _ _)
end Go.Proofs.Ytngglhbcpeigcaa.fns

/-
  Contracts of the model's AroundOf, CornersOf, AnglesOf, StratumOf, GenusOf, IsRegularCorner.
-/
namespace Go.Proofs.Ytngglhbcpeigcaa.gl
open Go.ChangeShapes Go.WideShapes Go.ChangeAt Go.RowKit
open Go.Proofs.Ytngglhbcpeigcaa.mem Go.Proofs.Ytngglhbcpeigcaa.ints Go.Proofs.Ytngglhbcpeigcaa.arr Go.Proofs.Ytngglhbcpeigcaa.pm Go.Proofs.Ytngglhbcpeigcaa.permOk Go.Proofs.Ytngglhbcpeigcaa.permOf Go.Proofs.Ytngglhbcpeigcaa.inv Go.Proofs.Ytngglhbcpeigcaa.fns Go.Proofs.Ytngglhbcpeigcaa.sf Go.Proofs.Ytngglhbcpeigcaa.mat
set_option linter.unusedVariables false
set_option maxRecDepth 100000

theorem gives_eq {r r' : List Int} {w w' : World} {e : Ending} (h : r' = r) (g : Gives r w e w') : Gives r' w e w' := h ▸ g
theorem mgives_eq {r r' : List (List Int)} {w w' : World} {e : Ending} (h : r' = r) (g : MGives r w e w') : MGives r' w e w' := h ▸ g

theorem angF_range (r u : List Int) : ∀ x ∈ angF r u, 0 ≤ x ∧ x ≤ 24 := by
  intro x hx
  have h := (sortD_perm _).mem_iff.1 hx
  obtain ⟨c, hc, rfl⟩ := List.mem_map.1 h
  have h2 := (corF_small r u).2
  have h3 : c.length ≤ ((corF r u).map List.length).sum := by
    obtain ⟨k, hk⟩ := List.getElem?_of_mem hc
    exact tot_row hk
  omega
/-- The stratum that grows: from the block behind the box on. -/
structure Sg (w w1 wr : World) (v : Value) (l : List Int) : Prop where
  own : wr.ownsRow (w.heap.size + 1) 3 1 v l.length (V l)
  out : Out (w.heap.size + 1) (w.heap.size + 2) w1 wr
  at_ : ∀ b, v.ownBlock = some b → b = w.heap.size + 1 ∨ w1.heap.size ≤ b
theorem Sg.next {w w1 wr w' : World} {v v' : Value} {l : List Int} {z : Int} {n : Nat} (h : Sg w w1 wr v l) (ho : w'.ownsRow (w.heap.size + 1) 3 1 v' (n + 1) (V l ++ [.int .i64 z])) (hn : n = l.length)
    (hg : wr.grownBy w' v.ownBlock) (hb : v'.ownBlock = v.ownBlock ∨ ∃ k, v'.ownBlock = some k ∧ wr.heap.size + 1 ≤ k) : Sg w w1 w' v' (l ++ [z]) := by
  subst hn
  have e : V (l ++ [z]) = V l ++ [.int .i64 z] := by simp [V]
  have hs := h.out.size
  refine ⟨by rw [e]; simpa using ho, ⟨hg.os.trans h.out.os, hg.tape.trans h.out.tape, hg.output.trans h.out.output, Nat.le_trans hs hg.size, fun k hk hne => ?_⟩, fun b hq => ?_⟩
  · refine (hg.block k (by omega) (fun e => ?_)).trans (h.out.block k hk hne)
    have := h.at_ k e.symm
    omega
  · rcases hb with q | ⟨k, q, hk⟩
    · exact h.at_ b (by rw [← q]; exact hq)
    · rw [q] at hq; injection hq with hq; omega

end Go.Proofs.Ytngglhbcpeigcaa.gl

/-
  A part of a block, read.
-/
namespace Go.Proofs.Ytngglhbcpeigcaa.lp
open Go.ChangeShapes Go.WideShapes Go.ChangeAt Go.RowKit
open Go.Proofs.Ytngglhbcpeigcaa.mem Go.Proofs.Ytngglhbcpeigcaa.ints Go.Proofs.Ytngglhbcpeigcaa.arr Go.Proofs.Ytngglhbcpeigcaa.pm Go.Proofs.Ytngglhbcpeigcaa.sf Go.Proofs.Ytngglhbcpeigcaa.gl
set_option linter.unusedVariables false
set_option maxRecDepth 100000

section
variable {P : Program}
theorem run_loadVar_part (w : World) (g off : Nat) (ty : TypeId) (cs : List Value) (d : TypeDesc) (hc : ∀ (j : Nat) v, cs[j]? = some v → w.cell? ⟨g, off + j, none⟩ = some v)
    (hu : P.underlying ty = some d) (hd : (match d with | .struct _ | .array _ _ => true | _ => false) = true) (hi : (P.info? ty).map (·.size) = some cs.length) :
    (loadVar ty ⟨g, off, none⟩).run P w = .ok (.agg cs.toArray) w := by
  have hl : (loadCells ⟨g, off, none⟩ cs.length).run P w = .ok cs.toArray w :=
    run_loadCells_list (P := P) w ⟨g, off, none⟩ cs (fun j v hv => by
      have hadd : (⟨g, off, none⟩ : Addr).add j = ⟨g, off + j, none⟩ := by unfold Addr.add; split <;> simp_all
      rw [hadd]
      exact hc j v hv)
  cases hq : P.info? ty with
  | none => simp [hq] at hi
  | some i =>
    have hs : i.size = cs.length := by simpa [hq] using hi
    have hagg : (isAgg ty).run P w = .ok true w := by
      unfold isAgg
      rw [Sem.run_bind, run_underlying hu w]
      cases d <;> simp_all
    simp [loadVar, Sem.run_bind, hagg, sizeOf, typeInfo, hq, hs, hl]
theorem wpList_load_part {ops : Array Oper} {rest : List Oper} {o : Oper} {a : Act} {w : World} {Q : Exit → Act → World → Prop} (hgd : o.guard = none) (ty : TypeId) (x : Operand) (ho : o.op = .load ty x)
    (g off : Nat) (hx : a.eval x = .pointer (some ⟨g, off, none⟩)) (cs : List Value) (d : TypeDesc) (hc : ∀ (j : Nat) v, cs[j]? = some v → w.cell? ⟨g, off + j, none⟩ = some v)
    (hu : P.underlying ty = some d) (hd : (match d with | .struct _ | .array _ _ => true | _ => false) = true) (hi : (P.info? ty).map (·.size) = some cs.length)
    (h : wpList P ops Q rest (a.put o.dst (.agg cs.toArray)) w) : wpList P ops Q (o :: rest) a w := by
  refine wpList_plain hgd fun _ hK => ?_
  unfold Oper.wp execOp
  simp only [ho, hx, Instr.loadAt, Instr.sureAddr, Sem.run_bind, Sem.run_pure, Result.andThen_ok, run_loadVar_part w g off ty cs d hc hu hd hi]
  exact hK _ _ h
end
end Go.Proofs.Ytngglhbcpeigcaa.lp

/-
  RowsOf: what it answers; contracts of the specification's and of the program's.
-/
namespace Go.Proofs.Ytngglhbcpeigcaa.cy
open Go.ChangeShapes Go.WideShapes Go.ChangeAt Go.RowKit
open Go.Proofs.Ytngglhbcpeigcaa.mem Go.Proofs.Ytngglhbcpeigcaa.ints Go.Proofs.Ytngglhbcpeigcaa.arr Go.Proofs.Ytngglhbcpeigcaa.pm Go.Proofs.Ytngglhbcpeigcaa.permOk Go.Proofs.Ytngglhbcpeigcaa.permOf Go.Proofs.Ytngglhbcpeigcaa.inv Go.Proofs.Ytngglhbcpeigcaa.fns Go.Proofs.Ytngglhbcpeigcaa.sf Go.Proofs.Ytngglhbcpeigcaa.mat Go.Proofs.Ytngglhbcpeigcaa.gl Go.Proofs.Ytngglhbcpeigcaa.lp
set_option linter.unusedVariables false
set_option maxRecDepth 100000

def rowF (r u : List Int) : List (List Int) := if transB r u then cycF r else []
theorem rowF_yes {r u : List Int} (h : transB r u = true) : rowF r u = cycF r := by simp [rowF, h]
theorem rowF_no {r u : List Int} (h : transB r u = false) : rowF r u = [] := by simp [rowF, h]
theorem rowF_bnd (r u : List Int) : (rowF r u).length ≤ 1048576 ∧ tot (rowF r u) ≤ 1048576 := by
  unfold rowF
  split
  · exact cycF_small r
  · simp [tot]
theorem cycF_gl {r u : List Int} {n : Nat} (h : transB r u = true) (hn : r.length = n) : cycF r = cso (ext r) n n := by
  have s := transB_iff.1 h
  rw [← hn, cycF_ext s.r, cycF, s.r.b, if_pos rfl]

end Go.Proofs.Ytngglhbcpeigcaa.cy
