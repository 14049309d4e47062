/-
  Contract of the program's cycles and CyclesOf.
-/
import Derived.Test.YtglpiopjhddoeaaMg
namespace Go.Proofs.Ytglpiopjhddoeaa.fns
open Go.ChangeShapes Go.WideShapes Go.ChangeAt Go.RowKit
open Go.Proofs.Ytglpiopjhddoeaa.mem Go.Proofs.Ytglpiopjhddoeaa.ints Go.Proofs.Ytglpiopjhddoeaa.arr Go.Proofs.Ytglpiopjhddoeaa.pm Go.Proofs.Ytglpiopjhddoeaa.permOk Go.Proofs.Ytglpiopjhddoeaa.permOf Go.Proofs.Ytglpiopjhddoeaa.inv Go.Proofs.Ytglpiopjhddoeaa.mat
set_option linter.unusedVariables false
set_option maxRecDepth 100000

theorem infoII : (Try.prog.info? 23).map (fun i => (i.zero, i.size, i.bytes)) = some (some (.slice none 0 0), 1, 24) := by kernel_rfl
theorem flagsOf_set {l : List Int} {z : Nat} : (flagsOf l).set z true = flagsOf (l ++ [(z : Int)]) := by
  refine tabB_set _ _ fun j hj => ?_
  by_cases hjz : j = z
  · subst hjz; simp
  · have : ¬ ((j : Int) = (z : Int)) := by omega
    simp [hjz, this]
/-- A boxed permutation, the flags of all rows, and the rows that grow. -/
structure Cm (w wr : World) (ps : List Int) (v : Value) (xss : List (List Int)) : Prop where
  p : Arr wr w.heap.size (V ps) 61
  met : Arr wr (w.heap.size + 1) (VB (flagsOf xss.flatten)) 94
  below : Below w.heap.size w wr
  mg : Mg wr (w.heap.size + 2) (w.heap.size + 2) (w.heap.size + 1) v xss
def MGives (xss : List (List Int)) (w : World) (e : Ending) (w' : World) : Prop := ∃ A c, e = .returned (.slice A xss.length c) ∧ Mat w' w.heap.size w'.heap.size A xss.length xss ∧ Below w.heap.size w w'
def Mk (w w1 wr : World) (S : List Int) : Prop := Out (w.heap.size + 1) (w.heap.size + 2) w1 wr ∧ Arr wr (w.heap.size + 1) (VB (flagsOf S)) 94

set_option maxHeartbeats 2000000 in
theorem cycles_any (ps : List Int) (n : Nat) (w : World) (hl : ps.length = 24) (hb : Bij n ps) (hn : n ≤ 24) :
    Calls Try.prog 41 #[.agg (V ps).toArray, .int .i64 n] w (MGives (cso ps n n) w) := by
  obtain ⟨i0, hi0, hz0, hz1, hz2⟩ := info_parts infoII
  have HL := Lib.hid hl; have HB := Lib.hid hb; clear hl hb
  go_enter Try.func41, Try.ntmps41
  go_wp2
  go_loopw [6, 12] (fun v i wr => ∃ k : Nat, k ≤ n ∧ i = .int .i64 k ∧ Cm w wr ps v (cso ps n k)) (fun _ i _ => n - (intOf i).toNat)
  case atStart =>
    exact ⟨0, Nat.zero_le _, rfl, (Arr.new w (V ps) _ rfl).alloc _, Arr.new _ (VB (flagsOf [])) _ (by simp), ((Below.refl _ _).alloc (Nat.le_refl _) _).alloc (by simp) _, Mg.nil _ _ _ _⟩
  case round =>
    obtain ⟨k, hk, rfl, hm⟩ := hrel
    obtain ⟨wo, rfl⟩ : ∃ wo : World, wo = wr := ⟨_, rfl⟩
    obtain ⟨C, cc, rfl⟩ := hm.mg.form
    have CM := Lib.hid hm; clear hm
    have hso : w.heap.size + 2 ≤ wo.heap.size := CM.out.met.lt
    by_cases hlt : k < n
    · have CS := Lib.hid (cso_cs HB.out k hk)
      by_cases hin : (k : Int) ∈ (cso ps n k).flatten
      · have hfl : wo.cell? ⟨w.heap.size + 1, k, none⟩ = some (.bool true) := flags_cell CM.out.met (by omega) (by simpa using hin)
        have NX : Hid (cso ps n (k + 1) = cso ps n k) := Lib.hid (by rw [cso, if_pos hin])
        clear hin
        go_wp2
        go_roundw
        case rel => exact ⟨k + 1, by omega, by go_num, by rw [NX.out]; exact CM.out⟩
        case measure => simp [intOf]; omega
      · have hfl : wo.cell? ⟨w.heap.size + 1, k, none⟩ = some (.bool false) := flags_cell CM.out.met (by omega) (by simpa using hin)
        have NX : Hid (cso ps n (k + 1) = cso ps n k ++ [cyc ps n k]) := Lib.hid (by rw [cso, if_neg hin])
        have FL : Hid ((cso ps n (k + 1)).flatten = (cso ps n k).flatten ++ cyc ps n k) := Lib.hid (by rw [NX.out]; simp)
        have CY := Lib.hid (cyc_way (f := (k : Int)) HB.out (by omega) (by omega))
        have hcl : (cyc ps n (k : Int)).length ≤ n := CY.out.inn.len
        clear hin
        go_wp2_with (refine wpList_load_row rfl 61 (.tmp 2) rfl w.heap.size rfl 61 (V ps).toArray (0, 0) _ CM.out.p Try.underlying61 rfl (size_V HL.out) ?_)
        refine (cycleFrom_any ps n k _ HL.out HB.out hn hlt).mono ?_
        rintro e w1 ⟨v1, rfl, ho1, b1⟩
        obtain ⟨C1, c1, rfl⟩ := own_form ho1
        have OW := Lib.hid ho1; have B1 := Lib.hid b1
        have hs1 := b1.size
        have A1 := Lib.hid (CM.out.met.keep b1 (by omega))
        clear ho1 b1 hfl
        go_wp2
        go_loopw [23] (fun i wr => ∃ j : Nat, j ≤ (cyc ps n (k : Int)).length ∧ i = .int .i64 j ∧ Mk w w1 wr ((cso ps n k).flatten ++ (cyc ps n (k : Int)).take j)) (fun i _ => (cyc ps n (k : Int)).length - (intOf i).toNat)
        case atStart => exact ⟨0, Nat.zero_le _, rfl, Out.refl _ _ _, by simpa using A1.out⟩
        case round =>
          obtain ⟨j, hj, rfl, hmk⟩ := hrel
          have MK := Lib.hid hmk; clear hmk
          have RO := Row.out (Row.of_own OW.out) (lo' := w.heap.size + 1) (hi' := w.heap.size + 2) MK.out.1 (.inr (by omega))
          by_cases hjl : j < (cyc ps n (k : Int)).length
          · obtain ⟨z, hz, hzs, hzd⟩ := CY.out.inn.at_ hjl
            obtain ⟨go, oo, uo, rfl, hgo, hgo2, huo, hco, hfo⟩ := RO.at_ hjl
            rw [V_get hzs] at huo
            obtain rfl := Option.some.inj huo
            obtain ⟨bz, hcz⟩ : ∃ b : Bool, wr.cell? ⟨w.heap.size + 1, z, none⟩ = some (.bool b) := ⟨_, flags_cell MK.out.2 (by omega) rfl⟩
            have hfz := MK.out.2.frozen z
            have HZ := Lib.hid hzs
            clear hzs hzd huo hfo RO
            go_wp2
            go_roundw
            case rel =>
              refine ⟨j + 1, by omega, by go_num, MK.out.1.set_ (by omega) (by omega) _, ?_⟩
              have h := MK.out.2.set_ z (.bool true)
              rw [VB_set, flagsOf_set] at h
              rw [List.take_add_one, HZ.out, ← List.append_assoc]
              exact h
            case measure => simp [intOf]; omega
          · obtain rfl : j = (cyc ps n (k : Int)).length := by omega
            have CPOS := CY.out.pos
            obtain ⟨hs, bl, own, hh, ne⟩ := CM.out.mg
            have hlx : hs.length = (cso ps n k).length := by simpa using own.1
            obtain ⟨g, hg0, hrow⟩ := own_row (xs := V (cyc ps n (k : Int))) (by rw [V_len]; exact OW.out) (by rw [V_len]; exact CPOS)
            rw [V_len] at hrow
            have HROW := Lib.hid (mat.Row.block hrow (w' := wr) (MK.out.1.block g (by have := hrow.2.1; omega) (by omega)) MK.out.1.size)
            have hs2 := MK.out.1.size
            have KEEP : Hid (∀ b, w.heap.size + 2 ≤ b → b < wo.heap.size → wr.heap[b]? = wo.heap[b]?) := Lib.hid (fun b q1 q2 => (MK.out.1.block b (by omega) (by omega)).trans (B1.out.block b q2))
            have OWN : Hid (wr.ownsRow (w.heap.size + 2) 23 1 (.slice C (cso ps n k).length cc) (cso ps n k).length hs) := Lib.hid (by
              refine ⟨own.1, ?_⟩
              rcases own.2 with h0 | ⟨g, cap, cur, q1, q2, q3, q4⟩
              · exact .inl h0
              · exact .inr ⟨g, cap, cur, q1, q2, (KEEP.out g q2 (Array.getElem?_eq_some_iff.1 q3).1).trans q3, q4⟩)
            have HHH := Lib.hid hh; have NE := Lib.hid ne
            have VLT : Hid (∀ b, (Value.slice C (cso ps n k).length cc).ownBlock = some b → b < wo.heap.size) := Lib.hid (fun b e => (own.lt b e).2)
            have hcle : (cso ps n k).length ≤ k := CS.out.len
            clear own hh ne hrow RO hlx
            go_wp2_with (at_builtin; refine wpList_append_one2 wr _ _ rfl _ _ 30 rfl (w.heap.size + 2) 23 i0 _ 24 1 Try.underlying30 hi0 hz0 hz1 rfl hz2 rfl _ _ _ rfl OWN.out rfl rfl ?c4 (by decide) (by omega) ?_)
            case c4 => omega
            intro v' w' ho hg hb
            have HN : Hid (Mg w' (w.heap.size + 2) (w.heap.size + 2) (w.heap.size + 1) v' (cso ps n (k + 1))) := Lib.hid (by
              rw [NX.out]
              exact Mg.push HHH.out NE.out (by omega) KEEP.out hso (by omega) HROW.out hg0 VLT.out rfl ho hg hb)
            have HP : Hid (Arr w' w.heap.size (V ps) 61) := Lib.hid ((hg.block _ (by omega) (fun e => by have := (OWN.out.lt _ e.symm).1; omega)).trans ((MK.out.1.block _ (by omega) (by omega)).trans (CM.out.p.keep B1.out (by omega))))
            have HM : Hid (Arr w' (w.heap.size + 1) (VB (flagsOf (cso ps n (k + 1)).flatten)) 94) := Lib.hid (by
              have := MK.out.2
              rw [List.take_of_length_le (Nat.le_refl _), ← FL.out] at this
              exact (hg.block _ (by omega) (fun e => by have := (OWN.out.lt _ e.symm).1; omega)).trans this)
            have HBL : Hid (Below w.heap.size w w') := Lib.hid (((CM.out.below.trans (B1.out.mono (by omega))).trans (MK.out.1.below (by omega) (by omega))).trans ((Below.refl _ _).grown hg (by omega) (fun b hb => by have := (OWN.out.lt b hb).1; omega)))
            clear ho hg hb MK OWN HHH KEEP CM
            go_wp2
            go_roundw
            case rel => exact ⟨k + 1, by omega, by go_num, HP.out, HM.out, HBL.out, HN.out⟩
            case measure => simp [intOf]; omega
    · obtain rfl : k = n := by omega
      go_wp2
      go_ret
      exact ⟨C, cc, rfl, CM.out.mg.mat (by omega) (by omega), CM.out.below⟩
end Go.Proofs.Ytglpiopjhddoeaa.fns
