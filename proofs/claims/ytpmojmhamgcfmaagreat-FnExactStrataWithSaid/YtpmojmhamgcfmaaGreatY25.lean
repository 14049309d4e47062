import Derived.Test.YtpmojmhamgcfmaaGreatY22
import Derived.Test.YtpmojmhamgcfmaaGreatY24
import Derived.Test.YtpmojmhamgcfmaaGreatY03
import Derived.Test.YtpmojmhamgcfmaaGreatY18
/-
  Contracts of CyclesOf, of the program and of the model.
-/
namespace Go.Proofs.YtpmojmhamgcfmaaGreat.fns
open Go.ChangeShapes Go.WideShapes Go.ChangeAt Go.RowKit
open Go.Proofs.YtpmojmhamgcfmaaGreat.mem Go.Proofs.YtpmojmhamgcfmaaGreat.ints Go.Proofs.YtpmojmhamgcfmaaGreat.arr Go.Proofs.YtpmojmhamgcfmaaGreat.pm Go.Proofs.YtpmojmhamgcfmaaGreat.permOk Go.Proofs.YtpmojmhamgcfmaaGreat.permOf Go.Proofs.YtpmojmhamgcfmaaGreat.inv Go.Proofs.YtpmojmhamgcfmaaGreat.mat
set_option linter.unusedVariables false
set_option maxRecDepth 100000

theorem mgives_nil {w w' : World} (h : Below w.heap.size w w') : MGives [] w (.returned (.slice none 0 0)) w' := ⟨none, 0, rfl, Mat.nil _ _ _ _ (Nat.le_refl _), h⟩
theorem mgives_later {w w1 w' : World} {r : List (List Int)} {e : Ending} (hb : Below w.heap.size w w1) (h : MGives r w1 e w') : MGives r w e w' := by
  obtain ⟨A, c, he, ho, hb'⟩ := h
  exact ⟨A, c, he, ho.wider hb.size (Nat.le_refl _) (Nat.le_refl _), hb.trans (hb'.mono hb.size)⟩

theorem infoB : (Tryz.prog.info? 4).map (fun i => (i.zero, i.size, i.bytes)) = some (some (.bool false), 1, 1) := by kernel_rfl
def flagsN (n : Nat) (l : List Int) : List Bool := (List.range n).map fun (j : Nat) => decide ((j : Int) ∈ l)
theorem flagsN_at (n : Nat) (l : List Int) {k : Nat} (h : k < n) : (flagsN n l)[k]? = some (decide ((k : Int) ∈ l)) := by simp [flagsN, h]
theorem flagsN_set {n : Nat} {l : List Int} {z : Nat} : (flagsN n l).set z true = flagsN n (l ++ [(z : Int)]) := by
  refine List.ext_getElem? fun i => ?_
  by_cases hi : i < n
  · rw [flagsN_at _ _ hi, List.getElem?_set]
    by_cases e : z = i
    · subst e; simp [flagsN, hi]
    · rw [if_neg e, flagsN_at _ _ hi]
      have : ¬ ((i : Int) = (z : Int)) := by omega
      simp [this]
  · rw [List.getElem?_eq_none (by simp [flagsN]; omega), List.getElem?_eq_none (by simp [flagsN]; omega)]
theorem flagsN_nil (n : Nat) : flagsN n [] = List.replicate n false := by
  refine List.ext_getElem? fun i => ?_
  by_cases hi : i < n
  · rw [flagsN_at _ _ hi]; simp [hi]
  · rw [List.getElem?_eq_none (by simp [flagsN]; omega), List.getElem?_eq_none (by simp; omega)]
theorem flagsN_cell {w : World} {g n : Nat} {l : List Int} {t : TypeId} (h : Arr w g (VB (flagsN n l)) t) {k : Nat} (hk : k < n) {b : Bool} (hb : decide ((k : Int) ∈ l) = b) : w.cell? ⟨g, k, none⟩ = some (.bool b) :=
  h.cell (by simp [VB, flagsN_at n l hk, hb])
/-- The flags of all rows, and the rows that grow. -/
structure Sm (w wr : World) (n : Nat) (v : Value) (xss : List (List Int)) : Prop where
  met : Arr wr (w.heap.size + 1) (VB (flagsN n xss.flatten)) 4
  below : Below w.heap.size w wr
  mg : Mg wr w.heap.size (w.heap.size + 2) (w.heap.size + 1) v xss
/-- Inside a round that began at wo: a row acc that grows in new blocks, the flags of S and of acc. -/
structure Si (w wo wr : World) (n : Nat) (S : List Int) (v : Value) (acc : List Int) : Prop where
  own : wr.ownsRow wo.heap.size 3 1 v acc.length (V acc)
  met : Arr wr (w.heap.size + 1) (VB (flagsN n (S ++ acc))) 4
  out : Out (w.heap.size + 1) (w.heap.size + 2) wo wr
/-- The state of the model's walk along a cycle: not begun, or begun and not back. -/
def Sw (n : Nat) (ps : List Int) (f x : Int) (acc S : List Int) : Prop := (acc = [] ∧ x = f) ∨ (∃ m, Cw n ps f x acc m) ∧ (∀ y ∈ acc, ¬ y ∈ S)

theorem Sw.x_in {n : Nat} {ps acc S : List Int} {f x : Int} (h : Sw n ps f x acc S) (hb : Bij n ps) (f0 : 0 ≤ f) (f1 : f < n) : ∃ z : Nat, x = (z : Int) ∧ z < n := by
  have : 0 ≤ x ∧ x < n := by
    rcases h with ⟨_, rfl⟩ | ⟨⟨m, hc⟩, _⟩
    · exact ⟨f0, f1⟩
    · exact hc.way.x_in hb
  exact ⟨x.toNat, by omega, by omega⟩
theorem Sw.len {n : Nat} {ps acc S : List Int} {f x : Int} (h : Sw n ps f x acc S) : acc.length ≤ n := by
  rcases h with ⟨rfl, _⟩ | ⟨⟨m, hc⟩, _⟩
  · simp
  · exact hc.way.inn.len
theorem Sw.exit {n k : Nat} {ps acc : List Int} {out : List (List Int)} {f x : Int} (h : Sw n ps f x acc out.flatten) (hb : Bij n ps) (hc : Cs n ps k out) (hx : x ∈ out.flatten ++ acc) :
    (acc = [] ∧ f ∈ out.flatten) ∨ (acc = cyc ps n f ∧ ¬ f ∈ out.flatten) := by
  rcases h with ⟨rfl, rfl⟩ | ⟨⟨m, hw⟩, hd⟩
  · exact .inl ⟨rfl, by simpa using hx⟩
  · have hp := hw.way.pos
    have hf : f ∈ acc := by have := getD_mem (l := acc) (i := 0) hp; rw [hw.way.head] at this; exact this
    by_cases e : x = f
    · subst e; exact .inr ⟨hw.done, hd _ hf⟩
    · exfalso
      rcases List.mem_append.1 hx with q | q
      · have m1 := getD_mem (l := acc) (i := acc.length - 1) (by omega)
        have a1 := hw.way.inn.lo _ m1; have a2 := hw.way.inn.hi _ m1
        rw [hw.way.last] at q
        have := hc.back _ (by omega) q
        rw [Int.toNat_of_nonneg a1] at this
        exact hd _ m1 this
      · exact hw.way.fresh hb e q
theorem Sw.next {n : Nat} {ps acc S : List Int} {f x : Int} (h : Sw n ps f x acc S) (hb : Bij n ps) (f0 : 0 ≤ f) (f1 : f < n) (hx : ¬ x ∈ S ++ acc) : Sw n ps f (ps.getD x.toNat 0) (acc ++ [x]) S := by
  have hxS : ¬ x ∈ S := fun q => hx (List.mem_append.2 (.inl q))
  have hxa : ¬ x ∈ acc := fun q => hx (List.mem_append.2 (.inr q))
  rcases h with ⟨rfl, rfl⟩ | ⟨⟨m, hw⟩, hd⟩
  · exact .inr ⟨⟨n, Cw.start f0 f1⟩, fun y hy => by simp at hy; subst hy; exact hxS⟩
  · have hp := hw.way.pos
    have hf : f ∈ acc := by have := getD_mem (l := acc) (i := 0) hp; rw [hw.way.head] at this; exact this
    refine .inr ⟨⟨m - 1, hw.next hb (fun e => hxa (e ▸ hf))⟩, fun y hy => ?_⟩
    rcases List.mem_append.1 hy with q | q
    · exact hd y q
    · simp at q; subst q; exact hxS

theorem Si.next {w wo wr w1 w' : World} {n : Nat} {S acc : List Int} {v v' : Value} {z m : Nat} (h : Si w wo wr n S v acc) (hw1 : w1 = wr.setCell ⟨w.heap.size + 1, z, none⟩ (.bool true))
    (ho : w'.ownsRow wo.heap.size 3 1 v' (m + 1) (V acc ++ [.int .i64 (z : Int)])) (hm : m = acc.length) (hg : w1.grownBy w' v.ownBlock) (hso : w.heap.size + 2 ≤ wo.heap.size) : Si w wo w' n S v' (acc ++ [(z : Int)]) := by
  subst hm
  have e : V (acc ++ [(z : Int)]) = V acc ++ [.int .i64 (z : Int)] := by simp [V]
  have s1 : w1.heap.size = wr.heap.size := by rw [hw1]; simp [World.setCell]
  have hm := h.met.lt
  have O1 : Out (w.heap.size + 1) (w.heap.size + 2) wo w1 := by rw [hw1]; exact h.out.set_ (by omega) (by omega) _
  refine ⟨by rw [e]; simpa using ho, ?_, ⟨hg.os.trans O1.os, hg.tape.trans O1.tape, hg.output.trans O1.output, Nat.le_trans O1.size hg.size, fun b hb hne => (hg.block b (by have := O1.size; omega) (fun e => by have := (h.own.lt b e.symm).1; omega)).trans (O1.block b hb hne)⟩⟩
  refine (hg.block _ (by omega) (fun e => by have := (h.own.lt _ e.symm).1; omega)).trans ?_
  have hh := h.met.set_ z (.bool true)
  rw [VB_set, flagsN_set, ← hw1, List.append_assoc] at hh
  exact hh

set_option maxHeartbeats 2000000 in
theorem cyc_spec (A : Option Addr) (n c : Nat) (xs : List Int) (hi : Nat) (w : World) (hx : Rd w hi A n (V xs)) (hn : n ≤ 1048576) (hc : n ≤ c) :
    Calls Tryz.prog 60 #[.slice A n c] w (MGives (cycF xs) w) := by
  have lx : xs.length = n := by simpa [V] using hx.1
  have LX := Lib.hid lx; clear lx
  have HX := Lib.hid hx; clear hx
  by_cases ox : okB xs = true
  · have OK := Lib.hid (Ok.of xs ox)
    have hn24 : n ≤ 24 := by have := OK.out.len; rw [LX.out] at this; exact this
    have HF : Hid (cycF xs = cso xs n n) := Lib.hid (by rw [← LX.out]; simp [cycF, ox])
    have BJ : Hid (Bij n xs) := Lib.hid (by have := OK.out.bij; rw [LX.out] at this; exact this)
    have HO := Lib.hid ox; clear ox
    obtain ⟨i0, hi0, hz0, hz1, hz2⟩ := info_parts infoII
    obtain ⟨j0, hj0, hy0, hy1, hy2⟩ := info_parts infoB
    obtain ⟨q0, hq0, hq1, hq2, hq3⟩ := info_parts infoI
    have HY2 := Lib.hid hy2; clear hy2
    rw [HF.out]
    go_enter Tryz.func60, Tryz.ntmps60
    go_wp2_with fail
    refine (permOk.spec_any A n c xs _ _ HX.out hn hc).mono ?_
    rintro e w1 ⟨rfl, rfl⟩
    rw [HO.out]
    go_wp2_with (at_make; refine wpList_make_full _ rfl _ _ 102 rfl (w.heap.size + 1) 4 j0 _ 1 Tryz.underlying102 hj0 hy0 hy1 _ _ _ _ n rfl rfl rfl rfl ?b2 ?b3 (by simp) ?_)
    case b2 => rw [HY2.out]; omega
    case b3 => unfold maxLen; omega
    intro w1 hown hg
    have hb1 : Below (w.heap.size + 1) (w.alloc (.cells #[] 29)) w1 := (Below.refl _ _).grown hg (by simp) (by simp)
    have hs1 : w.heap.size + 1 ≤ w1.heap.size := by have := hb1.size; simpa using this
    have OA := own_arr hown
    have SM : Hid (Sm w w1 n (.slice (some ⟨w.heap.size, 0, none⟩) 0 0) []) := Lib.hid ⟨by simpa [flagsN_nil, VB, toList_madeCells_one] using OA, ((Below.refl _ _).alloc (Nat.le_refl _) _).trans (hb1.mono (by omega)), Mg.empty ((hb1.block w.heap.size (by omega)).trans (heap_alloc_last w _)) (Nat.le_refl _) (by omega)⟩
    clear hown hg hb1 OA
    go_wp2
    go_loopw [3, 17] (fun v i wr => ∃ k : Nat, k ≤ n ∧ i = .int .i64 k ∧ Sm w wr n v (cso xs n k)) (fun _ i _ => n - (intOf i).toNat)
    case atStart => exact ⟨0, Nat.zero_le _, rfl, SM.out⟩
    case round =>
      obtain ⟨k, hk, rfl, hm⟩ := hrel
      obtain ⟨wo, rfl⟩ : ∃ wo : World, wo = wr := ⟨_, rfl⟩
      obtain ⟨C, cc, rfl⟩ := hm.mg.form
      have CM := Lib.hid hm; clear hm SM hs1
      have hso : w.heap.size + 2 ≤ wo.heap.size := CM.out.met.lt
      by_cases hlt : k < n
      · have CS := Lib.hid (cso_cs BJ.out k hk)
        go_wp2
        go_loopw [6, 7] (fun v x wr => ∃ (z : Int) (acc : List Int), x = .int .i64 z ∧ Sw n xs k z acc (cso xs n k).flatten ∧ Si w wo wr n (cso xs n k).flatten v acc) (fun v _ _ => n + 1 - lenV v)
        case atStart =>
          refine ⟨k, [], rfl, .inl ⟨rfl, rfl⟩, ?_, ?_, Out.of_below ((Below.refl _ _).alloc (Nat.le_refl _) _)⟩
          · exact ⟨rfl, .inr ⟨wo.heap.size, 0, #[], rfl, Nat.le_refl _, heap_alloc_last wo _, Nat.le_refl _, by simp, rfl, rfl⟩⟩
          · rw [List.append_nil]; exact CM.out.met.alloc _
        case round =>
          obtain ⟨z0, acc, rfl, hsw, hsi⟩ := hrel
          obtain ⟨z, rfl, hz⟩ := hsw.x_in BJ.out (by omega) (by omega)
          obtain ⟨C1, c1, rfl⟩ := own_form hsi.own
          have hal := hsw.len
          have SW := Lib.hid hsw; have SI := Lib.hid hsi; clear hsw hsi
          have hs2 := SI.out.out.size
          by_cases hin : (z : Int) ∈ (cso xs n k).flatten ++ acc
          · have hfl : wr.cell? ⟨w.heap.size + 1, z, none⟩ = some (.bool true) := flagsN_cell SI.out.met hz (by simpa using hin)
            have EX := SW.out.exit BJ.out CS.out hin
            clear hin
            rcases EX with ⟨rfl, hkin⟩ | ⟨hacc, hkn⟩
            · have NX : Hid (cso xs n (k + 1) = cso xs n k) := Lib.hid (by rw [cso, if_pos hkin])
              clear hkin
              have HN : Hid (Sm w wr n (.slice C (cso xs n k).length cc) (cso xs n (k + 1))) := Lib.hid (by
                rw [NX.out]
                refine ⟨by simpa using SI.out.met, CM.out.below.trans (SI.out.out.below (by omega) CM.out.below.size), CM.out.mg.keep hs2 (by omega) (by omega) (fun b q1 q2 q3 => SI.out.out.block b q2 (by omega))⟩)
              go_wp2
              go_roundw
              case rel => exact ⟨k + 1, by omega, by go_num, HN.out⟩
              case measure => simp [intOf]; omega
            · have NX : Hid (cso xs n (k + 1) = cso xs n k ++ [acc]) := Lib.hid (by rw [cso, if_neg hkn, hacc])
              have CPOS : 0 < acc.length := by rw [hacc]; exact (cyc_way (f := (k : Int)) BJ.out (by omega) (by omega)).pos
              clear hacc hkn
              have FL : Hid ((cso xs n (k + 1)).flatten = (cso xs n k).flatten ++ acc) := Lib.hid (by rw [NX.out]; simp)
              obtain ⟨hs, bl, own, hh, ne⟩ := CM.out.mg
              obtain ⟨g, hg0, hrow⟩ := own_row (xs := V acc) (by rw [V_len]; exact SI.out.own) (by rw [V_len]; exact CPOS)
              rw [V_len] at hrow
              have HROW := Lib.hid hrow
              have KEEP : Hid (∀ b, w.heap.size + 2 ≤ b → b < wo.heap.size → wr.heap[b]? = wo.heap[b]?) := Lib.hid (fun b q1 q2 => SI.out.out.block b q2 (by omega))
              have OWN : Hid (wr.ownsRow w.heap.size 29 1 (.slice C (cso xs n k).length cc) (cso xs n k).length hs) := Lib.hid (by
                refine ⟨own.1, ?_⟩
                rcases own.2 with h0 | ⟨g, cap, cur, q1, q2, q3, q4⟩
                · exact .inl h0
                · refine .inr ⟨g, cap, cur, q1, q2, (SI.out.out.block g (Array.getElem?_eq_some_iff.1 q3).1 ?_).trans q3, q4⟩
                  have : g ≠ w.heap.size + 1 := fun e => ne (by rw [q1, e]; rfl)
                  omega)
              have HHH := Lib.hid hh; have NE := Lib.hid ne
              have VLT : Hid (∀ b, (Value.slice C (cso xs n k).length cc).ownBlock = some b → b < wo.heap.size) := Lib.hid (fun b e => (own.lt b e).2)
              have hcle : (cso xs n k).length ≤ k := CS.out.len
              clear own hh ne hrow
              have hd : decide ((0 : Int) < (acc.length : Int)) = true := by simp; omega
              go_wp2_with (at_builtin; refine wpList_append_one2 wr _ _ rfl _ _ 22 rfl w.heap.size 29 i0 _ 24 1 Tryz.underlying22 hi0 hz0 hz1 rfl hz2 rfl _ _ _ rfl OWN.out rfl rfl ?c4 (by decide) (by omega) ?_)
              case c4 => omega
              intro v' w' ho hg hb
              have HN : Hid (Mg w' w.heap.size (w.heap.size + 2) (w.heap.size + 1) v' (cso xs n (k + 1))) := Lib.hid (by
                rw [NX.out]
                exact Mg.push HHH.out NE.out (by omega) KEEP.out hso (by omega) HROW.out hg0 VLT.out rfl ho hg hb)
              have HM : Hid (Arr w' (w.heap.size + 1) (VB (flagsN n (cso xs n (k + 1)).flatten)) 4) := Lib.hid (by
                have := SI.out.met
                rw [← FL.out] at this
                exact (hg.block _ (by omega) (fun e => NE.out e.symm)).trans this)
              have HBL : Hid (Below w.heap.size w w') := Lib.hid ((CM.out.below.trans (SI.out.out.below (by omega) CM.out.below.size)).trans ((Below.refl _ _).grown hg (by omega) (fun b hb => by have := (OWN.out.lt b hb).1; omega)))
              clear ho hg hb SI OWN HHH KEEP CM hfl
              go_wp2
              go_roundw
              case rel => exact ⟨k + 1, by omega, by go_num, HM.out, HBL.out, HN.out⟩
              case measure => simp [intOf]; omega
          · have hfl : wr.cell? ⟨w.heap.size + 1, z, none⟩ = some (.bool false) := flagsN_cell SI.out.met hz (by simpa using hin)
            have hff := SI.out.met.frozen z
            have NX := SW.out.next BJ.out (by omega) (by omega) hin
            rw [Int.toNat_natCast] at NX
            have NXX := Lib.hid NX; clear NX hin
            obtain ⟨g, off, u, rfl, hgl, hxu, hcx⟩ := HX.out.at_ hz
            obtain ⟨s, hxs, rfl⟩ := V_at hxu
            have hgd := permOk.getD_of hxs
            have hgw : g < w.heap.size := Nat.lt_of_lt_of_le hgl HX.out.2.1
            have OW : Hid ((wr.setCell ⟨w.heap.size + 1, z, none⟩ (.bool true)).ownsRow wo.heap.size 3 1 (.slice C1 acc.length c1) acc.length (V acc)) := Lib.hid (by
              refine SI.out.own.kept (row := some (w.heap.size + 1)) ⟨rfl, rfl, rfl, by simp [World.setCell], fun i hi hne => heap_setCell_other _ _ _ _ (fun e => hne (by rw [e]))⟩ (.inr (fun e => by have := (SI.out.own.lt _ e).1; omega)))
            generalize hw1 : wr.setCell ⟨w.heap.size + 1, z, none⟩ (.bool true) = w2 at OW
            have HW1 := Lib.hid hw1
            have hsz1 : wo.heap.size ≤ w2.heap.size := by rw [← hw1]; simpa [World.setCell] using hs2
            rw [hgd] at NXX
            clear hxu hxs hgd
            go_wp2_with (at_builtin; refine wpList_append_one w2 _ _ rfl _ _ 29 rfl wo.heap.size 3 q0 _ 8 Tryz.underlying29 hq0 hq1 hq2 hq3 rfl _ _ _ rfl OW.out rfl rfl ?c4 (by decide) hsz1 ?_)
            case c4 => omega
            intro v' w' ho hg
            have HN := Lib.hid (SI.out.next HW1.out.symm ho rfl hg hso)
            obtain ⟨C', cc', rfl⟩ := own_form HN.out.own
            have hcx' : w'.cell? ⟨g, off + z, none⟩ = some (.int .i64 s) := by
              rw [World.cell?_of_block (w := wo) (a := ⟨g, off + z, none⟩) (HN.out.out.block g (by omega) (by omega)), CM.out.below.cell (p := ⟨g, off + z, none⟩) hgw]
              exact hcx
            clear ho hg SI hw1 hfl hff hcx OW
            go_wp2
            go_roundw
            case rel => exact ⟨_, _, rfl, NXX.out, HN.out⟩
            case measure => simp [lenV]; omega
      · obtain rfl : k = n := by omega
        go_wp2
        go_ret
        exact ⟨C, cc, rfl, CM.out.mg.mat (by omega) (by omega), CM.out.below⟩
  · have ox' : okB xs = false := by simpa using ox
    have HF : Hid (cycF xs = []) := Lib.hid (by simp [cycF, ox'])
    have HO := Lib.hid ox'; clear ox ox'
    rw [HF.out]
    go_enter Tryz.func60, Tryz.ntmps60
    go_wp2_with fail
    refine (permOk.spec_any A n c xs _ _ HX.out hn hc).mono ?_
    rintro e w1 ⟨rfl, rfl⟩
    rw [HO.out]
    go_wp2_with fail
    go_ret
    exact mgives_nil (Below.refl _ _)
end Go.Proofs.YtpmojmhamgcfmaaGreat.fns

/-
  slices.Collect over an iterator of rows; the program's corners and CornersOf.
-/
namespace Go.Proofs.YtpmojmhamgcfmaaGreat.gl
open Go.ChangeShapes Go.WideShapes Go.ChangeAt Go.RowKit
open Go.Proofs.YtpmojmhamgcfmaaGreat.mem Go.Proofs.YtpmojmhamgcfmaaGreat.ints Go.Proofs.YtpmojmhamgcfmaaGreat.arr Go.Proofs.YtpmojmhamgcfmaaGreat.pm Go.Proofs.YtpmojmhamgcfmaaGreat.permOk Go.Proofs.YtpmojmhamgcfmaaGreat.permOf Go.Proofs.YtpmojmhamgcfmaaGreat.inv Go.Proofs.YtpmojmhamgcfmaaGreat.fns Go.Proofs.YtpmojmhamgcfmaaGreat.sf Go.Proofs.YtpmojmhamgcfmaaGreat.rf Go.Proofs.YtpmojmhamgcfmaaGreat.mat
set_option linter.unusedVariables false
set_option maxRecDepth 100000
attribute [local go_sem] Oper.semAt_some

/-- 'out = append(out, u)' in a round: as wpList_append_one2. -/
theorem in_append_one2 {P : Program} {ops : Array Oper} {rest : List Oper} {o : Oper} {a : Act} {Q : Exit → Act → World → Prop} {m l : Nat} (W : World) (u : Value) (ty : TypeId) (hgd : o.guard = none) (s x : Operand) (t : TypeId)
    (ho : o.op = .call { callee := .builtin .append, args := #[s, x], argTypes := #[t, t] })
    (base : Nat) (e : TypeId) (i : TypeInfo) (z : Value) (bytes size : Nat) (ht : P.underlying t = some (.slice e)) (hi : P.info? e = some i) (hz : i.zero = some z)
    (hsize : i.size = size) (hone : size = 1) (hby : i.bytes = bytes) (hzs : z.cells.size = 1)
    (v : Value) (n : Nat) (xs : List Value) (hs : a.eval s = v) (hown : W.ownsRow base e 1 v n xs)
    (hx : a.eval x = .slice (some ⟨W.heap.size, 0, none⟩) 1 1) (h1 : u.oneCell' = true)
    (hbytes : (n + 1) * bytes ≤ 140737488355328) (hb0 : 0 < bytes) (hbase : base ≤ W.heap.size)
    (h : ∀ v' w', w'.ownsRow base e 1 v' (n + 1) (xs ++ [u]) → W.grownBy w' v.ownBlock → (v'.ownBlock = v.ownBlock ∨ ∃ k, v'.ownBlock = some k ∧ W.heap.size + 1 ≤ k) → wpListIn (Fence.wide.inRound l) m P ops Q rest (a.put o.dst v') w') : wpListIn (Fence.wide.inRound l) m P ops Q (o :: rest) a (W.alloc (.cells #[u] ty)) := by
  refine wpListIn_plain hgd fun K hK => wpIn_of_wp m l (by rw [ho]; intro c q; cases q) ?_
  subst hone
  have h63 : n + 1 ≤ maxLen := by
    have : (n + 1) * 1 ≤ (n + 1) * bytes := Nat.mul_le_mul_left _ hb0
    unfold maxLen; omega
  have hcell : (W.alloc (.cells #[u] ty)).cell? ⟨W.heap.size, 0, none⟩ = some u := by simp
  have hc : ∀ j q, [u][j]? = some q → (W.alloc (.cells #[u] ty)).cell? ((⟨W.heap.size, 0, none⟩ : Addr).add j) = some q := by
    intro j q hj
    match j, hj with
    | 0, hj => simp at hj; subst hj; simp [Addr.add]
  have hu : ∀ q ∈ [u], q.oneCell' = true := by intro q hq; simp at hq; subst hq; exact h1
  obtain ⟨v', w', hr, own', grown', _⟩ := run_append_own (P := P) (W.alloc (.cells #[u] ty)) base t o.type e i z 1 bytes ht hi hz hsize hby hzs (by decide) v n xs (hown.alloc _) ⟨W.heap.size, 0, none⟩ 1 1 [u] rfl hc hu h63 hbytes (by simp; omega)
  have hwh := one_where (P := P) (W.alloc (.cells #[u] ty)) base t o.type e i z bytes ht hi hz hsize hby hzs v n xs (hown.alloc _) ⟨W.heap.size, 0, none⟩ u hcell (by simp [Addr.add]) h1 hbytes h63 hr
  have hgo := h v' w' own' (grown_trans (World.grownBy_alloc W _ _) grown') (by simpa using hwh)
  simp [Oper.wp, execOp, ho, resolve, invoke, builtin, hs, hx, hr]
  exact hK _ _ hgo
theorem Seq.later {P : Program} {gf : Nat} {lb : Array Value} {bg : Nat} {L : List (List Int)} {w w' : World} (h : rf.Seq P gf lb bg L w) (hb : Below w.heap.size w w') : rf.Seq P gf lb bg L w' :=
  fun n m l W J Jx hW => h n m l W J Jx (hb.trans (hW.mono hb.size))
/-- What the appending has come to: the boxed slice, its rows. -/
def Ap (w0 : World) (S D1 : Nat) (pre : List Rw) (W : World) : Prop :=
  S + 2 ≤ D1 ∧ D1 ≤ W.heap.size ∧ Below w0.heap.size w0 W ∧ ∃ v, Arr W w0.heap.size [v] 22 ∧ Mg W D1 D1 w0.heap.size v (pre.map Prod.fst)
theorem Ap.out {w0 A B : World} {S D1 : Nat} {pre : List Rw} (h : Ap w0 S D1 pre A) (hS : w0.heap.size < S) (ho : Out S (S + 2) A B) : Ap w0 S D1 pre B := by
  obtain ⟨h1, h2, h3, v, h4, h5⟩ := h
  have hs := ho.size
  exact ⟨h1, by omega, h3.trans (ho.below (by omega) (by have := h3.size; omega)), v, (ho.block _ (by omega) (.inl hS)).trans h4, h5.keep hs (Nat.le_refl _) (by omega) (fun b q1 q2 _ => ho.block b q2 (.inr (by omega)))⟩
theorem infoII' : (Tryz.prog.info? 29).map (fun i => (i.zero, i.size, i.bytes)) = some (some (.slice none 0 0), 1, 24) := by kernel_rfl

set_option maxHeartbeats 1000000 in
theorem corners_any (p q : List Int) (n : Nat) (w : World) (hp : p.length = 24) (hq : q.length = 24) :
    Calls Tryz.prog 72 #[.agg (V (gl p q n)).toArray] w fun e w' => e = .returned (.func (.func 83) #[] #[.pointer (some ⟨w.heap.size, 0, none⟩)]) ∧ w' = w.alloc (.cells (V (gl p q n)).toArray 62) := by
  go_enter Tryz.func72, Tryz.ntmps72
  go_wp2
  go_ret
  exact ⟨rfl, rfl⟩
theorem corners_enters : ∀ args w, (callFunc 83 args).run Tryz.prog w = .ok (.enter 83 args) w := enters_of Tryz.func83 (by kernel_rfl) rfl
end Go.Proofs.YtpmojmhamgcfmaaGreat.gl

/-
  Contracts of the laws' same, sorted, lengths.
-/
namespace Go.Proofs.YtpmojmhamgcfmaaGreat.fns
open Go.ChangeShapes Go.WideShapes Go.ChangeAt Go.RowKit
open Go.Proofs.YtpmojmhamgcfmaaGreat.mem Go.Proofs.YtpmojmhamgcfmaaGreat.ints Go.Proofs.YtpmojmhamgcfmaaGreat.arr Go.Proofs.YtpmojmhamgcfmaaGreat.pm Go.Proofs.YtpmojmhamgcfmaaGreat.mat
set_option linter.unusedVariables false
set_option maxRecDepth 100000

theorem Grows.set_ {w wr : World} {b cc : Nat} {l : List Int} (h : Grows w wr (.slice (some ⟨b, 0, none⟩) l.length cc) l) (k : Nat) (z : Int) : Grows w (wr.setCell ⟨b, k, none⟩ (.int .i64 z)) (.slice (some ⟨b, 0, none⟩) (l.set k z).length cc) (l.set k z) := by
  have hb := h.own.lt b rfl
  have := (h.own.stored k (.int .i64 z)).1
  rw [V_set] at this
  exact ⟨by simpa using this, h.below.setCell hb.1 _⟩

def lensF (xss : List (List Int)) : List Int := xss.map fun xs => (xs.length : Int)
end Go.Proofs.YtpmojmhamgcfmaaGreat.fns

/-
  The model's descending order (as the laws' own): contracts of l04Down and l04Lengths.
-/
namespace Go.Proofs.YtpmojmhamgcfmaaGreat.fns
open Go.ChangeShapes Go.WideShapes Go.ChangeAt Go.RowKit
open Go.Proofs.YtpmojmhamgcfmaaGreat.mem Go.Proofs.YtpmojmhamgcfmaaGreat.ints Go.Proofs.YtpmojmhamgcfmaaGreat.arr Go.Proofs.YtpmojmhamgcfmaaGreat.pm Go.Proofs.YtpmojmhamgcfmaaGreat.mat
set_option linter.unusedVariables false
set_option maxRecDepth 100000

set_option maxHeartbeats 1000000 in
theorem down_any (A : Option Addr) (n c : Nat) (xs : List Int) (hi : Nat) (w : World) (hx : Rd w hi A n (V xs)) (hn : n ≤ 1048576) :
    Calls Tryz.prog 59 #[.slice A n c] w (Gives (sortD xs) w) := by
  obtain ⟨i0, hi0, hz0, hz1, hz2⟩ := info_parts infoI
  have lx : xs.length = n := by simpa [V] using hx.1
  have LX := Lib.hid lx; clear lx
  have HX := Lib.hid hx; clear hx
  go_enter Tryz.func59, Tryz.ntmps59
  go_wp2
  go_loopw [3, 10] (fun v i wr => ∃ j : Nat, j ≤ n ∧ i = .int .i64 j ∧ Grows w wr v (sortD (xs.take j))) (fun _ i _ => n - (intOf i).toNat)
  case atStart => exact ⟨0, Nat.zero_le _, rfl, Grows.empty w⟩
  case round =>
    obtain ⟨j, hj, rfl, hm⟩ := hrel
    obtain ⟨wo, rfl⟩ : ∃ wo : World, wo = wr := ⟨_, rfl⟩
    obtain ⟨C, cc, rfl⟩ := hm.form
    have HLN : Hid ((sortD (xs.take j)).length = j) := Lib.hid (by rw [sortD_len]; have := LX.out; simp; omega)
    have HR := Lib.hid hm; clear hm
    by_cases hlt : j < n
    · obtain ⟨g, off, u, rfl, hgl, hxu, hcx⟩ := HX.out.at_ hlt
      obtain ⟨x, hxs, rfl⟩ := V_at hxu
      have hgw : g < w.heap.size := Nat.lt_of_lt_of_le hgl HX.out.2.1
      rw [← HR.out.below.cell (p := ⟨g, off + j, none⟩) hgw] at hcx
      have NX : Hid (sortD (xs.take (j + 1)) = insD x (sortD (xs.take j))) := Lib.hid (by rw [List.take_add_one, hxs]; exact sortD_snoc _ _)
      have hsz := HR.out.below.size
      clear hxu hxs
      generalize sortD (xs.take j) = l at *
      have hl : l.length ≤ 1048576 := by rw [HLN.out]; omega
      go_wp2_with (at_builtin; refine wpList_append_one wo _ _ rfl _ _ 29 rfl w.heap.size 3 i0 _ 8 Tryz.underlying29 hi0 hz0 hz1 hz2 rfl _ _ _ rfl HR.out.own rfl rfl ?c4 (by decide) hsz ?_)
      case c4 => omega
      intro v' w' ho hg
      have G1 := HR.out.next ho rfl hg
      rw [← ins_end] at G1
      clear ho hg HR hcx
      obtain ⟨C', cc', rfl⟩ := own_form G1.own
      obtain ⟨b, rfl⟩ : ∃ b, C' = some ⟨b, 0, none⟩ := by
        rcases G1.own.2 with ⟨h0, hn0⟩ | ⟨b, cap, cur, q1, _⟩
        · simp [ins_end] at hn0
        · injection q1 with q1; exact ⟨b, q1⟩
      rw [ins_len _ _ (Nat.le_refl _)]
      have HG := Lib.hid G1; clear G1
      go_wp2
      go_loopw [6] (fun i wr => ∃ (k : Nat) (y : Int), k ≤ l.length ∧ i = .int .i64 k ∧ Grows w wr (.slice (some ⟨b, 0, none⟩) (ins y l k).length cc') (ins y l k) ∧ Hid (posD x l k = posD x l l.length)) (fun i _ => (intOf i).toNat)
      case atStart => exact ⟨l.length, 0, Nat.le_refl _, by go_num, HG.out, Lib.hid rfl⟩
      case round =>
        obtain ⟨k, y, hk, rfl, hg, HPOS⟩ := hrel
        have IL := Lib.hid (ins_len y l hk)
        have GG := Lib.hid hg; clear hg HG
        have fk := GG.out.own.frozenAt k
        have hck : wr.cell? ⟨b, k, none⟩ = some (.int .i64 ((ins y l k).getD k 0)) := by rw [GG.out.own.cellAt k (by rw [IL.out]; omega)]; exact V_getD (by rw [IL.out]; omega)
        cases k with
        | zero =>
          have G2 : Hid (Grows w (wr.setCell ⟨b, 0, none⟩ (.int .i64 x)) (.slice (some ⟨b, 0, none⟩) (l.length + 1) cc') (insD x l)) := Lib.hid (by
            have := GG.out.set_ 0 x
            rw [ins_set _ _ _ hk] at this
            unfold insD
            rw [← HPOS.out]
            rw [ins_len _ _ hk] at this
            exact this)
          go_wp2
          go_roundw
          case rel => exact ⟨j + 1, by omega, by go_num, by rw [NX.out]; exact G2.out⟩
          case measure => simp [intOf]; omega
        | succ k =>
          have hcl : wr.cell? ⟨b, k, none⟩ = some (.int .i64 (l.getD k 0)) := by rw [GG.out.own.cellAt k (by rw [IL.out]; omega), V_getD (by rw [IL.out]; omega), ins_at _ _ (by omega) hk]
          by_cases hd : l.getD k 0 < x
          · have G2 := GG.out.set_ (k + 1) (l.getD k 0)
            rw [ins_move _ _ (by omega)] at G2
            have HP2 : Hid (posD x l k = posD x l l.length) := Lib.hid (by rw [← HPOS.out, posD, if_pos hd])
            generalize l.getD k 0 = z at *
            have HG2 := Lib.hid G2; clear G2
            go_wp2
            go_roundw
            case rel => exact ⟨k, z, by omega, by go_num, HG2.out, HP2⟩
            case measure => simp [intOf]
          · have G2 : Hid (Grows w (wr.setCell ⟨b, k + 1, none⟩ (.int .i64 x)) (.slice (some ⟨b, 0, none⟩) (l.length + 1) cc') (insD x l)) := Lib.hid (by
              have := GG.out.set_ (k + 1) x
              rw [ins_set _ _ _ hk] at this
              unfold insD
              rw [← HPOS.out, posD, if_neg hd]
              rw [ins_len _ _ hk] at this
              exact this)
            generalize l.getD k 0 = z at *
            have hdd : decide (z < x) = false := by simp; omega
            clear hd
            go_wp2
            go_roundw
            case rel => exact ⟨j + 1, by omega, by go_num, by rw [NX.out]; exact G2.out⟩
            case measure => simp [intOf]; omega
    · obtain rfl : j = n := by omega
      go_wp2
      go_ret
      have := HR.out
      rw [List.take_of_length_le (by rw [LX.out]; exact Nat.le_refl _)] at this ⊢
      exact this.gives

set_option maxHeartbeats 1000000 in
theorem lens_spec (A : Option Addr) (n c : Nat) (xss : List (List Int)) (lo hi : Nat) (w : World) (hx : Mat w lo hi A n xss) (hn : n ≤ 1048576) (tx : tot xss ≤ 1048576) :
    Calls Tryz.prog 40 #[.slice A n c] w (Gives (sortD (lensF xss)) w) := by
  obtain ⟨i0, hi0, hz0, hz1, hz2⟩ := info_parts infoI
  have LX := Lib.hid hx.1
  have HX := Lib.hid hx; clear hx
  go_enter Tryz.func40, Tryz.ntmps40
  go_wp2
  go_loopw [3, 9] (fun v i wr => ∃ j : Nat, j ≤ n ∧ i = .int .i64 j ∧ Grows w wr v (lensF (xss.take j))) (fun _ i _ => n - (intOf i).toNat)
  case atStart => exact ⟨0, Nat.zero_le _, rfl, Grows.empty w⟩
  case round =>
    obtain ⟨j, hj, rfl, hm⟩ := hrel
    obtain ⟨C, cc, rfl⟩ := hm.form
    have HLN : Hid ((lensF (xss.take j)).length = j) := Lib.hid (by have := LX.out; simp [lensF]; omega)
    have HR := Lib.hid hm; clear hm
    by_cases hlt : j < n
    · obtain ⟨G, off, A1, c1, xs, l, u, rfl, hxk, hcx, rx, _⟩ := (HX.out.keep HR.out.below HX.out.2.1).at_ hlt
      have NX : Hid (lensF (xss.take (j + 1)) = lensF (xss.take j) ++ [(xs.length : Int)]) := Lib.hid (by rw [List.take_add_one, hxk]; simp [lensF])
      have hsz := HR.out.below.size
      have b1 := tot_row hxk
      clear hxk rx
      generalize lensF (xss.take j) = l1 at *
      have hl : l1.length ≤ 1048576 := by rw [HLN.out]; omega
      go_wp2_with (at_builtin; refine wpList_append_one wr _ _ rfl _ _ 29 rfl w.heap.size 3 i0 _ 8 Tryz.underlying29 hi0 hz0 hz1 hz2 rfl _ _ _ rfl HR.out.own rfl rfl ?c4 (by decide) hsz ?_)
      case c4 => omega
      intro v' w' ho hg
      have HN : Hid (Grows w w' v' (lensF (xss.take (j + 1)))) := Lib.hid (by rw [NX.out]; exact HR.out.next ho rfl hg)
      clear ho hg HR hcx
      go_wp2
      go_roundw
      case rel => exact ⟨j + 1, by omega, by go_num, HN.out⟩
      case measure => simp [intOf]; omega
    · obtain rfl : j = n := by omega
      have e : xss.take j = xss := List.take_of_length_le (by rw [LX.out]; exact Nat.le_refl _)
      rw [e] at HR HLN ⊢
      clear e
      go_wp2_with fail
      refine (down_any C _ cc (lensF xss) _ _ (Row.of_own HR.out.own).rd (by rw [HLN.out]; exact hn)).mono ?_
      rintro e w2 hg
      obtain ⟨v, rfl, ho, hb⟩ := gives_later HR.out.below hg
      have HOW := Lib.hid ho; have HB := Lib.hid hb; clear ho hb hg
      go_wp2_with fail
      go_ret
      exact ⟨v, rfl, HOW.out, HB.out⟩
end Go.Proofs.YtpmojmhamgcfmaaGreat.fns

/-
  Contracts of the model's AroundOf, CornersOf, AnglesOf, StratumOf, GenusOf, IsRegularCorner.
-/
namespace Go.Proofs.YtpmojmhamgcfmaaGreat.gl
open Go.ChangeShapes Go.WideShapes Go.ChangeAt Go.RowKit
open Go.Proofs.YtpmojmhamgcfmaaGreat.mem Go.Proofs.YtpmojmhamgcfmaaGreat.ints Go.Proofs.YtpmojmhamgcfmaaGreat.arr Go.Proofs.YtpmojmhamgcfmaaGreat.pm Go.Proofs.YtpmojmhamgcfmaaGreat.permOk Go.Proofs.YtpmojmhamgcfmaaGreat.permOf Go.Proofs.YtpmojmhamgcfmaaGreat.inv Go.Proofs.YtpmojmhamgcfmaaGreat.fns Go.Proofs.YtpmojmhamgcfmaaGreat.sf Go.Proofs.YtpmojmhamgcfmaaGreat.mat
set_option linter.unusedVariables false
set_option maxRecDepth 100000

theorem gives_eq {r r' : List Int} {w w' : World} {e : Ending} (h : r' = r) (g : Gives r w e w') : Gives r' w e w' := h ▸ g
theorem mgives_eq {r r' : List (List Int)} {w w' : World} {e : Ending} (h : r' = r) (g : MGives r w e w') : MGives r' w e w' := h ▸ g

set_option maxHeartbeats 1000000 in
theorem co_spec0 (v : Value) (r u : List Int) (hi : Nat) (w : World) (hx : Srd w hi v r u) (hn : r.length ≤ 1048576) (hm : u.length ≤ 1048576) :
    Calls Tryz.prog 41 #[v] w (MGives (corF r u) w) := by
  have HX := Lib.hid hx; clear hx
  obtain ⟨P, n, c, Q, m, d, rfl, q1, q2, e1, e2, ht, HR⟩ := HX.out.open
  go_enter Tryz.func41, Tryz.ntmps41
  go_wp2_with fail
  refine (ok_spec _ r u hi _ (HX.out.keep ((Below.refl hi w).alloc ht _) (Nat.le_refl _)) hn hm).mono ?_
  rintro e w1 ⟨rfl, b1⟩
  have A0 := Lib.hid ((Arr.new w [.slice P n c, .slice Q m d] 31 rfl).keep b1 (by simp))
  have c0 := A0.out.cell (k := 0) rfl
  have c1 := A0.out.cell (k := 1) rfl
  have B1 := Lib.hid (below1 _ _ b1); clear b1
  have X1 : Hid (Srd w1 hi (.agg #[.slice P n c, .slice Q m d]) r u) := Lib.hid (HX.out.keep (B1.out.mono ht) (Nat.le_refl _))
  cases hq : transB r u
  · have HF := Lib.hid (corF_no hq); clear hq
    go_wp2_with fail
    go_ret
    exact mgives_eq HF.out (mgives_nil B1.out)
  · have HF := Lib.hid (corF_cyc hq)
    have HS := Lib.hid (transB_iff.1 hq); clear hq
    go_wp2_with fail
    refine (around_spec _ r u hi _ X1.out HS.out).mono ?_
    rintro e w2 hg
    obtain ⟨v2, rfl, o2, b2⟩ := gives_later B1.out hg
    obtain ⟨P2, c2, rfl⟩ := own_form o2
    have R2 := Lib.hid (Row.of_own o2); have B2 := Lib.hid b2
    have hcap := (own_cap o2).2
    have hl : (comm r u).length ≤ 1048576 := by have := HS.out.comm.2; omega
    clear o2 b2 hg
    go_wp2_with fail
    refine (cyc_spec P2 _ c2 (comm r u) _ _ R2.out.rd hl hcap).mono ?_
    rintro e w3 hg
    obtain ⟨P3, c3, rfl, o3, b3⟩ := mgives_eq HF.out (mgives_later B2.out hg)
    have O3 := Lib.hid o3; have B3 := Lib.hid b3; clear o3 b3 hg
    go_wp2_with fail
    go_ret
    exact ⟨P3, c3, rfl, O3.out, B3.out⟩
theorem co_spec (v : Value) (r u : List Int) (hi : Nat) (w : World) (hx : Srd w hi v r u) (hn : r.length ≤ 1048576) (hm : u.length ≤ 1048576) :
    Calls Tryz.prog 41 #[v] w fun e w' => ∃ A c, e = .returned (.slice A (corF r u).length c) ∧ Mat w' w.heap.size w'.heap.size A (corF r u).length (corF r u) ∧ Below w.heap.size w w' :=
  co_spec0 v r u hi w hx hn hm

set_option maxHeartbeats 1000000 in
theorem an_spec0 (v : Value) (r u : List Int) (hi : Nat) (w : World) (hx : Srd w hi v r u) (hn : r.length ≤ 1048576) (hm : u.length ≤ 1048576) :
    Calls Tryz.prog 26 #[v] w (Gives (angF r u) w) := by
  have HX := Lib.hid hx; clear hx
  obtain ⟨P, n, c, Q, m, d, rfl, q1, q2, e1, e2, ht, HR⟩ := HX.out.open
  go_enter Tryz.func26, Tryz.ntmps26
  go_wp2_with fail
  refine (co_spec _ r u hi _ (HX.out.keep ((Below.refl hi w).alloc ht _) (Nat.le_refl _)) hn hm).mono ?_
  rintro e w1 ⟨P1, c1, rfl, o1, b1⟩
  have B1 := Lib.hid (below1 _ _ b1); have O1 := Lib.hid o1; clear b1 o1
  have hs := corF_small r u
  have HF : Hid (angF r u = sortD (lensF (corF r u))) := Lib.hid rfl
  go_wp2_with fail
  refine (lens_spec P1 _ c1 (corF r u) _ _ _ O1.out (by omega) (by have := hs.2; unfold tot; omega)).mono ?_
  rintro e w2 hg
  obtain ⟨v2, rfl, o2, b2⟩ := gives_eq HF.out (gives_later B1.out hg)
  have O2 := Lib.hid o2; have B2 := Lib.hid b2; clear o2 b2 hg
  go_wp2_with fail
  go_ret
  exact ⟨v2, rfl, O2.out, B2.out⟩
theorem an_spec (v : Value) (r u : List Int) (hi : Nat) (w : World) (hx : Srd w hi v r u) (hn : r.length ≤ 1048576) (hm : u.length ≤ 1048576) :
    Calls Tryz.prog 26 #[v] w fun e w' => ∃ v, e = .returned v ∧ w'.ownsRow w.heap.size 3 1 v (angF r u).length (V (angF r u)) ∧ Below w.heap.size w w' :=
  an_spec0 v r u hi w hx hn hm

theorem angF_range (r u : List Int) : ∀ x ∈ angF r u, 0 ≤ x ∧ x ≤ 24 := by
  intro x hx
  have h := (sortD_perm _).mem_iff.1 hx
  obtain ⟨c, hc, rfl⟩ := List.mem_map.1 h
  have h2 := (corF_small r u).2
  have h3 : c.length ≤ ((corF r u).map List.length).sum := by
    obtain ⟨k, hk⟩ := List.getElem?_of_mem hc
    exact tot_row hk
  omega
/-- The stratum that grows: from the block behind the box on. -/
structure Sg (w w1 wr : World) (v : Value) (l : List Int) : Prop where
  own : wr.ownsRow (w.heap.size + 1) 3 1 v l.length (V l)
  out : Out (w.heap.size + 1) (w.heap.size + 2) w1 wr
  at_ : ∀ b, v.ownBlock = some b → b = w.heap.size + 1 ∨ w1.heap.size ≤ b
theorem Sg.next {w w1 wr w' : World} {v v' : Value} {l : List Int} {z : Int} {n : Nat} (h : Sg w w1 wr v l) (ho : w'.ownsRow (w.heap.size + 1) 3 1 v' (n + 1) (V l ++ [.int .i64 z])) (hn : n = l.length)
    (hg : wr.grownBy w' v.ownBlock) (hb : v'.ownBlock = v.ownBlock ∨ ∃ k, v'.ownBlock = some k ∧ wr.heap.size + 1 ≤ k) : Sg w w1 w' v' (l ++ [z]) := by
  subst hn
  have e : V (l ++ [z]) = V l ++ [.int .i64 z] := by simp [V]
  have hs := h.out.size
  refine ⟨by rw [e]; simpa using ho, ⟨hg.os.trans h.out.os, hg.tape.trans h.out.tape, hg.output.trans h.out.output, Nat.le_trans hs hg.size, fun k hk hne => ?_⟩, fun b hq => ?_⟩
  · refine (hg.block k (by omega) (fun e => ?_)).trans (h.out.block k hk hne)
    have := h.at_ k e.symm
    omega
  · rcases hb with q | ⟨k, q, hk⟩
    · exact h.at_ b (by rw [← q]; exact hq)
    · rw [q] at hq; injection hq with hq; omega

set_option maxHeartbeats 2000000 in
theorem st_spec0 (v : Value) (r u : List Int) (hi : Nat) (w : World) (hx : Srd w hi v r u) (hn : r.length ≤ 1048576) (hm : u.length ≤ 1048576) :
    Calls Tryz.prog 10 #[v] w (Gives (strF r u) w) := by
  have HX := Lib.hid hx; clear hx
  obtain ⟨P, n, c, Q, m, d, rfl, q1, q2, e1, e2, ht, HR⟩ := HX.out.open
  obtain ⟨i0, hi0, hz0, hz1, hz2⟩ := info_parts infoI
  clear q1 q2 HR e1 e2
  go_enter Tryz.func10, Tryz.ntmps10
  go_wp2_with fail
  refine (an_spec _ r u hi _ (HX.out.keep (((Below.refl hi w).alloc ht _).alloc (by simp; omega) _) (Nat.le_refl _)) hn hm).mono ?_
  rintro e w1 ⟨v1, rfl, o1, b1⟩
  obtain ⟨P1, c1, rfl⟩ := own_form o1
  have RA : Hid (Row w1 (w.heap.size + 2) w1.heap.size P1 (angF r u).length (V (angF r u))) := Lib.hid (by have := Row.of_own o1; simpa using this)
  have hs1 : w.heap.size + 2 ≤ w1.heap.size := by have := b1.size; simpa using this
  have hblk : w1.heap[w.heap.size + 1]? = some (.cells #[] 3 (0, 0)) := by
    rw [b1.block _ (by simp)]
    have := heap_alloc_last (w.alloc (.cells #[.slice P n c, .slice Q m d] 31)) (.cells #[] 3)
    simpa using this
  have S0 : Hid (Sg w w1 w1 (.slice (some ⟨w.heap.size + 1, 0, none⟩) 0 0) []) := Lib.hid ⟨⟨rfl, .inr ⟨w.heap.size + 1, 0, #[], rfl, Nat.le_refl _, hblk, Nat.le_refl _, by simp, rfl, rfl⟩⟩, Out.refl _ _ _, fun b e => by simp [Value.ownBlock] at e; omega⟩
  have BW : Hid (Below w.heap.size w w1) := Lib.hid ((((Below.refl _ _).alloc (Nat.le_refl _) _).alloc (by simp) _).trans (b1.mono (by simp <;> omega)))
  clear o1 b1 hblk
  have HF : Hid (strF r u = strL (angF r u)) := Lib.hid rfl
  have HR := Lib.hid (angF_range r u)
  have hl := angF_len r u
  generalize angF r u = l at *
  go_wp2
  go_loopw [3, 10] (fun v i wr => ∃ k : Nat, k ≤ l.length ∧ i = .int .i64 k ∧ Sg w w1 wr v (strL (l.take k))) (fun _ i _ => l.length - (intOf i).toNat)
  case atStart => exact ⟨0, Nat.zero_le _, rfl, by simpa [strL] using S0.out⟩
  case round =>
    obtain ⟨k, hk, rfl, hm⟩ := hrel
    obtain ⟨C, cc, rfl⟩ := own_form hm.own
    have HM := Lib.hid hm; clear hm
    have hsz : w1.heap.size ≤ wr.heap.size := HM.out.out.size
    by_cases hlt : k < l.length
    · obtain ⟨g, off, uu, rfl, hg1, hg2, hxu, hcx, hfx⟩ := (Row.out RA.out HM.out.out (.inr (Nat.le_refl _))).at_ hlt
      obtain ⟨x, hxs, rfl⟩ := V_at hxu
      obtain ⟨hx0, hx24⟩ := HR.out x (List.mem_of_getElem? hxs)
      have NX : Hid (strL (l.take (k + 1)) = if 1 < x then strL (l.take k) ++ [x - 1] else strL (l.take k)) := Lib.hid (by rw [List.take_add_one, hxs]; exact strL_snoc _ _)
      have HLN : (strL (l.take k)).length ≤ l.length := by have := strL_len (l.take k); simp at this; omega
      clear hxu hxs hfx
      generalize strL (l.take k) = lk at *
      by_cases hx1 : 1 < x
      · rw [if_pos hx1] at NX
        go_wp2_with (at_builtin; refine wpList_append_one2 wr _ _ rfl _ _ 29 rfl (w.heap.size + 1) 3 i0 _ 8 1 Tryz.underlying29 hi0 hz0 hz1 rfl hz2 rfl _ _ _ rfl HM.out.own rfl rfl ?c4 (by decide) (by omega) ?_)
        case c4 => omega
        intro v' w' ho hg hb
        have HN : Hid (Sg w w1 w' v' (strL (l.take (k + 1)))) := Lib.hid (by rw [NX.out]; exact HM.out.next ho rfl hg hb)
        clear ho hg hb HM hcx
        go_wp2
        go_roundw
        case rel => exact ⟨k + 1, by omega, by go_num, HN.out⟩
        case measure => simp [intOf]; omega
      · rw [if_neg hx1] at NX
        have hd : decide (1 < x) = false := by simp; omega
        clear hx1
        go_wp2
        go_roundw
        case rel => exact ⟨k + 1, by omega, by go_num, by rw [NX.out]; exact HM.out⟩
        case measure => simp [intOf]; omega
    · obtain rfl : k = l.length := by omega
      have e : l.take l.length = l := List.take_of_length_le (Nat.le_refl _)
      rw [e] at HM ⊢
      go_wp2
      go_ret
      exact gives_eq HF.out ⟨_, rfl, own_base HM.out.own (by omega), BW.out.trans (HM.out.out.below (by omega) (by have := BW.out.size; omega))⟩

theorem st_spec (v : Value) (r u : List Int) (hi : Nat) (w : World) (hx : Srd w hi v r u) (hn : r.length ≤ 1048576) (hm : u.length ≤ 1048576) :
    Calls Tryz.prog 10 #[v] w fun e w' => ∃ v, e = .returned v ∧ w'.ownsRow w.heap.size 3 1 v (strF r u).length (V (strF r u)) ∧ Below w.heap.size w w' :=
  st_spec0 v r u hi w hx hn hm

end Go.Proofs.YtpmojmhamgcfmaaGreat.gl

/-
  Contract of the program's CornersOf.
-/
namespace Go.Proofs.YtpmojmhamgcfmaaGreat.gl
open Go.ChangeShapes Go.WideShapes Go.ChangeAt Go.RowKit
open Go.Proofs.YtpmojmhamgcfmaaGreat.mem Go.Proofs.YtpmojmhamgcfmaaGreat.ints Go.Proofs.YtpmojmhamgcfmaaGreat.arr Go.Proofs.YtpmojmhamgcfmaaGreat.pm Go.Proofs.YtpmojmhamgcfmaaGreat.permOk Go.Proofs.YtpmojmhamgcfmaaGreat.permOf Go.Proofs.YtpmojmhamgcfmaaGreat.inv Go.Proofs.YtpmojmhamgcfmaaGreat.fns Go.Proofs.YtpmojmhamgcfmaaGreat.sf Go.Proofs.YtpmojmhamgcfmaaGreat.mat Go.Proofs.YtpmojmhamgcfmaaGreat.rf
set_option linter.unusedVariables false
set_option maxRecDepth 100000

theorem cso_pos {n : Nat} {ps : List Int} (hb : Bij n ps) : ∀ c ∈ cso ps n n, 0 < c.length := by
  intro c hc
  obtain ⟨i, hi, rfl⟩ := cso_cyc n (Nat.le_refl _) c hc
  exact (cyc_way (f := (i : Int)) hb (by omega) (by omega)).pos
theorem cso_le {n : Nat} {ps : List Int} (hb : Bij n ps) : (cso ps n n).length ≤ n := (cso_cs hb n (Nat.le_refl _)).len

theorem corF_bnd (r u : List Int) : (corF r u).length ≤ 1048576 ∧ tot (corF r u) ≤ 1048576 := by
  have := corF_small r u
  exact ⟨by omega, by have := this.2; unfold tot; omega⟩end Go.Proofs.YtpmojmhamgcfmaaGreat.gl
