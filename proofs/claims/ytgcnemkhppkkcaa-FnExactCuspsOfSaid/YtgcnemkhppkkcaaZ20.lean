import Derived.Test.YtgcnemkhppkkcaaZ04
import Derived.Test.YtgcnemkhppkkcaaZ19
import Derived.Test.YtgcnemkhppkkcaaZ12
import Derived.Test.YtgcnemkhppkkcaaZ08
import Derived.Shelf.Slices.Turned
import Derived.Shelf.Slices.Reverse
import Derived.Shelf.Sort.Plain
import Derived.Shelf.Slices.In.SortNone
import Derived.Test.YtgcnemkhppkkcaaProg
namespace Go.Proofs.Ytgcnemkhppkkcaa.orb
open Go.ChangeShapes Go.WideShapes Go.ChangeAt Go.RowKit
open mem ints arr pm sf fns
set_option linter.unusedVariables false
set_option maxRecDepth 100000
def pL (L : List Sur) : List Int := L.map fun s => fnd L (stp 84 s)
theorem pL_len (L : List Sur) : (pL L).length = L.length := by simp [pL]
theorem pL_at {L : List Sur} {k : Nat} {s : Sur} (h : L[k]? = some s) : (pL L)[k]? = some (fnd L (stp 84 s)) := by simp [pL, h]
theorem pL_take {L : List Sur} {k : Nat} {s : Sur} (h : L[k]? = some s) : (pL L).take (k + 1) = (pL L).take k ++ [fnd L (stp 84 s)] := by
  rw [List.take_add_one, pL_at h]; rfl
theorem shear_stp {n : Nat} {s : Sur} (h : Sf n s.1 s.2) : can (shearS s).1 (shearS s).2 n = stp 84 s := (stp_cn (c := 84) h).symm
set_option maxHeartbeats 2000000 in
theorem shears_spec (A : Option Addr) (n c : Nat) (L : List Sur) (N h1 : Nat) (w : World) (hl : Lrd w h1 (.slice A n c) L) (hn : n ≤ 1048576) (hs : ∀ y ∈ L, Sf N y.1 y.2) :
    Calls sqp.prog 56 #[.slice A n c] w (Gives (pL L) w) := by
  have ln : L.length = n := by obtain ⟨A', n', c', e, h1, _⟩ := hl; injection e with e1 e2 e3; subst e2; exact h1
  have LN := Lib.hid ln; have HL := Lib.hid hl; have HS := Lib.hid hs; clear ln hl hs
  obtain ⟨i0, hi0, hz0, hz1, hz2⟩ := info_parts infoI
  go_enter sqp.func56, sqp.ntmps56
  go_wp2
  go_loopw [3, 5, 9] (fun v _ i wr => ∃ k : Nat, k ≤ n ∧ i = .int .i64 k ∧ Grows w wr v ((pL L).take k)) (fun _ _ i _ => n - (intOf i).toNat)
  case atStart => exact ⟨0, Nat.zero_le _, rfl, Grows.empty w⟩
  case round =>
    obtain ⟨k, hk, rfl, hm⟩ := hrel
    have HR := Lib.hid hm; clear hm
    have hsz := HR.out.below.size
    by_cases hlt : k < n
    · obtain ⟨g, off, y, P', p', cp', Q', q', cq', rfl, hg, hy, c0, c1, hsr⟩ := (HL.out.keep (HR.out.below.mono HL.out.top) (Nat.le_refl _)).at_ hlt
      have YS := Lib.hid hsr
      have HY := Lib.hid hy
      have SY := Lib.hid (HS.out y (List.mem_of_getElem? hy))
      have h24 : N ≤ 24 := by have := SY.out.r.len; rw [SY.out.lr] at this; exact this
      clear hsr hy
      have hpl : ((pL L).take k).length = k := by rw [List.length_take, pL_len, LN.out]; omega
      go_wp2_with fail
      refine (mk.shear_any _ y.1 y.2 N _ _ (YS.out.keep ((Below.refl wr.heap.size wr).alloc (Nat.le_refl _) _) YS.out.top) SY.out).mono ?_
      rintro e w2 ⟨g2, rfl, sg2, b2⟩
      have SS : Hid (Sf N (shearS y).1 (shearS y).2) := Lib.hid (letS_sf SY.out 84)
      have SG2 : Hid (Svl w2 _ w2.heap.size g2 (shearS y).1 (shearS y).2) := Lib.hid sg2
      have b1 : Below wr.heap.size wr w2 := ((Below.refl wr.heap.size wr).alloc (Nat.le_refl _) _).trans (b2.mono (by simp))
      have O2 := Lib.hid (own_block_keep HR.out.own (fun b e => b1.block b (HR.out.own.lt b e).2))
      have B2 := Lib.hid (HR.out.below.trans (b1.mono hsz))
      clear sg2 b2 b1 c0 c1 YS
      go_wp2_with fail
      refine (gl.canon_spec _ _ _ N _ _ SG2.out.rd SS.out).mono ?_
      rintro e w3 ⟨g3, rfl, sg3, b3⟩
      rw [shear_stp SY.out] at sg3
      have CS : Hid (Sf N (stp 84 y).1 (stp 84 y).2) := Lib.hid (cn_sf (s := letS 84 y) SS.out)
      have SG3 := Lib.hid sg3
      have O3 := Lib.hid (own_block_keep O2.out (fun b e => b3.block b (O2.out.lt b e).2))
      have B3 := Lib.hid (B2.out.trans (b3.mono B2.out.size))
      clear sg3 b3 SG2 O2 B2
      go_wp2_with fail
      refine (find_spec (some ⟨g, off, none⟩) n c L _ (stp 84 y) _ _ _ (HL.out.keep (B3.out.mono HL.out.top) (Nat.le_refl _)) SG3.out.rd hn (fun z hz => by have a := (HS.out z hz).lr; have b := (HS.out z hz).lu; exact ⟨by omega, by omega⟩) (by rw [CS.out.lr]; omega) (by rw [CS.out.lu]; omega)).mono ?_
      rintro e w4 ⟨rfl, b4⟩
      have O4 := Lib.hid (own_block_keep O3.out (fun b e => b4.block b (O3.out.lt b e).2))
      have B4 := Lib.hid (B3.out.trans (b4.mono B3.out.size))
      have hsz4 := B4.out.size
      have PT := Lib.hid (pL_take HY.out)
      clear b4 SG3 O3 B3
      generalize fnd L (stp 84 y) = F at *
      rw [hpl] at O4
      go_wp2_with (at_builtin; refine wpList_append_one w4 _ _ rfl _ _ 23 rfl w.heap.size 3 i0 _ 8 sqp.underlying23 hi0 hz0 hz1 hz2 rfl _ _ _ rfl O4.out rfl rfl ?c4 (by decide) hsz4 ?_)
      case c4 => omega
      intro v' w' ho hg
      have HN : Hid (Grows w w' v' ((pL L).take (k + 1))) := Lib.hid (by
        rw [PT.out]
        have HG : Grows w w4 _ ((pL L).take k) := ⟨by rw [hpl]; exact O4.out, B4.out⟩
        exact HG.next ho hpl.symm hg)
      clear ho hg O4 B4 HR
      go_wp2
      go_roundw
      case rel => exact ⟨k + 1, by omega, by go_num, HN.out⟩
      case measure => simp [intOf]; omega
    · obtain rfl : k = n := by omega
      have e : (pL L).take k = pL L := List.take_of_length_le (by rw [pL_len, LN.out]; exact Nat.le_refl _)
      rw [e] at HR
      go_wp2
      go_ret
      exact HR.out.gives
end Go.Proofs.Ytgcnemkhppkkcaa.orb

namespace Go.Proofs.Ytgcnemkhppkkcaa.fns
open Go.ChangeShapes Go.WideShapes Go.ChangeAt Go.RowKit
open mem ints arr pm mat
set_option linter.unusedVariables false
set_option maxRecDepth 100000
theorem Grows.set_ {w wr : World} {b cc : Nat} {l : List Int} (h : Grows w wr (.slice (some ⟨b, 0, none⟩) l.length cc) l) (k : Nat) (z : Int) : Grows w (wr.setCell ⟨b, k, none⟩ (.int .i64 z)) (.slice (some ⟨b, 0, none⟩) (l.set k z).length cc) (l.set k z) := by
  have hb := h.own.lt b rfl
  have := (h.own.stored k (.int .i64 z)).1
  rw [V_set] at this
  exact ⟨by simpa using this, h.below.setCell hb.1 _⟩
end Go.Proofs.Ytgcnemkhppkkcaa.fns

namespace Go.Proofs.Ytgcnemkhppkkcaa.fns
open Go.ChangeShapes Go.WideShapes Go.ChangeAt Go.RowKit
open mem ints arr pm mat
set_option linter.unusedVariables false
set_option maxRecDepth 100000
set_option maxHeartbeats 1000000 in
theorem down_any (A : Option Addr) (n c : Nat) (xs : List Int) (hi : Nat) (w : World) (hx : Rd w hi A n (V xs)) (hn : n ≤ 1048576) :
    Calls sqp.prog 57 #[.slice A n c] w (Gives (sortD xs) w) := by
  obtain ⟨i0, hi0, hz0, hz1, hz2⟩ := info_parts infoI
  have lx : xs.length = n := by simpa [V] using hx.1
  have LX := Lib.hid lx; clear lx
  have HX := Lib.hid hx; clear hx
  go_enter sqp.func57, sqp.ntmps57
  go_wp2
  go_loopw [3, 10] (fun v i wr => ∃ j : Nat, j ≤ n ∧ i = .int .i64 j ∧ Grows w wr v (sortD (xs.take j))) (fun _ i _ => n - (intOf i).toNat)
  case atStart => exact ⟨0, Nat.zero_le _, rfl, Grows.empty w⟩
  case round =>
    obtain ⟨j, hj, rfl, hm⟩ := hrel
    obtain ⟨wo, rfl⟩ : ∃ wo : World, wo = wr := ⟨_, rfl⟩
    obtain ⟨C, cc, rfl⟩ := hm.form
    have HLN : Hid ((sortD (xs.take j)).length = j) := Lib.hid (by rw [sortD_len]; have := LX.out; simp; omega)
    have HR := Lib.hid hm; clear hm
    by_cases hlt : j < n
    · obtain ⟨g, off, u, rfl, hgl, hxu, hcx⟩ := HX.out.at_ hlt
      obtain ⟨x, hxs, rfl⟩ := V_at hxu
      have hgw : g < w.heap.size := Nat.lt_of_lt_of_le hgl HX.out.2.1
      rw [← HR.out.below.cell (p := ⟨g, off + j, none⟩) hgw] at hcx
      have NX : Hid (sortD (xs.take (j + 1)) = insD x (sortD (xs.take j))) := Lib.hid (by rw [List.take_add_one, hxs]; exact sortD_snoc _ _)
      have hsz := HR.out.below.size
      clear hxu hxs
      generalize sortD (xs.take j) = l at *
      have hl : l.length ≤ 1048576 := by rw [HLN.out]; omega
      go_wp2_with (at_builtin; refine wpList_append_one wo _ _ rfl _ _ 23 rfl w.heap.size 3 i0 _ 8 sqp.underlying23 hi0 hz0 hz1 hz2 rfl _ _ _ rfl HR.out.own rfl rfl ?c4 (by decide) hsz ?_)
      case c4 => omega
      intro v' w' ho hg
      have G1 := HR.out.next ho rfl hg
      rw [← ins_end] at G1
      clear ho hg HR hcx
      obtain ⟨C', cc', rfl⟩ := own_form G1.own
      obtain ⟨b, rfl⟩ : ∃ b, C' = some ⟨b, 0, none⟩ := by
        rcases G1.own.2 with ⟨h0, hn0⟩ | ⟨b, cap, cur, q1, _⟩
        · simp [ins_end] at hn0
        · injection q1 with q1; exact ⟨b, q1⟩
      rw [ins_len _ _ (Nat.le_refl _)]
      have HG := Lib.hid G1; clear G1
      go_wp2
      go_loopw [6] (fun i wr => ∃ (k : Nat) (y : Int), k ≤ l.length ∧ i = .int .i64 k ∧ Grows w wr (.slice (some ⟨b, 0, none⟩) (ins y l k).length cc') (ins y l k) ∧ Hid (posD x l k = posD x l l.length)) (fun i _ => (intOf i).toNat)
      case atStart => exact ⟨l.length, 0, Nat.le_refl _, by go_num, HG.out, Lib.hid rfl⟩
      case round =>
        obtain ⟨k, y, hk, rfl, hg, HPOS⟩ := hrel
        have IL := Lib.hid (ins_len y l hk)
        have GG := Lib.hid hg; clear hg HG
        have fk := GG.out.own.frozenAt k
        have hck : wr.cell? ⟨b, k, none⟩ = some (.int .i64 ((ins y l k).getD k 0)) := by rw [GG.out.own.cellAt k (by rw [IL.out]; omega)]; exact V_getD (by rw [IL.out]; omega)
        cases k with
        | zero =>
          have G2 : Hid (Grows w (wr.setCell ⟨b, 0, none⟩ (.int .i64 x)) (.slice (some ⟨b, 0, none⟩) (l.length + 1) cc') (insD x l)) := Lib.hid (by
            have := GG.out.set_ 0 x
            rw [ins_set _ _ _ hk] at this
            unfold insD
            rw [← HPOS.out]
            rw [ins_len _ _ hk] at this
            exact this)
          go_wp2
          go_roundw
          case rel => exact ⟨j + 1, by omega, by go_num, by rw [NX.out]; exact G2.out⟩
          case measure => simp [intOf]; omega
        | succ k =>
          have hcl : wr.cell? ⟨b, k, none⟩ = some (.int .i64 (l.getD k 0)) := by rw [GG.out.own.cellAt k (by rw [IL.out]; omega), V_getD (by rw [IL.out]; omega), ins_at _ _ (by omega) hk]
          by_cases hd : l.getD k 0 < x
          · have G2 := GG.out.set_ (k + 1) (l.getD k 0)
            rw [ins_move _ _ (by omega)] at G2
            have HP2 : Hid (posD x l k = posD x l l.length) := Lib.hid (by rw [← HPOS.out, posD, if_pos hd])
            generalize l.getD k 0 = z at *
            have HG2 := Lib.hid G2; clear G2
            go_wp2
            go_roundw
            case rel => exact ⟨k, z, by omega, by go_num, HG2.out, HP2⟩
            case measure => simp [intOf]
          · have G2 : Hid (Grows w (wr.setCell ⟨b, k + 1, none⟩ (.int .i64 x)) (.slice (some ⟨b, 0, none⟩) (l.length + 1) cc') (insD x l)) := Lib.hid (by
              have := GG.out.set_ (k + 1) x
              rw [ins_set _ _ _ hk] at this
              unfold insD
              rw [← HPOS.out, posD, if_neg hd]
              rw [ins_len _ _ hk] at this
              exact this)
            generalize l.getD k 0 = z at *
            have hdd : decide (z < x) = false := by simp; omega
            clear hd
            go_wp2
            go_roundw
            case rel => exact ⟨j + 1, by omega, by go_num, by rw [NX.out]; exact G2.out⟩
            case measure => simp [intOf]; omega
    · obtain rfl : j = n := by omega
      go_wp2
      go_ret
      have := HR.out
      rw [List.take_of_length_le (by rw [LX.out]; exact Nat.le_refl _)] at this ⊢
      exact this.gives
end Go.Proofs.Ytgcnemkhppkkcaa.fns

namespace Go.Proofs.Ytgcnemkhppkkcaa.fns
open Go.ChangeShapes Go.WideShapes Go.ChangeAt Go.RowKit
open mem ints arr pm permOk permOf inv mat
set_option linter.unusedVariables false
set_option maxRecDepth 100000
end Go.Proofs.Ytgcnemkhppkkcaa.fns

namespace Go.Proofs.Ytgcnemkhppkkcaa.fns
open Go.ChangeShapes Go.WideShapes Go.ChangeAt Go.RowKit
open mem ints arr pm permOk permOf inv mat
set_option linter.unusedVariables false
set_option maxRecDepth 100000
theorem infoB : (sqp.prog.info? 4).map (fun i => (i.zero, i.size, i.bytes)) = some (some (.bool false), 1, 1) := by kernel_rfl
def flagsN (n : Nat) (l : List Int) : List Bool := (List.range n).map fun (j : Nat) => decide ((j : Int) ∈ l)
theorem flagsN_at (n : Nat) (l : List Int) {k : Nat} (h : k < n) : (flagsN n l)[k]? = some (decide ((k : Int) ∈ l)) := by simp [flagsN, h]
theorem flagsN_set {n : Nat} {l : List Int} {z : Nat} : (flagsN n l).set z true = flagsN n (l ++ [(z : Int)]) := by
  refine List.ext_getElem? fun i => ?_
  by_cases hi : i < n
  · rw [flagsN_at _ _ hi, List.getElem?_set]
    by_cases e : z = i
    · subst e; simp [flagsN, hi]
    · rw [if_neg e, flagsN_at _ _ hi]
      have : ¬ ((i : Int) = (z : Int)) := by omega
      simp [this]
  · rw [List.getElem?_eq_none (by simp [flagsN]; omega), List.getElem?_eq_none (by simp [flagsN]; omega)]
theorem flagsN_nil (n : Nat) : flagsN n [] = List.replicate n false := by
  refine List.ext_getElem? fun i => ?_
  by_cases hi : i < n
  · rw [flagsN_at _ _ hi]; simp [hi]
  · rw [List.getElem?_eq_none (by simp [flagsN]; omega), List.getElem?_eq_none (by simp; omega)]
theorem flagsN_cell {w : World} {g n : Nat} {l : List Int} {t : TypeId} (h : Arr w g (VB (flagsN n l)) t) {k : Nat} (hk : k < n) {b : Bool} (hb : decide ((k : Int) ∈ l) = b) : w.cell? ⟨g, k, none⟩ = some (.bool b) :=
  h.cell (by simp [VB, flagsN_at n l hk, hb])
def Sw (n : Nat) (ps : List Int) (f x : Int) (acc S : List Int) : Prop := (acc = [] ∧ x = f) ∨ (∃ m, Cw n ps f x acc m) ∧ (∀ y ∈ acc, ¬ y ∈ S)
theorem Sw.x_in {n : Nat} {ps acc S : List Int} {f x : Int} (h : Sw n ps f x acc S) (hb : Bij n ps) (f0 : 0 ≤ f) (f1 : f < n) : ∃ z : Nat, x = (z : Int) ∧ z < n := by
  have : 0 ≤ x ∧ x < n := by
    rcases h with ⟨_, rfl⟩ | ⟨⟨m, hc⟩, _⟩
    · exact ⟨f0, f1⟩
    · exact hc.way.x_in hb
  exact ⟨x.toNat, by omega, by omega⟩
theorem Sw.len {n : Nat} {ps acc S : List Int} {f x : Int} (h : Sw n ps f x acc S) : acc.length ≤ n := by
  rcases h with ⟨rfl, _⟩ | ⟨⟨m, hc⟩, _⟩
  · simp
  · exact hc.way.inn.len
theorem Sw.exit {n k : Nat} {ps acc : List Int} {out : List (List Int)} {f x : Int} (h : Sw n ps f x acc out.flatten) (hb : Bij n ps) (hc : Cs n ps k out) (hx : x ∈ out.flatten ++ acc) :
    (acc = [] ∧ f ∈ out.flatten) ∨ (acc = cyc ps n f ∧ ¬ f ∈ out.flatten) := by
  rcases h with ⟨rfl, rfl⟩ | ⟨⟨m, hw⟩, hd⟩
  · exact .inl ⟨rfl, by simpa using hx⟩
  · have hp := hw.way.pos
    have hf : f ∈ acc := by have := getD_mem (l := acc) (i := 0) hp; rw [hw.way.head] at this; exact this
    by_cases e : x = f
    · subst e; exact .inr ⟨hw.done, hd _ hf⟩
    · exfalso
      rcases List.mem_append.1 hx with q | q
      · have m1 := getD_mem (l := acc) (i := acc.length - 1) (by omega)
        have a1 := hw.way.inn.lo _ m1; have a2 := hw.way.inn.hi _ m1
        rw [hw.way.last] at q
        have := hc.back _ (by omega) q
        rw [Int.toNat_of_nonneg a1] at this
        exact hd _ m1 this
      · exact hw.way.fresh hb e q
theorem Sw.next {n : Nat} {ps acc S : List Int} {f x : Int} (h : Sw n ps f x acc S) (hb : Bij n ps) (f0 : 0 ≤ f) (f1 : f < n) (hx : ¬ x ∈ S ++ acc) : Sw n ps f (ps.getD x.toNat 0) (acc ++ [x]) S := by
  have hxS : ¬ x ∈ S := fun q => hx (List.mem_append.2 (.inl q))
  have hxa : ¬ x ∈ acc := fun q => hx (List.mem_append.2 (.inr q))
  rcases h with ⟨rfl, rfl⟩ | ⟨⟨m, hw⟩, hd⟩
  · exact .inr ⟨⟨n, Cw.start f0 f1⟩, fun y hy => by simp at hy; subst hy; exact hxS⟩
  · have hp := hw.way.pos
    have hf : f ∈ acc := by have := getD_mem (l := acc) (i := 0) hp; rw [hw.way.head] at this; exact this
    refine .inr ⟨⟨m - 1, hw.next hb (fun e => hxa (e ▸ hf))⟩, fun y hy => ?_⟩
    rcases List.mem_append.1 hy with q | q
    · exact hd y q
    · simp at q; subst q; exact hxS
end Go.Proofs.Ytgcnemkhppkkcaa.fns

namespace Go.Proofs.Ytgcnemkhppkkcaa.orb
open Go.ChangeShapes Go.WideShapes Go.ChangeAt Go.RowKit
open mem ints arr pm sf fns permOf
set_option linter.unusedVariables false
set_option maxRecDepth 100000
theorem fnd_inj {L : List Sur} {x y : Sur} (hx : x ∈ L) (hy : y ∈ L) (e : fnd L x = fnd L y) : x = y := by
  obtain ⟨k, h1, h2, h3⟩ := fnd_get hx
  obtain ⟨j, g1, g2, g3⟩ := fnd_get hy
  obtain rfl : k = j := by omega
  rw [h3] at g3
  exact Option.some.inj g3
theorem pL_bij {n : Nat} {s : Sur} {q : LW} (hs : Sf n s.1 s.2) (h : Oj n s q.1.length q) : Bij q.1.length (pL q.1) := by
  have at_ : ∀ i, i < q.1.length → ∃ x, q.1[i]? = some x ∧ x ∈ q.1 ∧ (pL q.1).getD i 0 = fnd q.1 (stp 84 x) ∧ stp 84 x ∈ q.1 := fun i hi => by
    have e := List.getElem?_eq_getElem hi
    have hm := List.getElem_mem hi
    refine ⟨_, e, hm, ?_, h.step (.inl rfl) hm⟩
    rw [List.getD_eq_getElem?_getD, pL_at e]; rfl
  refine ⟨fun i hi => ?_, fun i j hi hj e => ?_⟩
  · obtain ⟨x, _, _, e, hm⟩ := at_ i hi
    obtain ⟨k, h1, h2, _⟩ := fnd_get hm
    rw [e, h1]
    omega
  · obtain ⟨x, x1, x2, x3, x4⟩ := at_ i hi
    obtain ⟨y, y1, y2, y3, y4⟩ := at_ j hj
    rw [x3, y3] at e
    have := h.inj hs (c := 84) (by decide) x2 y2 (fnd_inj x4 y4 e)
    subst this
    exact nd_at h.nd x1 y1
def cuC (L : List Sur) (k : Nat) : List Int := (cso (pL L) L.length k).map fun c => (c.length : Int)
def cuL (r u : List Int) : List Int := if orbB r u then sortD (cuC (orbL r u) (orbL r u).length) else []
theorem cuL_no {r u : List Int} (h : orbB r u = false) : cuL r u = [] := by simp [cuL, h]
theorem cuL_yes {r u : List Int} (h : orbB r u = true) : cuL r u = sortD (cuC (orbL r u) (orbL r u).length) := by simp [cuL, h]
structure Cu (w wr : World) (b n : Nat) (v : Value) (S l : List Int) : Prop where
  own : wr.ownsRow w.heap.size 3 1 v l.length (V l)
  met : Arr wr b (VB (flagsN n S)) 4
  below : Below w.heap.size w wr
  lo : w.heap.size ≤ b
  ne : ¬ v.ownBlock = some b
structure Cv (wo wr : World) (b n : Nat) (S acc : List Int) : Prop where
  met : Arr wr b (VB (flagsN n (S ++ acc))) 4
  out : Out b (b + 1) wo wr
theorem cuC_same {L : List Sur} {k : Nat} (h : (k : Int) ∈ (cso (pL L) L.length k).flatten) : cuC L (k + 1) = cuC L k := by unfold cuC; rw [cso, if_pos h]
theorem cuC_next {L : List Sur} {k : Nat} (h : ¬ (k : Int) ∈ (cso (pL L) L.length k).flatten) : cuC L (k + 1) = cuC L k ++ [((cyc (pL L) L.length (k : Int)).length : Int)] := by unfold cuC; rw [cso, if_neg h]; simp
theorem cuC_len {L : List Sur} {k : Nat} (hb : Bij L.length (pL L)) (hk : k ≤ L.length) : (cuC L k).length ≤ k := by unfold cuC; rw [List.length_map]; exact (cso_cs hb k hk).len
def CUPost (r u : List Int) (w : World) (e : Ending) (w' : World) : Prop :=
  ∃ A c, e = .returned (.tuple #[.slice A (cuL r u).length c, .bool (orbB r u)]) ∧ Row w' w.heap.size w'.heap.size A (cuL r u).length (V (cuL r u)) ∧ (cuL r u).length ≤ c ∧ Below w.heap.size w w'
theorem cu_no {r u : List Int} {w w' : World} (h : orbB r u = false) (hb : Below w.heap.size w w') : CUPost r u w (.returned (.tuple #[.slice none 0 0, .bool false])) w' := by
  have e := cuL_no h
  refine ⟨none, 0, by rw [e, h]; rfl, ?_, by rw [e]; simp, hb⟩
  rw [e]
  exact ⟨rfl, Nat.le_refl _, fun q => absurd q (by simp)⟩
set_option maxHeartbeats 4000000 in
theorem cu_spec (v : Value) (r u : List Int) (hi : Nat) (w : World) (hx : Srd w hi v r u) (hn : r.length ≤ 1048576) (hm : u.length ≤ 1048576) :
    Calls sqp.prog 23 #[v] w (CUPost r u w) := by
  have HX := Lib.hid hx; clear hx
  obtain ⟨P, n, c, Q, m, d, rfl, q1, q2, e1, e2, ht, HR⟩ := HX.out.open
  clear HR q1 q2
  obtain ⟨i0, hi0, hz0, hz1, hz2⟩ := info_parts infoI
  obtain ⟨j0, hj0, hy0, hy1, hy2⟩ := info_parts infoB
  have HY2 := Lib.hid hy2; clear hy2
  go_enter sqp.func23, sqp.ntmps23
  go_wp2_with fail
  refine (oo_spec _ r u hi _ (HX.out.keep ((Below.refl hi w).alloc ht _) (Nat.le_refl _)) hn hm).mono ?_
  rintro e w1 ⟨A', c', rfl, lo, b1⟩
  have B1 := Lib.hid (below1 _ _ b1); clear b1
  have hs1 := B1.out.size
  have LO := Lib.hid lo.up; clear lo
  cases hq : orbB r u
  · have HQ := Lib.hid hq; clear hq
    go_wp2_with fail
    go_ret2
    exact cu_no HQ.out B1.out
  · have HF := Lib.hid (cuL_yes hq)
    obtain ⟨q, hF⟩ : ∃ q, orbF r u = some q := Option.isSome_iff_exists.1 hq
    obtain ⟨HSf, HOi, l120⟩ := orbF_inv hF
    have ho : orb (r, u) = some q := by unfold orbF at hF; split at hF; exact hF; cases hF
    have JJ := Lib.hid (orb_oj (s := (r, u)) HSf ho)
    have BJ := Lib.hid (pL_bij (s := (r, u)) HSf JJ.out)
    have SF := Lib.hid HOi.sf
    rw [(orbL_some hF).1] at HF LO ⊢
    clear hF ho HSf HOi
    have HQ := Lib.hid hq; clear hq
    go_wp2_with fail
    refine (shears_spec A' q.1.length c' q.1 _ _ _ LO.out.lrd (by omega) SF.out).mono ?_
    rintro e w2 ⟨vp, rfl, op, b2⟩
    rw [pL_len] at op
    obtain ⟨Ap, cp, rfl⟩ := own_form op
    have RP := Lib.hid (Row.of_own op)
    have B2 := Lib.hid (B1.out.trans (b2.mono hs1))
    have hs2 := b2.size
    clear op b2 LO
    have hbase2 : w.heap.size ≤ w2.heap.size := by omega
    go_wp2_with (at_make; refine wpList_make_full _ rfl _ _ 88 rfl (w2.heap.size + 1) 4 j0 _ 1 sqp.underlying88 hj0 hy0 hy1 _ _ _ _ q.1.length rfl rfl rfl rfl ?b2 ?b3 (by simp) ?_)
    case b2 => rw [HY2.out]; omega
    case b3 => unfold maxLen; omega
    intro w3 hown hg
    have hb1 : Below (w2.heap.size + 1) (w2.alloc (.cells #[] 3)) w3 := (Below.refl _ _).grown hg (by simp) (by simp)
    have OA := own_arr hown
    have G0 := Grows.empty w2
    have CU : Hid (Cu w2 w3 (w2.heap.size + 1) q.1.length (.slice (some ⟨w2.heap.size, 0, none⟩) 0 0) (cso (pL q.1) q.1.length 0).flatten (cuC q.1 0)) := Lib.hid ⟨own_block_keep G0.own (fun b e => hb1.block b (by have := (G0.own.lt b e).2; simpa using this)), by simpa [flagsN_nil, VB, toList_madeCells_one, cso] using OA, G0.below.trans (hb1.mono (by omega)), by omega, by simp [Value.ownBlock]⟩
    clear hown hg hb1 OA G0
    go_wp2
    obtain ⟨b, hb⟩ : ∃ b, b = w2.heap.size + 1 := ⟨_, rfl⟩
    rw [← hb] at CU ⊢
    clear hb
    go_loopw [7, 27] (fun v i wr => ∃ k : Nat, k ≤ q.1.length ∧ i = .int .i64 k ∧ Cu w2 wr b q.1.length v (cso (pL q.1) q.1.length k).flatten (cuC q.1 k)) (fun _ i _ => q.1.length - (intOf i).toNat)
    case atStart => exact ⟨0, Nat.zero_le _, rfl, CU.out⟩
    case round =>
      obtain ⟨k, hk, rfl, hm⟩ := hrel
      obtain ⟨wo, rfl⟩ : ∃ wo : World, wo = wr := ⟨_, rfl⟩
      obtain ⟨C, cc, rfl⟩ := own_form hm.own
      have CM := Lib.hid hm; clear hm CU
      have hso : b < wo.heap.size := CM.out.met.lt
      by_cases hlt : k < q.1.length
      · have CS := Lib.hid (cso_cs BJ.out k hk)
        go_wp2
        go_loopw [10, 11] (fun nn x wr => ∃ (z : Int) (acc : List Int), nn = .int .i64 acc.length ∧ x = .int .i64 z ∧ Sw q.1.length (pL q.1) k z acc (cso (pL q.1) q.1.length k).flatten ∧ Cv wo wr b q.1.length (cso (pL q.1) q.1.length k).flatten acc) (fun nn _ _ => q.1.length + 1 - (intOf nn).toNat)
        case atStart => exact ⟨k, [], rfl, rfl, .inl ⟨rfl, rfl⟩, by rw [List.append_nil]; exact CM.out.met, Out.refl _ _ _⟩
        case round =>
          obtain ⟨z0, acc, rfl, rfl, hsw, hcv⟩ := hrel
          obtain ⟨z, rfl, hz⟩ := hsw.x_in BJ.out (by omega) (by omega)
          have hal := hsw.len
          have SW := Lib.hid hsw; have CV := Lib.hid hcv; clear hsw hcv
          have hs2' := CV.out.out.size
          by_cases hin : (z : Int) ∈ (cso (pL q.1) q.1.length k).flatten ++ acc
          · have hfl : wr.cell? ⟨b, z, none⟩ = some (.bool true) := flagsN_cell CV.out.met hz (by simpa using hin)
            have EX := SW.out.exit BJ.out CS.out hin
            clear hin
            have OW : Hid (wr.ownsRow w2.heap.size 3 1 (.slice C (cuC q.1 k).length cc) (cuC q.1 k).length (V (cuC q.1 k))) := Lib.hid (own_block_keep CM.out.own (fun b' e => CV.out.out.block b' (CM.out.own.lt b' e).2 (by have : ¬ b' = b := fun e' => CM.out.ne (by rw [e, e']); omega)))
            have hcl := cuC_len BJ.out hk
            have BB : Hid (Below w2.heap.size w2 wr) := Lib.hid (CM.out.below.trans (CV.out.out.below CM.out.lo CM.out.below.size))
            have hbz := BB.out.size
            rcases EX with ⟨rfl, hkin⟩ | ⟨hacc, hkn⟩
            · have NX := Lib.hid (cuC_same hkin)
              have FX : Hid ((cso (pL q.1) q.1.length (k + 1)).flatten = (cso (pL q.1) q.1.length k).flatten) := Lib.hid (by rw [cso, if_pos hkin])
              clear hkin
              have HN : Hid (Cu w2 wr b q.1.length (.slice C (cuC q.1 k).length cc) (cso (pL q.1) q.1.length (k + 1)).flatten (cuC q.1 (k + 1))) := Lib.hid (by
                rw [NX.out, FX.out]
                exact ⟨OW.out, by simpa using CV.out.met, BB.out, CM.out.lo, CM.out.ne⟩)
              go_wp2
              go_roundw
              case rel => exact ⟨k + 1, by omega, by go_num, HN.out⟩
              case measure => simp [intOf]; omega
            · have NX := Lib.hid (cuC_next hkn)
              have FX : Hid ((cso (pL q.1) q.1.length (k + 1)).flatten = (cso (pL q.1) q.1.length k).flatten ++ acc) := Lib.hid (by rw [cso, if_neg hkn, hacc]; simp)
              have CPOS : 0 < acc.length := by rw [hacc]; exact (cyc_way (f := (k : Int)) BJ.out (by omega) (by omega)).pos
              have HAL : Hid (((cyc (pL q.1) q.1.length (k : Int)).length : Int) = acc.length) := Lib.hid (by rw [hacc])
              clear hacc hkn
              have hd : decide ((0 : Int) < (acc.length : Int)) = true := by simp; omega
              go_wp2_with (at_builtin; refine wpList_append_one2 wr _ _ rfl _ _ 23 rfl w2.heap.size 3 i0 _ 8 1 sqp.underlying23 hi0 hz0 hz1 rfl hz2 rfl _ _ _ rfl OW.out rfl rfl ?c4 (by decide) (by omega) ?_)
              case c4 => omega
              intro v' w' ho hg hb'
              have HN : Hid (Cu w2 w' b q.1.length v' (cso (pL q.1) q.1.length (k + 1)).flatten (cuC q.1 (k + 1))) := Lib.hid (by
                rw [NX.out, FX.out, HAL.out]
                refine ⟨by simpa [V] using ho, (hg.block b (by omega) (fun e => CM.out.ne e.symm)).trans CV.out.met, BB.out.trans ((Below.refl _ _).grown hg (by omega) (fun b' e => (OW.out.lt b' e).1)), CM.out.lo, fun e => ?_⟩
                rcases hb' with q' | ⟨k', q', hk'⟩
                · exact CM.out.ne (by rw [← q', e])
                · rw [e] at q'; injection q' with q'; omega)
              clear ho hg hb' OW CV CM hfl
              go_wp2
              go_roundw
              case rel => exact ⟨k + 1, by omega, by go_num, HN.out⟩
              case measure => simp [intOf]; omega
          · have hfl : wr.cell? ⟨b, z, none⟩ = some (.bool false) := flagsN_cell CV.out.met hz (by simpa using hin)
            have hff := CV.out.met.frozen z
            have NX := SW.out.next BJ.out (by omega) (by omega) hin
            rw [Int.toNat_natCast] at NX
            have NXX := Lib.hid NX; clear NX hin
            obtain ⟨g, off, u', eA, hgl, hgl2, hxu, hcx, _⟩ := RP.out.at_ hz
            subst eA
            obtain ⟨s, hxs, rfl⟩ := V_at hxu
            have hgd := permOk.getD_of hxs
            rw [hgd] at NXX
            have hcx' : wr.cell? ⟨g, off + z, none⟩ = some (.int .i64 s) := by
              rw [World.cell?_of_block (w := wo) (a := ⟨g, off + z, none⟩) (CV.out.out.block g (by have := CM.out.below.size; omega) (by have := CM.out.lo; omega)), CM.out.below.cell (p := ⟨g, off + z, none⟩) hgl2]
              exact hcx
            have hgb : ¬ g = b := by have := CM.out.lo; omega
            have HN : Hid (Cv wo (wr.setCell ⟨b, z, none⟩ (.bool true)) b q.1.length (cso (pL q.1) q.1.length k).flatten (acc ++ [(z : Int)])) := Lib.hid (by
              refine ⟨?_, CV.out.out.set_ (Nat.le_refl _) (Nat.lt_succ_self _) _⟩
              have hh := CV.out.met.set_ z (.bool true)
              rw [VB_set, flagsN_set, List.append_assoc] at hh
              exact hh)
            have hcx2 : (wr.setCell ⟨b, z, none⟩ (.bool true)).cell? ⟨g, off + z, none⟩ = some (.int .i64 s) := by
              rw [World.cell?_setCell_far _ _ _ _ (by show b ≠ g; exact fun e => hgb e.symm)]; exact hcx'
            clear hxu hxs hgd hcx hcx'
            go_wp2_with fail
            go_roundw
            case rel => exact ⟨s, acc ++ [(z : Int)], by simp, rfl, NXX.out, HN.out⟩
            case measure => simp [intOf]; omega
      · obtain rfl : k = q.1.length := by omega
        have OWN := Lib.hid CM.out.own
        have RO := Lib.hid (Row.of_own CM.out.own)
        have hcl := cuC_len BJ.out hk
        go_wp2_with fail
        refine (down_any C _ cc (cuC q.1 q.1.length) _ _ RO.out.rd (by omega)).mono ?_
        rintro e w4 ⟨v4, rfl, o4, b4⟩
        obtain ⟨C4, c4, rfl⟩ := own_form o4
        have hc4 := (sf.own_cap o4).2
        have R4 := Lib.hid (Row.of_own o4)
        have hz := CM.out.below.size
        have B4 := Lib.hid ((B2.out.trans (CM.out.below.mono hbase2)).trans (b4.mono (by omega)))
        clear o4 b4 RO OWN CM
        go_wp2_with fail
        go_ret2
        refine ⟨C4, c4, by rw [HF.out, HQ.out]; rfl, ?_, by rw [HF.out]; exact hc4, B4.out⟩
        rw [HF.out]
        exact R4.out.wider (by omega) (Nat.le_refl _) (Nat.le_refl _)
end Go.Proofs.Ytgcnemkhppkkcaa.orb

namespace Go.Proofs.Ytgcnemkhppkkcaa
open Go.Shelf
def sqp.lays189_ren : Go.Shelf.Ren := ⟨fun | 189 => 59 | 125 => 89 | 257 => 88 | 128 => 123 | 129 => 124 | 294 => 114 | 295 => 115 | 296 => 116 | 297 => 117 | 298 => 118 | 299 => 119 | 216 => 120 | 300 => 121 | 301 => 122 | 328 => 136 | 329 => 137 | 330 => 138 | 331 => 139 | 332 => 140 | 215 => 141 | 343 => 143 | n => n, fun | 28 => 23 | 3 => 3 | 46 => 106 | 0 => 0 | 51 => 158 | 53 => 160 | 4 => 4 | 183 => 150 | 182 => 149 | 131 => 155 | 5 => 5 | 9 => 9 | 218 => 166 | 222 => 170 | 228 => 173 | 229 => 174 | n => n, fun | n => n⟩
theorem sqp.lays189 : Go.Proofs.Lays.n189 sqp.prog sqp.lays189_ren := {
  mixed := by kernel_rfl
  f125 := sqp.func89.trans (congrArg some (by kernel_rfl))
  f128 := sqp.func123.trans (congrArg some (by kernel_rfl))
  f129 := sqp.func124.trans (congrArg some (by kernel_rfl))
  f189 := sqp.func59.trans (congrArg some (by kernel_rfl))
  f215 := sqp.func141.trans (congrArg some (by kernel_rfl))
  f216 := sqp.func120.trans (congrArg some (by kernel_rfl))
  f257 := sqp.func88.trans (congrArg some (by kernel_rfl))
  f294 := sqp.func114.trans (congrArg some (by kernel_rfl))
  f295 := sqp.func115.trans (congrArg some (by kernel_rfl))
  f296 := sqp.func116.trans (congrArg some (by kernel_rfl))
  f297 := sqp.func117.trans (congrArg some (by kernel_rfl))
  f298 := sqp.func118.trans (congrArg some (by kernel_rfl))
  f299 := sqp.func119.trans (congrArg some (by kernel_rfl))
  f300 := sqp.func121.trans (congrArg some (by kernel_rfl))
  f301 := sqp.func122.trans (congrArg some (by kernel_rfl))
  f328 := sqp.func136.trans (congrArg some (by kernel_rfl))
  f329 := sqp.func137.trans (congrArg some (by kernel_rfl))
  f330 := sqp.func138.trans (congrArg some (by kernel_rfl))
  f331 := sqp.func139.trans (congrArg some (by kernel_rfl))
  f332 := sqp.func140.trans (congrArg some (by kernel_rfl))
  f343 := sqp.func143.trans (congrArg some (by kernel_rfl))
  t0 := sqp.underlying0
  a0 := sqp.isAgg0
  z0 := sqp.sizeOf0
  v0 := sqp.zeroValue0
  t3 := sqp.underlying3
  a3 := sqp.isAgg3
  z3 := sqp.sizeOf3
  v3 := sqp.zeroValue3
  t4 := sqp.underlying4
  a4 := sqp.isAgg4
  z4 := sqp.sizeOf4
  v4 := sqp.zeroValue4
  t5 := sqp.underlying5
  a5 := sqp.isAgg5
  z5 := sqp.sizeOf5
  v5 := sqp.zeroValue5
  t9 := sqp.underlying9
  a9 := sqp.isAgg9
  z9 := sqp.sizeOf9
  v9 := sqp.zeroValue9
  t28 := sqp.underlying23
  a28 := sqp.isAgg23
  z28 := sqp.sizeOf23
  v28 := sqp.zeroValue23
  t46 := sqp.underlying106
  a46 := sqp.isAgg106
  z46 := sqp.sizeOf106
  v46 := sqp.zeroValue106
  t51 := sqp.underlying158
  a51 := sqp.isAgg158
  z51 := sqp.sizeOf158
  v51 := sqp.zeroValue158
  t53 := sqp.underlying160
  a53 := sqp.isAgg160
  z53 := sqp.sizeOf160
  v53 := sqp.zeroValue160
  t131 := sqp.underlying155
  a131 := sqp.isAgg155
  z131 := sqp.sizeOf155
  v131 := sqp.zeroValue155
  t182 := sqp.underlying149
  a182 := sqp.isAgg149
  z182 := sqp.sizeOf149
  v182 := sqp.zeroValue149
  t183 := sqp.underlying150
  a183 := sqp.isAgg150
  z183 := sqp.sizeOf150
  v183 := sqp.zeroValue150
  t218 := sqp.underlying166
  a218 := sqp.isAgg166
  z218 := sqp.sizeOf166
  v218 := sqp.zeroValue166
  t222 := sqp.underlying170
  a222 := sqp.isAgg170
  z222 := sqp.sizeOf170
  v222 := sqp.zeroValue170
  t228 := sqp.underlying173
  a228 := sqp.isAgg173
  z228 := sqp.sizeOf173
  v228 := sqp.zeroValue173
  t229 := sqp.underlying174
  a229 := sqp.isAgg174
  z229 := sqp.sizeOf174
  v229 := sqp.zeroValue174 }
open Go.Sort Go.RowKit in
theorem sqp.slices_Sort_int (blk off cap : Nat) (zs : List Int) (w : World) (hH : Holds (Value.int .i64) w blk off zs.toArray) (hblk : blk < w.heap.size) (hsz : zs.length < 4611686018427387904) :
    Calls sqp.prog 59 #[.slice (some ⟨blk, off, none⟩) zs.length cap] w fun e w' =>
      e = .returned (.tuple #[]) ∧ ∃ n os, w' = grow (putRow (Value.int .i64) (Sort.ahead w n) blk off (zs.mergeSort fun x y => decide (x ≤ y)).toArray) os := Any.slices_Sort_int sqp.lays189 blk off cap zs w hH hblk hsz
def sqp.lays112_ren : Go.Shelf.Ren := ⟨fun | 112 => 60 | n => n, fun | 28 => 23 | 3 => 3 | 4 => 4 | 0 => 0 | n => n, fun | n => n⟩
theorem sqp.lays112 : Go.Proofs.Lays.n112 sqp.prog sqp.lays112_ren := {
  mixed := by kernel_rfl
  f112 := sqp.func60.trans (congrArg some (by kernel_rfl))
  t0 := sqp.underlying0
  a0 := sqp.isAgg0
  z0 := sqp.sizeOf0
  v0 := sqp.zeroValue0
  t3 := sqp.underlying3
  a3 := sqp.isAgg3
  z3 := sqp.sizeOf3
  v3 := sqp.zeroValue3
  t4 := sqp.underlying4
  a4 := sqp.isAgg4
  z4 := sqp.sizeOf4
  v4 := sqp.zeroValue4
  t28 := sqp.underlying23
  a28 := sqp.isAgg23
  z28 := sqp.sizeOf23
  v28 := sqp.zeroValue23 }
open Go.RowKit Go.Lib Go.Sort in
theorem sqp.slices_Reverse_int (blk off cap : Nat) (zs : List Int) (w : World) (hH : Holds (Value.int .i64) w blk off zs.toArray) (hsz : zs.length ≤ 9223372036854775807) :
    Calls sqp.prog 60 #[.slice (some ⟨blk, off, none⟩) zs.length cap] w fun e w' => e = .returned (.tuple #[]) ∧ ∃ n, w' = putRow (Value.int .i64) (Sort.ahead w n) blk off zs.reverse.toArray := Any.slices_Reverse_int sqp.lays112 blk off cap zs w hH hsz
end Go.Proofs.Ytgcnemkhppkkcaa
