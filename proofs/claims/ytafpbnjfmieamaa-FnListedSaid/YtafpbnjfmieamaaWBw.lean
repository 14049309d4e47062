/-
  StrataWith of the program.
-/
import Derived.Test.YtafpbnjfmieamaaWBv
import Derived.Test.YtafpbnjfmieamaaY22
import Derived.Test.YtafpbnjfmieamaaY27
import Derived.Test.YtafpbnjfmieamaaY23
import Derived.Test.YtafpbnjfmieamaaY21
namespace Go.Proofs.Ytafpbnjfmieamaa.lst
open Go.ChangeShapes Go.WideShapes Go.ChangeAt Go.RowKit
open Go.Proofs.Ytafpbnjfmieamaa.mem Go.Proofs.Ytafpbnjfmieamaa.ints Go.Proofs.Ytafpbnjfmieamaa.arr Go.Proofs.Ytafpbnjfmieamaa.pm Go.Proofs.Ytafpbnjfmieamaa.sf Go.Proofs.Ytafpbnjfmieamaa.gl Go.Proofs.Ytafpbnjfmieamaa.orb
open Go.Proofs.Ytafpbnjfmieamaa.wd
set_option linter.unusedVariables false
set_option maxRecDepth 100000

theorem builtH : Try.prog.built 51 [(1, (.func (.func 25) #[] #[]))] = some #[.slice none 0 0, (.func (.func 25) #[] #[])] := by kernel_rfl
theorem sizeH : (Try.prog.info? 51).map (·.size) = some 2 := by kernel_rfl
theorem strF_small (r u : List Int) : (strF r u).length ≤ 24 := by
  have h1 := strL_len (angF r u)
  have h2 := (corF_small r u).1
  have h3 : (angF r u).length = (corF r u).length := by simp [angF, sortD_len]
  unfold strF
  omega
theorem stL_snoc (L : List Sur) (s : Sur) : stL (L ++ [s]) = insT (stL L) (strF s.1 s.2) := by simp [stL]
/-- A row of headers of lists in blocks of their own reads as a list of lists that owns its memory. -/
theorem rk_mat {w : World} {B lo hi : Nat} {ex : Nat → Prop} {Y : List RI} {A : Option Addr} {c : Nat} (h : Rk w lo hi ex Y) (ho : w.ownsRow hi 23 1 (.slice A Y.length c) Y.length (hdOf Y)) (h1 : B ≤ lo) (h2 : B ≤ hi) : mat.Mat w B w.heap.size A Y.length (Y.map lOf) := by
  refine ⟨List.length_map .., Nat.le_refl _, ?_⟩
  have HS : ∀ G : Nat, (∀ b, b < hi → ¬ b = G) → mat.Hs w B w.heap.size (fun b => b = G) (fun i => (Y[i]?.map (·.1)).getD 0) (hdOf Y) (Y.map lOf) := fun G hG => by
    have bl : ∀ (i : Nat) z, Y[i]? = some z → (Y[i]?.map (·.1)).getD 0 = z.1 := fun i z hz => by simp [hz]
    refine ⟨by rw [hd_len, List.length_map], Nat.le_refl _, fun i xs hx => ?_, fun i j xs ys hx hy p q hij => ?_⟩
    · rw [List.getElem?_map] at hx
      obtain ⟨z, hz, rfl⟩ := Option.map_eq_some_iff.1 hx
      obtain ⟨A', c', e, _, _, r⟩ := h.each z (List.mem_of_getElem? hz)
      refine ⟨A', c', by rw [hd_at hz, e], fun p => ?_⟩
      rw [bl i z hz]
      obtain ⟨r1, r2, r3, r4⟩ := r p
      have := h.top
      exact ⟨by omega, by omega, hG _ r2, r4⟩
    · rw [List.getElem?_map] at hx hy
      obtain ⟨z, hz, rfl⟩ := Option.map_eq_some_iff.1 hx
      obtain ⟨y, hy', rfl⟩ := Option.map_eq_some_iff.1 hy
      rw [bl i z hz, bl j y hy']
      obtain ⟨li, ei⟩ := List.getElem?_eq_some_iff.1 hz
      obtain ⟨lj, ej⟩ := List.getElem?_eq_some_iff.1 hy'
      rcases Nat.lt_or_gt_of_ne hij with o | o
      · have := List.pairwise_iff_getElem.1 h.ne i j li lj o
        rw [ei, ej] at this
        exact this p q
      · have := List.pairwise_iff_getElem.1 h.ne j i lj li o
        rw [ei, ej] at this
        exact fun e => this q p e.symm
  rcases ho.2 with ⟨q, q2⟩ | ⟨g, cap, cur, q, b1, b2, b3, b4, b5, b6⟩
  · refine ⟨hdOf Y, _, w.heap.size, HS _ (fun b hb => by have := h.top; omega), fun hn => by omega⟩
  · injection q with q1 q2 q3
    subst q1; subst q3
    have hg : g < w.heap.size := (Array.getElem?_eq_some_iff.1 b2).1
    refine ⟨hdOf Y, _, g, HS g (fun b hb => by omega), fun hn => ⟨by omega, hg, by rw [hd_len], hg, fun _ => ⟨g, 0, rfl, Nat.le_refl _, by omega, fun j hj => ?_⟩⟩⟩
    have hj' : j < (hdOf Y).length := by rw [hd_len]; exact hj
    have e1 := ho.cells (g := g) rfl j (hdOf Y)[j] (List.getElem?_eq_getElem hj')
    rw [add0] at e1
    refine ⟨by rw [e1, List.getElem?_eq_getElem hj'], ?_⟩
    unfold World.frozen?
    simp [b2]
set_option maxHeartbeats 4000000 in
theorem strata_impl (a : Int) (w : World) : Calls Try.prog 9 #[.int .i64 a] w (fns.MGives (stF a) w) := by
  go_enter Try.func9, Try.ntmps9
  go_wp2_with (first | (refine gl.wpList_build rfl 51 _ rfl [(1, (.func (.func 25) #[] #[]))] rfl _ builtH ?_) | (refine wpList_store_fresh rfl 51 _ _ rfl [.slice none 0 0, (.func (.func 25) #[] #[])] #[.slice none 0 0, .nilFunc] rfl rfl sizeH rfl (by simp [Value.oneCell']) ?_; intro w1 b1 a1 s1))
  refine (sw_impl a w1).mono ?_
  rintro e w2 ⟨v2, rfl, sx⟩
  obtain ⟨Z, ez, oz, pz⟩ := sx.ex
  obtain ⟨A2, c2, rfl⟩ := mem.own_form oz
  have b2 := sx.bel
  have s2 := b2.size
  have SF : Hid (∀ z ∈ Z, Sf a.toNat (sOf z).1 (sOf z).2) := Lib.hid (fun z hz => sx.sf _ (by rw [← ez]; exact List.mem_map_of_mem hz))
  have EZ : Hid (stL (Z.map sOf) = stF a) := Lib.hid (by rw [ez]; rfl)
  have NL : Z.length ≤ 26 := by
    have e1 : Z.length = (swF a).length := by rw [← ez, List.length_map]
    have := swF_len a
    omega
  have PZ := Lib.hid pz; have OZ := Lib.hid oz; have B2 := Lib.hid (b1.trans (b2.mono (by omega)))
  have A0 : Hid (Ah w2 w.heap.size w2.heap.size w.heap.size (.slice none 0 0) []) := Lib.hid ⟨a1.keep b2 a1.lt, ⟨rfl, .inl ⟨rfl, rfl⟩⟩, fun e => by simp [Value.ownBlock] at e, List.Pairwise.nil, Rk.nil _ _ _ _ (Nat.le_refl _)⟩
  clear ez oz pz b1 b2 sx a1
  go_wp2_with fail
  go_loopw [10] (fun i wr => ∃ (k : Nat) (v : Value) (Y : List RI), k ≤ Z.length ∧ i = .int .i64 k ∧ Ah wr w.heap.size w2.heap.size w.heap.size v Y ∧ Y.map lOf = stL ((Z.take k).map sOf) ∧ Y.length ≤ k ∧ Fr w2 wr w.heap.size (.slice none 0 0) v) (fun i _ => Z.length - (intOf i).toNat)
  case atStart => exact ⟨0, _, [], Nat.zero_le _, rfl, A0.out, rfl, Nat.zero_le _, Fr.of _ _ (Below.refl _ _)⟩
  case round =>
    obtain ⟨k, v, Y, hk, rfl, ah, ey, yl, fr⟩ := hrel
    have AH := Lib.hid ah; have EY := Lib.hid ey; have FR := Lib.hid fr; clear ah ey fr A0
    have swr := FR.out.size
    by_cases hlt : k < Z.length
    · obtain ⟨z, hz⟩ : ∃ z, Z[k]? = some z := ⟨_, List.getElem?_eq_getElem hlt⟩
      obtain ⟨g, off, rfl, hg, q0, q1⟩ := own_at OZ.out rfl hz
      have hgw : g ≠ w.heap.size := by have := (OZ.out.lt g rfl).1; omega
      have kp : ∀ b, b < w2.heap.size → b ≠ w.heap.size → wr.heap[b]? = w2.heap[b]? := fun b q1 q2 => FR.out.block b q1 q2 (fun e => by simp [Value.ownBlock] at e)
      have PR : Hid (Pk wr w1.heap.size w2.heap.size (fun b => (Value.slice (some ⟨g, off, none⟩) Z.length c2).ownBlock = some b) Z) := Lib.hid (PZ.out.keep swr (fun b l h _ => kp b h (by omega)))
      obtain ⟨P, c', Q, d', ep, srd⟩ := PR.out.srd (List.mem_of_getElem? hz)
      have SS := SF.out z (List.mem_of_getElem? hz)
      have ET : Hid (stL ((Z.take (k + 1)).map sOf) = insT (stL ((Z.take k).map sOf)) (strF (sOf z).1 (sOf z).2)) := Lib.hid (by
        rw [List.take_add_one, hz, List.map_append]
        exact stL_snoc _ _)
      have hc0 : wr.cell? ⟨g, off + k * 2, none⟩ = some (.slice P (sOf z).1.length c') := by
        rw [World.cell?_of_block (w := w2) (a := ⟨g, off + k * 2, none⟩) (kp g hg hgw), q0, ep]
      have hc1 : wr.cell? ⟨g, off + k * 2 + 1, none⟩ = some (.slice Q (sOf z).2.length d') := by
        rw [World.cell?_of_block (w := w2) (a := ⟨g, off + k * 2 + 1, none⟩) (kp g hg hgw), q1, ep]
      have SRD := Lib.hid srd
      have n24 := sf24 SS
      have r24 : (sOf z).1.length ≤ 24 := by rw [SS.lr]; exact n24
      have u24 : (sOf z).2.length ≤ 24 := by rw [SS.lu]; exact n24
      have T24 := strF_small (sOf z).1 (sOf z).2
      generalize stL ((Z.take k).map sOf) = SL at *
      generalize (sOf z).1 = r at *; generalize (sOf z).2 = u at *
      clear ep srd q0 q1 hz PR SS kp
      have ST1 : Hid (∃ W, W = wr.alloc (.cells #[.slice P r.length c', .slice Q u.length d'] 33) ∧ Below wr.heap.size wr W) := Lib.hid ⟨_, rfl, (Below.refl _ _).alloc (Nat.le_refl _) _⟩
      go_wp2_with fail
      obtain ⟨w3, eW, b3⟩ := ST1.out
      rw [← eW]
      have AH3 := Lib.hid (AH.out.keep b3); have SR3 := Lib.hid (SRD.out.keep (b3.mono swr) (Nat.le_refl _)); have FR3 := Lib.hid (FR.out.trans (Fr.of _ _ b3))
      have s3 := b3.size
      clear eW b3 ST1 SRD AH FR hc0 hc1
      refine (st_impl _ r u _ _ SR3.out (by omega) (by omega)).mono ?_
      rintro e w4 ⟨v4, rfl, o4, b4⟩
      obtain ⟨A4, c4, rfl⟩ := mem.own_form o4
      have AH4 := Lib.hid (AH3.out.keep b4); have FR4 := Lib.hid (FR3.out.trans (Fr.of _ _ b4))
      have R4 := Lib.hid (Row.of_own o4).rd
      have s4 := b4.size
      have hbb := AH3.out.box.lt
      obtain ⟨blk, _, rkc⟩ := (AH3.out.rk.keep b4.size (fun b _ q _ => b4.block b q)).cons (hi' := w4.heap.size) o4 (by omega) s4 rfl (by omega) (fun b q1 q2 e => by
        rcases e with e | e
        · have := (AH3.out.own.lt b e).2; omega
        · omega)
      have RC := Lib.hid rkc
      clear rkc o4 b4 AH3 FR3 SR3
      generalize strF r u = t at *
      go_wp2_with fail
      refine (insertH w.heap.size w2.heap.size w.heap.size _ v Y (blk, .slice A4 t.length c4, t) A4 c4 t _ AH4.out rfl rfl RC.out R4.out (Nat.le_refl _) (by omega) (by omega)).mono ?_
      rintro e w5 ⟨v5, Y5, rfl, ah5, ey5, fr5⟩
      have A5 := Lib.hid ah5; have F5 := Lib.hid (FR4.out.trans fr5)
      have E5 : Hid (Y5.map lOf = stL ((Z.take (k + 1)).map sOf)) := Lib.hid (by rw [ey5, EY.out, ET.out])
      have L5 : Y5.length ≤ k + 1 := by
        have h1 := insT_len (Y.map lOf) t
        rw [← ey5, List.length_map, List.length_map] at h1
        omega
      clear ah5 ey5 fr5 AH4 FR4 RC R4 EY ET
      go_wp2_with fail
      go_roundw
      case rel => exact ⟨k + 1, v5, Y5, by omega, by go_num, A5.out, E5.out, L5, F5.out⟩
      case measure => simp [intOf]; omega
    · obtain rfl : k = Z.length := by omega
      have EE : Hid (Y.map lOf = stF a) := Lib.hid (by rw [EY.out, List.take_of_length_le (Nat.le_refl _), EZ.out])
      clear EY EZ
      go_wp2_with fail
      refine (takeH w.heap.size w2.heap.size w.heap.size v Y _ AH.out (Nat.le_refl _) (by omega)).mono ?_
      rintro e w6 ⟨v6, v7, rfl, o6, _, fr6⟩
      obtain ⟨A6, c6, rfl⟩ := mem.own_form o6
      have FIN : Hid (fns.MGives (stF a) w (.returned (.slice A6 Y.length c6)) w6) := Lib.hid (by
        have hbx := AH.out.box.lt
        have r6 := AH.out.rk.keep fr6.size (fun k _ q e => fr6.block k q (fun x => e (.inr x)) (fun x => e (.inl x)))
        have m6 := rk_mat (B := w.heap.size) r6 o6 (by omega) (by omega)
        have bl : Below w.heap.size w w6 := B2.out.trans ((FR.out.trans fr6).below B2.out.size (Nat.le_refl _) (fun k e => by simp [Value.ownBlock] at e))
        have el : Y.length = (stF a).length := by rw [← EE.out, List.length_map]
        rw [EE.out] at m6
        rw [el] at m6 ⊢
        exact ⟨A6, c6, rfl, m6, bl⟩)
      clear o6 fr6
      go_wp2_with fail
      go_ret
      exact FIN.out
end Go.Proofs.Ytafpbnjfmieamaa.lst
