import Derived.Test.YtpmojmhamgcfmaaGreatY21
import Derived.Test.YtpmojmhamgcfmaaGreatY02
import Derived.Test.YtpmojmhamgcfmaaGreatY17
import Derived.Test.YtpmojmhamgcfmaaGreatY18
/-
  The program's order of the pairs gives the same list of forms. Plain mathematics.
-/
namespace Go.Proofs.YtpmojmhamgcfmaaGreat.lst
open Go.Proofs.YtpmojmhamgcfmaaGreat.pm Go.Proofs.YtpmojmhamgcfmaaGreat.orb Go.Proofs.YtpmojmhamgcfmaaGreat.arr
set_option linter.unusedVariables false
set_option maxRecDepth 100000

def cut (n : Nat) (p : List Int) : List Int := p.take n
def prC (n : Nat) : List (List Int) := (prI n).map (cut n)
set_option maxRecDepth 100000 in
theorem alI_kernel : ∀ n : Fin 5, allP n.val [] (prC n.val) (prC n.val) = swL n.val := by decide +kernel
set_option maxRecDepth 100000 in
theorem prI_kernel : ∀ n : Fin 5, ((prI n.val).all fun p => decide (p = ext (cut n.val p)) && okB (cut n.val p) && decide ((cut n.val p).length = n.val)) = true := by decide +kernel
end Go.Proofs.YtpmojmhamgcfmaaGreat.lst

/-
  What the program's permutations are. Plain mathematics.
-/
namespace Go.Proofs.YtpmojmhamgcfmaaGreat.lst
open Go.Proofs.YtpmojmhamgcfmaaGreat.pm Go.Proofs.YtpmojmhamgcfmaaGreat.orb Go.Proofs.YtpmojmhamgcfmaaGreat.arr Go.Proofs.YtpmojmhamgcfmaaGreat.permOf
set_option linter.unusedVariables false
set_option maxRecDepth 100000

theorem prI_perm {n : Nat} (hn : n ≤ 4) {p : List Int} (hp : p ∈ prI n) : p = ext (cut n p) ∧ Ok (cut n p) ∧ (cut n p).length = n := by
  have := List.all_eq_true.1 (prI_kernel ⟨n, by omega⟩) p hp
  simp only [Bool.and_eq_true, decide_eq_true_eq] at this
  exact ⟨this.1.1, Ok.of _ this.1.2, this.2⟩
theorem prC_at {n a : Nat} {p : List Int} (h : (prI n)[a]? = some p) : (prC n)[a]? = some (cut n p) := by simp [prC, h]
theorem prC_len (n : Nat) : (prC n).length = (prI n).length := by simp [prC]
/-- Reached by both from the first element: all, exactly if they are transitive. -/
theorem reach_tr {n : Nat} (hn : n ≤ 4) (h0 : 0 < n) {p q : List Int} (hp : p ∈ prI n) (hq : q ∈ prI n) : decide ((reach p q 0).length = n) = transB (cut n p) (cut n q) := by
  obtain ⟨e1, o1, l1⟩ := prI_perm hn hp
  obtain ⟨e2, o2, l2⟩ := prI_perm hn hq
  have e := reach_ext o1 o2 (by rw [l1, l2]) (f := 0) (by omega) (by omega)
  rw [← e1, ← e2] at e
  rw [e]
  unfold transB
  have h1 : okBB (cut n p) (cut n q) = true := by
    unfold okBB
    simp [o1.b, o2.b, l1, l2]
  rw [h1, l1]
  simp [h0]
end Go.Proofs.YtpmojmhamgcfmaaGreat.lst

/-
  l10Insert of the model.
-/
namespace Go.Proofs.YtpmojmhamgcfmaaGreat.lst
open Go.ChangeShapes Go.WideShapes Go.ChangeAt Go.RowKit
open Go.Proofs.YtpmojmhamgcfmaaGreat.mem Go.Proofs.YtpmojmhamgcfmaaGreat.ints Go.Proofs.YtpmojmhamgcfmaaGreat.arr Go.Proofs.YtpmojmhamgcfmaaGreat.pm Go.Proofs.YtpmojmhamgcfmaaGreat.sf Go.Proofs.YtpmojmhamgcfmaaGreat.orb
set_option linter.unusedVariables false
set_option maxRecDepth 100000
theorem insTo_len (z : Item) : ∀ (Z acc : List Item) (d : Bool), (Z.foldl (insStep z) (acc, d)).1.length ≤ acc.length + Z.length + (if d then 0 else 1)
  | [], acc, d => by simp
  | x :: t, acc, d => by
    rw [List.foldl_cons]
    by_cases h : (!(d || decide (sOf x = sOf z)) && bef (sOf z) (sOf x)) = true
    · have e : insStep z (acc, d) x = (acc ++ [z, x], true) := by simp only [insStep, h, if_true]
      have hd : d = false := by cases d <;> simp_all
      rw [e]
      have := insTo_len z t (acc ++ [z, x]) true
      subst hd
      simp at this ⊢
      omega
    · have e : insStep z (acc, d) x = (acc ++ [x], d || decide (sOf x = sOf z)) := by
        simp only [insStep]
        rw [if_neg h]
      rw [e]
      have := insTo_len z t (acc ++ [x]) (d || decide (sOf x = sOf z))
      cases d <;> simp at this ⊢
      · split at this <;> omega
      · omega
set_option maxHeartbeats 2000000 in
theorem ins_spec (A : Option Addr) (n cL : Nat) (Z : List Item) (zb : Nat × Nat) (P Q : Option Addr) (c d N lo hi b0 : Nat) (s : Sur) (ex : Nat → Prop) (w : World) (hl : w.ownsRow b0 31 2 (.slice A n cL) n (hsOf Z)) (hn : Z.length = n) (hn2 : n ≤ 1000)
    (hp : Pk w lo hi ex ((zb, (.slice P N c, .slice Q N d), s) :: Z)) (hsf : Sf N s.1 s.2 ∧ ∀ y ∈ Z, Sf N (sOf y).1 (sOf y).2) :
    Calls Tryz.prog 24 #[.slice A n cL, .agg #[.slice P N c, .slice Q N d]] w fun e w' => ∃ v, e = .returned v ∧ Io w w' v (insZ (zb, (.slice P N c, .slice Q N d), s) Z) := by
  have HP := Lib.hid hp; have HS := Lib.hid hsf.1; have HZ := Lib.hid hsf.2; have HL := Lib.hid hl; clear hp hsf hl
  have LZ := Lib.hid hn; clear hn
  have N24 : N ≤ 24 := by have := HS.out.r.len; rw [HS.out.lr] at this; exact this
  have SS : Hid (Srd w hi (.agg #[.slice P N c, .slice Q N d]) s.1 s.2) := Lib.hid (by
    obtain ⟨P', c', Q', d', e, h⟩ := HP.out.srd (List.mem_cons_self ..)
    have e1 : (Value.slice P N c, Value.slice Q N d) = (Value.slice P' s.1.length c', Value.slice Q' s.2.length d') := e
    rw [Prod.mk.injEq] at e1
    rw [e1.1, e1.2]; exact h)
  generalize hz : ((zb, (Value.slice P N c, Value.slice Q N d), s) : Item) = z at *
  have ZS : Hid (sOf z = s ∧ z.2.1.1 = .slice P N c ∧ z.2.1.2 = .slice Q N d) := Lib.hid (by subst hz; exact ⟨rfl, rfl, rfl⟩)
  clear hz
  go_enter Tryz.func24, Tryz.ntmps24
  go_wp2_with fail
  have ST0 : Hid (∃ W, W = ((w.alloc (.cells #[.slice P N c, .slice Q N d] 31)).alloc (.cells #[] 31)) ∧ Io w W (.slice (some ⟨w.heap.size + 1, 0, none⟩) 0 0) [] ∧ Bx W (.slice (some ⟨w.heap.size + 1, 0, none⟩) 0 0) w.heap.size (.slice P N c, .slice Q N d)) := Lib.hid (by
    refine ⟨_, rfl, ⟨⟨rfl, .inr ⟨w.heap.size + 1, 0, #[], rfl, by omega, ?_, Nat.le_refl _, by unfold maxLen; omega, rfl, rfl⟩⟩, ((Below.refl _ _).alloc (Nat.le_refl _) _).alloc (by simp) _⟩, (Arr.new w [.slice P N c, .slice Q N d] 31 rfl).alloc _, ?_⟩
    · have := heap_alloc_last (w.alloc (.cells #[.slice P N c, .slice Q N d] 31)) (.cells #[] 31)
      simpa using this
    · simp [Value.ownBlock])
  obtain ⟨w0, eW, bi0, bs0⟩ := ST0.out
  rw [← eW]
  have BI0 := Lib.hid bi0; have BS0 := Lib.hid bs0; clear bi0 bs0 eW ST0
  go_loopw [5, 6, 12] (fun vo vd i wr => ∃ k : Nat, k ≤ n ∧ i = .int .i64 k ∧ vd = .bool (insTo z (Z.take k)).2 ∧ Io w wr vo (insTo z (Z.take k)).1 ∧ Bx wr vo w.heap.size (.slice P N c, .slice Q N d)) (fun _ _ i _ => n - (intOf i).toNat)
  case atStart => exact ⟨0, Nat.zero_le _, rfl, rfl, BI0.out, BS0.out⟩
  case round =>
    obtain ⟨k, hk, rfl, rfl, io, bx⟩ := hrel
    have IO := Lib.hid io; have BS := Lib.hid bx; clear io bx BI0 BS0
    have YL : (insTo z (Z.take k)).1.length ≤ n + 1 := by have := insTo_len z (Z.take k) [] false; have := LZ.out; simp [insTo] at *; omega
    obtain ⟨i0, hi0, hz0, hz1, hz2⟩ := info_parts infoS10
    have szw : w.heap.size ≤ wr.heap.size := IO.out.bel.size
    have bs0 := BS.out.box.lt
    have Bs_0 := BS.out.box.cell (k := 0) rfl; have Bs_1 := BS.out.box.cell (k := 1) rfl
    by_cases hlt : k < n
    · obtain ⟨x, hx⟩ : ∃ x, Z[k]? = some x := ⟨_, List.getElem?_eq_getElem (by rw [LZ.out]; exact hlt)⟩
      obtain ⟨g, off, rfl, hg, c0, c1⟩ := own_at HL.out LZ.out hx
      have nx : insTo z (Z.take (k + 1)) = insStep z ((insTo z (Z.take k)).1, (insTo z (Z.take k)).2) x := insTo_next hx
      obtain ⟨P', c', Q', d', ex', sx⟩ := HP.out.srd (List.mem_cons_of_mem _ (List.mem_of_getElem? hx))
      have SX := Lib.hid (sx.keep IO.out.bel HP.out.top)
      have SFx := Lib.hid (HZ.out x (List.mem_of_getElem? hx))
      have SSr := Lib.hid (SS.out.keep IO.out.bel HP.out.top)
      rw [SFx.out.lr, SFx.out.lu] at ex' SX
      have hxw : wr.cell? ⟨g, off + k * 2, none⟩ = some (.slice P' N c') := by rw [IO.out.bel.cell (p := ⟨g, off + k * 2, none⟩) hg, c0, ex']
      have hyw : wr.cell? ⟨g, off + k * 2 + 1, none⟩ = some (.slice Q' N d') := by rw [IO.out.bel.cell (p := ⟨g, off + k * 2 + 1, none⟩) hg, c1, ex']
      have EX := Lib.hid ex'
      clear c0 c1 hx sx ex'
      generalize hY : (insTo z (Z.take k)).1 = Y at *; generalize hD : (insTo z (Z.take k)).2 = D at *
      clear hY hD
      have NX := Lib.hid nx; clear nx
      have ST1 : Hid (∃ W, W = wr.alloc (.cells #[.slice P' N c', .slice Q' N d'] 31) ∧ Below wr.heap.size wr W ∧ Bx W u5 wr.heap.size (.slice P' N c', .slice Q' N d')) := Lib.hid ⟨_, rfl, (Below.refl _ _).alloc (Nat.le_refl _) _, Arr.new wr [.slice P' N c', .slice Q' N d'] 31 rfl, fun e => by have := (IO.out.own.lt _ e).2; omega⟩
      go_wp2_with fail
      obtain ⟨w1, eW, b1, xx⟩ := ST1.out
      rw [← eW]
      have XX := Lib.hid xx; clear xx eW ST1
      have s1 := b1.size
      replace IO := Lib.hid (IO.out.keep b1); replace BS := Lib.hid (BS.out.keep b1); replace SX := Lib.hid (SX.out.keep b1 SX.out.top); replace SSr := Lib.hid (SSr.out.keep b1 SSr.out.top)
      clear b1 Bs_0 Bs_1 hxw hyw
      have Bs_0 := BS.out.box.cell (k := 0) rfl; have Bs_1 := BS.out.box.cell (k := 1) rfl; have Bx_0 := XX.out.box.cell (k := 0) rfl; have Bx_1 := XX.out.box.cell (k := 1) rfl
      have hbx : wr.heap.size < w1.heap.size := XX.out.box.lt
      generalize wr.heap.size = bx at *
      refine (same_spec _ (sOf x).1 (sOf x).2 _ s.1 s.2 _ _ _ SX.out SSr.out (by rw [SFx.out.lr]; omega) (by rw [SFx.out.lu]; omega) (by rw [HS.out.lr]; omega) (by rw [HS.out.lu]; omega)).mono ?_
      rintro e w2 ⟨rfl, b1⟩
      have s_w2 := b1.size
      replace IO := Lib.hid (IO.out.keep b1)
      replace BS := Lib.hid (BS.out.keep b1)
      replace XX := Lib.hid (XX.out.keep b1)
      replace SX := Lib.hid (SX.out.keep b1 SX.out.top)
      replace SSr := Lib.hid (SSr.out.keep b1 SSr.out.top)
      clear b1 Bs_0 Bs_1 Bx_0 Bx_1
      have Bs_0 := BS.out.box.cell (k := 0) rfl; have Bs_1 := BS.out.box.cell (k := 1) rfl; have Bx_0 := XX.out.box.cell (k := 0) rfl; have Bx_1 := XX.out.box.cell (k := 1) rfl
      rw [same_eq]
      cases he : decide (((sOf x).1, (sOf x).2) = (s.1, s.2))
      · have HE : sOf x ≠ sOf z := by rw [ZS.out.1]; intro e; rw [e] at he; simp at he
        clear he
        cases D
        · go_wp2_with fail
          refine (gl.before_spec _ _ s.1 s.2 (sOf x).1 (sOf x).2 _ _ _ SSr.out SX.out (by rw [HS.out.lr]; omega) (by rw [HS.out.lr, SFx.out.lr]) (by rw [HS.out.lu, SFx.out.lu]) (by rw [HS.out.lu]; omega)).mono ?_
          rintro e w3 ⟨rfl, b1⟩
          have s_w3 := b1.size
          replace IO := Lib.hid (IO.out.keep b1)
          replace BS := Lib.hid (BS.out.keep b1)
          replace XX := Lib.hid (XX.out.keep b1)
          replace SX := Lib.hid (SX.out.keep b1 SX.out.top)
          replace SSr := Lib.hid (SSr.out.keep b1 SSr.out.top)
          clear b1 Bs_0 Bs_1 Bx_0 Bx_1
          have Bs_0 := BS.out.box.cell (k := 0) rfl; have Bs_1 := BS.out.box.cell (k := 1) rfl; have Bx_0 := XX.out.box.cell (k := 0) rfl; have Bx_1 := XX.out.box.cell (k := 1) rfl
          cases hb4 : bef (s.1, s.2) ((sOf x).1, (sOf x).2)
          · have HB : bef (sOf z) (sOf x) = false := by rw [ZS.out.1]; exact hb4
            have yl_wz : Y.length ≤ 1002 := by omega
            have OW : Hid (w3.ownsRow w.heap.size 31 2 _ (Y.length) (hsOf (Y))) := Lib.hid (by have := IO.out.own; simpa using this)
            go_wp2_with (at_builtin; refine wpList_append_lies (w3.alloc (.cells #[.slice P' N c', .slice Q' N d'] 31)) rfl _ _ 27 rfl w.heap.size 31 i0 _ 2 48 Tryz.underlying27 hi0 hz0 hz1 hz2 rfl (by decide) _ (Y.length) (hsOf (Y)) rfl (OW.out.alloc _) ⟨w3.heap.size, 0, none⟩ 1 1 [.slice P' N c', .slice Q' N d'] rfl rfl (World.news_of_block (Arr.new w3 _ _ rfl)) ?h1 (by decide) ?c4 ?c5 ?c6 _ rfl ?_)
            case h1 => first | (intro q hq; simp at hq; rcases hq with rfl | rfl <;> rfl) | exact ⟨rfl, rfl⟩
            case c4 => unfold maxLen; omega
            case c5 => omega
            case c6 => have := IO.out.bel.size; simp; omega
            intro g_wz cap_wz wz ho hg_wz hb hlt_wz
            have bA : Below w3.heap.size w3 (w3.alloc (.cells #[.slice P' N c', .slice Q' N d'] 31)) := (Below.refl _ _).alloc (Nat.le_refl _) _
            have BS' := Lib.hid (BS.out.push (n := Y.length + 1) (cap := cap_wz) bA hg_wz (by simpa using hb))
            have XX' := Lib.hid (XX.out.push (n := Y.length + 1) (cap := cap_wz) bA hg_wz (by simpa using hb))
            have IO' := Lib.hid (IO.out.push (z := x) (k := Y.length) bA (by first | rfl | simp) (by rw [EX.out]; exact ho) hg_wz)
            clear ho hb bA
            go_wp2_with fail
            go_roundw
            case rel => exact ⟨k + 1, by omega, by go_num, by rw [NX.out]; simp [insStep, HB, HE], by rw [NX.out]; simpa [insStep, HB, HE] using IO'.out, BS'.out⟩
            case measure => simp [intOf]; omega
          · have HB : bef (sOf z) (sOf x) = true := by rw [ZS.out.1]; exact hb4
            have yl_w4 : Y.length ≤ 1002 := by omega
            have OW : Hid (w3.ownsRow w.heap.size 31 2 _ (Y.length) (hsOf (Y))) := Lib.hid (by have := IO.out.own; simpa using this)
            go_wp2_with (at_builtin; refine wpList_append_lies (w3.alloc (.cells #[.slice P N c, .slice Q N d] 31)) rfl _ _ 27 rfl w.heap.size 31 i0 _ 2 48 Tryz.underlying27 hi0 hz0 hz1 hz2 rfl (by decide) _ (Y.length) (hsOf (Y)) rfl (OW.out.alloc _) ⟨w3.heap.size, 0, none⟩ 1 1 [.slice P N c, .slice Q N d] rfl rfl (World.news_of_block (Arr.new w3 _ _ rfl)) ?h1 (by decide) ?c4 ?c5 ?c6 _ rfl ?_)
            case h1 => first | (intro q hq; simp at hq; rcases hq with rfl | rfl <;> rfl) | exact ⟨rfl, rfl⟩
            case c4 => unfold maxLen; omega
            case c5 => omega
            case c6 => have := IO.out.bel.size; simp; omega
            intro g_w4 cap_w4 w4 ho hg_w4 hb hlt_w4
            have bA : Below w3.heap.size w3 (w3.alloc (.cells #[.slice P N c, .slice Q N d] 31)) := (Below.refl _ _).alloc (Nat.le_refl _) _
            have BS' := Lib.hid (BS.out.push (n := Y.length + 1) (cap := cap_w4) bA hg_w4 (by simpa using hb))
            have XX' := Lib.hid (XX.out.push (n := Y.length + 1) (cap := cap_w4) bA hg_w4 (by simpa using hb))
            have IO' := Lib.hid (IO.out.push (z := z) (k := Y.length) bA (by first | rfl | simp) (by rw [ZS.out.2.1, ZS.out.2.2]; exact ho) hg_w4)
            have s_w4 := hg_w4.size; simp at s_w4
            clear ho hb bA IO BS XX Bs_0 Bs_1 Bx_0 Bx_1
            have IO := IO'; have BS := BS'; have XX := XX'; clear IO' BS' XX'
            have Bx_0 := XX.out.box.cell (k := 0) rfl; have Bx_1 := XX.out.box.cell (k := 1) rfl
            have yl_wz : Y.length + 1 ≤ 1002 := by omega
            have OW : Hid (w4.ownsRow w.heap.size 31 2 _ (Y.length + 1) (hsOf (Y ++ [z]))) := Lib.hid (by have := IO.out.own; simpa using this)
            go_wp2_with (at_builtin; refine wpList_append_lies (w4.alloc (.cells #[.slice P' N c', .slice Q' N d'] 31)) rfl _ _ 27 rfl w.heap.size 31 i0 _ 2 48 Tryz.underlying27 hi0 hz0 hz1 hz2 rfl (by decide) _ (Y.length + 1) (hsOf (Y ++ [z])) rfl (OW.out.alloc _) ⟨w4.heap.size, 0, none⟩ 1 1 [.slice P' N c', .slice Q' N d'] rfl rfl (World.news_of_block (Arr.new w4 _ _ rfl)) ?h1 (by decide) ?c4 ?c5 ?c6 _ rfl ?_)
            case h1 => first | (intro q hq; simp at hq; rcases hq with rfl | rfl <;> rfl) | exact ⟨rfl, rfl⟩
            case c4 => unfold maxLen; omega
            case c5 => omega
            case c6 => have := IO.out.bel.size; simp; omega
            intro g_wz cap_wz wz ho hg_wz hb hlt_wz
            have bA : Below w4.heap.size w4 (w4.alloc (.cells #[.slice P' N c', .slice Q' N d'] 31)) := (Below.refl _ _).alloc (Nat.le_refl _) _
            have BS' := Lib.hid (BS.out.push (n := Y.length + 1 + 1) (cap := cap_wz) bA hg_wz (by simpa using hb))
            have XX' := Lib.hid (XX.out.push (n := Y.length + 1 + 1) (cap := cap_wz) bA hg_wz (by simpa using hb))
            have IO' := Lib.hid (IO.out.push (z := x) (k := Y.length + 1) bA (by first | rfl | simp) (by rw [EX.out]; exact ho) hg_wz)
            clear ho hb bA
            go_wp2_with fail
            go_roundw
            case rel => exact ⟨k + 1, by omega, by go_num, by rw [NX.out]; simp [insStep, HB, HE], by rw [NX.out]; simpa [insStep, HB, HE] using IO'.out, BS'.out⟩
            case measure => simp [intOf]; omega
        · skip
          have yl_wz : Y.length ≤ 1002 := by omega
          have OW : Hid (w2.ownsRow w.heap.size 31 2 _ (Y.length) (hsOf (Y))) := Lib.hid (by have := IO.out.own; simpa using this)
          go_wp2_with (at_builtin; refine wpList_append_lies (w2.alloc (.cells #[.slice P' N c', .slice Q' N d'] 31)) rfl _ _ 27 rfl w.heap.size 31 i0 _ 2 48 Tryz.underlying27 hi0 hz0 hz1 hz2 rfl (by decide) _ (Y.length) (hsOf (Y)) rfl (OW.out.alloc _) ⟨w2.heap.size, 0, none⟩ 1 1 [.slice P' N c', .slice Q' N d'] rfl rfl (World.news_of_block (Arr.new w2 _ _ rfl)) ?h1 (by decide) ?c4 ?c5 ?c6 _ rfl ?_)
          case h1 => first | (intro q hq; simp at hq; rcases hq with rfl | rfl <;> rfl) | exact ⟨rfl, rfl⟩
          case c4 => unfold maxLen; omega
          case c5 => omega
          case c6 => have := IO.out.bel.size; simp; omega
          intro g_wz cap_wz wz ho hg_wz hb hlt_wz
          have bA : Below w2.heap.size w2 (w2.alloc (.cells #[.slice P' N c', .slice Q' N d'] 31)) := (Below.refl _ _).alloc (Nat.le_refl _) _
          have BS' := Lib.hid (BS.out.push (n := Y.length + 1) (cap := cap_wz) bA hg_wz (by simpa using hb))
          have XX' := Lib.hid (XX.out.push (n := Y.length + 1) (cap := cap_wz) bA hg_wz (by simpa using hb))
          have IO' := Lib.hid (IO.out.push (z := x) (k := Y.length) bA (by first | rfl | simp) (by rw [EX.out]; exact ho) hg_wz)
          clear ho hb bA
          go_wp2_with fail
          go_roundw
          case rel => exact ⟨k + 1, by omega, by go_num, by rw [NX.out]; simp [insStep, HE], by rw [NX.out]; simpa [insStep, HE] using IO'.out, BS'.out⟩
          case measure => simp [intOf]; omega
      · have HE : sOf x = sOf z := by rw [ZS.out.1]; have := of_decide_eq_true he; rw [Prod.mk.injEq] at this; exact Prod.ext this.1 this.2
        clear he
        have yl_wz : Y.length ≤ 1002 := by omega
        have OW : Hid (w2.ownsRow w.heap.size 31 2 _ (Y.length) (hsOf (Y))) := Lib.hid (by have := IO.out.own; simpa using this)
        go_wp2_with (at_builtin; refine wpList_append_lies (w2.alloc (.cells #[.slice P' N c', .slice Q' N d'] 31)) rfl _ _ 27 rfl w.heap.size 31 i0 _ 2 48 Tryz.underlying27 hi0 hz0 hz1 hz2 rfl (by decide) _ (Y.length) (hsOf (Y)) rfl (OW.out.alloc _) ⟨w2.heap.size, 0, none⟩ 1 1 [.slice P' N c', .slice Q' N d'] rfl rfl (World.news_of_block (Arr.new w2 _ _ rfl)) ?h1 (by decide) ?c4 ?c5 ?c6 _ rfl ?_)
        case h1 => first | (intro q hq; simp at hq; rcases hq with rfl | rfl <;> rfl) | exact ⟨rfl, rfl⟩
        case c4 => unfold maxLen; omega
        case c5 => omega
        case c6 => have := IO.out.bel.size; simp; omega
        intro g_wz cap_wz wz ho hg_wz hb hlt_wz
        have bA : Below w2.heap.size w2 (w2.alloc (.cells #[.slice P' N c', .slice Q' N d'] 31)) := (Below.refl _ _).alloc (Nat.le_refl _) _
        have BS' := Lib.hid (BS.out.push (n := Y.length + 1) (cap := cap_wz) bA hg_wz (by simpa using hb))
        have XX' := Lib.hid (XX.out.push (n := Y.length + 1) (cap := cap_wz) bA hg_wz (by simpa using hb))
        have IO' := Lib.hid (IO.out.push (z := x) (k := Y.length) bA (by first | rfl | simp) (by rw [EX.out]; exact ho) hg_wz)
        clear ho hb bA
        go_wp2_with fail
        go_roundw
        case rel => exact ⟨k + 1, by omega, by go_num, by rw [NX.out]; simp [insStep, HE], by rw [NX.out]; simpa [insStep, HE] using IO'.out, BS'.out⟩
        case measure => simp [intOf]; omega
    · obtain rfl : k = n := by omega
      have eT : Z.take k = Z := List.take_of_length_le (by rw [LZ.out]; exact Nat.le_refl _)
      rw [eT] at IO YL
      simp only [eT]
      cases hD : (insTo z Z).2
      · have EZ : Hid (insZ z Z = (insTo z Z).1 ++ [z]) := Lib.hid (by unfold insZ; rw [hD]; rfl)
        generalize (insTo z Z).1 = Y at *
        clear hD
        have yl_wz : Y.length ≤ 1002 := by omega
        have OW : Hid (wr.ownsRow w.heap.size 31 2 _ (Y.length) (hsOf (Y))) := Lib.hid (by have := IO.out.own; simpa using this)
        go_wp2_with (at_builtin; refine wpList_append_lies (wr.alloc (.cells #[.slice P N c, .slice Q N d] 31)) rfl _ _ 27 rfl w.heap.size 31 i0 _ 2 48 Tryz.underlying27 hi0 hz0 hz1 hz2 rfl (by decide) _ (Y.length) (hsOf (Y)) rfl (OW.out.alloc _) ⟨wr.heap.size, 0, none⟩ 1 1 [.slice P N c, .slice Q N d] rfl rfl (World.news_of_block (Arr.new wr _ _ rfl)) ?h1 (by decide) ?c4 ?c5 ?c6 _ rfl ?_)
        case h1 => first | (intro q hq; simp at hq; rcases hq with rfl | rfl <;> rfl) | exact ⟨rfl, rfl⟩
        case c4 => unfold maxLen; omega
        case c5 => omega
        case c6 => have := IO.out.bel.size; simp; omega
        intro g_wz cap_wz wz ho hg_wz hb hlt_wz
        have bA : Below wr.heap.size wr (wr.alloc (.cells #[.slice P N c, .slice Q N d] 31)) := (Below.refl _ _).alloc (Nat.le_refl _) _
        have BS' := Lib.hid (BS.out.push (n := Y.length + 1) (cap := cap_wz) bA hg_wz (by simpa using hb))
        have IO' := Lib.hid (IO.out.push (z := z) (k := Y.length) bA (by first | rfl | simp) (by rw [ZS.out.2.1, ZS.out.2.2]; exact ho) hg_wz)
        clear ho hb bA
        go_wp2_with fail
        go_ret
        exact ⟨_, rfl, by rw [EZ.out]; exact IO'.out⟩
      · have EZ : Hid (insZ z Z = (insTo z Z).1) := Lib.hid (by unfold insZ; rw [hD]; rfl)
        go_wp2_with fail
        go_ret
        exact ⟨_, rfl, by rw [EZ.out]; exact IO.out⟩
end Go.Proofs.YtpmojmhamgcfmaaGreat.lst

/-
  Contract of the program's cycles and CyclesOf.
-/
namespace Go.Proofs.YtpmojmhamgcfmaaGreat.fns
open Go.ChangeShapes Go.WideShapes Go.ChangeAt Go.RowKit
open Go.Proofs.YtpmojmhamgcfmaaGreat.mem Go.Proofs.YtpmojmhamgcfmaaGreat.ints Go.Proofs.YtpmojmhamgcfmaaGreat.arr Go.Proofs.YtpmojmhamgcfmaaGreat.pm Go.Proofs.YtpmojmhamgcfmaaGreat.permOk Go.Proofs.YtpmojmhamgcfmaaGreat.permOf Go.Proofs.YtpmojmhamgcfmaaGreat.inv Go.Proofs.YtpmojmhamgcfmaaGreat.mat
set_option linter.unusedVariables false
set_option maxRecDepth 100000

theorem infoII : (Tryz.prog.info? 29).map (fun i => (i.zero, i.size, i.bytes)) = some (some (.slice none 0 0), 1, 24) := by kernel_rfl
theorem flagsOf_set {l : List Int} {z : Nat} : (flagsOf l).set z true = flagsOf (l ++ [(z : Int)]) := by
  refine tabB_set _ _ fun j hj => ?_
  by_cases hjz : j = z
  · subst hjz; simp
  · have : ¬ ((j : Int) = (z : Int)) := by omega
    simp [hjz, this]
/-- A boxed permutation, the flags of all rows, and the rows that grow. -/
structure Cm (w wr : World) (ps : List Int) (v : Value) (xss : List (List Int)) : Prop where
  p : Arr wr w.heap.size (V ps) 60
  met : Arr wr (w.heap.size + 1) (VB (flagsOf xss.flatten)) 88
  below : Below w.heap.size w wr
  mg : Mg wr (w.heap.size + 2) (w.heap.size + 2) (w.heap.size + 1) v xss
def MGives (xss : List (List Int)) (w : World) (e : Ending) (w' : World) : Prop := ∃ A c, e = .returned (.slice A xss.length c) ∧ Mat w' w.heap.size w'.heap.size A xss.length xss ∧ Below w.heap.size w w'
def Mk (w w1 wr : World) (S : List Int) : Prop := Out (w.heap.size + 1) (w.heap.size + 2) w1 wr ∧ Arr wr (w.heap.size + 1) (VB (flagsOf S)) 88

end Go.Proofs.YtpmojmhamgcfmaaGreat.fns

/-
  l10Perms of the model: the walk.
-/
namespace Go.Proofs.YtpmojmhamgcfmaaGreat.lst
open Go.ChangeShapes Go.WideShapes Go.ChangeAt Go.RowKit
open Go.Proofs.YtpmojmhamgcfmaaGreat.mem Go.Proofs.YtpmojmhamgcfmaaGreat.ints Go.Proofs.YtpmojmhamgcfmaaGreat.arr Go.Proofs.YtpmojmhamgcfmaaGreat.pm Go.Proofs.YtpmojmhamgcfmaaGreat.mat
set_option linter.unusedVariables false
set_option maxRecDepth 100000
theorem own_cap {w : World} {base n c : Nat} {e : TypeId} {A : Option Addr} {xs : List Value} (h : w.ownsRow base e 1 (.slice A n c) n xs) : n ≤ c := by
  rcases h.2 with ⟨e, q⟩ | ⟨g, cap, cur, e, _, _, h3, _⟩
  · injection e; omega
  · injection e with e1 e2 e3; subst e3; exact h3
theorem vone (xs : List Int) : ∀ u ∈ V xs, u.oneCell' = true := by
  intro u hu
  unfold V at hu
  obtain ⟨x, _, rfl⟩ := List.mem_map.1 hu
  rfl
set_option maxHeartbeats 8000000 in
theorem perms_spec (n : Nat) (hn : n ≤ 4) (w : World) :
    Calls Tryz.prog 22 #[.int .i64 (n : Int)] w fun e w' => ∃ A c, e = .returned (.slice A (prmS n n).length c) ∧ Rl w' w'.heap.size A (prmS n n) ∧ Below w.heap.size w w' := by
  obtain ⟨i0, hi0, hz0, hz1, hz2⟩ := info_parts fns.infoII
  obtain ⟨q0, hq0, hq1, hq2, hq3⟩ := info_parts infoI
  have ST0 : Hid (∃ W, W = ((w.alloc (.cells #[] 3)).alloc (.cells #[.slice (some ⟨w.heap.size, 0, none⟩) 0 0] 29)) ∧ Rl W W.heap.size (some ⟨w.heap.size + 1, 0, none⟩) (prmS n 0) ∧ Below w.heap.size w W) := Lib.hid (by
    refine ⟨_, rfl, ⟨Nat.le_refl _, fun a p hp => ?_⟩, ((Below.refl _ _).alloc (Nat.le_refl _) _).alloc (by simp) _⟩
    have ha : a = 0 := by have := (List.getElem?_eq_some_iff.1 hp).1; simp [prmS] at this; exact this
    subst ha
    have hp0 : p = [] := by simpa [prmS] using hp.symm
    subst hp0
    refine ⟨w.heap.size + 1, 0, w.heap.size, 0, 0, rfl, by simp, ?_, Nat.le_refl _, rfl, Nat.le_refl _, fun h => by simp at h⟩
    exact (Arr.new (w.alloc (.cells #[] 3)) [.slice (some ⟨w.heap.size, 0, none⟩) 0 0] 29 (g := w.heap.size + 1) (by simp)).cell (k := 0) rfl)
  go_enter Tryz.func22, Tryz.ntmps22
  go_wp2_with fail
  obtain ⟨w0, eW, rl0, bl0⟩ := ST0.out
  rw [← eW]
  have RL0 := Lib.hid rl0; have BL0 := Lib.hid bl0; clear rl0 bl0 eW ST0
  go_loopw [3, 4] (fun vo i wr => ∃ (k : Nat) (A : Option Addr) (c : Nat), k ≤ n ∧ i = .int .i64 k ∧ vo = .slice A (prmS n k).length c ∧ Rl wr wr.heap.size A (prmS n k) ∧ Below w.heap.size w wr) (fun _ i _ => n - (intOf i).toNat)
  case atStart => exact ⟨0, _, 1, Nat.zero_le _, rfl, rfl, RL0.out, BL0.out⟩
  case round =>
    obtain ⟨k, A, c, hk, rfl, rfl, rl, bl⟩ := hrel
    have RL := Lib.hid rl; have BL := Lib.hid bl; clear rl bl RL0 BL0
    have szw := BL.out.size
    by_cases hlt : k < n
    · obtain ⟨l24, lrow⟩ := prm_ok (n := n) (i := k) hn (by omega)
      have LR := Lib.hid lrow; clear lrow
      have EN : Hid (prmS n (k + 1) = prmNext n (prmS n k)) := Lib.hid rfl
      generalize hL : prmS n k = L at *
      clear hL
      have hNL : (L.length : Nat) ≤ 24 := l24
      have ST1 : Hid (∃ W, W = wr.alloc (.cells #[] 29) ∧ Gq W wr.heap.size (.slice (some ⟨wr.heap.size, 0, none⟩) 0 0) (prmNext n (L.take 0)) ∧ Below wr.heap.size wr W) := Lib.hid (by
        refine ⟨_, rfl, ⟨[], ⟨rfl, .inr ⟨wr.heap.size, 0, #[], rfl, Nat.le_refl _, heap_alloc_last wr _, Nat.le_refl _, by unfold maxLen; omega, rfl, rfl⟩⟩, fun a p hp => by simp [prmNext] at hp⟩, (Below.refl _ _).alloc (Nat.le_refl _) _⟩)
      go_wp2_with fail
      obtain ⟨w1, eW, gq0, b0⟩ := ST1.out
      rw [← eW]
      have GQ0 := Lib.hid gq0; have B0 := Lib.hid b0; clear gq0 b0 eW ST1
      obtain ⟨wo, rfl⟩ : ∃ wo : World, wo = wr := ⟨_, rfl⟩
      go_loopw [5, 19] (fun vo i wx => ∃ a : Nat, a ≤ L.length ∧ i = .int .i64 a ∧ Gq wx wo.heap.size vo (prmNext n (L.take a)) ∧ Below wo.heap.size wo wx) (fun _ i _ => L.length - (intOf i).toNat)
      case atStart => exact ⟨0, Nat.zero_le _, rfl, GQ0.out, B0.out⟩
      case round =>
        obtain ⟨a, ha, rfl, gq, bx⟩ := hrel
        have GQ := Lib.hid gq; have BX := Lib.hid bx; clear gq bx GQ0 B0
        by_cases hal : a < L.length
        · obtain ⟨p, hp⟩ : ∃ p, L[a]? = some p := ⟨_, List.getElem?_eq_getElem hal⟩
          obtain ⟨G, off, g, o, cp, rfl, hG, hco, hpc, rp⟩ := RL.out.2 a p hp
          have RP := Lib.hid rp; clear rp
          have hc : wr.cell? ⟨G, off + a, none⟩ = some (.slice (some ⟨g, o, none⟩) p.length cp) := by rw [BX.out.cell (p := ⟨G, off + a, none⟩) hG]; exact hco
          clear hco
          have plen : p.length ≤ 4 := by have := LR.out p (List.mem_of_getElem? hp); omega
          have PN := Lib.hid (prmNext_take (n := n) hp)
          have ML : (prmNext n (L.take a)).length ≤ 96 := by
            have h1 := prmNext_len n (L.take a)
            have h2 : (L.take a).length ≤ 24 := by rw [List.length_take]; omega
            have h3 : n * (L.take a).length ≤ 4 * 24 := Nat.mul_le_mul hn h2
            omega
          generalize hM : prmNext n (L.take a) = M at *
          clear hM hp
          go_wp2_with fail
          obtain ⟨wq, rfl⟩ : ∃ wq : World, wq = wr := ⟨_, rfl⟩
          have e0 : extP n p 0 = [] := by simp [extP]
          have G1 : Hid (Gq wq wo.heap.size u5 (M ++ extP n p 0)) := Lib.hid (by rw [e0, List.append_nil]; exact GQ.out)
          clear e0 hc
          go_loopw [5, 8] (fun vo i wy => ∃ j : Nat, j ≤ n ∧ i = .int .i64 j ∧ Gq wy wo.heap.size vo (M ++ extP n p j) ∧ Below wo.heap.size wo wy) (fun _ i _ => n - (intOf i).toNat)
          case atStart => exact ⟨0, Nat.zero_le _, rfl, G1.out, BX.out⟩
          case round =>
            obtain ⟨j, hj, rfl, gq, bq⟩ := hrel
            have GJ := Lib.hid gq; have BY := Lib.hid bq; clear gq bq G1 GQ BX
            obtain ⟨wy, rfl⟩ : ∃ wy : World, wy = wr := ⟨_, rfl⟩
            have RY := Lib.hid (RP.out.keep BY.out (Nat.le_refl _))
            by_cases hjl : j < n
            · by_cases hin : (j : Int) ∈ p
              · have hb : permOk.hasB p (j : Int) = true := by unfold permOk.hasB; exact decide_eq_true hin
                have EX : Hid (extP n p (j + 1) = extP n p j) := Lib.hid (by rw [extP_next hjl, if_pos hin])
                go_wp2_with fail
                refine (permOk.has_any _ _ _ p _ (j : Int) _ RY.out (by omega)).mono ?_
                rintro e wz ⟨rfl, ew⟩
                rw [← ew, hb]
                clear ew
                go_wp2_with fail
                go_roundw
                case rel => exact ⟨j + 1, by omega, by go_num, by rw [EX.out]; exact GJ.out, BY.out⟩
                case measure => simp [intOf]; omega
              · have hb : permOk.hasB p (j : Int) = false := by unfold permOk.hasB; exact decide_eq_false hin
                have EX : Hid (extP n p (j + 1) = extP n p j ++ [p ++ [(j : Int)]]) := Lib.hid (by rw [extP_next hjl, if_neg hin])
                have xl := extP_len n p j
                obtain ⟨hs, own0, rows⟩ := GJ.out.ex
                have OW := Lib.hid own0; have RW := Lib.hid rows; clear own0 rows
                have hl1 : (M ++ extP n p j).length ≤ 104 := by rw [List.length_append]; omega
                generalize hX : M ++ extP n p j = X at *
                have HX : Hid (M ++ extP n p (j + 1) = X ++ [p ++ [(j : Int)]]) := Lib.hid (by rw [EX.out, ← List.append_assoc, hX])
                clear hX EX xl
                have hlow : wo.heap.size ≤ wy.heap.size := BY.out.size
                have OW1 : Hid ((wy.alloc (.cells #[] 3)).ownsRow wy.heap.size 3 1 (.slice (some ⟨wy.heap.size, 0, none⟩) 0 0) 0 []) := Lib.hid ⟨rfl, .inr ⟨wy.heap.size, 0, #[], rfl, Nat.le_refl _, heap_alloc_last wy _, Nat.le_refl _, by unfold maxLen; omega, rfl, rfl⟩⟩
                have HN : Hid (∀ (t : Nat) (u : Value), (V p)[t]? = some u → (wy.alloc (.cells #[] 3)).cell? ((⟨g, o, none⟩ : Addr).add t) = some u) := Lib.hid (fun t u hu => by
                  have ht : t < p.length := by have := (List.getElem?_eq_some_iff.1 hu).1; simpa [V] using this
                  obtain ⟨g', off', u', e1, e2, e3, e4⟩ := (RY.out.keep ((Below.refl wy.heap.size wy).alloc (Nat.le_refl _) (.cells #[] 3)) RY.out.2.1).at_ ht
                  injection e1 with e1; injection e1 with e5 e6
                  subst e5; subst e6
                  rw [hu] at e3
                  obtain rfl := Option.some.inj e3
                  rw [Addr.add_lit]; exact e4)
                go_wp2_with fail
                refine (permOk.has_any _ _ _ p _ (j : Int) _ RY.out (by omega)).mono ?_
                rintro e wz ⟨rfl, ew⟩
                rw [← ew, hb]
                clear ew
                go_wp2_with (at_builtin; refine wpList_append_own_wide (wy.alloc (.cells #[] 3)) rfl _ _ 29 rfl wy.heap.size 3 q0 _ 1 8 Tryz.underlying29 hq0 hq1 hq2 hq3 rfl (by decide) _ 0 [] rfl OW1.out ⟨g, o, none⟩ p.length cp (V p) rfl (by simp [V]) HN.out (vone p) ?c1 ?c2 ?c3 ?_)
                case c1 => unfold maxLen; omega
                case c2 => omega
                case c3 => simp
                intro v2 w2 ho2 hg2 _
                have B2 : Hid (Below wy.heap.size wy w2) := Lib.hid (((Below.refl wy.heap.size wy).alloc (Nat.le_refl _) (.cells #[] 3)).trans (own_below OW1.out hg2 (Nat.le_refl _) (by simp)))
                have OW2 := Lib.hid ho2; clear ho2 hg2 OW1 HN
                have s2 := B2.out.size
                go_wp2_with (at_builtin; refine wpList_append_one w2 (.int .i64 (j : Int)) 3 rfl _ _ 29 rfl wy.heap.size 3 q0 _ 8 Tryz.underlying29 hq0 hq1 hq2 hq3 rfl _ p.length (V p) rfl OW2.out rfl rfl ?c4 (by decide) s2 ?_)
                case c4 => omega
                intro v3 w3 ho3 hg3
                have B3 : Hid (Below wy.heap.size wy w3) := Lib.hid (B2.out.trans (own_below OW2.out hg3 (Nat.le_refl _) s2))
                obtain ⟨A3, c3, rfl⟩ := own_form ho3
                have e3 : V p ++ [Value.int .i64 (j : Int)] = V (p ++ [(j : Int)]) := by simp [V]
                have pl1 : (p ++ [(j : Int)]).length = p.length + 1 := by simp
                rw [e3] at ho3
                have hcap := own_cap ho3
                obtain ⟨g3, o3, u3, rfl, hg31, hg32, _, _, _⟩ := (Row.of_own ho3).at_ (show 0 < p.length + 1 by omega)
                have R3 : Hid (Rd w3 w3.heap.size (some ⟨g3, o3, none⟩) (p ++ [(j : Int)]).length (V (p ++ [(j : Int)]))) := Lib.hid (by rw [pl1]; exact (Row.of_own ho3).rd)
                clear ho3 hg3 OW2 B2 e3 s2
                have s3 := B3.out.size
                have OW3 : Hid (w3.ownsRow wo.heap.size 29 1 u5 X.length hs) := Lib.hid (Gq.own_block_keep0 OW.out (fun b e => B3.out.block b (OW.out.lt b e).2))
                go_wp2_with (at_builtin; refine wpList_append_one2 w3 (.slice (some ⟨g3, o3, none⟩) (p.length + 1) c3) _ rfl _ _ 22 rfl wo.heap.size 29 i0 _ 24 1 Tryz.underlying22 hi0 hz0 hz1 rfl hz2 rfl _ X.length hs rfl OW3.out rfl rfl ?c5 (by decide) (by omega) ?_)
                case c5 => omega
                intro v6 w6 ho6 hg6 hb6
                rw [← pl1] at ho6
                have GN := Lib.hid (Gq.push OW.out RW.out B3.out R3.out (by rw [pl1]; exact hcap) hg31 hg32 rfl ho6 hg6 hb6)
                have BN : Hid (Below wo.heap.size wo w6) := Lib.hid (BY.out.trans ((B3.out.mono hlow).trans (own_below OW3.out hg6 (Nat.le_refl _) (by omega))))
                clear ho6 hg6 hb6 OW3 R3 B3 OW RW
                go_wp2_with fail
                go_roundw
                case rel => exact ⟨j + 1, by omega, by go_num, by rw [HX.out]; exact GN.out, BN.out⟩
                case measure => simp [intOf]; omega
            · obtain rfl : j = n := by omega
              go_wp2_with fail
              go_roundw
              case rel => exact ⟨a + 1, by omega, by go_num, by rw [PN.out]; exact GJ.out, BY.out⟩
              case measure => simp [intOf]; omega
        · obtain rfl : a = L.length := by omega
          have GE : Hid (Gq wr wo.heap.size u5 (prmS n (k + 1))) := Lib.hid (by have := GQ.out; rwa [List.take_of_length_le (Nat.le_refl _), ← EN.out] at this)
          clear GQ EN
          obtain ⟨hs, own0, _⟩ := GE.out.ex
          obtain ⟨A', c', rfl⟩ := own_form own0
          have RLn := Lib.hid GE.out.rl
          have BLn := Lib.hid (BL.out.trans (BX.out.mono szw))
          clear own0 GE
          go_wp2_with fail
          go_roundw
          case rel => exact ⟨k + 1, A', c', by omega, by go_num, rfl, RLn.out, BLn.out⟩
          case measure => simp [intOf]; omega
    · obtain rfl : k = n := by omega
      go_wp2_with fail
      go_ret
      exact ⟨_, _, rfl, RL.out, BL.out⟩
end Go.Proofs.YtpmojmhamgcfmaaGreat.lst
