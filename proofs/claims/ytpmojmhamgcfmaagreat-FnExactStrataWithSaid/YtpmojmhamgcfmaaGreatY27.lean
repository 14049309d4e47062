import Derived.Test.YtpmojmhamgcfmaaGreatY26
import Derived.Test.YtpmojmhamgcfmaaGreatY23
import Derived.Test.YtpmojmhamgcfmaaGreatY25
import Derived.Deep.CutRange
import Derived.Deep.CutBlock
/-
  StrataWith of the model.
-/
namespace Go.Proofs.YtpmojmhamgcfmaaGreat.lst
open Go.ChangeShapes Go.WideShapes Go.ChangeAt Go.RowKit
open Go.Proofs.YtpmojmhamgcfmaaGreat.mem Go.Proofs.YtpmojmhamgcfmaaGreat.ints Go.Proofs.YtpmojmhamgcfmaaGreat.arr Go.Proofs.YtpmojmhamgcfmaaGreat.pm Go.Proofs.YtpmojmhamgcfmaaGreat.sf Go.Proofs.YtpmojmhamgcfmaaGreat.gl Go.Proofs.YtpmojmhamgcfmaaGreat.orb
open Go.Proofs.YtpmojmhamgcfmaaGreat.wd
set_option linter.unusedVariables false
set_option maxRecDepth 100000

section
variable {P : Program}
theorem step_append_w {ops : Array Oper} {o : Oper} {a : Act} {w : World} {K : Act → World → Prop} {Q : Exit → Act → World → Prop} {E : Prop} (hgd : o.guard = none) (s x : Operand) (t : TypeId)
    (ho : o.op = .call { callee := .builtin .append, args := #[s, x], argTypes := #[t, t] })
    (base : Nat) (e : TypeId) (i : TypeInfo) (z : Value) (size bytes : Nat) (ht : P.underlying t = some (.slice e)) (hi : P.info? e = some i) (hz : i.zero = some z)
    (hsize : i.size = size) (hby : i.bytes = bytes) (hzs : z.cells.size = size) (hsz : 0 < size)
    (v : Value) (n : Nat) (xs : List Value) (hs : a.eval s = v) (hown : w.ownsRow base e size v n xs)
    (ad : Addr) (m c : Nat) (news : List Value) (hx : a.eval x = .slice (some ad) m c) (hl : news.length = m * size) (hnews : ∀ (j : Nat) u, news[j]? = some u → w.cell? (ad.add j) = some u) (h1 : ∀ u ∈ news, u.oneCell' = true)
    (h63 : n + m ≤ maxLen) (hbytes : ((n + m) + (n + m) / 4 + 192) * bytes ≤ 281474976710656) (hbase : base ≤ w.heap.size)
    (h : ∀ v' w', w'.ownsRow base e size v' (n + m) (xs ++ news) → w.grownBy w' v.ownBlock → K (a.put o.dst v') w') :
    if Region.wanted o (yielded ops a.tmps) = true then Oper.wp P o a w K Q else E := by
  have hw : Region.wanted o (yielded ops a.tmps) = true := by simp [Region.wanted, hgd]
  rw [if_pos hw]
  exact wp_append_own_wide w s x t ho base e i z size bytes ht hi hz hsize hby hzs hsz v n xs hs hown ad m c news hx hl hnews h1 h63 hbytes hbase fun v' w' h2 h3 _ => h v' w' h2 h3
end
theorem insT_first : ∀ {L : List (List Int)} {t : List Int} {p : Nat}, p ≤ L.length → (∀ (k : Nat) x, k < p → L[k]? = some x → lessX x t = true) → (∀ x, L[p]? = some x → lessX x t = false) → insT L t = if L[p]? = some t then L else L.take p ++ t :: L.drop p
  | [], t, p, h, _, _ => by
    obtain rfl : p = 0 := by simpa using h
    simp [insT]
  | x :: l, t, 0, h, _, h2 => by
    have h0 := h2 x rfl
    rw [insT, h0]
    by_cases e : x = t
    · subst e; simp
    · simp [e]
  | x :: l, t, p + 1, h, h1, h2 => by
    have h0 := h1 0 x (by omega) rfl
    have ih := insT_first (L := l) (t := t) (p := p) (by simpa using h) (fun k y hk hy => h1 (k + 1) y (by omega) (by simpa using hy)) (fun y hy => h2 y (by simpa using hy))
    rw [insT, h0, if_pos rfl, ih]
    simp only [List.getElem?_cons_succ, List.take_succ_cons, List.drop_succ_cons, List.cons_append]
    split <;> rfl
theorem ap_n (x : Nat) (h : x ≤ 60) : (x + x / 4 + 192) * 24 ≤ 281474976710656 := by omega
theorem ap_m (x : Nat) (h : x ≤ 60) : x ≤ maxLen := by unfold maxLen; omega
theorem region_share2 {C : Code} {P : Program} {Q : Exit → Act → World → Prop} {a : Act} {w : World} (S : World → Value → Prop) (G : World → Value → Value → Value → Value → Value → Act) (hp : ∀ (c : _) (a : Act) (d : Option Tmp) (v : Value) (w : World), Q (.panic c) (a.put d v) w → Q (.panic c) a w) (h1 : ∀ Q' : Exit → Act → World → Prop, (∀ (c : _) (a : Act) (d : Option Tmp) (v : Value) (w : World), Q' (.panic c) (a.put d v) w → Q' (.panic c) a w) → (∀ W v p q r s, S W v → Q' .normal (G W v p q r s) W) → C.wp P Q' a w) (h2 : ∀ W v p q r s, S W v → Q .normal (G W v p q r s) W) : C.wp P Q a w := h1 Q hp h2
set_option maxHeartbeats 16000000 in
theorem strata_spec (a : Int) (w : World) : Calls Tryz.prog 4 #[.int .i64 a] w (fns.MGives (stF a) w) := by
  obtain ⟨i0, hi0, hz0, hz1, hz2⟩ := info_parts infoH
  have zc : ((Value.slice none 0 0).cells).size = 1 := by kernel_rfl
  have ST : Hid (∃ W, W = w.alloc (.cells #[] 29) ∧ Below w.heap.size w W ∧ W.heap.size = w.heap.size + 1 ∧ W.heap[w.heap.size]? = some (.cells #[] 29 (0, 0))) := Lib.hid ⟨_, rfl, (Below.refl _ _).alloc (Nat.le_refl _) _, by simp, heap_alloc_last w _⟩
  go_enter Tryz.func4, Tryz.ntmps4
  go_wp2_with fail
  obtain ⟨w1, eW, b1, s1, hh⟩ := ST.out
  rw [← eW]
  clear eW ST
  refine (sw_spec a w1).mono ?_
  rintro e w2 ⟨v2, rfl, sx⟩
  obtain ⟨Z, ez, oz, pz⟩ := sx.ex
  obtain ⟨A2, c2, rfl⟩ := mem.own_form oz
  have b2 := sx.bel
  have s2 := b2.size
  have SF : Hid (∀ z ∈ Z, Sf a.toNat (sOf z).1 (sOf z).2) := Lib.hid (fun z hz => sx.sf _ (by rw [← ez]; exact List.mem_map_of_mem hz))
  have EZ : Hid (stL (Z.map sOf) = stF a) := Lib.hid (by rw [ez]; rfl)
  have NL : Z.length ≤ 26 := by
    have e1 : Z.length = (swF a).length := by rw [← ez, List.length_map]
    have := swF_len a
    omega
  have PZ := Lib.hid pz; have OZ := Lib.hid oz; have B2 := Lib.hid (b1.trans (b2.mono (by omega)))
  have S0 : Hid (w2.ownsRow w.heap.size 29 1 (.slice (some ⟨w.heap.size, 0, none⟩) 0 0) 0 (hdOf [])) := Lib.hid ⟨rfl, .inr ⟨w.heap.size, 0, #[], rfl, Nat.le_refl _, (b2.block _ (by omega)).trans hh, Nat.le_refl _, by unfold maxLen; omega, rfl, rfl⟩⟩
  clear ez oz pz b1 b2 hh sx
  go_wp2_with fail
  go_loopw [3, 12] (fun vo i wr => ∃ (k g c hi : Nat) (Y : List RI), k ≤ Z.length ∧ i = .int .i64 k ∧ vo = .slice (some ⟨g, 0, none⟩) Y.length c ∧ wr.ownsRow w.heap.size 29 1 (.slice (some ⟨g, 0, none⟩) Y.length c) Y.length (hdOf Y) ∧ Rk wr w2.heap.size hi (fun _ => False) Y ∧ Y.map lOf = stL ((Z.take k).map sOf) ∧ Y.length ≤ k ∧ Below w2.heap.size w2 wr ∧ w2.heap.size ≤ hi ∧ (0 < Y.length → hi ≤ g)) (fun _ i _ => Z.length - (intOf i).toNat)
  case atStart => exact ⟨0, w.heap.size, 0, w2.heap.size, [], Nat.zero_le _, rfl, rfl, S0.out, Rk.nil _ _ _ _ (Nat.le_refl _), rfl, Nat.le_refl _, Below.refl _ _, Nat.le_refl _, fun h => by simp at h⟩
  case round =>
    obtain ⟨k, g, c, hi, Y, hk, rfl, rfl, oy, rk, ey, yl, bl, hhi, hig⟩ := hrel
    have OY := Lib.hid oy; have RK := Lib.hid rk; have EY := Lib.hid ey; have BL := Lib.hid bl; clear oy rk ey bl S0
    have swr := BL.out.size
    by_cases hlt : k < Z.length
    · obtain ⟨z, hz⟩ : ∃ z, Z[k]? = some z := ⟨_, List.getElem?_eq_getElem hlt⟩
      obtain ⟨g2, off, rfl, hg2, q0, q1⟩ := own_at OZ.out rfl hz
      have PR : Hid (Pk wr w1.heap.size w2.heap.size (fun b => (Value.slice (some ⟨g2, off, none⟩) Z.length c2).ownBlock = some b) Z) := Lib.hid (PZ.out.keep swr (fun b l h _ => BL.out.block b h))
      obtain ⟨P, c', Q, d', ep, srd⟩ := PR.out.srd (List.mem_of_getElem? hz)
      have SS := SF.out z (List.mem_of_getElem? hz)
      have ET : Hid (stL ((Z.take (k + 1)).map sOf) = insT (stL ((Z.take k).map sOf)) (strF (sOf z).1 (sOf z).2)) := Lib.hid (by
        rw [List.take_add_one, hz, List.map_append]
        exact stL_snoc _ _)
      have hc0 : wr.cell? ⟨g2, off + k * 2, none⟩ = some (.slice P (sOf z).1.length c') := by
        rw [World.cell?_of_block (w := w2) (a := ⟨g2, off + k * 2, none⟩) (BL.out.block g2 hg2), q0, ep]
      have hc1 : wr.cell? ⟨g2, off + k * 2 + 1, none⟩ = some (.slice Q (sOf z).2.length d') := by
        rw [World.cell?_of_block (w := w2) (a := ⟨g2, off + k * 2 + 1, none⟩) (BL.out.block g2 hg2), q1, ep]
      have SRD := Lib.hid srd
      have n24 := sf24 SS
      have r24 : (sOf z).1.length ≤ 24 := by rw [SS.lr]; exact n24
      have u24 : (sOf z).2.length ≤ 24 := by rw [SS.lu]; exact n24
      have T24 := strF_small (sOf z).1 (sOf z).2
      generalize stL ((Z.take k).map sOf) = SL at *
      generalize (sOf z).1 = r at *; generalize (sOf z).2 = u at *
      clear ep srd q0 q1 hz PR SS
      have ST1 : Hid (∃ W, W = wr.alloc (.cells #[.slice P r.length c', .slice Q u.length d'] 31) ∧ Below wr.heap.size wr W) := Lib.hid ⟨_, rfl, (Below.refl _ _).alloc (Nat.le_refl _) _⟩
      go_wp2_with fail
      obtain ⟨w3, eW, b3⟩ := ST1.out
      rw [← eW]
      have SR3 := Lib.hid (SRD.out.keep (b3.mono swr) (Nat.le_refl _)); have BR3 : Hid (Below wr.heap.size wr w3) := Lib.hid b3
      have s3 := b3.size
      clear eW b3 ST1 SRD hc0 hc1
      refine (st_spec _ r u _ _ SR3.out (by omega) (by omega)).mono ?_
      rintro e w4 ⟨v4, rfl, o4, b4⟩
      obtain ⟨A4, c4, rfl⟩ := mem.own_form o4
      have R4 := Lib.hid (Row.of_own o4).rd
      have s4 := b4.size
      have BR4 := Lib.hid (BR3.out.trans (b4.mono s3))
      have hyt := RK.out.top
      have rk3 : Rk w4 w2.heap.size w3.heap.size (fun _ => False) Y := (RK.out.keep BR4.out.size (fun b _ q _ => BR4.out.block b (by omega))).to (Nat.le_refl _) (by omega) (by omega) (fun _ _ _ q => q)
      obtain ⟨blk, _, rkc⟩ := rk3.cons (hi' := w4.heap.size) o4 (by omega) s4 rfl (by omega) (fun b q1 q2 e => e)
      have RC := Lib.hid rkc
      have OY4 : Hid (w4.ownsRow w.heap.size 29 1 (.slice (some ⟨g, 0, none⟩) Y.length c) Y.length (hdOf Y)) := Lib.hid (own_block_keep OY.out (fun b e => BR4.out.block b (OY.out.lt b e).2))
      have B24 := Lib.hid (BL.out.trans (BR4.out.mono swr))
      have hgl := (OY4.out.lt g rfl).2
      have RK4 := Lib.hid (RK.out.keep BR4.out.size (fun b _ q _ => BR4.out.block b (by omega)))
      have hgc : Y.length ≤ c := own_cap OY4.out
      clear rkc o4 b4 SR3 BR3 BR4 OY rk3 BL
      generalize strF r u = t at *
      go_upto_block 2 with fail
      have swy : Hid (Z.length ≤ 26) := Lib.hid NL
      have hkp := hk
      go_cut [7] from 18 to 29 (fun kv wx => ∃ p : Nat, p ≤ Y.length ∧ kv = .int .i64 p ∧ wx = w4 ∧ Hid (∀ (j : Nat) x, j < p → (Y.map lOf)[j]? = some x → lessX x t = true) ∧ Hid (∀ x, (Y.map lOf)[p]? = some x → lessX x t = false))
      case first =>
        go_wp2_with fail
        go_loopw [7] (fun kv wr => ∃ p : Nat, p ≤ Y.length ∧ kv = .int .i64 p ∧ wr = w4 ∧ ∀ (j : Nat) x, j < p → (Y.map lOf)[j]? = some x → lessX x t = true) (fun kv _ => Y.length - (intOf kv).toNat)
        case atStart => exact ⟨0, Nat.zero_le _, rfl, by first | rfl | trivial, fun j x h => by omega⟩
        case round =>
          obtain ⟨p, hp, rfl, rfl, hless⟩ := hrel
          have HLS := Lib.hid hless; clear hless
          by_cases hpl : p < Y.length
          · obtain ⟨y, hy⟩ : ∃ y, Y[p]? = some y := ⟨_, List.getElem?_eq_getElem hpl⟩
            obtain ⟨Ax, cx, ex', hx100, rdx⟩ := RC.out.sub.rd (List.mem_of_getElem? hy)
            have HY := Lib.hid (l_at hy)
            have hcy : wr.cell? ⟨g, p, none⟩ = some (.slice Ax (lOf y).length cx) := by
              have := own_cells OY4.out p _ (hd_at hy)
              rw [this, ex']
            have RX := Lib.hid rdx
            clear rdx ex'
            generalize hly : lOf y = yl' at *
            clear hly
            go_wp2_with fail
            refine (lessX_spec Ax yl'.length cx A4 t.length c4 yl' t _ _ _ RX.out R4.out (by omega) (by omega)).mono ?_
            rintro e w5 ⟨rfl, rfl⟩
            cases hb : lessX yl' t
            · go_wp2_with fail
              go_meet
              exact ⟨p, hp, rfl, rfl, HLS, Lib.hid (fun x hx => by rw [HY.out] at hx; cases hx; exact hb)⟩
            · have HL2 : Hid (∀ (j : Nat) x, j < p + 1 → (Y.map lOf)[j]? = some x → lessX x t = true) := Lib.hid (fun j x hj hx => by
                by_cases e : j = p
                · subst e; rw [HY.out] at hx; cases hx; exact hb
                · exact HLS.out j x (by omega) hx)
              clear HLS hcy
              go_wp2_with fail
              go_roundw
              case rel => exact ⟨p + 1, by omega, by go_num, by first | rfl | trivial, HL2.out⟩
              case measure => simp [intOf]; omega
          · obtain rfl : p = Y.length := by omega
            go_wp2_with fail
            go_meet
            exact ⟨_, Nat.le_refl _, rfl, rfl, HLS, Lib.hid (fun x hx => by rw [List.getElem?_eq_none (by rw [List.length_map]; exact Nat.le_refl _)] at hx; cases hx)⟩
      case rest =>
        obtain ⟨p, hpp, rfl, ew, HLS, HST⟩ := hcut
        obtain ⟨w4_, e4⟩ : ∃ W, W = w4 := ⟨_, rfl⟩
        rw [ew, ← e4]
        rw [← e4] at R4 RC OY4 B24 RK4 s4
        clear ew e4
        have ENT : Hid (insT (Y.map lOf) t = if (Y.map lOf)[p]? = some t then Y.map lOf else (Y.map lOf).take p ++ t :: (Y.map lOf).drop p) := Lib.hid (insT_first (by rw [List.length_map]; omega) HLS.out HST.out)
        clear HLS HST
        go_upto_region 9 with fail
        go_cut [7, 43] from 32 to 42 (fun kv bv wx => kv = .int .i64 p ∧ Hid (Below w4_.heap.size w4_ wx) ∧ ((bv = .bool true ∧ Hid (Y.map lOf = stL ((Z.take (k + 1)).map sOf))) ∨ (bv = .bool false ∧ Hid ((Y.map lOf).take p ++ t :: (Y.map lOf).drop p = stL ((Z.take (k + 1)).map sOf)))))
        case first =>
          by_cases hpl : p < Y.length
          · obtain ⟨y, hy⟩ : ∃ y, Y[p]? = some y := ⟨_, List.getElem?_eq_getElem hpl⟩
            obtain ⟨Ax, cx, ex', hx100, rdx⟩ := RC.out.sub.rd (List.mem_of_getElem? hy)
            have HY := Lib.hid (l_at hy)
            have hcy : w4_.cell? ⟨g, p, none⟩ = some (.slice Ax (lOf y).length cx) := by
              have := own_cells OY4.out p _ (hd_at hy)
              rw [this, ex']
            have RX := Lib.hid rdx
            clear rdx ex'
            generalize hly : lOf y = yl' at *
            clear hly
            go_wp2_with fail
            refine (same.spec_b Ax yl'.length cx yl' A4 t.length c4 t _ _ _ RX.out R4.out (by omega) (by omega)).mono ?_
            rintro e w6 ⟨rfl, b6⟩
            by_cases he : yl' = t
            · have E5 : Hid (Y.map lOf = stL ((Z.take (k + 1)).map sOf)) := Lib.hid (by rw [ET.out, ← EY.out, ENT.out, HY.out, if_pos (by rw [he])])
              have hq : eqi yl' t = true := by unfold eqi; exact decide_eq_true he
              rw [hq]
              clear hq
              go_wp2_with fail
              go_meet
              exact ⟨rfl, Lib.hid b6, .inl ⟨rfl, E5⟩⟩
            · have hq : eqi yl' t = false := by unfold eqi; exact decide_eq_false he
              rw [hq]
              clear hq
              have EN : Hid ((Y.map lOf).take p ++ t :: (Y.map lOf).drop p = stL ((Z.take (k + 1)).map sOf)) := Lib.hid (by rw [ET.out, ← EY.out, ENT.out, HY.out, if_neg (fun e => he (Option.some.inj e))])
              go_wp2_with fail
              go_meet
              exact ⟨rfl, Lib.hid b6, .inr ⟨rfl, EN⟩⟩
          · obtain rfl : p = Y.length := by omega
            have EN : Hid ((Y.map lOf).take Y.length ++ t :: (Y.map lOf).drop Y.length = stL ((Z.take (k + 1)).map sOf)) := Lib.hid (by
              rw [ET.out, ← EY.out, ENT.out, List.getElem?_eq_none (by rw [List.length_map]; exact Nat.le_refl _), if_neg (by simp)])
            go_wp2_with fail
            go_meet
            exact ⟨rfl, Lib.hid (Below.refl _ _), .inr ⟨rfl, EN⟩⟩
        case rest =>
          obtain ⟨rfl, b46, hway⟩ := hcut
          obtain ⟨w6, e6⟩ : ∃ W, W = wc := ⟨_, rfl⟩
          rw [← e6] at b46 ⊢
          clear e6
          have b6 := b46.out
          have s6 := b6.size
          have O6 : Hid (w6.ownsRow w.heap.size 29 1 (.slice (some ⟨g, 0, none⟩) Y.length c) Y.length (hdOf Y)) := Lib.hid (own_block_keep OY4.out (fun b e => b6.block b (OY4.out.lt b e).2))
          have B6 := Lib.hid (B24.out.trans (b6.mono (by omega)))
          have hw26 : w2.heap.size ≤ w6.heap.size := B6.out.size
          rcases hway with ⟨rfl, E5⟩ | ⟨rfl, EN⟩
          · have K6 : Hid (Rk w6 w2.heap.size hi (fun _ => False) Y) := Lib.hid (RK4.out.keep b6.size (fun b _ q _ => b6.block b (by omega)))
            clear b6 b46 OY4 RC RK4 B24 R4 ENT
            go_wp2_with fail
            go_roundw
            case rel => exact ⟨k + 1, g, c, hi, Y, by omega, by go_num, rfl, O6.out, K6.out, E5.out, by omega, B6.out, hhi, hig⟩
            case measure => simp [intOf]; omega
          · have RC6 := Lib.hid (RC.out.keep b6.size (fun b _ q _ => b6.block b q))
            have hgl6 := (O6.out.lt g rfl).2
            clear b6 b46 OY4 RC RK4 B24 R4 ENT ET EY swy
            go_wp2_with fail
            have hadd : ∃ ad : Addr, (if c = p then (some ⟨g, 0, none⟩ : Option Addr) else some ⟨g, p, none⟩) = some ad ∧ (p < Y.length → ad = ⟨g, p, none⟩) := by
              by_cases e : c = p
              · exact ⟨_, if_pos e, fun h => by omega⟩
              · exact ⟨_, if_neg e, fun _ => rfl⟩
            obtain ⟨ad, had, had2⟩ := hadd
            have NT : Hid (∀ (W : World), Below w6.heap.size w6 W → ∀ (j : Nat) u, ((hdOf Y).take p)[j]? = some u → W.cell? ((⟨g, 0, none⟩ : Addr).add j) = some u) := Lib.hid (fun W hW j u hu => by
              rw [List.getElem?_take] at hu
              split at hu
              · rw [show ((⟨g, 0, none⟩ : Addr).add j) = ⟨g, j, none⟩ by unfold Addr.add; split <;> simp_all]
                rw [hW.cell (p := ⟨g, j, none⟩) hgl6]
                exact own_cells O6.out j u hu
              · cases hu)
            have ND : Hid (∀ (W : World), Below w6.heap.size w6 W → ∀ (j : Nat) u, ((hdOf Y).drop p)[j]? = some u → W.cell? (ad.add j) = some u) := Lib.hid (fun W hW j u hu => by
              rw [List.getElem?_drop] at hu
              have hl := (List.getElem?_eq_some_iff.1 hu).1
              rw [hd_len] at hl
              rw [had2 (by omega), show ((⟨g, p, none⟩ : Addr).add j) = ⟨g, p + j, none⟩ by unfold Addr.add; split <;> simp_all]
              rw [hW.cell (p := ⟨g, p + j, none⟩) hgl6]
              exact own_cells O6.out _ u hu)
            have V1 : Hid (∀ u ∈ hdOf Y, u.oneCell' = true) := Lib.hid (hd_one RC6.out.sub)
            have LT : ((hdOf Y).take p).length = p * 1 := by rw [List.length_take, hd_len]; omega
            have LD : ((hdOf Y).drop p).length = (Y.length - p) * 1 := by rw [List.length_drop, hd_len]; omega
            have j1 : 0 + p ≤ 60 := by omega
            have j2 : p + 1 ≤ 60 := by omega
            have j3 : p + 1 + (Y.length - p) ≤ 60 := by omega
            have m1 := ap_m _ j1
            have m2 := ap_m _ j2
            have m3 := ap_m _ j3
            have n1 := ap_n _ j1
            have n2 := ap_n _ j2
            have n3 := ap_n _ j3
            have hpl2 : (p : Int) ≤ (Y.length : Int) := by omega
            have hpc2 : (p : Int) ≤ (c : Int) := by omega
            have EO : Hid (∀ W : World, w6.heap.size ≤ W.heap.size → (W.alloc (.cells #[] 29)).ownsRow w6.heap.size 29 1 (.slice (some ⟨W.heap.size, 0, none⟩) 0 0) 0 []) := Lib.hid (fun W h => ⟨rfl, .inr ⟨W.heap.size, 0, #[], rfl, h, heap_alloc_last W _, Nat.le_refl _, by unfold maxLen; omega, rfl, rfl⟩⟩)
            have AL : Hid (∀ (W : World) (o : Obj), Below w6.heap.size w6 W → Below w6.heap.size w6 (W.alloc o)) := Lib.hid (fun W o h => h.alloc h.size _)
            apply region_share2 (S := fun W v => Below w6.heap.size w6 W ∧ W.ownsRow w6.heap.size 29 1 v (p + 1 + (Y.length - p)) ((hdOf Y).take p ++ [Value.slice A4 t.length c4] ++ (hdOf Y).drop p))
            · intro c a d v w' h; cases d <;> exact h
            · intro Q0 HP HQ0
              have HQ := Lib.hid HQ0; clear HQ0
              refine wp_region_held_drew (S := fun W => Below w6.heap.size w6 W) (by kernel_rfl) ⟨rfl, rfl, rfl, Nat.le_refl _, fun _ _ => rfl⟩ (fun hHeld => ?_)
              generalize w6.drew = x0 at *
              refine wpAnyH_take (i := 1) (v := .slice (some ⟨g, 0, none⟩) Y.length c) rfl (by kernel_rfl) (by kernel_rfl) (by kernel_rfl) (fun _ _ _ h => HP _ _ _ _ _ h) (Or.inl ⟨by kernel_rfl, fun w hSw => by go_simp⟩) hHeld ?_
              refine wpAnyH_take (i := 2) (v := .int .i64 p) rfl (by kernel_rfl) (by kernel_rfl) (by kernel_rfl) (fun _ _ _ h => HP _ _ _ _ _ h) (Or.inl ⟨by kernel_rfl, fun w hSw => by go_simp⟩) hHeld ?_
              refine wpAnyH_take (i := 3) (v := .slice (some ⟨g, 0, none⟩) p c) rfl (by kernel_rfl) (by kernel_rfl) (by kernel_rfl) (fun _ _ _ h => HP _ _ _ _ _ h) (Or.inl ⟨by kernel_rfl, fun w hSw => by go_simp⟩) hHeld ?_
              refine wpAnyH_take (i := 5) (v := .slice A4 t.length c4) rfl (by kernel_rfl) (by kernel_rfl) (by kernel_rfl) (fun _ _ _ h => HP _ _ _ _ _ h) (Or.inl ⟨by kernel_rfl, fun w hSw => by go_simp⟩) hHeld ?_
              refine wpAnyH_take (i := 8) (v := .slice (some ⟨g, 0, none⟩) Y.length c) rfl (by kernel_rfl) (by kernel_rfl) (by kernel_rfl) (fun _ _ _ h => HP _ _ _ _ _ h) (Or.inl ⟨by kernel_rfl, fun w hSw => by go_simp⟩) hHeld ?_
              refine wpAnyH_take (i := 9) (v := .int .i64 p) rfl (by kernel_rfl) (by kernel_rfl) (by kernel_rfl) (fun _ _ _ h => HP _ _ _ _ _ h) (Or.inl ⟨by kernel_rfl, fun w hSw => by go_simp⟩) hHeld ?_
              refine wpAnyH_take (i := 10) (v := .slice (if c = p then some ⟨g, 0, none⟩ else some ⟨g, p, none⟩) (Y.length - p) (c - p)) rfl (by kernel_rfl) (by kernel_rfl) (by kernel_rfl) (fun _ _ _ h => HP _ _ _ _ _ h) (Or.inl ⟨by kernel_rfl, fun w hSw => by go_simp⟩) hHeld ?_
              rw [had]
              have hx0 := hHeld; clear hHeld
              refine wpAnyH_ready (rs := [0, 6]) (by kernel_rfl) (by simp) (AllReadyH.cons rfl (fun K hK => ?_) (AllReadyH.cons rfl (fun K hK => ?_) AllReadyH.nil))
              go_simp
              have hx1 := AL.out x0 (.cells #[] 29) hx0
              have EEx1 := Lib.hid (EO.out x0 hx0.size)
              have BBx1 : Hid (Below x0.heap.size x0 (x0.alloc (.cells #[] 29))) := Lib.hid ((Below.refl _ _).alloc (Nat.le_refl _) _)
              have hq : x0.heap.size < (x0.alloc (.cells #[] 29)).heap.size := by simp
              refine hK.out _ _ hx1 (fun hHeld2 => ?_)
              clear hK K hHeld2
              generalize x0.alloc (.cells #[] 29) = x1 at *
              refine wpAnyH_ready (rs := [4, 6]) (by kernel_rfl) (by simp) (AllReadyH.cons rfl (fun K hK => ?_) (AllReadyH.cons rfl (fun K hK => ?_) AllReadyH.nil))
              refine step_append_w rfl _ _ 22 rfl w6.heap.size 29 i0 _ 1 24 Tryz.underlying22 hi0 hz0 hz1 hz2 zc (by decide) (.slice (some ⟨x0.heap.size, 0, none⟩) 0 0) 0 [] (by kernel_rfl) EEx1.out ⟨g, 0, none⟩ p c ((hdOf Y).take p) (by kernel_rfl) LT (NT.out x1 hx1) (fun u hu => V1.out u (List.mem_of_mem_take hu)) m1 n1 hx1.size ?_
              intro v1 x2 o1 g1
              rw [Nat.zero_add, List.nil_append] at o1
              have hx2 : Below w6.heap.size w6 x2 := hx1.trans (own_below EEx1.out g1 (Nat.le_refl _) hx1.size)
              refine hK.out _ _ hx2 (fun hHeld2 => ?_)
              clear hK K hHeld2
              refine wpAnyH_ready (rs := [6]) (by kernel_rfl) (by simp) (AllReadyH.cons rfl (fun K hK => ?_) AllReadyH.nil)
              go_simp
              have hx3 := AL.out x2 (.cells #[.slice A4 t.length c4] 29) hx2
              have XXx3 := Lib.hid (Arr.new x2 [.slice A4 t.length c4] 29 rfl)
              have BBx3 : Hid (Below x2.heap.size x2 (x2.alloc (.cells #[.slice A4 t.length c4] 29))) := Lib.hid ((Below.refl _ _).alloc (Nat.le_refl _) _)
              refine hK.out _ _ hx3 (fun hHeld2 => ?_)
              clear hK K hHeld2
              generalize x2.alloc (.cells #[.slice A4 t.length c4] 29) = x3 at *
              have o3 := own_block_keep o1 (fun b e => BBx3.out.block b (o1.lt b e).2)
              have xx3 := XXx3.out
              generalize x2.heap.size = q6 at xx3 o3 hq ⊢
              generalize x0.heap.size = q0 at xx3 o3 hq ⊢
              have O3 := Lib.hid o3
              have XX := Lib.hid xx3
              clear o3 xx3
              clear o1 g1 EEx1 BBx1 XXx3 BBx3 hq
              rotate_left
              go_simp
              have hx2 := AL.out x1 (.cells #[.slice A4 t.length c4] 29) hx1
              have XXx2 := Lib.hid (Arr.new x1 [.slice A4 t.length c4] 29 rfl)
              have BBx2 : Hid (Below x1.heap.size x1 (x1.alloc (.cells #[.slice A4 t.length c4] 29))) := Lib.hid ((Below.refl _ _).alloc (Nat.le_refl _) _)
              refine hK.out _ _ hx2 (fun hHeld2 => ?_)
              clear hK K hHeld2
              generalize x1.alloc (.cells #[.slice A4 t.length c4] 29) = x2 at *
              have e2 := own_block_keep EEx1.out (fun b e => BBx2.out.block b (EEx1.out.lt b e).2)
              refine wpAnyH_ready (rs := [4]) (by kernel_rfl) (by simp) (AllReadyH.cons rfl (fun K hK => ?_) AllReadyH.nil)
              refine step_append_w rfl _ _ 22 rfl w6.heap.size 29 i0 _ 1 24 Tryz.underlying22 hi0 hz0 hz1 hz2 zc (by decide) (.slice (some ⟨x0.heap.size, 0, none⟩) 0 0) 0 [] (by kernel_rfl) e2 ⟨g, 0, none⟩ p c ((hdOf Y).take p) (by kernel_rfl) LT (NT.out x2 hx2) (fun u hu => V1.out u (List.mem_of_mem_take hu)) m1 n1 hx2.size ?_
              intro v1 x3 o1 g1
              rw [Nat.zero_add, List.nil_append] at o1
              have hx3 : Below w6.heap.size w6 x3 := hx2.trans (own_below e2 g1 (Nat.le_refl _) hx2.size)
              refine hK.out _ _ hx3 (fun hHeld2 => ?_)
              clear hK K hHeld2
              have xl := XXx2.out.lt
              have xx3 : Arr x3 x1.heap.size [.slice A4 t.length c4] 29 := (g1.block _ xl (fun e => by have e2 : x1.heap.size = x0.heap.size := (by simpa [Value.ownBlock] using e); omega)).trans XXx2.out
              have o3 := o1
              generalize x1.heap.size = q6 at xx3 o3 hq ⊢
              generalize x0.heap.size = q0 at xx3 o3 hq ⊢
              have O3 := Lib.hid o3
              have XX := Lib.hid xx3
              clear o3 xx3
              clear o1 g1 e2 xl EEx1 BBx1 XXx2 BBx2 hq
              rotate_left
              go_simp
              have hx1 := AL.out x0 (.cells #[.slice A4 t.length c4] 29) hx0
              have XXx1 := Lib.hid (Arr.new x0 [.slice A4 t.length c4] 29 rfl)
              have BBx1 : Hid (Below x0.heap.size x0 (x0.alloc (.cells #[.slice A4 t.length c4] 29))) := Lib.hid ((Below.refl _ _).alloc (Nat.le_refl _) _)
              refine hK.out _ _ hx1 (fun hHeld2 => ?_)
              clear hK K hHeld2
              generalize x0.alloc (.cells #[.slice A4 t.length c4] 29) = x1 at *
              refine wpAnyH_ready (rs := [0]) (by kernel_rfl) (by simp) (AllReadyH.cons rfl (fun K hK => ?_) AllReadyH.nil)
              go_simp
              have hx2 := AL.out x1 (.cells #[] 29) hx1
              have EEx2 := Lib.hid (EO.out x1 hx1.size)
              have BBx2 : Hid (Below x1.heap.size x1 (x1.alloc (.cells #[] 29))) := Lib.hid ((Below.refl _ _).alloc (Nat.le_refl _) _)
              have hq : x1.heap.size < (x1.alloc (.cells #[] 29)).heap.size := by simp
              refine hK.out _ _ hx2 (fun hHeld2 => ?_)
              clear hK K hHeld2
              generalize x1.alloc (.cells #[] 29) = x2 at *
              have xl0 := XXx1.out.lt
              have xk := XXx1.out.keep BBx2.out xl0
              refine wpAnyH_ready (rs := [4]) (by kernel_rfl) (by simp) (AllReadyH.cons rfl (fun K hK => ?_) AllReadyH.nil)
              refine step_append_w rfl _ _ 22 rfl w6.heap.size 29 i0 _ 1 24 Tryz.underlying22 hi0 hz0 hz1 hz2 zc (by decide) (.slice (some ⟨x1.heap.size, 0, none⟩) 0 0) 0 [] (by kernel_rfl) EEx2.out ⟨g, 0, none⟩ p c ((hdOf Y).take p) (by kernel_rfl) LT (NT.out x2 hx2) (fun u hu => V1.out u (List.mem_of_mem_take hu)) m1 n1 hx2.size ?_
              intro v1 x3 o1 g1
              rw [Nat.zero_add, List.nil_append] at o1
              have hx3 : Below w6.heap.size w6 x3 := hx2.trans (own_below EEx2.out g1 (Nat.le_refl _) hx2.size)
              refine hK.out _ _ hx3 (fun hHeld2 => ?_)
              clear hK K hHeld2
              have xx3 : Arr x3 x0.heap.size [.slice A4 t.length c4] 29 := (g1.block _ (by omega) (fun e => by have e2 : x0.heap.size = x1.heap.size := (by simpa [Value.ownBlock] using e); omega)).trans xk
              have o3 := o1
              generalize x0.heap.size = q6 at xx3 o3 hq ⊢
              generalize x1.heap.size = q0 at xx3 o3 hq ⊢
              have O3 := Lib.hid o3
              have XX := Lib.hid xx3
              clear o3 xx3
              clear o1 g1 xl0 xk EEx2 BBx2 XXx1 BBx1 hq
              rotate_left
              all_goals
                have NX : ∀ (j : Nat) u, [Value.slice A4 t.length c4][j]? = some u → x3.cell? ((⟨q6, 0, none⟩ : Addr).add j) = some u := fun j u hu => by
                  rw [show ((⟨q6, 0, none⟩ : Addr).add j) = ⟨q6, j, none⟩ by unfold Addr.add; split <;> simp_all]
                  exact XX.out.cell hu
                refine wpAnyH_ready (rs := [7]) (by kernel_rfl) (by simp) (AllReadyH.cons rfl (fun K hK => ?_) AllReadyH.nil)
                refine step_append_w rfl _ _ 22 rfl w6.heap.size 29 i0 _ 1 24 Tryz.underlying22 hi0 hz0 hz1 hz2 zc (by decide) v1 p ((hdOf Y).take p) (by kernel_rfl) O3.out ⟨q6, 0, none⟩ 1 1 [.slice A4 t.length c4] (by kernel_rfl) rfl NX (by intro u hu; simp at hu; subst hu; rfl) m2 n2 hx3.size ?_
                intro v2 x4 o4 g4
                have hx4 : Below w6.heap.size w6 x4 := hx3.trans (own_below O3.out g4 (Nat.le_refl _) hx3.size)
                refine hK.out _ _ hx4 (fun hHeld2 => ?_)
                clear hK K hHeld2
                refine wpAnyH_ready (rs := [11]) (by kernel_rfl) (by simp) (AllReadyH.cons rfl (fun K hK => ?_) AllReadyH.nil)
                refine step_append_w rfl _ _ 22 rfl w6.heap.size 29 i0 _ 1 24 Tryz.underlying22 hi0 hz0 hz1 hz2 zc (by decide) v2 (p + 1) ((hdOf Y).take p ++ [.slice A4 t.length c4]) (by kernel_rfl) o4 ad (Y.length - p) (c - p) ((hdOf Y).drop p) (by kernel_rfl) LD (ND.out x4 hx4) (fun u hu => V1.out u (List.mem_of_mem_drop hu)) m3 n3 hx4.size ?_
                intro v3 x5 o5 g5
                have hx5 : Below w6.heap.size w6 x5 := hx4.trans (own_below o4 g5 (Nat.le_refl _) hx4.size)
                refine hK.out _ _ hx5 (fun hHeld2 => ?_)
                clear hK K hHeld2
                have hHeld := hx5
                refine wpAnyH_take (i := 12) (v := v3) rfl (by kernel_rfl) (by kernel_rfl) (by kernel_rfl) (fun _ _ _ h => HP _ _ _ _ _ h) (Or.inl ⟨by kernel_rfl, fun w hSw => by go_simp⟩) hHeld ?_
                refine wpAnyH_done (by kernel_rfl) ?_ _
                generalize (Value.slice (some ⟨q0, 0, none⟩) 0 0) = p0
                generalize (Value.slice (some ⟨q6, 0, none⟩) 1 1) = p6
                exact HQ.out _ v3 p0 p6 v1 v2 ⟨hx5, o5⟩
            · intro x5 v3 p0 p6 v1 v2 hh
              obtain ⟨hx5, o5⟩ := hh
              obtain ⟨A5, c5, rfl⟩ := mem.own_form o5
              have el : p + 1 + (Y.length - p) = (Y.take p ++ (blk, .slice A4 t.length c4, t) :: Y.drop p).length := by simp; omega
              have p1 : ((blk, Value.slice A4 t.length c4, t) :: Y).Perm (Y.take p ++ (blk, .slice A4 t.length c4, t) :: Y.drop p) := by
                have := (List.perm_middle (a := ((blk, Value.slice A4 t.length c4, t) : RI)) (l₁ := Y.take p) (l₂ := Y.drop p)).symm
                rwa [List.take_append_drop] at this
              have RN : Hid (Rk x5 w2.heap.size w6.heap.size (fun _ => False) (Y.take p ++ (blk, .slice A4 t.length c4, t) :: Y.drop p)) := Lib.hid (((RC6.out.to (Nat.le_refl _) s6 (Nat.le_refl _) (fun _ _ _ q => q)).keep hx5.size (fun b _ q _ => hx5.block b q)).perm p1)
              have EY2 : Hid ((Y.take p ++ (blk, Value.slice A4 t.length c4, t) :: Y.drop p).map lOf = stL ((Z.take (k + 1)).map sOf)) := Lib.hid (by rw [← EN.out, List.map_append, List.map_cons, List.map_take, List.map_drop]; rfl)
              rw [el] at o5
              have hhd : (hdOf Y).take p ++ [Value.slice A4 t.length c4] ++ (hdOf Y).drop p = hdOf (Y.take p ++ (blk, .slice A4 t.length c4, t) :: Y.drop p) := hd_put Y (blk, .slice A4 t.length c4, t) p
              rw [hhd] at o5
              have hA5 : ∃ g5, A5 = some ⟨g5, 0, none⟩ ∧ w6.heap.size ≤ g5 := by
                rcases o5.2 with ⟨q, q2⟩ | ⟨g', cap, cur, q, b1, _⟩
                · rw [← el] at q2
                  omega
                · injection q with q1 q2 q3
                  exact ⟨g', q1, b1⟩
              obtain ⟨g5', rfl, hg5⟩ := hA5
              have ON : Hid (x5.ownsRow w.heap.size 29 1 (.slice (some ⟨g5', 0, none⟩) (Y.take p ++ (blk, Value.slice A4 t.length c4, t) :: Y.drop p).length c5) (Y.take p ++ (blk, Value.slice A4 t.length c4, t) :: Y.drop p).length (hdOf (Y.take p ++ (blk, .slice A4 t.length c4, t) :: Y.drop p))) := Lib.hid ⟨o5.1, o5.2.imp id (fun ⟨g', cap, cur, q1, q2, q3⟩ => ⟨g', cap, cur, q1, by omega, q3⟩)⟩
              have BN : Hid (Below w2.heap.size w2 x5) := Lib.hid (B6.out.trans (hx5.mono hw26))
              have yn : (Y.take p ++ (blk, Value.slice A4 t.length c4, t) :: Y.drop p).length ≤ k + 1 := by rw [← el]; omega
              rw [el]
              clear o5 el p1 hhd hx5 LT LD j1 j2 j3 m1 m2 m3 n1 n2 n3 NT ND V1 EO AL RC6 EN O6 B6
              generalize Y.take p ++ (blk, Value.slice A4 t.length c4, t) :: Y.drop p = YN at *
              go_simp
              go_wp2_with fail
              go_roundw
              case rel => exact ⟨k + 1, g5', c5, w6.heap.size, YN, by omega, by go_num, rfl, ON.out, RN.out, EY2.out, yn, BN.out, hw26, fun _ => hg5⟩
              case measure => simp [intOf]; omega
    · obtain rfl : k = Z.length := by omega
      have EE : Hid (Y.map lOf = stF a) := Lib.hid (by rw [EY.out, List.take_of_length_le (Nat.le_refl _), EZ.out])
      have FIN : Hid (fns.MGives (stF a) w (.returned (.slice (some ⟨g, 0, none⟩) Y.length c)) wr) := Lib.hid (by
        have el : Y.length = (stF a).length := by rw [← EE.out, List.length_map]
        have m6 : mat.Mat wr w.heap.size wr.heap.size (some ⟨g, 0, none⟩) Y.length (Y.map lOf) := by
          by_cases hy : 0 < Y.length
          · have ho : wr.ownsRow hi 29 1 (.slice (some ⟨g, 0, none⟩) Y.length c) Y.length (hdOf Y) := ⟨OY.out.1, by
              rcases OY.out.2 with q | ⟨g', cap, cur, q1, q2, q3⟩
              · exact .inl q
              · have e : g = g' := by injection q1 with q1; injection q1 with q1; injection q1
                subst e
                exact .inr ⟨g, cap, cur, q1, hig hy, q3⟩⟩
            exact rk_mat RK.out ho (by omega) (by omega)
          · have hy0 : Y = [] := List.length_eq_zero_iff.1 (by omega)
            subst hy0
            exact mat.Mat.nil _ _ _ _ (Nat.le_refl _)
        rw [EE.out] at m6
        rw [el] at m6 ⊢
        exact ⟨_, c, rfl, m6, B2.out.trans (BL.out.mono B2.out.size)⟩)
      clear EE EY EZ OY RK
      go_wp2_with fail
      go_ret
      exact FIN.out
end Go.Proofs.YtpmojmhamgcfmaaGreat.lst

/-
  StrataWith of both, as the laws ask.
-/
namespace Go.Proofs.YtpmojmhamgcfmaaGreat.lst
open Go.Proofs.YtpmojmhamgcfmaaGreat.mem Go.Proofs.YtpmojmhamgcfmaaGreat.ints Go.Proofs.YtpmojmhamgcfmaaGreat.arr Go.Proofs.YtpmojmhamgcfmaaGreat.pm Go.Proofs.YtpmojmhamgcfmaaGreat.sf Go.Proofs.YtpmojmhamgcfmaaGreat.gl Go.Proofs.YtpmojmhamgcfmaaGreat.orb Go.Proofs.YtpmojmhamgcfmaaGreat.mat
set_option linter.unusedVariables false
set_option maxRecDepth 100000

theorem strata_spec' (a : Int) (w : World) (lo : -9223372036854775808 ≤ a) (hi : a ≤ 9223372036854775807) : Calls Tryz.prog 4 #[.int .i64 a] w (fns.MGives (stF a) w) := strata_spec a w
theorem strata_impl' (a : Int) (w : World) (lo : -9223372036854775808 ≤ a) (hi : a ≤ 9223372036854775807) : Calls Tryz.prog 5 #[.int .i64 a] w (fns.MGives (stF a) w) := strata_impl a w
end Go.Proofs.YtpmojmhamgcfmaaGreat.lst

/-
  How long the list of strata is. Plain mathematics.
-/
namespace Go.Proofs.YtpmojmhamgcfmaaGreat.lst
open Go.Proofs.YtpmojmhamgcfmaaGreat.mem Go.Proofs.YtpmojmhamgcfmaaGreat.ints Go.Proofs.YtpmojmhamgcfmaaGreat.pm Go.Proofs.YtpmojmhamgcfmaaGreat.orb Go.Proofs.YtpmojmhamgcfmaaGreat.gl Go.Proofs.YtpmojmhamgcfmaaGreat.mat
set_option linter.unusedVariables false
set_option maxRecDepth 100000

theorem insT_most (t : List Int) : ∀ L : List (List Int), (insT L t).length ≤ L.length + 1
  | [] => by simp [insT]
  | x :: l => by
    have h := insT_most t l
    unfold insT
    split
    · simp only [List.length_cons]; omega
    · split
      · simp
      · simp
theorem foldT_most : ∀ (L : List Sur) (A : List (List Int)), (L.foldl (fun a x => insT a (strF x.1 x.2)) A).length ≤ A.length + L.length
  | [], A => by simp
  | s :: L, A => by
    have h := foldT_most L (insT A (strF s.1 s.2))
    have h2 := insT_most (strF s.1 s.2) A
    simp only [List.foldl_cons, List.length_cons]
    omega
theorem tot_most {b : Nat} : ∀ L : List (List Int), (∀ t ∈ L, t.length ≤ b) → tot L ≤ b * L.length
  | [], _ => by simp [tot]
  | t :: L, h => by
    have h1 := tot_most L (fun x hx => h x (List.mem_cons_of_mem _ hx))
    have h2 := h t (List.mem_cons_self ..)
    have e : tot (t :: L) = t.length + tot L := by simp [tot]
    rw [e, List.length_cons, Nat.mul_succ]
    omega
theorem insT_each {L : List (List Int)} {t : List Int} (hl : ∀ y ∈ L, y.length ≤ 24) (ht : t.length ≤ 24) : ∀ y ∈ insT L t, y.length ≤ 24 := fun y hy => by
  rcases insT_mem hy with q | rfl
  · exact hl y q
  · exact ht
theorem foldT_each : ∀ (L : List Sur) (A : List (List Int)), (∀ y ∈ A, y.length ≤ 24) → ∀ y ∈ L.foldl (fun a x => insT a (strF x.1 x.2)) A, y.length ≤ 24
  | [], A, h => h
  | s :: L, A, h => foldT_each L _ (insT_each h (strF_small s.1 s.2))
theorem stF_bnd (a : Int) : (stF a).length ≤ 1048576 ∧ tot (stF a) ≤ 1048576 := by
  have h1 := foldT_most (swF a) []
  have h2 := swF_len a
  have h3 : (stF a).length ≤ 26 := by unfold stF stL; simp only [List.length_nil] at h1; omega
  have h4 := tot_most (b := 24) (stF a) (foldT_each (swF a) [] (fun y hy => by simp at hy))
  exact ⟨by omega, by omega⟩
end Go.Proofs.YtpmojmhamgcfmaaGreat.lst
