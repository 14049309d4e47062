import Derived.Test.YtddppmbllcnkoaaZ04
import Derived.Test.YtddppmbllcnkoaaZ20
/-
  orbitOf: the receive loop.
-/
namespace Go.Proofs.Ytddppmbllcnkoaa.orb
open Go.ChangeShapes Go.WideShapes Go.ChangeAt Go.RowKit Go.Maps
open Go.Proofs.Ytddppmbllcnkoaa.mem Go.Proofs.Ytddppmbllcnkoaa.ints Go.Proofs.Ytddppmbllcnkoaa.arr Go.Proofs.Ytddppmbllcnkoaa.pm Go.Proofs.Ytddppmbllcnkoaa.sf Go.Proofs.Ytddppmbllcnkoaa.gl
open Go.Proofs.Ytddppmbllcnkoaa.ch (Chn)
set_option linter.unusedVariables false
set_option maxRecDepth 100000

theorem wpList_bs_od {ops : Array Oper} {rest : List Oper} {o : Oper} {a : Act} {w : World} {Q : Exit → Act → World → Prop} (hgd : o.guard = none) (x : Operand) (ho : o.op = .buildSlice 59 1 #[(0, x)])
    (L : List Int) (hL : L.length = 51) (hx : a.eval x = .agg (V L).toArray)
    (h : wpList sqp.prog ops Q rest (a.put o.dst (.slice (some ⟨w.heap.size, 0, none⟩) 1 1)) (w.alloc (.cells (V L).toArray 68))) : wpList sqp.prog ops Q (o :: rest) a w := by
  obtain ⟨i, hi, hz, hs, hb⟩ := info_parts infoFd
  refine wpList_buildSlice hgd 59 68 1 _ ho (V L).toArray i _ sqp.underlying59 hi hz (by rw [hs]; decide) (by rw [hs]; decide) ?_ h
  rw [hs]
  have := Great.fill_whole (s := 51) (by decide) [.agg (V L).toArray] ((Array.range (1 * 51)).map ((Value.agg (V zero51).toArray).cells[· % (Value.agg (V zero51).toArray).cells.size]!)) (by simp [Value.cells, V_len, hL]) (by simp)
  simpa [hx, Value.cells] using this
/-- The cells of a slice of finds. -/
def fdsV (n : Nat) (xs : List Fd) : List Value := xs.flatMap fun x => V (fdL x.1 n x.2.1 x.2.2)
theorem fdsV_put (n : Nat) (xs : List Fd) (x : Fd) : fdsV n (xs ++ [x]) = fdsV n xs ++ V (fdL x.1 n x.2.1 x.2.2) := by simp [fdsV]
/-- What orbitOf answers. -/
def OfPost (r u : List Int) (w : World) (e : Ending) (w' : World) : Prop :=
  Below w.heap.size w w' ∧
  ((transB r u = true ∧ (finds (r, u)).length ≤ 120 ∧ ∃ A cp, e = .returned (.tuple #[.slice A (finds (r, u)).length cp, .bool true]) ∧ w'.ownsRow w.heap.size 68 51 (.slice A (finds (r, u)).length cp) (finds (r, u)).length (fdsV r.length (finds (r, u)))) ∨
   ((transB r u = false ∨ 120 < (finds (r, u)).length) ∧ e = .returned (.tuple #[.slice none 0 0, .bool false])))
set_option maxHeartbeats 2000000 in
theorem orbitOf_any (v : Value) (r u : List Int) (hi : Nat) (w : World) (hx : Srd w hi v r u) (hn : r.length ≤ 1048576) (hm : u.length ≤ 1048576) :
    Calls sqp.prog 47 #[v] w fun e w' => OfPost r u w e w' := by
  have HX := Lib.hid hx
  obtain ⟨P, n, c, Q, m, d, rfl, q1, q2, e1, e2, ht, HR⟩ := hx.open
  have L1 := Lib.hid q1
  clear hx
  have hmc := fun w => ch.mk (P := sqp.prog) sqp.underlying105 (B := 408) (by kernel_rfl) 1000 (by omega) (by omega) 1000 rfl w
  go_enter sqp.func47, sqp.ntmps47
  simp only [sq.mapC, sq.seqO, List.map_toArray, List.map_cons, List.map_nil]
  generalize hR : Code.region 8 #[{ dst := some 20, op := Op.recv 105 (Operand.tmp 19) true, type := 0, pos := "l06_orbit.go:55", after := #[], guard := none }, { dst := some 21, op := Op.extract (Operand.tmp 20) 1, type := 4, pos := "l06_orbit.go:55", after := #[{ on := 0, ground := Ground.data }], guard := none }] false = C8
  go_wp2_with fail
  refine (gluingOf_any _ r u hi _ (HX.out.keep ((Below.refl hi w).alloc ht _) (Nat.le_refl _)) hn hm).mono ?_
  rintro e w1 ⟨rfl, b1⟩
  have B1 := Lib.hid (below1 _ _ b1); clear b1
  cases hq : transB r u
  · have HQ := Lib.hid hq
    clear hq
    go_wp2_with (first | (refine wpList_store_row rfl 65 _ _ rfl w1.heap.size (V (glv r u)).toArray rfl rfl 65 (V zero49).toArray (Arr.new w1 (V zero49) _ rfl) (size49 (glv_len _ _)) (by simp [V_len, glv_len, zero49]) (one_V _) ?_; generalize hw2 : (w1.alloc (.cells #[.int .i64 0, .int .i64 0, .int .i64 0, .int .i64 0, .int .i64 0, .int .i64 0, .int .i64 0, .int .i64 0, .int .i64 0, .int .i64 0, .int .i64 0, .int .i64 0, .int .i64 0, .int .i64 0, .int .i64 0, .int .i64 0, .int .i64 0, .int .i64 0, .int .i64 0, .int .i64 0, .int .i64 0, .int .i64 0, .int .i64 0, .int .i64 0, .int .i64 0, .int .i64 0, .int .i64 0, .int .i64 0, .int .i64 0, .int .i64 0, .int .i64 0, .int .i64 0, .int .i64 0, .int .i64 0, .int .i64 0, .int .i64 0, .int .i64 0, .int .i64 0, .int .i64 0, .int .i64 0, .int .i64 0, .int .i64 0, .int .i64 0, .int .i64 0, .int .i64 0, .int .i64 0, .int .i64 0, .int .i64 0, .int .i64 0] 65)).setRow w1.heap.size (V (glv r u)).toArray = w2; have A2 : Hid (Arr w2 w1.heap.size (V (glv r u)) 65) := Lib.hid (by rw [← hw2]; exact (Arr.new w1 (V zero49) _ rfl).row); have b1 : Below w1.heap.size w1 w2 := (by rw [← hw2]; exact arr.below_setRow ((Below.refl _ _).alloc (Nat.le_refl _) _) (Nat.le_refl _) _); have s2 := b1.size; replace B1 : Hid (Below w.heap.size w w2) := Lib.hid (B1.out.trans (b1.mono B1.out.size)); clear hw2 b1) | fail)
    go_ret2
    exact ⟨B1.out, .inr ⟨.inl HQ.out, rfl⟩⟩
  · have HQ := Lib.hid hq
    have HS : Hid (Sf n r u) := Lib.hid (by have := transB_iff.1 hq; rwa [L1.out] at this)
    have HG : Hid (glv r u = gS (r, u) n) := Lib.hid (by rw [glv_yes hq, L1.out]; rfl)
    have HGO := Lib.hid (go_any (r, u) n)
    clear hq
    go_wp2_with (first | (refine wpList_store_row rfl 65 _ _ rfl w1.heap.size (V (glv r u)).toArray rfl rfl 65 (V zero49).toArray (Arr.new w1 (V zero49) _ rfl) (size49 (glv_len _ _)) (by simp [V_len, glv_len, zero49]) (one_V _) ?_; generalize hw2 : (w1.alloc (.cells #[.int .i64 0, .int .i64 0, .int .i64 0, .int .i64 0, .int .i64 0, .int .i64 0, .int .i64 0, .int .i64 0, .int .i64 0, .int .i64 0, .int .i64 0, .int .i64 0, .int .i64 0, .int .i64 0, .int .i64 0, .int .i64 0, .int .i64 0, .int .i64 0, .int .i64 0, .int .i64 0, .int .i64 0, .int .i64 0, .int .i64 0, .int .i64 0, .int .i64 0, .int .i64 0, .int .i64 0, .int .i64 0, .int .i64 0, .int .i64 0, .int .i64 0, .int .i64 0, .int .i64 0, .int .i64 0, .int .i64 0, .int .i64 0, .int .i64 0, .int .i64 0, .int .i64 0, .int .i64 0, .int .i64 0, .int .i64 0, .int .i64 0, .int .i64 0, .int .i64 0, .int .i64 0, .int .i64 0, .int .i64 0, .int .i64 0] 65)).setRow w1.heap.size (V (glv r u)).toArray = w2; have A2 : Hid (Arr w2 w1.heap.size (V (glv r u)) 65) := Lib.hid (by rw [← hw2]; exact (Arr.new w1 (V zero49) _ rfl).row); have b1 : Below w1.heap.size w1 w2 := (by rw [← hw2]; exact arr.below_setRow ((Below.refl _ _).alloc (Nat.le_refl _) _) (Nat.le_refl _) _); have s2 := b1.size; replace B1 : Hid (Below w.heap.size w w2) := Lib.hid (B1.out.trans (b1.mono B1.out.size)); clear hw2 b1; rw [HG.out] at A2) | (refine wpList_load_row rfl 65 _ rfl w1.heap.size rfl 65 (V (gS (r, u) n)).toArray (0, 0) _ ((A2.out).alloc _) sqp.underlying65 rfl (size49 (gS_len _ _)) ?_) | fail)
    have bc : Below w2.heap.size w2 (w2.alloc (.chan 1000 #[] false 0 0 false)) := (Below.refl _ _).alloc (Nat.le_refl _) _
    have szc : (w2.alloc (.chan 1000 #[] false 0 0 false)).heap.size = w2.heap.size + 1 := by simp
    have NC := ch.Chn.new w2 1000
    have hw2 := B1.out.size
    generalize hcc : w2.heap.size = cc at *
    refine (HGO.out cc _ HS.out NC).mono ?_
    rintro e w4 ⟨rfl, hch, hfr⟩
    have CH := Lib.hid hch
    have B4 : Hid (Below w.heap.size w w4) := Lib.hid ⟨hfr.os.trans (bc.os.trans B1.out.os), hfr.tape.trans (bc.tape.trans B1.out.tape), hfr.output.trans (bc.output.trans B1.out.output), by have := hfr.size; omega, fun k hk => (hfr.block k (by omega) (by omega)).trans ((bc.block k (by omega)).trans (B1.out.block k hk))⟩
    have sz4 := hfr.size
    clear hch hfr NC bc HGO A2 hmc
    have FL := finds_small (r, u)
    go_wp2_with fail
    subst hR
    go_loopw [7] (fun v7 wr => ∃ (j : Nat) (A : Option Addr) (cp : Nat), v7 = .slice A j cp ∧ j ≤ (finds (r, u)).length ∧ wr.ownsRow w.heap.size 68 51 v7 j (fdsV n ((finds (r, u)).take j)) ∧ Chn wr cc 1000 (((finds (r, u)).drop j).map (fdV n)) true ∧ Below w.heap.size w wr ∧ (∀ b, v7.ownBlock = some b → b ≠ cc)) (fun v7 _ => (finds (r, u)).length + 1 - slen v7)
    case atStart => exact ⟨0, none, 0, rfl, by omega, ⟨rfl, .inl ⟨rfl, rfl⟩⟩, by rw [List.drop_zero]; exact CH.out, B4.out, fun b hb => by simp [Value.ownBlock] at hb⟩
    case round =>
      obtain ⟨j, A, cp, rfl, hj, hrow, hch, hbl, hnc⟩ := hrel
      have HRW := Lib.hid hrow
      have HCH := Lib.hid hch
      have HBL := Lib.hid hbl
      have HNC := Lib.hid hnc
      clear hrow hch hbl hnc
      refine wp_seq ?_
      refine ch.region rfl ?_
      simp only [List.size_toArray, List.length_cons, List.length_nil, Nat.reduceAdd, Nat.zero_add, List.range, List.range.loop]
      by_cases hjl : j < (finds (r, u)).length
      · have hd : (finds (r, u)).drop j = (finds (r, u))[j] :: (finds (r, u)).drop (j + 1) := List.drop_eq_getElem_cons hjl
        rw [hd, List.map_cons] at HCH
        refine ch.Rw.recvL (c := cc) (z := .agg (V zero51).toArray) true rfl rfl (by kernel_rfl) HCH.out (fun w5 C5 o5 => ?_)
        simp only [Go.Conc.got, if_true]
        refine ch.Rw.plain (w' := w5) (v := .bool true) rfl rfl (by kernel_rfl) ?_
        refine ch.Rw.nil ?_
        simp only [Exit.then]
        generalize hx : (finds (r, u))[j] = x at *
        have hx' : (finds (r, u))[j]? = some x := by rw [List.getElem?_eq_getElem hjl, hx]
        have L51 := fdL_len x.1 n x.2.1 x.2.2
        have hfd : fdV n x = .agg (V (fdL x.1 n x.2.1 x.2.2)).toArray := rfl
        rw [hfd]
        have L51 := fdL_len x.1 n x.2.1 x.2.2
        have HRW5 : Hid (w5.ownsRow w.heap.size 68 51 (.slice A j cp) j (fdsV n ((finds (r, u)).take j))) := Lib.hid (own_block_keep HRW.out (fun b hb => o5.block b (World.ownsRow.lt HRW.out b hb).2 (by have := HNC.out b hb; omega)))
        have HB5 : Hid (∀ b, (Value.slice A j cp).ownBlock = some b → w.heap.size ≤ b ∧ b < w5.heap.size) := Lib.hid (fun b hb => World.ownsRow.lt HRW5.out b hb)
        have BL5 : Hid (Below w.heap.size w w5) := Lib.hid ⟨o5.os.trans HBL.out.os, o5.tape.trans HBL.out.tape, o5.output.trans HBL.out.output, by have := o5.size; have := HBL.out.size; omega, fun k hk => (o5.block k (by have := HBL.out.size; omega) (by omega)).trans (HBL.out.block k hk)⟩
        have CC5 := Lib.hid C5
        have hc5 := C5.lt
        have hb5 := BL5.out.size
        clear HRW HCH HBL C5 o5
        generalize hLX : fdL x.1 n x.2.1 x.2.2 = LX at *
        obtain ⟨i0, hi0, hz0, hz1, hz2⟩ := info_parts infoFd
        go_wp2_with (first | (refine wpList_store_row rfl 68 _ _ rfl w5.heap.size (V LX).toArray rfl rfl 68 (V zero51).toArray (Arr.new w5 (V zero51) _ rfl) (size51 L51) (by simp [V_len, L51, zero51]) (one_V _) ?_; generalize hw6 : (w5.alloc (.cells #[.int .i64 0, .int .i64 0, .int .i64 0, .int .i64 0, .int .i64 0, .int .i64 0, .int .i64 0, .int .i64 0, .int .i64 0, .int .i64 0, .int .i64 0, .int .i64 0, .int .i64 0, .int .i64 0, .int .i64 0, .int .i64 0, .int .i64 0, .int .i64 0, .int .i64 0, .int .i64 0, .int .i64 0, .int .i64 0, .int .i64 0, .int .i64 0, .int .i64 0, .int .i64 0, .int .i64 0, .int .i64 0, .int .i64 0, .int .i64 0, .int .i64 0, .int .i64 0, .int .i64 0, .int .i64 0, .int .i64 0, .int .i64 0, .int .i64 0, .int .i64 0, .int .i64 0, .int .i64 0, .int .i64 0, .int .i64 0, .int .i64 0, .int .i64 0, .int .i64 0, .int .i64 0, .int .i64 0, .int .i64 0, .int .i64 0, .int .i64 0, .int .i64 0] 68)).setRow w5.heap.size (V LX).toArray = w6; have A6 : Hid (Arr w6 w5.heap.size (V LX) 68) := Lib.hid (by rw [← hw6]; exact (Arr.new w5 (V zero51) _ rfl).row); have b6 : Below w5.heap.size w5 w6 := (by rw [← hw6]; exact arr.below_setRow ((Below.refl _ _).alloc (Nat.le_refl _) _) (Nat.le_refl _) _); have s6 := b6.size; have HRW6 : Hid (w6.ownsRow w.heap.size 68 51 (.slice A j cp) j (fdsV n ((finds (r, u)).take j))) := Lib.hid (own_block_keep HRW5.out (fun b hb => b6.block b (HB5.out b hb).2)); have CC6 := Lib.hid (CC5.out.keep b6 hc5); have BL6 := Lib.hid (BL5.out.trans (b6.mono hb5)); clear hw6 b6) | (refine wpList_load_row rfl 68 _ rfl w5.heap.size rfl 68 (V LX).toArray (0, 0) _ A6.out sqp.underlying68 rfl (size51 L51) ?_) | (refine wpList_bs_od rfl _ rfl LX L51 rfl ?_) | (at_builtin; refine wpList_append_lies (w6.alloc (.cells (V LX).toArray 68)) rfl _ _ 59 rfl w.heap.size 68 i0 _ 51 408 sqp.underlying59 hi0 hz0 hz1 hz2 rfl (by decide) (.slice A j cp) j (fdsV n ((finds (r, u)).take j)) rfl (HRW6.out.alloc _) ⟨w6.heap.size, 0, none⟩ 1 1 (V LX) rfl (by simp [V_len, L51]) ?hn ?h1 (by decide) ?c4 ?c5 ?c6 _ rfl ?_) | fail)
        case hn =>
          intro q z hz
          have h := (Arr.new w6 (V LX) 68 rfl).cell hz
          have e : (⟨w6.heap.size, 0, none⟩ : Addr).add q = ⟨w6.heap.size, q, none⟩ := by unfold Addr.add; split <;> simp_all
          rw [e]
          exact h
        case h1 => intro q hq; obtain ⟨z, _, rfl⟩ := List.mem_map.1 hq; rfl
        case c4 => unfold maxLen; omega
        case c5 => omega
        case c6 => first | omega | (simp; omega)
        intro g7 cap7 w7 ho hg hb hlt7
        have hsz6 : (w6.alloc (.cells (V LX).toArray 68)).heap.size = w6.heap.size + 1 := by simp
        have b7 : Below w6.heap.size w6 (w6.alloc (.cells (V LX).toArray 68)) := (Below.refl _ _).alloc (Nat.le_refl _) _
        have hc6 := CC6.out.lt
        have CC7 := Lib.hid (chn_grown (CC6.out.keep b7 hc6) hg (fun e => HNC.out cc e.symm rfl))
        have BL7 : Hid (Below w.heap.size w w7) := Lib.hid (((BL6.out.trans (b7.mono BL6.out.size))).trans ⟨hg.os, hg.tape, hg.output, hg.size, fun k hk => hg.block k (by omega) (fun e => by have := (HB5.out k e.symm).1; omega)⟩)
        have OW7 := Lib.hid ho
        have G7 : Hid (g7 ≠ cc) := Lib.hid (fun e => by
          rcases hb with q | q
          · exact HNC.out g7 q e
          · omega)
        clear ho hg hb CC6 BL6 HRW6 A6 b7
        go_wp2_with fail
        go_roundw
        case rel =>
          refine ⟨j + 1, some ⟨g7, 0, none⟩, cap7, rfl, by omega, ?_, CC7.out, BL7.out, fun b hb => ?_⟩
          · rw [List.take_add_one, hx', Option.toList_some, fdsV_put, hLX]; exact OW7.out
          · have e : g7 = b := by simpa [Value.ownBlock] using hb
            subst e; exact G7.out
        case measure => simp [slen]; omega
      · have HEJ : Hid ((finds (r, u)).length = j) := Lib.hid (by omega)
        have HCH0 : Hid (Chn wr cc 1000 [] true) := Lib.hid (by have h := HCH.out; rwa [← HEJ.out, List.drop_length, List.map_nil] at h)
        have HRW0 : Hid (wr.ownsRow w.heap.size 68 51 (.slice A j cp) j (fdsV n (finds (r, u)))) := Lib.hid (by have h := HRW.out; rwa [← HEJ.out, List.take_length, HEJ.out] at h)
        clear HCH HRW hjl hj FL CH
        refine ch.Rw.shutL (c := cc) (z := .agg (V zero51).toArray) true rfl rfl (by kernel_rfl) HCH0.out ?_
        simp only [Go.Conc.got, if_true]
        refine ch.Rw.plain (w' := wr) (v := .bool false) rfl rfl (by kernel_rfl) ?_
        refine ch.Rw.nil ?_
        simp only [Exit.then]
        have hL : r.length = n := L1.out
        by_cases hl : j ≤ 120
        · go_wp2_with fail
          go_ret2
          exact ⟨HBL.out, .inl ⟨HQ.out, by rw [HEJ.out]; exact hl, A, cp, by (rw [HEJ.out] <;> rfl), by rw [hL, HEJ.out]; exact HRW0.out⟩⟩
        · go_wp2_with fail
          go_ret2
          exact ⟨HBL.out, .inr ⟨.inr (by rw [HEJ.out]; omega), rfl⟩⟩
end Go.Proofs.Ytddppmbllcnkoaa.orb
