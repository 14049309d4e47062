/-
  CountSymmetries of the model.
-/
import Derived.Test.YtpklppnkhkjjeaaCf
namespace Go.Proofs.Ytpklppnkhkjjeaa.gl
open Go.ChangeShapes Go.WideShapes Go.ChangeAt Go.RowKit
open Go.Proofs.Ytpklppnkhkjjeaa.mem Go.Proofs.Ytpklppnkhkjjeaa.ints Go.Proofs.Ytpklppnkhkjjeaa.arr Go.Proofs.Ytpklppnkhkjjeaa.pm Go.Proofs.Ytpklppnkhkjjeaa.permOk Go.Proofs.Ytpklppnkhkjjeaa.permOf Go.Proofs.Ytpklppnkhkjjeaa.inv Go.Proofs.Ytpklppnkhkjjeaa.fns Go.Proofs.Ytpklppnkhkjjeaa.sf
set_option linter.unusedVariables false

/-- How many of the first k forms are the canonical one. -/
def symTo (r u : List Int) (n k : Nat) : Nat := (List.range k).countP fun (i : Nat) => decide (Fm r u n (i : Int) = can r u n)
theorem symTo_succ (r u : List Int) (n k : Nat) : symTo r u n (k + 1) = symTo r u n k + if Fm r u n (k : Int) = can r u n then 1 else 0 := by
  unfold symTo
  rw [List.range_succ, List.countP_append]
  simp [List.countP_cons]
theorem symTo_le (r u : List Int) (n k : Nat) : symTo r u n k ≤ k := by
  unfold symTo
  have := List.countP_le_length (p := fun (i : Nat) => decide (Fm r u n (i : Int) = can r u n)) (l := List.range k)
  simpa using this
/-- The argument's box and the box of the canonical form. -/
structure Ct (w wr : World) (a b : Value) (n B3 : Nat) (f : Sur) : Prop where
  g : Arr wr w.heap.size [a, b] 25
  best : Bs wr B3 (w.heap.size + 1) n f
  hB : w.heap.size + 1 ≤ B3
  below : Below w.heap.size w wr
theorem Ct.keep {w wr w' : World} {a b : Value} {n B3 : Nat} {f : Sur} (h : Ct w wr a b n B3 f) (hb : Below wr.heap.size wr w') : Ct w w' a b n B3 f :=
  ⟨h.g.keep hb h.g.lt, h.best.keep hb, h.hB, h.below.trans (hb.mono h.below.size)⟩

theorem same_dec (a b : Sur) : sameF a.1 a.2 b.1 b.2 = decide (a = b) := by
  obtain ⟨a1, a2⟩ := a; obtain ⟨b1, b2⟩ := b
  unfold sameF eqi
  rw [← Bool.decide_and, decide_eq_decide]
  simp
set_option maxHeartbeats 2000000 in
theorem cs_spec (v : Value) (r u : List Int) (hi : Nat) (w : World) (hx : Srd w hi v r u) (hn : r.length ≤ 1048576) (hm : u.length ≤ 1048576) :
    Calls Try.prog 42 #[v] w fun e w' => e = .returned (.int .i64 (csF r u)) ∧ Below w.heap.size w w' := by
  have HX := Lib.hid hx
  obtain ⟨P, m1, c, Q, m, d, rfl, q1, q2, e1, e2, ht, HR⟩ := hx.open
  have L1 := Lib.hid q1
  have L2 := Lib.hid q2
  clear hx HR
  go_enter Try.func42, Try.ntmps42
  go_wp2_with fail
  refine (ok_spec _ r u hi _ (HX.out.keep ((Below.refl hi w).alloc ht _) (Nat.le_refl _)) hn hm).mono ?_
  rintro e w1 ⟨rfl, b1⟩
  have A0 := Lib.hid ((Arr.new w [.slice P m1 c, .slice Q m d] 25 rfl).keep b1 (by simp))
  have c0 := A0.out.cell (k := 0) rfl
  have c1 := A0.out.cell (k := 1) rfl
  have B1 := Lib.hid (below1 _ _ b1)
  have hs1 : w.heap.size + 1 ≤ w1.heap.size := by have := b1.size; simpa using this
  clear b1
  cases hq : transB r u
  · have Z1 := Lib.hid (cs_no hq)
    clear hq
    go_wp2_with fail
    go_ret
    exact ⟨ret_int Z1.out.symm, B1.out⟩
  · have Z1 := Lib.hid (cs_yes hq)
    have HS : Hid (Sf m1 r u) := Lib.hid (by have := transB_iff.1 hq; rwa [L1.out] at this)
    have CL := Lib.hid (can_len r u HS.out.pos)
    have hn24 : m1 ≤ 24 := by have := HS.out.r.len; have := HS.out.lr; omega
    obtain rfl : m = m1 := by have := HS.out.lu; omega
    clear hq q1 q2
    go_wp2_with fail
    refine (canon_spec _ r u m hi _ (HX.out.keep (B1.out.mono ht) (Nat.le_refl _)) HS.out).mono ?_
    rintro e w2 ⟨g, rfl, sg, b1⟩
    obtain ⟨P3, c3, Q3, d3, rfl⟩ := sg.lens CL.out.1 CL.out.2
    have hs2 := b1.size
    replace A0 := Lib.hid (A0.out.keep b1 A0.out.lt)
    replace B1 := Lib.hid (B1.out.trans (b1.mono B1.out.size))
    have SG := Lib.hid sg
    clear b1 sg c0 c1
    go_wp2_with (first | (refine wpList_store_row rfl 25 _ _ rfl w2.heap.size #[.slice P3 m c3, .slice Q3 m d3] rfl rfl 25 #[.slice none 0 0, .slice none 0 0] (Arr.new w2 [.slice none 0 0, .slice none 0 0] _ rfl) size2 rfl (by simp [Value.oneCell']) ?_; generalize hw3 : (w2.alloc (.cells #[.slice none 0 0, .slice none 0 0] 25)).setRow w2.heap.size #[.slice P3 m c3, .slice Q3 m d3] = w3; have A3 : Hid (Arr w3 w2.heap.size [.slice P3 m c3, .slice Q3 m d3] 25) := Lib.hid (by rw [← hw3]; exact (Arr.new w2 [.slice none 0 0, .slice none 0 0] _ rfl).row); have b1 : Below w2.heap.size w2 w3 := (by rw [← hw3]; exact below_setRow ((Below.refl _ _).alloc (Nat.le_refl _) _) (Nat.le_refl _) _); have hs3 := b1.size; replace A0 := Lib.hid (A0.out.keep b1 A0.out.lt); replace SG := Lib.hid (SG.out.keep b1 SG.out.top); replace B1 := Lib.hid (B1.out.trans (b1.mono B1.out.size)); clear hw3 b1; have c0 := A0.out.cell (k := 0) rfl) | fail)
    have HC : Hid (Ct w w3 (.slice P m c) (.slice Q m d) m w2.heap.size (can r u m)) := Lib.hid ⟨A0.out, ⟨P3, c3, Q3, d3, _, A3.out, SG.out.later (by omega)⟩, by omega, B1.out⟩
    clear A0 A3 SG c0
    generalize w2.heap.size = B3 at *
    go_loopw [4, 14] (fun q i wr => ∃ k : Nat, k ≤ m ∧ i = .int .i64 k ∧ q = .int .i64 (symTo r u m k : Nat) ∧ Ct w wr (.slice P m c) (.slice Q m d) m B3 (can r u m)) (fun _ i _ => m - (intOf i).toNat)
    case atStart => exact ⟨0, Nat.zero_le _, rfl, rfl, HC.out⟩
    case round =>
      obtain ⟨k, hk, rfl, rfl, hc⟩ := hrel
      have HR := Lib.hid hc; clear hc HC
      by_cases hlt : k < m
      · have hsy : symTo r u m k ≤ 24 := by have := symTo_le r u m k; omega
        go_wp2_with fail
        obtain ⟨P4, c4, Q4, d4, hi4, a4, s4⟩ := HR.out.best.ex
        have A4 := Lib.hid a4; have S4 := Lib.hid s4; clear a4 s4
        refine wp_region_held_drew (S := Hld wr.heap.size wr.heap.size wr [(w.heap.size, [.slice P m c, .slice Q m d]), (B3, [.slice P4 m c4, .slice Q4 m d4])]) (by kernel_rfl) (Hld.start2 HR.out.g A4.out) (fun hHeld => ?_)
        have b1 : Below wr.heap.size wr wr.drew := ⟨rfl, rfl, rfl, Nat.le_refl _, fun _ _ => rfl⟩
        generalize wr.drew = w5 at *
        have s5 := b1.size
        have BW := Lib.hid b1
        clear b1
        refine wpAnyH_take (i := 0) (v := .agg #[.slice P m c, .slice Q m d]) rfl (by kernel_rfl) (by kernel_rfl) (by kernel_rfl) (fun _ _ _ h => h) (yieldsIf_load_mid (by rfl) _ _ rfl (w.heap.size) 0 rfl [.slice P m c, .slice Q m d] _ (fun w h => h.fst) Try.underlying25 rfl (sizeS _ _)) hHeld ?_
        refine wpAnyH_take (i := 1) (v := .agg #[.slice P m c, .slice Q m d]) rfl (by kernel_rfl) (by kernel_rfl) (by kernel_rfl) (fun _ _ _ h => h) (yieldsIf_load_mid (by rfl) _ _ rfl (w.heap.size) 0 rfl [.slice P m c, .slice Q m d] _ (fun w h => h.fst) Try.underlying25 rfl (sizeS _ _)) hHeld ?_
        refine wpAnyH_take (i := 5) (v := .agg #[.slice P4 m c4, .slice Q4 m d4]) rfl (by kernel_rfl) (by kernel_rfl) (by kernel_rfl) (fun _ _ _ h => h) (yieldsIf_load_mid (by rfl) _ _ rfl (B3) 0 rfl [.slice P4 m c4, .slice Q4 m d4] _ (fun w h => h.snd) Try.underlying25 rfl (sizeS _ _)) hHeld ?_
        refine wpAnyH_take (i := 2) (v := .int .i64 (k : Int)) rfl (by kernel_rfl) (by kernel_rfl) (by kernel_rfl) (fun _ _ _ h => h) (Or.inl ⟨by rfl, fun w hSw => by go_simp⟩) hHeld ?_
        refine wpAnyH_ready (rs := [3]) (by kernel_rfl) (by simp) (AllReadyH.cons rfl (fun K hK => ?_) AllReadyH.nil)
        go_simp
        refine (names_spec _ r u m (k : Int) hi _ (HX.out.keep ((HR.out.below.trans (BW.out.mono HR.out.below.size)).mono ht) (Nat.le_refl _)) HS.out (by omega) (by omega)).mono ?_
        rintro e w6 ⟨v1, rfl, o1, b1⟩
        obtain ⟨P1, c1, rfl, r1, C1⟩ := gives_rows o1
        have NK := Lib.hid (HS.out.nok (f := (k : Int)) (by omega) (by omega))
        rw [NK.out.2] at r1 C1 ⊢
        have s6 := b1.size
        have R1 := Lib.hid r1; clear r1 o1
        replace BW := Lib.hid (BW.out.trans (b1.mono BW.out.size))
        go_wp2_with fail
        have hHeld2 := hHeld.later b1 (by omega); clear b1 hHeld
        refine hK.out _ _ hHeld2 (fun hHeld => ?_)
        clear hK K hHeld2
        refine wpAnyH_ready (rs := [4]) (by kernel_rfl) (by simp) (AllReadyH.cons rfl (fun K hK => ?_) AllReadyH.nil)
        go_simp
        refine (rename_spec _ r u P1 m c1 (nm r u (k : Int)) m hi _ _ (HX.out.keep ((HR.out.below.trans (BW.out.mono HR.out.below.size)).mono ht) (Nat.le_refl _)) R1.out.rd HS.out NK.out.1 NK.out.2).mono ?_
        rintro e w7 ⟨g, rfl, sg, b1⟩
        have s7 := b1.size
        have SG : Hid (Svl w7 w6.heap.size w7.heap.size g (Fm r u m (k : Int)).1 (Fm r u m (k : Int)).2) := Lib.hid sg; clear sg R1
        replace BW := Lib.hid (BW.out.trans (b1.mono BW.out.size))
        go_wp2_with fail
        have hHeld2 := hHeld.later b1 (by omega); clear b1 hHeld
        refine hK.out _ _ hHeld2 (fun hHeld => ?_)
        clear hK K hHeld2
        refine wpAnyH_ready (rs := [6]) (by kernel_rfl) (by simp) (AllReadyH.cons rfl (fun K hK => ?_) AllReadyH.nil)
        go_simp
        have l5 := Fm_len r u m (k : Int)
        refine (same_spec _ (Fm r u m (k : Int)).1 (Fm r u m (k : Int)).2 _ (can r u m).1 (can r u m).2 _ _ _ SG.out.rd (S4.out.keep BW.out S4.out.top).rd (by omega) (by omega) (by have := CL.out.1; omega) (by have := CL.out.2; omega)).mono ?_
        rintro e w8 ⟨rfl, b1⟩
        replace BW := Lib.hid (BW.out.trans (b1.mono BW.out.size))
        rw [same_dec]
        clear l5
        go_wp2_with fail
        have hHeld2 := hHeld.later b1 (by omega); clear b1 hHeld
        refine hK.out _ _ hHeld2 (fun hHeld => ?_)
        clear hK K hHeld2
        refine wpAnyH_done (by kernel_rfl) ?_ _
        have H8 := Lib.hid (HR.out.keep BW.out)
        clear hHeld HR BW SG S4 A4
        by_cases hf : Fm r u m (k : Int) = can r u m
        · have HSY : Hid (symTo r u m (k + 1) = symTo r u m k + 1) := Lib.hid (by rw [symTo_succ, if_pos hf])
          rw [decide_eq_true hf]
          clear hf
          go_wp2_with fail
          go_roundw
          case rel => exact ⟨k + 1, by omega, by go_num, by rw [HSY.out]; go_num, H8.out⟩
          case measure => simp [intOf]; omega
        · have HSY : Hid (symTo r u m (k + 1) = symTo r u m k) := Lib.hid (by rw [symTo_succ, if_neg hf]; rfl)
          rw [decide_eq_false hf]
          clear hf
          go_wp2_with fail
          go_roundw
          case rel => exact ⟨k + 1, by omega, by go_num, by rw [HSY.out], H8.out⟩
          case measure => simp [intOf]; omega
      · obtain rfl : k = m := by omega
        have HF : Hid (csF r u = (symTo r u k k : Nat)) := Lib.hid (by rw [Z1.out, L1.out]; exact congrArg _ (sym_count r u k).symm)
        go_wp2_with fail
        go_ret
        exact ⟨ret_int HF.out.symm, HR.out.below⟩
end Go.Proofs.Ytpklppnkhkjjeaa.gl
