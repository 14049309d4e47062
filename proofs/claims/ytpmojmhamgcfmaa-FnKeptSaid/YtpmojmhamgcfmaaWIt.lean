/-
  The program's corners: an iterator that hands over one cycle of the round after another.
-/
import Derived.Test.YtpmojmhamgcfmaaWRf
import Derived.Test.YtpmojmhamgcfmaaY10
import Derived.Test.YtpmojmhamgcfmaaShelf
namespace Go.Proofs.Ytpmojmhamgcfmaa.gl
open Go.ChangeShapes Go.WideShapes Go.ChangeAt Go.RowKit
open Go.Proofs.Ytpmojmhamgcfmaa.mem Go.Proofs.Ytpmojmhamgcfmaa.ints Go.Proofs.Ytpmojmhamgcfmaa.arr Go.Proofs.Ytpmojmhamgcfmaa.pm Go.Proofs.Ytpmojmhamgcfmaa.permOk Go.Proofs.Ytpmojmhamgcfmaa.permOf Go.Proofs.Ytpmojmhamgcfmaa.inv Go.Proofs.Ytpmojmhamgcfmaa.fns Go.Proofs.Ytpmojmhamgcfmaa.sf Go.Proofs.Ytpmojmhamgcfmaa.rf
set_option linter.unusedVariables false
set_option maxRecDepth 100000
attribute [local go_sem] Oper.semAt_some

theorem roundIn_any {P : Program} {l : Nat} {f : FuncId} {tmps : Array Value} {assign body : Code} {w : World} {R : Ending → World → Prop} {m : Nat} (n : Nat) (h : RoundIn Fence.wide m P l f tmps assign body w R) : RoundIn Fence.wide n P l f tmps assign body w R :=
  ⟨h.1, fun c cs _ => h.2 c cs (room_wide _)⟩
/-- The state of the walk over the squares. -/
structure Cst (W wr : World) (bg K : Nat) (gs qs : List Int) (C : Nat → List (List Int)) (J : Nat → List Rw → World → Prop) (k D1 : Nat) (ys : List Rw) : Prop where
  g : Arr wr bg (V gs) 63
  a : K < D1 ∧ Arr wr K (V qs) 61
  d : W.heap.size ≤ D1
  d1 : D1 ≤ wr.heap.size
  fst : ys.map Prod.fst = C k
  j : J D1 ys wr
theorem cso_pre (ps : List Int) (n k j : Nat) : cso ps n k <+: cso ps n (k + j) := by
  induction j with
  | zero => exact List.prefix_refl _
  | succ j ih =>
    refine ih.trans ?_
    show _ <+: cso ps n (k + j + 1)
    rw [cso]; split
    · exact List.prefix_refl _
    · exact List.prefix_append _ _
theorem cyc_ext {n : Nat} {q : List Int} (h : Ok q) (l : q.length = n) {k : Nat} (hk : k < n) : cyc (ext q) n (k : Int) = cyc q n (k : Int) := by
  have := h.len
  exact cyc_congr (h.bij' l) (fun i hi => by rw [ext_at (by omega), if_pos (by omega)]) (by omega) (by omega)

set_option maxHeartbeats 4000000 in
theorem corners_seq (r u : List Int) (n bg : Nat) (w : World) (hs : Sf n r u) (hg : Arr w bg (V (gl (ext r) (ext u) n)) 63) :
    Seq Try.prog 83 #[.pointer (some ⟨bg, 0, none⟩)] bg (cso (comm r u) n n) w := by
  intro nn m l W J Jx hW hJ hY h0
  have HS := Lib.hid hs; clear hs
  have HB := Lib.hid HS.out.commB
  have hn24 : n ≤ 24 := HS.out.small
  have HA : Hid (ar24 (ext r) (ext u) = ext (comm r u)) := Lib.hid (ar24_ext HS.out)
  have HBE : Hid (Bij n (ext (comm r u))) := Lib.hid (by have := HS.out.comm.1.bijExt; rwa [HS.out.comm.2] at this)
  have HCE := Lib.hid (fun k (hk : k < n) => cyc_ext HS.out.comm.1 HS.out.comm.2 hk)
  have HG := Lib.hid (hg.keep hW hg.lt); clear hg
  have hbg : bg < W.heap.size := HG.out.lt
  have HJ := Lib.hid hJ; have HY := Lib.hid hY; have H0 := Lib.hid h0; clear hJ hY h0 hW
  have f1 : Fence.wide.fn 84 := trivial
  have f2 : Fence.wide.fn 85 := trivial
  have f3 : Fence.wide.fn 86 := trivial
  refine callsIn_wide.2 ((callsIn_wide (n := 9)).1 ?_)
  refine callsIn_of_wp Try.func83 rfl trivial ?_ rfl
  simp only [Try.ntmps83, List.size_toArray, List.length_cons, List.length_nil, Nat.reduceAdd, Nat.reduceSub, Array.replicate_succ, Array.replicate_zero, List.push_toArray, List.append_toArray, List.nil_append, List.cons_append]
  gi_wp2_with (first | (refine in_load_row rfl 63 _ rfl bg rfl 63 (V (gl (ext r) (ext u) n)).toArray (0, 0) _ HG.out Try.underlying63 rfl (size49 (gl_len (ext_len _) (ext_len _) n)) ?_) | (gi_at_call 84; refine (callsIn_wide.2 (around_any (ext r) (ext u) n _ HS.out.r.sq HS.out.u.sq)).mono ?_; rintro e w1 ⟨rfl, b1⟩; rw [HA.out]; have G1 := Lib.hid (HG.out.keep b1 hbg); have B1 := Lib.hid b1; have hs1 := b1.size; clear b1 HG) | (refine in_store_row rfl 61 _ _ rfl w1.heap.size (V (ext (comm r u))).toArray rfl rfl 61 (V zeros).toArray (Arr.new w1 (V zeros) _ rfl) (size_V (ext_len _)) (by simp [V_len, ext_len, zeros]) (one_V _) ?_; generalize hw_ : (w1.alloc (.cells #[.int .i64 0, .int .i64 0, .int .i64 0, .int .i64 0, .int .i64 0, .int .i64 0, .int .i64 0, .int .i64 0, .int .i64 0, .int .i64 0, .int .i64 0, .int .i64 0, .int .i64 0, .int .i64 0, .int .i64 0, .int .i64 0, .int .i64 0, .int .i64 0, .int .i64 0, .int .i64 0, .int .i64 0, .int .i64 0, .int .i64 0, .int .i64 0] 61)).setRow w1.heap.size (V (ext (comm r u))).toArray = w2; have A2 : Hid (Arr w2 w1.heap.size (V (ext (comm r u))) 61) := Lib.hid (by rw [← hw_]; exact (Arr.new w1 (V zeros) _ rfl).row); have b1 : Below w1.heap.size w1 w2 := (by rw [← hw_]; exact arr.below_setRow ((Below.refl _ _).alloc (Nat.le_refl _) _) (Nat.le_refl _) _); have t_ : w1.heap.size + 1 ≤ w2.heap.size := (by rw [← hw_]; simp); clear hw_; replace G1 := Lib.hid (G1.out.keep b1 (by omega)); replace B1 := Lib.hid (B1.out.trans (b1.mono B1.out.size)); clear b1; have cc := gl_count (n := n) (ext_len r) (ext_len u) G1.out))
  gi_loopw [10] (fun i wr => ∃ (k D1 : Nat) (ys : List Rw), k ≤ n ∧ i = .int .i64 k ∧ Cst W wr bg w1.heap.size (gl (ext r) (ext u) n) (ext (comm r u)) (cso (comm r u) n) J k D1 ys) (fun i _ => n - (intOf i).toNat)
  case atStart => exact ⟨0, w2.heap.size, [], Nat.zero_le _, rfl, G1.out, ⟨by omega, A2.out⟩, by omega, Nat.le_refl _, rfl, H0.out w2 B1.out⟩
  case round =>
    obtain ⟨k, D1, ys, hk, rfl, hc⟩ := hrel
    have HC := Lib.hid hc; clear hc
    obtain ⟨hK2, hAK⟩ := HC.out.a
    have AK := Lib.hid hAK; clear hAK
    have hd1 := HC.out.d1
    have hd0 := HC.out.d
    by_cases hlt : k < n
    · have HCK := Lib.hid (HCE.out k hlt)
      have HW := Lib.hid (cyc_way (f := (k : Int)) HB.out (by omega) (by omega))
      have hpos := HW.out.pos
      have hlen : (cyc (comm r u) n (k : Int)).length ≤ n := HW.out.inn.len
      gi_wp2_with (first | (refine in_load_row rfl 61 _ rfl w1.heap.size rfl 61 (V (ext (comm r u))).toArray (0, 0) _ AK.out Try.underlying61 rfl (size_V (ext_len _)) ?_) | (gi_at_call 85; refine (callsIn_wide.2 (cycleFrom_any (ext (comm r u)) n k _ (ext_len _) HBE.out hn24 hlt)).mono ?_; rintro e w3 hgv; rw [HCK.out] at hgv; obtain ⟨v3, rfl, o3, b3⟩ := hgv; obtain ⟨P3, c3, rfl⟩ := own_form o3; have O3 := Lib.hid o3; have B3 := Lib.hid b3; have hs3 := b3.size; clear o3 b3))
      have hc4 : (cyc (comm r u) n (k : Int)).length ≤ 9223372036854775807 := by omega
      obtain ⟨g3, off3, rfl, hg3, hg3', hcells⟩ := (Row.of_own O3.out).2.2 hpos
      have HN := Lib.hid (Try.slices_Min_int g3 off3 _ c3 (cyc (comm r u) n (k : Int)) w3 hpos (Nat.le_refl _) hc4 (fun j hj => by rw [(hcells j hj).1]; exact V_getD hj))
      rw [List.take_length] at HN
      clear hcells hc4
      by_cases hm : Lib.minOf (cyc (comm r u) n (k : Int)) = (k : Int)
      · have NX := Lib.hid (cso_yes HB.out hlt hm)
        have hm2 : (Lib.minOf (cyc (comm r u) n (k : Int)) == (k : Int)) = true := by rw [hm]; simp
        have HPRE : Hid (ys.map Prod.fst ++ [cyc (comm r u) n (k : Int)] = cso (comm r u) n (k + 1)) := Lib.hid (by rw [HC.out.fst, NX.out])
        obtain ⟨fn, tmps, assign, bd, hy, hR⟩ := HY.out D1 ys (cyc (comm r u) n (k : Int), _) wr w3 hd0 hd1 HC.out.j B3.out O3.out (by rw [HPRE.out]; have := cso_pre (comm r u) n (k + 1) (n - (k + 1)); rwa [show k + 1 + (n - (k + 1)) = n by omega] at this)
        dsimp only at hy
        have HR := Lib.hid hR
        clear hm hR
        gi_wp2_with (gi_at_call 86; refine (callsIn_wide.2 HN.out).mono ?_; rintro e w4 ⟨rfl, rfl⟩)
        have GG := Lib.hid (HC.out.g.keep B3.out HC.out.g.lt)
        have AA := Lib.hid (AK.out.keep B3.out AK.out.lt)
        refine (roundIn_any _ HR.out).mono ?_
        rintro e W' (⟨rfl, hJ', hk'⟩ | ⟨rfl, hJx'⟩)
        · have HJ' := Lib.hid hJ'; have HK := Lib.hid hk'; clear hJ' hk' hy
          have hs4 := HK.out.size
          gi_wp2
          go_roundw
          case rel => exact ⟨k + 1, D1, _, by omega, by go_num, HK.out.box.trans GG.out, ⟨hK2, (HK.out.mid _ hs1 hK2).trans AA.out⟩, hd0, by omega, by rw [List.map_append]; exact HPRE.out, HJ'.out⟩
          case measure => simp [intOf]; omega
        · have HX := Lib.hid hJx'; clear hJx' hy
          gi_wp2
          refine bodyPost_ret (results_none rfl _ _ _) rfl ?_
          refine ⟨⟨_, rfl⟩, .inr ⟨D1, _, ?_, HX.out⟩⟩
          rw [List.map_append]
          have := cso_pre (comm r u) n (k + 1) (n - (k + 1))
          rw [show k + 1 + (n - (k + 1)) = n by omega, ← HPRE.out] at this
          exact this
      · have NX := Lib.hid (cso_no HB.out hlt hm)
        have hm2 : (Lib.minOf (cyc (comm r u) n (k : Int)) == (k : Int)) = false := by simpa using hm
        clear hm
        gi_wp2_with (gi_at_call 86; refine (callsIn_wide.2 HN.out).mono ?_; rintro e w4 ⟨rfl, rfl⟩)
        refine ⟨fun _ h => (by cases h), ?_⟩
        gi_wp2
        go_roundw
        case rel => exact ⟨k + 1, D1, ys, by omega, by go_num, HC.out.g.keep B3.out HC.out.g.lt, ⟨hK2, AK.out.keep B3.out AK.out.lt⟩, hd0, by omega, by rw [NX.out]; exact HC.out.fst, HJ.out _ _ _ _ HC.out.j B3.out⟩
        case measure => simp [intOf]; omega
    · obtain rfl : k = n := by omega
      gi_wp2
      go_end0
      exact ⟨⟨_, rfl⟩, .inl ⟨D1, ys, HC.out.fst, HC.out.j⟩⟩
end Go.Proofs.Ytpmojmhamgcfmaa.gl
