import Derived.Test.YtafpbnjfmieamaaY25
import Derived.Test.YtafpbnjfmieamaaY24
import Derived.Sort.Grow
import Derived.IntWalk
/-
  The program's corners: an iterator that hands over one cycle of the round after another.
-/
namespace Go.Proofs.Ytafpbnjfmieamaa.gl
open Go.ChangeShapes Go.WideShapes Go.ChangeAt Go.RowKit
open Go.Proofs.Ytafpbnjfmieamaa.mem Go.Proofs.Ytafpbnjfmieamaa.ints Go.Proofs.Ytafpbnjfmieamaa.arr Go.Proofs.Ytafpbnjfmieamaa.pm Go.Proofs.Ytafpbnjfmieamaa.permOk Go.Proofs.Ytafpbnjfmieamaa.permOf Go.Proofs.Ytafpbnjfmieamaa.inv Go.Proofs.Ytafpbnjfmieamaa.fns Go.Proofs.Ytafpbnjfmieamaa.sf Go.Proofs.Ytafpbnjfmieamaa.rf
set_option linter.unusedVariables false
set_option maxRecDepth 100000
attribute [local go_sem] Oper.semAt_some

theorem roundIn_any {P : Program} {l : Nat} {f : FuncId} {tmps : Array Value} {assign body : Code} {w : World} {R : Ending → World → Prop} {m : Nat} (n : Nat) (h : RoundIn Fence.wide m P l f tmps assign body w R) : RoundIn Fence.wide n P l f tmps assign body w R :=
  ⟨h.1, fun c cs _ => h.2 c cs (room_wide _)⟩
/-- The state of the walk over the squares. -/
structure Cst (W wr : World) (bg K : Nat) (gs qs : List Int) (C : Nat → List (List Int)) (J : Nat → List Rw → World → Prop) (k D1 : Nat) (ys : List Rw) : Prop where
  g : Arr wr bg (V gs) 62
  a : K < D1 ∧ Arr wr K (V qs) 60
  d : W.heap.size ≤ D1
  d1 : D1 ≤ wr.heap.size
  fst : ys.map Prod.fst = C k
  j : J D1 ys wr
theorem cso_pre (ps : List Int) (n k j : Nat) : cso ps n k <+: cso ps n (k + j) := by
  induction j with
  | zero => exact List.prefix_refl _
  | succ j ih =>
    refine ih.trans ?_
    show _ <+: cso ps n (k + j + 1)
    rw [cso]; split
    · exact List.prefix_refl _
    · exact List.prefix_append _ _
theorem cyc_ext {n : Nat} {q : List Int} (h : Ok q) (l : q.length = n) {k : Nat} (hk : k < n) : cyc (ext q) n (k : Int) = cyc q n (k : Int) := by
  have := h.len
  exact cyc_congr (h.bij' l) (fun i hi => by rw [ext_at (by omega), if_pos (by omega)]) (by omega) (by omega)

set_option maxHeartbeats 4000000 in
theorem corners_seq (r u : List Int) (n bg : Nat) (w : World) (hs : Sf n r u) (hg : Arr w bg (V (gl (ext r) (ext u) n)) 62) :
    Seq Try.prog 97 #[.pointer (some ⟨bg, 0, none⟩)] bg (cso (comm r u) n n) w := by
  intro nn m l W J Jx hW hJ hY h0
  have HS := Lib.hid hs; clear hs
  have HB := Lib.hid HS.out.commB
  have hn24 : n ≤ 24 := HS.out.small
  have HA : Hid (ar24 (ext r) (ext u) = ext (comm r u)) := Lib.hid (ar24_ext HS.out)
  have HBE : Hid (Bij n (ext (comm r u))) := Lib.hid (by have := HS.out.comm.1.bijExt; rwa [HS.out.comm.2] at this)
  have HCE := Lib.hid (fun k (hk : k < n) => cyc_ext HS.out.comm.1 HS.out.comm.2 hk)
  have HG := Lib.hid (hg.keep hW hg.lt); clear hg
  have hbg : bg < W.heap.size := HG.out.lt
  have HJ := Lib.hid hJ; have HY := Lib.hid hY; have H0 := Lib.hid h0; clear hJ hY h0 hW
  have f1 : Fence.wide.fn 98 := trivial
  have f2 : Fence.wide.fn 99 := trivial
  have f3 : Fence.wide.fn 100 := trivial
  refine callsIn_wide.2 ((callsIn_wide (n := 9)).1 ?_)
  refine callsIn_of_wp Try.func97 rfl trivial ?_ rfl
  simp only [Try.ntmps97, List.size_toArray, List.length_cons, List.length_nil, Nat.reduceAdd, Nat.reduceSub, Array.replicate_succ, Array.replicate_zero, List.push_toArray, List.append_toArray, List.nil_append, List.cons_append]
  gi_wp2_with (first | (refine in_load_row rfl 62 _ rfl bg rfl 62 (V (gl (ext r) (ext u) n)).toArray (0, 0) _ HG.out Try.underlying62 rfl (size49 (gl_len (ext_len _) (ext_len _) n)) ?_) | (gi_at_call 98; refine (callsIn_wide.2 (around_any (ext r) (ext u) n _ HS.out.r.sq HS.out.u.sq)).mono ?_; rintro e w1 ⟨rfl, b1⟩; rw [HA.out]; have G1 := Lib.hid (HG.out.keep b1 hbg); have B1 := Lib.hid b1; have hs1 := b1.size; clear b1 HG) | (refine in_store_row rfl 60 _ _ rfl w1.heap.size (V (ext (comm r u))).toArray rfl rfl 60 (V zeros).toArray (Arr.new w1 (V zeros) _ rfl) (size_V (ext_len _)) (by simp [V_len, ext_len, zeros]) (one_V _) ?_; generalize hw_ : (w1.alloc (.cells #[.int .i64 0, .int .i64 0, .int .i64 0, .int .i64 0, .int .i64 0, .int .i64 0, .int .i64 0, .int .i64 0, .int .i64 0, .int .i64 0, .int .i64 0, .int .i64 0, .int .i64 0, .int .i64 0, .int .i64 0, .int .i64 0, .int .i64 0, .int .i64 0, .int .i64 0, .int .i64 0, .int .i64 0, .int .i64 0, .int .i64 0, .int .i64 0] 60)).setRow w1.heap.size (V (ext (comm r u))).toArray = w2; have A2 : Hid (Arr w2 w1.heap.size (V (ext (comm r u))) 60) := Lib.hid (by rw [← hw_]; exact (Arr.new w1 (V zeros) _ rfl).row); have b1 : Below w1.heap.size w1 w2 := (by rw [← hw_]; exact arr.below_setRow ((Below.refl _ _).alloc (Nat.le_refl _) _) (Nat.le_refl _) _); have t_ : w1.heap.size + 1 ≤ w2.heap.size := (by rw [← hw_]; simp); clear hw_; replace G1 := Lib.hid (G1.out.keep b1 (by omega)); replace B1 := Lib.hid (B1.out.trans (b1.mono B1.out.size)); clear b1; have cc := gl_count (n := n) (ext_len r) (ext_len u) G1.out))
  gi_loopw [10] (fun i wr => ∃ (k D1 : Nat) (ys : List Rw), k ≤ n ∧ i = .int .i64 k ∧ Cst W wr bg w1.heap.size (gl (ext r) (ext u) n) (ext (comm r u)) (cso (comm r u) n) J k D1 ys) (fun i _ => n - (intOf i).toNat)
  case atStart => exact ⟨0, w2.heap.size, [], Nat.zero_le _, rfl, G1.out, ⟨by omega, A2.out⟩, by omega, Nat.le_refl _, rfl, H0.out w2 B1.out⟩
  case round =>
    obtain ⟨k, D1, ys, hk, rfl, hc⟩ := hrel
    have HC := Lib.hid hc; clear hc
    obtain ⟨hK2, hAK⟩ := HC.out.a
    have AK := Lib.hid hAK; clear hAK
    have hd1 := HC.out.d1
    have hd0 := HC.out.d
    by_cases hlt : k < n
    · have HCK := Lib.hid (HCE.out k hlt)
      have HW := Lib.hid (cyc_way (f := (k : Int)) HB.out (by omega) (by omega))
      have hpos := HW.out.pos
      have hlen : (cyc (comm r u) n (k : Int)).length ≤ n := HW.out.inn.len
      gi_wp2_with (first | (refine in_load_row rfl 60 _ rfl w1.heap.size rfl 60 (V (ext (comm r u))).toArray (0, 0) _ AK.out Try.underlying60 rfl (size_V (ext_len _)) ?_) | (gi_at_call 99; refine (callsIn_wide.2 (cycleFrom_any (ext (comm r u)) n k _ (ext_len _) HBE.out hn24 hlt)).mono ?_; rintro e w3 hgv; rw [HCK.out] at hgv; obtain ⟨v3, rfl, o3, b3⟩ := hgv; obtain ⟨P3, c3, rfl⟩ := own_form o3; have O3 := Lib.hid o3; have B3 := Lib.hid b3; have hs3 := b3.size; clear o3 b3))
      have hc4 : (cyc (comm r u) n (k : Int)).length ≤ 9223372036854775807 := by omega
      obtain ⟨g3, off3, rfl, hg3, hg3', hcells⟩ := (Row.of_own O3.out).2.2 hpos
      have HN := Lib.hid (Try.slices_Min_int g3 off3 _ c3 (cyc (comm r u) n (k : Int)) w3 hpos (Nat.le_refl _) hc4 (fun j hj => by rw [(hcells j hj).1]; exact V_getD hj))
      rw [List.take_length] at HN
      clear hcells hc4
      by_cases hm : Lib.minOf (cyc (comm r u) n (k : Int)) = (k : Int)
      · have NX := Lib.hid (cso_yes HB.out hlt hm)
        have hm2 : (Lib.minOf (cyc (comm r u) n (k : Int)) == (k : Int)) = true := by rw [hm]; simp
        have HPRE : Hid (ys.map Prod.fst ++ [cyc (comm r u) n (k : Int)] = cso (comm r u) n (k + 1)) := Lib.hid (by rw [HC.out.fst, NX.out])
        obtain ⟨fn, tmps, assign, bd, hy, hR⟩ := HY.out D1 ys (cyc (comm r u) n (k : Int), _) wr w3 hd0 hd1 HC.out.j B3.out O3.out (by rw [HPRE.out]; have := cso_pre (comm r u) n (k + 1) (n - (k + 1)); rwa [show k + 1 + (n - (k + 1)) = n by omega] at this)
        dsimp only at hy
        have HR := Lib.hid hR
        clear hm hR
        gi_wp2_with (gi_at_call 100; refine (callsIn_wide.2 HN.out).mono ?_; rintro e w4 ⟨rfl, rfl⟩)
        have GG := Lib.hid (HC.out.g.keep B3.out HC.out.g.lt)
        have AA := Lib.hid (AK.out.keep B3.out AK.out.lt)
        refine (roundIn_any _ HR.out).mono ?_
        rintro e W' (⟨rfl, hJ', hk'⟩ | ⟨rfl, hJx'⟩)
        · have HJ' := Lib.hid hJ'; have HK := Lib.hid hk'; clear hJ' hk' hy
          have hs4 := HK.out.size
          gi_wp2
          go_roundw
          case rel => exact ⟨k + 1, D1, _, by omega, by go_num, HK.out.box.trans GG.out, ⟨hK2, (HK.out.mid _ hs1 hK2).trans AA.out⟩, hd0, by omega, by rw [List.map_append]; exact HPRE.out, HJ'.out⟩
          case measure => simp [intOf]; omega
        · have HX := Lib.hid hJx'; clear hJx' hy
          gi_wp2
          refine bodyPost_ret (results_none rfl _ _ _) rfl ?_
          refine ⟨⟨_, rfl⟩, .inr ⟨D1, _, ?_, HX.out⟩⟩
          rw [List.map_append]
          have := cso_pre (comm r u) n (k + 1) (n - (k + 1))
          rw [show k + 1 + (n - (k + 1)) = n by omega, ← HPRE.out] at this
          exact this
      · have NX := Lib.hid (cso_no HB.out hlt hm)
        have hm2 : (Lib.minOf (cyc (comm r u) n (k : Int)) == (k : Int)) = false := by simpa using hm
        clear hm
        gi_wp2_with (gi_at_call 100; refine (callsIn_wide.2 HN.out).mono ?_; rintro e w4 ⟨rfl, rfl⟩)
        refine ⟨fun _ h => (by cases h), ?_⟩
        gi_wp2
        go_roundw
        case rel => exact ⟨k + 1, D1, ys, by omega, by go_num, HC.out.g.keep B3.out HC.out.g.lt, ⟨hK2, AK.out.keep B3.out AK.out.lt⟩, hd0, by omega, by rw [NX.out]; exact HC.out.fst, HJ.out _ _ _ _ HC.out.j B3.out⟩
        case measure => simp [intOf]; omega
    · obtain rfl : k = n := by omega
      gi_wp2
      go_end0
      exact ⟨⟨_, rfl⟩, .inl ⟨D1, ys, HC.out.fst, HC.out.j⟩⟩
end Go.Proofs.Ytafpbnjfmieamaa.gl

/-
  slices.Collect over an iterator of rows; the program's corners and CornersOf.
-/
namespace Go.Proofs.Ytafpbnjfmieamaa.gl
open Go.ChangeShapes Go.WideShapes Go.ChangeAt Go.RowKit
open Go.Proofs.Ytafpbnjfmieamaa.mem Go.Proofs.Ytafpbnjfmieamaa.ints Go.Proofs.Ytafpbnjfmieamaa.arr Go.Proofs.Ytafpbnjfmieamaa.pm Go.Proofs.Ytafpbnjfmieamaa.permOk Go.Proofs.Ytafpbnjfmieamaa.permOf Go.Proofs.Ytafpbnjfmieamaa.inv Go.Proofs.Ytafpbnjfmieamaa.fns Go.Proofs.Ytafpbnjfmieamaa.sf Go.Proofs.Ytafpbnjfmieamaa.rf Go.Proofs.Ytafpbnjfmieamaa.mat
set_option linter.unusedVariables false
set_option maxRecDepth 100000
attribute [local go_sem] Oper.semAt_some

/-- 'out = append(out, u)' in a round: as wpList_append_one2. -/
theorem in_append_one2 {P : Program} {ops : Array Oper} {rest : List Oper} {o : Oper} {a : Act} {Q : Exit → Act → World → Prop} {m l : Nat} (W : World) (u : Value) (ty : TypeId) (hgd : o.guard = none) (s x : Operand) (t : TypeId)
    (ho : o.op = .call { callee := .builtin .append, args := #[s, x], argTypes := #[t, t] })
    (base : Nat) (e : TypeId) (i : TypeInfo) (z : Value) (bytes size : Nat) (ht : P.underlying t = some (.slice e)) (hi : P.info? e = some i) (hz : i.zero = some z)
    (hsize : i.size = size) (hone : size = 1) (hby : i.bytes = bytes) (hzs : z.cells.size = 1)
    (v : Value) (n : Nat) (xs : List Value) (hs : a.eval s = v) (hown : W.ownsRow base e 1 v n xs)
    (hx : a.eval x = .slice (some ⟨W.heap.size, 0, none⟩) 1 1) (h1 : u.oneCell' = true)
    (hbytes : (n + 1) * bytes ≤ 140737488355328) (hb0 : 0 < bytes) (hbase : base ≤ W.heap.size)
    (h : ∀ v' w', w'.ownsRow base e 1 v' (n + 1) (xs ++ [u]) → W.grownBy w' v.ownBlock → (v'.ownBlock = v.ownBlock ∨ ∃ k, v'.ownBlock = some k ∧ W.heap.size + 1 ≤ k) → wpListIn (Fence.wide.inRound l) m P ops Q rest (a.put o.dst v') w') : wpListIn (Fence.wide.inRound l) m P ops Q (o :: rest) a (W.alloc (.cells #[u] ty)) := by
  refine wpListIn_plain hgd fun K hK => wpIn_of_wp m l (by rw [ho]; intro c q; cases q) ?_
  subst hone
  have h63 : n + 1 ≤ maxLen := by
    have : (n + 1) * 1 ≤ (n + 1) * bytes := Nat.mul_le_mul_left _ hb0
    unfold maxLen; omega
  have hcell : (W.alloc (.cells #[u] ty)).cell? ⟨W.heap.size, 0, none⟩ = some u := by simp
  have hc : ∀ j q, [u][j]? = some q → (W.alloc (.cells #[u] ty)).cell? ((⟨W.heap.size, 0, none⟩ : Addr).add j) = some q := by
    intro j q hj
    match j, hj with
    | 0, hj => simp at hj; subst hj; simp [Addr.add]
  have hu : ∀ q ∈ [u], q.oneCell' = true := by intro q hq; simp at hq; subst hq; exact h1
  obtain ⟨v', w', hr, own', grown', _⟩ := run_append_own (P := P) (W.alloc (.cells #[u] ty)) base t o.type e i z 1 bytes ht hi hz hsize hby hzs (by decide) v n xs (hown.alloc _) ⟨W.heap.size, 0, none⟩ 1 1 [u] rfl hc hu h63 hbytes (by simp; omega)
  have hwh := one_where (P := P) (W.alloc (.cells #[u] ty)) base t o.type e i z bytes ht hi hz hsize hby hzs v n xs (hown.alloc _) ⟨W.heap.size, 0, none⟩ u hcell (by simp [Addr.add]) h1 hbytes h63 hr
  have hgo := h v' w' own' (grown_trans (World.grownBy_alloc W _ _) grown') (by simpa using hwh)
  simp [Oper.wp, execOp, ho, resolve, invoke, builtin, hs, hx, hr]
  exact hK _ _ hgo
theorem Seq.later {P : Program} {gf : Nat} {lb : Array Value} {bg : Nat} {L : List (List Int)} {w w' : World} (h : rf.Seq P gf lb bg L w) (hb : Below w.heap.size w w') : rf.Seq P gf lb bg L w' :=
  fun n m l W J Jx hW => h n m l W J Jx (hb.trans (hW.mono hb.size))
/-- What the appending has come to: the boxed slice, its rows. -/
def Ap (w0 : World) (S D1 : Nat) (pre : List Rw) (W : World) : Prop :=
  S + 2 ≤ D1 ∧ D1 ≤ W.heap.size ∧ Below w0.heap.size w0 W ∧ ∃ v, Arr W w0.heap.size [v] 28 ∧ Mg W D1 D1 w0.heap.size v (pre.map Prod.fst)
theorem Ap.out {w0 A B : World} {S D1 : Nat} {pre : List Rw} (h : Ap w0 S D1 pre A) (hS : w0.heap.size < S) (ho : Out S (S + 2) A B) : Ap w0 S D1 pre B := by
  obtain ⟨h1, h2, h3, v, h4, h5⟩ := h
  have hs := ho.size
  exact ⟨h1, by omega, h3.trans (ho.below (by omega) (by have := h3.size; omega)), v, (ho.block _ (by omega) (.inl hS)).trans h4, h5.keep hs (Nat.le_refl _) (by omega) (fun b q1 q2 _ => ho.block b q2 (.inr (by omega)))⟩
theorem infoII' : (Try.prog.info? 23).map (fun i => (i.zero, i.size, i.bytes)) = some (some (.slice none 0 0), 1, 24) := by kernel_rfl

set_option maxHeartbeats 1000000 in
theorem corners_any (p q : List Int) (n : Nat) (w : World) (hp : p.length = 24) (hq : q.length = 24) :
    Calls Try.prog 80 #[.agg (V (gl p q n)).toArray] w fun e w' => e = .returned (.func (.func 97) #[] #[.pointer (some ⟨w.heap.size, 0, none⟩)]) ∧ w' = w.alloc (.cells (V (gl p q n)).toArray 62) := by
  go_enter Try.func80, Try.ntmps80
  go_wp2
  go_ret
  exact ⟨rfl, rfl⟩
theorem corners_enters : ∀ args w, (callFunc 97 args).run Try.prog w = .ok (.enter 97 args) w := enters_of Try.func97 (by kernel_rfl) rfl
end Go.Proofs.Ytafpbnjfmieamaa.gl

/-
  Contract of the program's CornersOf.
-/
namespace Go.Proofs.Ytafpbnjfmieamaa.gl
open Go.ChangeShapes Go.WideShapes Go.ChangeAt Go.RowKit
open Go.Proofs.Ytafpbnjfmieamaa.mem Go.Proofs.Ytafpbnjfmieamaa.ints Go.Proofs.Ytafpbnjfmieamaa.arr Go.Proofs.Ytafpbnjfmieamaa.pm Go.Proofs.Ytafpbnjfmieamaa.permOk Go.Proofs.Ytafpbnjfmieamaa.permOf Go.Proofs.Ytafpbnjfmieamaa.inv Go.Proofs.Ytafpbnjfmieamaa.fns Go.Proofs.Ytafpbnjfmieamaa.sf Go.Proofs.Ytafpbnjfmieamaa.mat Go.Proofs.Ytafpbnjfmieamaa.rf
set_option linter.unusedVariables false
set_option maxRecDepth 100000

theorem cso_pos {n : Nat} {ps : List Int} (hb : Bij n ps) : ∀ c ∈ cso ps n n, 0 < c.length := by
  intro c hc
  obtain ⟨i, hi, rfl⟩ := cso_cyc n (Nat.le_refl _) c hc
  exact (cyc_way (f := (i : Int)) hb (by omega) (by omega)).pos
theorem cso_le {n : Nat} {ps : List Int} (hb : Bij n ps) : (cso ps n n).length ≤ n := (cso_cs hb n (Nat.le_refl _)).len

theorem corF_bnd (r u : List Int) : (corF r u).length ≤ 1048576 ∧ tot (corF r u) ≤ 1048576 := by
  have := corF_small r u
  exact ⟨by omega, by have := this.2; unfold tot; omega⟩end Go.Proofs.Ytafpbnjfmieamaa.gl

/-
  The program's angles: the lengths of the corners, sorted, turned round; AnglesOf.
-/
namespace Go.Proofs.Ytafpbnjfmieamaa.gl
open Go.ChangeShapes Go.WideShapes Go.ChangeAt Go.RowKit
open Go.Proofs.Ytafpbnjfmieamaa.mem Go.Proofs.Ytafpbnjfmieamaa.ints Go.Proofs.Ytafpbnjfmieamaa.arr Go.Proofs.Ytafpbnjfmieamaa.pm Go.Proofs.Ytafpbnjfmieamaa.permOk Go.Proofs.Ytafpbnjfmieamaa.permOf Go.Proofs.Ytafpbnjfmieamaa.inv Go.Proofs.Ytafpbnjfmieamaa.fns Go.Proofs.Ytafpbnjfmieamaa.sf Go.Proofs.Ytafpbnjfmieamaa.mat Go.Proofs.Ytafpbnjfmieamaa.rf
set_option linter.unusedVariables false
set_option maxRecDepth 100000
open Go.Sort
attribute [local go_sem] Oper.semAt_some

theorem holds_row {w : World} {base g cap : Nat} {e : TypeId} {l : List Int} (h : w.ownsRow base e 1 (.slice (some ⟨g, 0, none⟩) l.length cap) l.length (V l)) : Go.Sort.Holds (Value.int .i64) w g 0 l.toArray := by
  intro j hj
  have hj' : j < l.length := by simpa using hj
  rw [Nat.zero_add]
  refine ⟨?_, h.frozenAt j⟩
  rw [h.cellAt j (by omega), V_getD hj']
  simp [List.getD, hj']
theorem put_heap {w : World} {g n : Nat} {os : Array Obj} {cur : Array Value} {e : TypeId} {fr : Nat × Nat} (d : Array Int) (hb : w.heap[g]? = some (.cells cur e fr)) :
    (grow (putRow (Value.int .i64) (Sort.ahead w n) g 0 d) os).heap[g]? = some (.cells (putCells (Value.int .i64) 0 d cur) e fr) := by
  have hg : g < w.heap.size := (Array.getElem?_eq_some_iff.1 hb).1
  rw [heap_grow_old _ _ (by simpa using hg)]
  simp [putRow, mapBlock, Sort.ahead, Array.getElem?_modify, hb, onCells]
theorem put_grown {w : World} {g n : Nat} {os : Array Obj} (d : Array Int) : w.grownBy (grow (putRow (Value.int .i64) (Sort.ahead w n) g 0 d) os) (some g) := by
  refine ⟨rfl, rfl, rfl, by simp, fun k hk hne => ?_⟩
  rw [heap_grow_old _ _ (by simpa using hk)]
  have : g ≠ k := fun e => hne (by rw [e])
  simp [putRow, mapBlock, Sort.ahead, Array.getElem?_modify, this]
theorem put_own {w : World} {base g cap n : Nat} {e : TypeId} {os : Array Obj} {l m : List Int} (hl : m.length = l.length) (h : w.ownsRow base e 1 (.slice (some ⟨g, 0, none⟩) l.length cap) l.length (V l)) :
    (grow (putRow (Value.int .i64) (Sort.ahead w n) g 0 m.toArray) os).ownsRow base e 1 (.slice (some ⟨g, 0, none⟩) m.length cap) m.length (V m) := by
  rcases h.2 with ⟨h0, _⟩ | ⟨g', cap', cur, q1, q2, q3, q4, q5, q6, q7⟩
  · cases h0
  · injection q1 with e1 e2 e3
    injection e1 with e1
    injection e1 with e1
    subst e1; subst e3
    refine ⟨by simp [V], .inr ⟨g, cap, _, by rw [hl], q2, put_heap _ q3, by omega, q5, by simp [putCells, q6], ?_⟩⟩
    rw [Nat.mul_one]
    apply List.ext_getElem?
    intro j
    by_cases hj : j < m.length
    · rw [List.getElem?_take_of_lt hj, Array.getElem?_toList]
      have : j < cur.size := by omega
      simp [putCells, hj, this, V]
    · rw [List.getElem?_take_eq_none (by omega), List.getElem?_eq_none (by simp [V]; omega)]
theorem grow_none (w : World) : grow w #[] = w := by simp [grow]
theorem sort_desc (l : List Int) : (l.mergeSort fun x y => decide (x ≤ y)).reverse = sortD l := by
  have h1 : (l.mergeSort fun x y => decide (x ≤ y)).Pairwise (fun x y => decide (x ≤ y) = true) := List.pairwise_mergeSort (fun a b c => by simp; omega) (fun a b => by simp; omega) l
  refine List.Perm.eq_of_pairwise (le := fun a b => b ≤ a) (fun a b _ _ h1 h2 => by omega) ?_ (sortD_desc l) ((List.reverse_perm _).trans ((List.mergeSort_perm _ _).trans (sortD_perm l).symm))
  rw [List.pairwise_reverse]
  exact h1.imp (fun {a b} h => by simpa using h)
/-- What the counting of the corners has come to. -/
def Al (w0 : World) (S D1 : Nat) (pre : List Rw) (W : World) : Prop :=
  S + 2 ≤ D1 ∧ D1 ≤ W.heap.size ∧ Below w0.heap.size w0 W ∧ ∃ v, Arr W (w0.heap.size + 1) [v] 23 ∧ W.ownsRow D1 3 1 v (lensF (pre.map Prod.fst)).length (V (lensF (pre.map Prod.fst)))
theorem own_out {A B : World} {base S : Nat} {e : TypeId} {v : Value} {n : Nat} {xs : List Value} (h : A.ownsRow base e 1 v n xs) (hS : S + 2 ≤ base) (ho : Out S (S + 2) A B) : B.ownsRow base e 1 v n xs := by
  refine ⟨h.1, ?_⟩
  rcases h.2 with h0 | ⟨g, cap, cur, q1, q2, q3, q4⟩
  · exact .inl h0
  · exact .inr ⟨g, cap, cur, q1, q2, (ho.block g (Array.getElem?_eq_some_iff.1 q3).1 (.inr (by omega))).trans q3, q4⟩
theorem Al.out {w0 A B : World} {S D1 : Nat} {pre : List Rw} (h : Al w0 S D1 pre A) (hS : w0.heap.size + 1 < S) (ho : Out S (S + 2) A B) : Al w0 S D1 pre B := by
  obtain ⟨h1, h2, h3, v, h4, h5⟩ := h
  have hs := ho.size
  exact ⟨h1, by omega, h3.trans (ho.below (by omega) (by have := h3.size; omega)), v, (ho.block _ h4.lt (.inl hS)).trans h4, own_out h5 h1 ho⟩

set_option maxHeartbeats 4000000 in
theorem angles_any (r u : List Int) (n : Nat) (w : World) (hs : Sf n r u) :
    Calls Try.prog 53 #[.agg (V (gl (ext r) (ext u) n)).toArray] w (Gives (sortD (lensF (cso (comm r u) n n))) w) := by
  obtain ⟨i0, hi0, hz0, hz1, hz2⟩ := info_parts infoI
  have HS := Lib.hid hs; clear hs
  have hL1 : 0 < (cso (comm r u) n n).length := by
    have h1 := cso_len HS.out.commB; have h2 := HS.out.pos
    cases q : cso (comm r u) n n with
    | nil => rw [q] at h1; simp at h1; omega
    | cons => simp
  have hL2 : (cso (comm r u) n n).length ≤ 1048576 := by have := cso_le HS.out.commB; have := HS.out.small; omega
  have SQ0 := Lib.hid (fun ws hg => corners_seq r u n (w.heap.size + 2) ws HS.out hg)
  generalize cso (comm r u) n n = L at *
  have f1 : Fence.wide.fn 80 := trivial
  have f2 : Fence.wide.fn 81 := trivial
  have f3 : Fence.wide.fn 82 := trivial
  refine (callsIn_wide (n := 9)).1 ?_
  refine callsIn_of_wp_marks Try.func53 rfl trivial ?_ rfl
  simp only [Try.ntmps53, List.size_toArray, List.length_cons, List.length_nil, Nat.reduceAdd, Nat.reduceSub, Array.replicate_succ, Array.replicate_zero, List.push_toArray, List.append_toArray, List.nil_append, List.cons_append]
  have A0 : Hid (Arr ((w.alloc (.cells (V (gl (ext r) (ext u) n)).toArray 62)).alloc (.cells #[.slice none 0 0] 23)) w.heap.size (V (gl (ext r) (ext u) n)) 62) := Lib.hid ((Arr.new w _ _ rfl).alloc _)
  gi_wp2_with (first | (refine in_load_row rfl 62 _ rfl w.heap.size rfl 62 (V (gl (ext r) (ext u) n)).toArray (0, 0) _ A0.out Try.underlying62 rfl (size49 (gl_len (ext_len _) (ext_len _) n)) ?_) | (gi_at_call 80; refine (callsIn_wide.2 (corners_any (ext r) (ext u) n _ (ext_len _) (ext_len _))).mono ?_; rintro e w' ⟨rfl, rfl⟩))
  generalize hws : ((w.alloc (.cells (V (gl (ext r) (ext u) n)).toArray 62)).alloc (.cells #[.slice none 0 0] 23)).alloc (.cells (V (gl (ext r) (ext u) n)).toArray 62) = ws

  have HZ : Hid (ws.heap.size = w.heap.size + 3) := Lib.hid (by rw [← hws]; simp)
  have BW : Hid (Below w.heap.size w ws) := Lib.hid (by rw [← hws]; exact (((Below.refl _ _).alloc (Nat.le_refl _) _).alloc (by simp) _).alloc (by simp <;> omega) _)
  have AW : Hid (Arr ws (w.heap.size + 1) [.slice none 0 0] 23) := Lib.hid (by rw [← hws]; exact (Arr.new _ [.slice none 0 0] _ (by simp)).alloc _)
  have AG : Hid (Arr ws (w.heap.size + 2) (V (gl (ext r) (ext u) n)) 62) := Lib.hid (by rw [← hws]; exact Arr.new _ _ _ (by simp))
  clear hws A0
  refine range_rows (L := L) (bg := w.heap.size + 2) (gf := 97) (lb := #[.pointer (some ⟨w.heap.size + 1 + 1, 0, none⟩)]) rfl rfl corners_enters (SQ0.out ws AG.out) (by have := HZ.out; omega) (fun D1 pre W => Al w ws.heap.size D1 pre W) (fun _ _ _ => False)
    (fun D1 pre A B h ho => Al.out h (by have := HZ.out; omega) ho) (fun _ _ _ _ h _ => h.elim) ?start (fun x => { tmps := #[.agg (V (gl (ext r) (ext u) n)).toArray, .pointer (some ⟨w.heap.size, 0, none⟩), .slice none 0 0, .pointer (some ⟨w.heap.size + 1, 0, none⟩), x, .agg (V (gl (ext r) (ext u) n)).toArray, .func (.func 97) #[] #[.pointer (some ⟨w.heap.size + 1 + 1, 0, none⟩)], x, undef, undef, undef, undef, undef, undef, undef, undef, undef, undef], defers := [] }) ?assign ?body ?done ?stop
  case start =>
    intro W' hb hs
    exact ⟨hs, Nat.le_refl _, BW.out.trans (hb.mono BW.out.size), _, AW.out.keep hb (by have := HZ.out; omega), ⟨rfl, .inl ⟨rfl, rfl⟩⟩⟩
  case assign =>
    intro l m x W K hK
    gi_wp2
    exact hK
  case body =>
    rintro m D1 pre x W0 W1 hD hD0 hI ho hx hpre
    obtain ⟨xs, xv⟩ := x
    have hpl : pre.length + 1 ≤ L.length := by have := hpre.length_le; simpa using this
    obtain ⟨_, hD1, B1, v, A1, own⟩ := Al.out hI (by have := HZ.out; omega) ho
    obtain ⟨C, cc, rfl⟩ := own_form own
    have hxr : W1.ownsRow W0.heap.size 3 1 xv xs.length (V xs) := hx
    obtain ⟨XA, xc, rfl⟩ := own_form hxr
    have OWN := Lib.hid own; have HA := Lib.hid A1; have HB := Lib.hid B1
    have VLT : Hid (∀ b, (Value.slice C (lensF (pre.map Prod.fst)).length cc).ownBlock = some b → D1 ≤ b ∧ b < W1.heap.size) := Lib.hid (fun b e => own.lt b e)
    have PM : Hid (lensF ((pre ++ [(xs, Value.slice XA xs.length xc)]).map Prod.fst) = lensF (pre.map Prod.fst) ++ [(xs.length : Int)]) := Lib.hid (by simp [lensF])
    have ML : (lensF (pre.map Prod.fst)).length ≤ 1048576 := by simp [lensF]; omega
    have hc := A1.cell (k := 0) rfl
    have hbS := A1.lt
    have hz3 : w.heap.size + 3 ≤ ws.heap.size := by have := HZ.out; omega
    have hz4 : ws.heap.size ≤ w.heap.size + 3 := by have := HZ.out; omega
    clear hx hxr ho hI own A1 B1 hpre
    generalize lensF (pre.map Prod.fst) = ls at *
    gi_wp2_with (gi_at_builtin; refine in_append_one2 W1 _ _ rfl _ _ 23 rfl D1 3 i0 _ 8 1 Try.underlying23 hi0 hz0 hz1 rfl hz2 rfl _ _ _ rfl OWN.out rfl rfl ?c4 (by decide) (by omega) ?_)
    case c4 => omega
    intro v' w' ho' hg hb
    obtain ⟨C', cc', rfl⟩ := own_form ho'
    have HN : Hid (w'.ownsRow D1 3 1 (.slice C' (ls.length + 1) cc') (ls ++ [(xs.length : Int)]).length (V (ls ++ [(xs.length : Int)]))) := Lib.hid (by
      have e : V (ls ++ [(xs.length : Int)]) = V ls ++ [.int .i64 (xs.length : Int)] := by simp [V]
      rw [e]; simpa using ho')
    have A2 : Arr w' (w.heap.size + 1) [.slice C ls.length cc] 23 := (hg.block _ hbS (fun e => by have := (VLT.out _ e.symm).1; omega)).trans HA.out
    have HA2 := Lib.hid A2
    have hgs := hg.size
    have hc2 := A2.cell (k := 0) rfl
    have hf2 := A2.frozen 0
    have HG := Lib.hid hg
    have HK : Hid (∀ k, k < D1 → w'.heap[k]? = W1.heap[k]?) := Lib.hid (fun k q => HG.out.block k (by omega) (fun e => by have := (VLT.out _ e.symm).1; omega))
    clear hg hb ho' A2 hc
    gi_wp2
    have HM : Hid (∀ k, k ≠ w.heap.size + 1 → (w'.setCell ⟨w.heap.size + 1, 0, none⟩ (.slice C' (ls.length + 1) cc')).heap[k]? = w'.heap[k]?) := Lib.hid (fun k q => Below.heap_setCell _ _ _ _ q)
    refine ⟨⟨by simpa [World.setCell] using hgs, (HM.out _ (by omega)).trans (HK.out _ (by omega)), fun k q1 q2 => (HM.out _ (by omega)).trans (HK.out _ q2)⟩, ?_⟩
    refine ⟨hD, by simp [World.setCell]; omega, ?_, .slice C' (ls.length + 1) cc', ?_, ?_⟩
    · exact (HB.out.trans ((Below.refl _ _).grown HG.out HB.out.size (fun b e => by have := (VLT.out b e).1; omega))).setCell (by simp) _
    · have := HA2.out.set_ 0 (.slice C' (ls.length + 1) cc'); simpa using this
    · rw [PM.out]
      refine ⟨HN.out.1, ?_⟩
      rcases HN.out.2 with h0 | ⟨g, cap, cur, q1, q2, q3, q4⟩
      · exact .inl h0
      · exact .inr ⟨g, cap, cur, q1, q2, (HM.out g (by omega)).trans q3, q4⟩
  case done =>
    rintro D1 ys W rfl hI hd
    obtain ⟨h1, h2, hB, v, hA, own⟩ := hI
    have hl1 : (lensF (ys.map Prod.fst)).length ≤ 1048576 := by simp [lensF]; simpa using hL2
    have hl0 : 0 < (lensF (ys.map Prod.fst)).length := by simp [lensF]; simpa using hL1
    clear SQ0 hL1 hL2
    generalize lensF (ys.map Prod.fst) = ls at *
    obtain ⟨C, cc, rfl⟩ := own_form own
    obtain ⟨g, rfl⟩ : ∃ g, C = some ⟨g, 0, none⟩ := by
      rcases own.2 with ⟨_, hn0⟩ | ⟨g, cap, cur, q1, _⟩
      · omega
      · injection q1 with q1; exact ⟨g, q1⟩
    obtain ⟨hg1, hg2⟩ := own.lt g rfl
    have hz3 : w.heap.size + 3 ≤ ws.heap.size := by have := HZ.out; omega
    have hc := hA.cell (k := 0) rfl
    have CS := Lib.hid (Try.slices_Sort_int g 0 cc ls W (holds_row own) hg2 (by omega))
    have OWN := Lib.hid own; have HA := Lib.hid hA; have HB := Lib.hid hB; have HD := Lib.hid hd
    clear own hA hB hd
    gi_wp2_with (gi_at_call 81; refine (callsIn_wide.2 CS.out).mono ?_; rintro e w1 ⟨rfl, nn, os, hw1⟩; have O1 : Hid (w1.ownsRow D1 3 1 (.slice (some ⟨g, 0, none⟩) (ls.mergeSort fun x y => decide (x ≤ y)).length cc) (ls.mergeSort fun x y => decide (x ≤ y)).length (V (ls.mergeSort fun x y => decide (x ≤ y)))) := Lib.hid (by rw [hw1]; exact put_own (by simp) OWN.out); have G1 : W.grownBy w1 (some g) := (by rw [hw1]; exact put_grown _); clear hw1; have hs1 := G1.size; have A1 : Arr w1 (w.heap.size + 1) [.slice (some ⟨g, 0, none⟩) ls.length cc] 23 := (G1.block _ HA.out.lt (by simp; omega)).trans HA.out; have D2 : w1.heap[ws.heap.size]? = some (.deferred (some [])) := (G1.block _ (by omega) (by simp; omega)).trans HD.out; have HA1 := Lib.hid A1; have HD1 := Lib.hid D2; have HB1 := Lib.hid (HB.out.trans ((Below.refl _ _).grown G1 HB.out.size (fun b e => by injection e with e; omega))); have hc1 := A1.cell (k := 0) rfl; have CR := Try.slices_Reverse_int g 0 cc (ls.mergeSort fun x y => decide (x ≤ y)) w1 (holds_row O1.out) (by simp; omega); rw [List.length_mergeSort] at CR; have CRH := Lib.hid CR; clear CR G1 A1 D2 hc)
    refine (callsIn_wide.2 CRH.out).mono ?_
    rintro e w2 ⟨rfl, nn2, hw2⟩
    have O2 : Hid (w2.ownsRow D1 3 1 (.slice (some ⟨g, 0, none⟩) ls.length cc) ls.length (V (sortD ls))) := Lib.hid (by
      have h := put_own (n := nn2) (os := #[]) (m := (ls.mergeSort fun x y => decide (x ≤ y)).reverse) (by simp) O1.out
      rw [grow_none, ← hw2, sort_desc, sortD_len] at h
      exact h)
    have G2 : w1.grownBy w2 (some g) := by
      rw [hw2]
      have h := put_grown (w := w1) (g := g) (n := nn2) (os := #[]) (ls.mergeSort fun x y => decide (x ≤ y)).reverse.toArray
      rwa [grow_none] at h
    clear hw2
    have hs2 := G2.size
    have A2 : Arr w2 (w.heap.size + 1) [.slice (some ⟨g, 0, none⟩) ls.length cc] 23 := (G2.block _ HA1.out.lt (by simp; omega)).trans HA1.out
    have D2 : Hid (w2.heap[ws.heap.size]? = some (.deferred (some []))) := Lib.hid ((G2.block _ (by omega) (by simp; omega)).trans HD1.out)
    have HB2 := Lib.hid (HB1.out.trans ((Below.refl _ _).grown G2 HB1.out.size (fun b e => by injection e with e; omega)))
    have hc2 := A2.cell (k := 0) rfl
    clear G2 A2 hc1 CRH
    gi_wp2
    refine ⟨by simp, .inl ⟨_, _, rfl, run_takeDeferred D2.out, ?_⟩⟩
    refine ⟨_, results_tmp rfl _ _ _, _, rfl, ?_, ?_⟩
    · rw [sortD_len]
      exact own_base (own_out O2.out h1 (out_put (lo := ws.heap.size) (hi := ws.heap.size + 2) _ (Nat.le_refl _) (by omega))) (by omega)
    · exact HB2.out.trans ((out_put (lo := ws.heap.size) (hi := ws.heap.size + 2) _ (Nat.le_refl _) (by omega)).below (by omega) HB2.out.size)
  case stop => exact fun _ _ _ _ h _ => h.elim
end Go.Proofs.Ytafpbnjfmieamaa.gl

/-
  Contracts of the model's GenusOf and IsRegularCorner.
-/
namespace Go.Proofs.Ytafpbnjfmieamaa.gl
open Go.ChangeShapes Go.WideShapes Go.ChangeAt Go.RowKit
open Go.Proofs.Ytafpbnjfmieamaa.mem Go.Proofs.Ytafpbnjfmieamaa.ints Go.Proofs.Ytafpbnjfmieamaa.arr Go.Proofs.Ytafpbnjfmieamaa.pm Go.Proofs.Ytafpbnjfmieamaa.permOk Go.Proofs.Ytafpbnjfmieamaa.permOf Go.Proofs.Ytafpbnjfmieamaa.inv Go.Proofs.Ytafpbnjfmieamaa.fns Go.Proofs.Ytafpbnjfmieamaa.sf Go.Proofs.Ytafpbnjfmieamaa.mat
set_option linter.unusedVariables false
set_option maxRecDepth 100000

theorem corF_le (r u : List Int) : (corF r u).length ≤ r.length := by
  cases h : transB r u with
  | false => rw [corF_no h]; simp
  | true =>
    have s := transB_iff.1 h
    rw [corF_yes h]
    exact (cso_cs s.commB r.length (Nat.le_refl _)).len
theorem genF_yes {r u : List Int} (h : transB r u = true) {n : Nat} (hn : r.length = n) : genF r u = 1 + ((n : Int) - ((corF r u).length : Int)) / 2 := by subst hn; simp [genF, h]
theorem genF_no {r u : List Int} (h : transB r u = false) : genF r u = -1 := by simp [genF, h]
theorem wrap_in {a : Int} (h1 : -100 ≤ a) (h2 : a ≤ 100) : IntKind.i64.wrap a = a := IntWalk.i64_in _ (by omega)

theorem regF_not {r u : List Int} (h : transB r u = false) (a : Int) : regF r u a = false := by simp [regF, h]
theorem regF_neg {r u : List Int} {a : Int} (h : a < 0) : regF r u a = false := by
  have : decide (0 ≤ a) = false := by simp; omega
  simp [regF, this]
theorem regF_big {r u : List Int} {a : Int} (h : (r.length : Int) ≤ a) : regF r u a = false := by
  have : decide (a < (r.length : Int)) = false := by simp; omega
  simp [regF, this]
theorem regF_in {r u : List Int} (h : transB r u = true) {f : Nat} (hf : f < r.length) {z : Int} (hz : (comm r u).getD f 0 = z) : regF r u (f : Int) = (z == (f : Int)) := by
  subst hz
  have h1 : decide (0 ≤ (f : Int)) = true := by simp
  have h2 : decide ((f : Int) < (r.length : Int)) = true := by simp; omega
  unfold regF
  rw [h, h1, h2, Int.toNat_natCast, Bool.eq_iff_iff]
  simp
end Go.Proofs.Ytafpbnjfmieamaa.gl
