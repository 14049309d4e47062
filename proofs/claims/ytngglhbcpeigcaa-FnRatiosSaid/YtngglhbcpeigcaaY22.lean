import Derived.Test.YtngglhbcpeigcaaY18
import Derived.Test.YtngglhbcpeigcaaY21
import Derived.Laws.StructEq
import Derived.Test.YtngglhbcpeigcaaY08
/-
  FnRatios: a drawn fraction (MakeRatio of the model).
-/
namespace Go.Proofs.Ytngglhbcpeigcaa.rat
open Go.ChangeShapes Go.WideShapes Go.ChangeAt Go.RowKit
open Go.Proofs.Ytngglhbcpeigcaa.mem Go.Proofs.Ytngglhbcpeigcaa.ints Go.Proofs.Ytngglhbcpeigcaa.arr Go.Proofs.Ytngglhbcpeigcaa.pm Go.Proofs.Ytngglhbcpeigcaa.permOk Go.Proofs.Ytngglhbcpeigcaa.cur
set_option linter.unusedVariables false
set_option maxRecDepth 100000
set_option linter.unusedSimpArgs false

def MrPost (w : World) (e : Ending) (w' : World) : Prop := ∃ q : Int × Int, e = .returned (rv q) ∧ (∃ A B : Int, Is q A B) ∧ Sm q 30 24 ∧ Below w.heap.size w w'
theorem mr_ok {x d : Int} (h : -30 ≤ x ∧ x ≤ 30) (g : 1 ≤ d ∧ d ≤ 24) : (∃ A B : Int, Is (ofF x d) A B) ∧ Sm (ofF x d) 30 24 := by
  have h1 : 1 ≤ d ∧ d ≤ MP := ⟨g.1, by simp only [MP]; omega⟩
  have h2 : -MP ≤ x ∧ x ≤ MP := ⟨by simp only [MP]; omega, by simp only [MP]; omega⟩
  exact ⟨⟨x, d, Is.ofF h1 h2⟩, (Sm.ofF h1 h2).mono (by omega) (by omega)⟩
theorem nx_of {q1 q2 : Int × Int} {N1 D1 N2 D2 : Nat} (o1 : okR q1.1 q1.2 = true) (o2 : okR q2.1 q2.2 = true) (s1 : Sm q1 N1 D1) (s2 : Sm q2 N2 D2) (hn : N1 * D2 + N2 * D1 ≤ 1000000000000) (hd : D1 * D2 ≤ 1000000000000) : Nx q1.1 q1.2 q2.1 q2.2 := by
  have l1 := Nat.mul_le_mul s1.num s2.den
  have l2 := Nat.mul_le_mul s2.num s1.den
  have l3 := Nat.mul_le_mul s1.den s2.den
  exact ⟨o1, o2, by omega, by omega⟩
/-- What FnRatios asks of its three fractions. -/
structure Rt (a b c p q x : Int × Int) : Prop where
  ab : rsF a.1 a.2 b.1 b.2 = p
  ba : rsF b.1 b.2 a.1 a.2 = p
  bc : rsF b.1 b.2 c.1 c.2 = q
  pc : rsF p.1 p.2 c.1 c.2 = x
  aq : rsF a.1 a.2 q.1 q.2 = x
  nab : Nx a.1 a.2 b.1 b.2
  nba : Nx b.1 b.2 a.1 a.2
  nbc : Nx b.1 b.2 c.1 c.2
  npc : Nx p.1 p.2 c.1 c.2
  naq : Nx a.1 a.2 q.1 q.2
  ok : okR x.1 x.2 = true
theorem rt_all {a b c : Int × Int} (va : ∃ A B : Int, Is a A B) (vb : ∃ A B : Int, Is b A B) (vc : ∃ A B : Int, Is c A B) (sa : Sm a 30 24) (sb : Sm b 30 24) (sc : Sm c 30 24) : ∃ p q x, Rt a b c p q x := by
  obtain ⟨_, _, va⟩ := va
  obtain ⟨_, _, vb⟩ := vb
  obtain ⟨_, _, vc⟩ := vc
  obtain ⟨o, e1, e2⟩ := rs_three va vb vc sa sb sc
  have ab := va.sum vb sa sb (by omega) (by omega)
  have bc := vb.sum vc sb sc (by omega) (by omega)
  exact ⟨_, _, _, rfl, e2.symm, rfl, rfl, e1.symm, nx_of va.ok vb.ok sa sb (by omega) (by omega), nx_of vb.ok va.ok sb sa (by omega) (by omega), nx_of vb.ok vc.ok sb sc (by omega) (by omega), nx_of ab.1.ok vc.ok ab.2 sc (by omega) (by omega), nx_of va.ok bc.1.ok sa bc.2 (by omega) (by omega), o⟩
set_option maxHeartbeats 1000000 in
theorem mr_any (w : World) (hi : Nat) (A : Option Addr) (n c : Nat) (l : List Int) (k : Nat) (hk : k ≤ 100) (hhi : hi ≤ w.heap.size) (hc : cur.Code w hi A n l) :
    Calls Try.prog 7 #[.slice A n c, .int .i64 k] w (MrPost w) := by
  have HC := Lib.hid hc; clear hc
  go_enter Try.func7, Try.ntmps7
  go_wp2_with fail
  generalize hw0 : w.alloc (.cells #[.int .i64 0, .int .i64 0] 24) = w0
  have A0 : Hid (Arr w0 w.heap.size [.int .i64 0, .int .i64 0] 24) := Lib.hid (by rw [← hw0]; exact Arr.new w _ _ rfl)
  have b0 : Below w.heap.size w w0 := (by rw [← hw0]; exact (Below.refl _ _).alloc (Nat.le_refl _) _)
  have s0 : w0.heap.size = w.heap.size + 1 := (by rw [← hw0]; simp)
  clear hw0
  refine (skip_any w0 hi A n c l k (by omega) (HC.out.keep b0 hhi)).mono ?_
  rintro e w1 ⟨g, hg, hlt, rfl, hcur, hb⟩
  replace A0 := Lib.hid (A0.out.keep hb A0.out.lt)
  have HCU := Lib.hid hcur; have HB := Lib.hid (b0.trans (hb.mono (by omega))); clear hcur hb HC b0
  go_wp2_with fail
  refine (below_any w1 g A n c l 61 (by omega) (by omega) HCU.out).mono ?_
  rintro e w2 ⟨x, x0, x1, rfl, hcur, ho⟩
  replace HB := Lib.hid (HB.out.trans (ho.below (by omega) HB.out.size))
  replace A0 := Lib.hid (A0.out.out ho (by omega))
  have HC2 := Lib.hid hcur; clear hcur ho HCU
  go_wp2_with fail
  refine (below_any w2 g A n c l 24 (by omega) (by omega) HC2.out).mono ?_
  rintro e w3 ⟨y, y0, y1, rfl, hcur, ho⟩
  replace HB := Lib.hid (HB.out.trans (ho.below (by omega) HB.out.size))
  replace A0 := Lib.hid (A0.out.out ho (by omega))
  clear hcur ho HC2 hg hlt
  go_wp2_with fail
  refine (rof_spec (x - 30) (1 + y) _ (by omega) (by omega) (by omega) (by omega)).mono ?_
  rintro e w4 ⟨rfl, b1⟩
  replace A0 := Lib.hid (A0.out.keep b1 A0.out.lt)
  replace HB := Lib.hid (HB.out.trans (b1.mono HB.out.size)); clear b1
  have HO := Lib.hid (mr_ok (x := x - 30) (d := 1 + y) ⟨by omega, by omega⟩ ⟨by omega, by omega⟩)
  generalize ofF (x - 30) (1 + y) = q at *
  obtain ⟨n', d'⟩ := q
  unfold rv
  go_wp2_with (refine wpList_store_row rfl 24 _ _ rfl w.heap.size #[.int .i64 n', .int .i64 d'] rfl rfl 24 #[.int .i64 0, .int .i64 0] A0.out (sizeR _ _) rfl (by simp [Value.oneCell']) ?_)
  exact bodyPost_ret (v := .agg #[.int .i64 n', .int .i64 d']) (results_cell_row rfl _ _ w.heap.size 24 #[.int .i64 n', .int .i64 d'] (0, 0) _ rfl A0.out.row Try.underlying24 rfl (sizeR _ _)) rfl ⟨(n', d'), rfl, HO.out.1, HO.out.2, below_setRow HB.out (Nat.le_refl _) _⟩
end Go.Proofs.Ytngglhbcpeigcaa.rat

/-
  Fractions compared as structs.
-/
namespace Go.Proofs.Ytngglhbcpeigcaa.rat
open Go.ChangeShapes Go.WideShapes Go.ChangeAt Go.RowKit
open Go.Proofs.Ytngglhbcpeigcaa.mem Go.Proofs.Ytngglhbcpeigcaa.ints Go.Proofs.Ytngglhbcpeigcaa.arr Go.Proofs.Ytngglhbcpeigcaa.sf
set_option linter.unusedVariables false
set_option maxRecDepth 100000
set_option linter.unusedSimpArgs false

theorem eqg_R : Try.prog.eqGuardType Try.prog.depth 24 = false := by kernel_rfl
theorem part_I {cs : Array Value} {off : Nat} {v : Value} (h : cs[off]? = some v) (w : World) : (part 3 cs off).run Try.prog w = .ok v w := run_part_plain w (by kernel_rfl) h
theorem eqv_R (a b : Int) (w : World) : (Op.equalIn 10000 24 (.agg #[.int .i64 a, .int .i64 b]) (.agg #[.int .i64 a, .int .i64 b])).run Try.prog w = .ok true w := by
  have hf : (Try.prog.fieldsOf 24).toList.map (fun f => (f.name, f.type, f.offset)) = [("N", 3, 0), ("D", 3, 1)] := by kernel_rfl
  rw [run_equalIn_struct w 9999 _ _ _ (by kernel_rfl) (by kernel_rfl)]
  generalize (Try.prog.fieldsOf 24).toList = fs at hf
  have hl : fs.length = 2 := by have := congrArg List.length hf; simpa using this
  match fs, hl, hf with
  | [f0, f1], _, hf =>
    simp only [List.map_cons, List.map_nil, List.cons.injEq, Prod.mk.injEq, and_true] at hf
    obtain ⟨⟨a1, a2, a3⟩, b1, b2, b3⟩ := hf
    have x1 : (#[.int .i64 a, .int .i64 b] : Array Value)[0]? = some (.int .i64 a) := rfl
    have x2 : (#[.int .i64 a, .int .i64 b] : Array Value)[1]? = some (.int .i64 b) := rfl
    have e1 : (Op.equalIn 9999 3 (.int .i64 a) (.int .i64 a)).run Try.prog w = .ok ((a : Int) == (a : Int)) w := run_equalIn_int w 9998 _ .i64 .i64 _ _ Try.underlying3
    have e2 : (Op.equalIn 9999 3 (.int .i64 b) (.int .i64 b)).run Try.prog w = .ok ((b : Int) == (b : Int)) w := run_equalIn_int w 9998 _ .i64 .i64 _ _ Try.underlying3
    have n1 : (("N" : String) ≠ "_") = True := by simp
    have n2 : (("D" : String) ≠ "_") = True := by simp
    simp only [Op.eqFields, n1, n2, if_true, a1, a2, a3, b1, b2, b3, Sem.run_bind, part_I x1, part_I x2, Result.andThen_ok, e1, e2, Bool.not_true, Bool.false_eq_true, if_false, beq_self_eq_true, Sem.run_pure]
theorem start_all {w : World} {bs : List (Nat × List Value)} (h : ∀ p ∈ bs, ∃ t, Arr w p.1 p.2 t) : Hld w.heap.size w.heap.size w bs w.drew :=
  ⟨fun p hp => by
    obtain ⟨t, h1⟩ := h p hp
    exact ⟨h1.lt, fun j v hv => by rw [Nat.zero_add]; exact h1.cell hv⟩,
    ⟨rfl, rfl, rfl, Nat.le_refl _, fun _ _ => rfl⟩, Nat.le_refl _⟩
end Go.Proofs.Ytngglhbcpeigcaa.rat

/-
  A gluing renamed.
-/
namespace Go.Proofs.Ytngglhbcpeigcaa.gl
open Go.ChangeShapes Go.WideShapes Go.ChangeAt Go.RowKit
open Go.Proofs.Ytngglhbcpeigcaa.mem Go.Proofs.Ytngglhbcpeigcaa.ints Go.Proofs.Ytngglhbcpeigcaa.arr Go.Proofs.Ytngglhbcpeigcaa.pm Go.Proofs.Ytngglhbcpeigcaa.permOk Go.Proofs.Ytngglhbcpeigcaa.permOf Go.Proofs.Ytngglhbcpeigcaa.inv Go.Proofs.Ytngglhbcpeigcaa.fns Go.Proofs.Ytngglhbcpeigcaa.sf
set_option linter.unusedVariables false
set_option maxRecDepth 100000

/-- p among 24 elements, renamed by ns. -/
def ren24 (p ns : List Int) : List Int := thenL (thenL (invTo 24 ns 24) p) ns
theorem ren24_len (p ns : List Int) : (ren24 p ns).length = 24 := tab_len _
theorem ren24_sq {p ns : List Int} (hp : Sq p) (hn : Sq ns) : Sq (ren24 p ns) := then_sq (then_sq (inv_sq _) hp) hn
theorem ext_ok {xs : List Int} (h : Ok xs) : Ok (ext xs) := by
  have hl := h.len
  refine ⟨by rw [ext_len]; omega, fun i hi => h.sq.lo i (by rwa [ext_len] at hi), fun i hi => by rw [ext_len] at *; exact h.sq.hi i hi, fun i j hi hj e => ?_⟩
  rw [ext_len] at hi hj
  rw [ext_at hi, ext_at hj] at e
  split at e <;> split at e
  · exact h.inj i j (by assumption) (by assumption) e
  · have := h.hi i (by assumption); omega
  · have := h.hi j (by assumption); omega
  · omega
theorem ren24_ext {n : Nat} {xs ys : List Int} (h : Ok xs) (h' : Ok ys) (lx : xs.length = n) (ly : ys.length = n) : ren24 (ext xs) (ext ys) = ext (renTo n xs ys n) := by
  have hn : n ≤ 24 := by have := h.len; omega
  refine list_eq 24 (ren24_len _ _) (ext_len _) fun i hi => ?_
  rw [ext_at hi, renTo_len]
  by_cases hin : i < n
  · rw [if_pos hin]
    have e := take_ren h h' (by omega)
    rw [lx] at e
    rw [← e]
    unfold ren24
    simp [List.getD, hin]
  · rw [if_neg hin]
    have o := ext_ok h'
    have ey : (ext ys).getD i 0 = (i : Int) := by rw [ext_at hi, if_neg (by omega)]
    have ex : (ext xs).getD i 0 = (i : Int) := by rw [ext_at hi, if_neg (by omega)]
    have a := inv_at o (k := i) (by rw [ext_len]; exact hi)
    rw [ey, ext_len, Int.toNat_natCast] at a
    unfold ren24 thenL
    rw [tab_get _ hi, tab_get _ hi, a, Int.toNat_natCast, ex, Int.toNat_natCast, ey]

end Go.Proofs.Ytngglhbcpeigcaa.gl

/-
  The names from a square, as the program finds them.
-/
namespace Go.Proofs.Ytngglhbcpeigcaa.gl
open Go.ChangeShapes Go.WideShapes Go.ChangeAt Go.RowKit
open Go.Proofs.Ytngglhbcpeigcaa.mem Go.Proofs.Ytngglhbcpeigcaa.ints Go.Proofs.Ytngglhbcpeigcaa.arr Go.Proofs.Ytngglhbcpeigcaa.pm Go.Proofs.Ytngglhbcpeigcaa.permOk Go.Proofs.Ytngglhbcpeigcaa.permOf Go.Proofs.Ytngglhbcpeigcaa.inv Go.Proofs.Ytngglhbcpeigcaa.fns Go.Proofs.Ytngglhbcpeigcaa.sf
set_option linter.unusedVariables false
set_option maxRecDepth 100000

/-- The names behind k rounds. -/
def nms (ps qs : List Int) (f : Int) : Nat → List Int
  | 0 => idl
  | k + 1 => (nms ps qs f k).set ((rs ps qs f k).getD k 0).toNat (k : Int)
theorem nms_len (ps qs : List Int) (f : Int) (k : Nat) : (nms ps qs f k).length = 24 := by
  induction k with
  | zero => exact tab_len _
  | succ k ih => rw [nms, List.length_set]; exact ih
def nmsF (ps qs : List Int) (f : Int) : List Int := nms ps qs f (reach ps qs f).length
theorem nms_at {ps qs : List Int} (hp : Maps 24 ps) (hq : Maps 24 qs) (l24 : ps.length = 24) {f : Int} (f0 : 0 ≤ f) (f1 : f < 24) : ∀ k, k ≤ (reach ps qs f).length →
    (∀ j, j < k → (nms ps qs f k).getD ((reach ps qs f).getD j 0).toNat 0 = (j : Int)) ∧ (∀ i : Nat, i < 24 → (∀ j, j < k → (reach ps qs f).getD j 0 ≠ (i : Int)) → (nms ps qs f k).getD i 0 = (i : Int)) := by
  intro k
  induction k with
  | zero => exact fun _ => ⟨fun j hj => by omega, fun i hi _ => tab_get _ hi⟩
  | succ k ih =>
    intro hk
    obtain ⟨h1, h2⟩ := ih (by omega)
    have hin : In 24 (reach ps qs f) := rs_in hp hq f0 f1 _
    have hle := hin.len
    have hk24 : k ≤ 24 := by omega
    have hkk : k < (rs ps qs f k).length := rs_early (m := ps.length) (by unfold reach at hk; omega) (by omega)
    have he : (rs ps qs f k).getD k 0 = (reach ps qs f).getD k 0 := (pre_at (rs_pre ps qs f (by omega)) hkk).symm
    obtain ⟨z, hz, _, hzd⟩ := hin.at_ (k := k) (by omega)
    have hs : nms ps qs f (k + 1) = (nms ps qs f k).set z (k : Int) := by rw [nms, he, hzd]; rfl
    have hl := nms_len ps qs f k
    rw [hs]
    refine ⟨fun j hj => ?_, fun i hi hne => ?_⟩
    · by_cases e : j = k
      · subst e
        rw [hzd, Int.toNat_natCast]
        simp [List.getD, hl, hz]
      · obtain ⟨y, hy, _, hyd⟩ := hin.at_ (k := j) (by omega)
        have hyz : y ≠ z := fun e2 => e (nodup_getD hin.nd (by omega) (by omega) (by rw [hzd, hyd, e2]))
        rw [hyd, Int.toNat_natCast]
        have := h1 j (by omega)
        rw [hyd, Int.toNat_natCast] at this
        rw [← this]
        simp [List.getD, Ne.symm hyz]
    · have hiz : i ≠ z := fun e2 => hne k (by omega) (by rw [hzd, e2])
      rw [← h2 i hi (fun j hj => hne j (by omega))]
      simp [List.getD, Ne.symm hiz]
/-- The program's names are the model's. -/
theorem nmsF_eq {n : Nat} {R U : List Int} (s : Sf n R U) {f : Int} (f0 : 0 ≤ f) (f1 : f < n) : nmsF (ext R) (ext U) f = ext (nm R U f) := by
  have hn : n ≤ 24 := by have := s.r.len; have := s.lr; omega
  have er : reach (ext R) (ext U) f = reach R U f := reach_ext s.r s.u (by rw [s.lr, s.lu]) f0 (by rw [s.lr]; exact f1)
  have fl := s.flen f0 f1
  obtain ⟨nk, nl⟩ := s.nok f0 f1
  obtain ⟨h1, h2⟩ := nms_at (Sq.maps s.r.sq) (Sq.maps s.u.sq) (ext_len _) f0 (by omega) n (by rw [er, fl]; exact Nat.le_refl _)
  rw [er] at h1 h2
  unfold nmsF
  rw [er, fl]
  refine list_eq 24 (nms_len _ _ _ _) (ext_len _) fun i hi => ?_
  rw [ext_at hi, nl]
  by_cases hin : i < n
  · rw [if_pos hin]
    obtain ⟨k, hk, e⟩ := mem_getD (s.full f0 f1 (y := (i : Int)) (by omega) (by omega))
    have a := h1 k (by omega)
    rw [e, Int.toNat_natCast] at a
    have b := Inv_at (s.rok f0 f1) hk
    rw [e, Int.toNat_natCast] at b
    rw [a]
    exact b.symm
  · rw [if_neg hin]
    exact h2 i hi (fun j hj e => by
      have := (s.inn f0 f1).hi _ (getD_mem (i := j) (l := reach R U f) (by omega))
      omega)

/-- The boxed gluing, the result's box, the names, the flags of l, and the row l that grows. -/
structure Nr (w wr : World) (B : Nat) (p q : List Int) (n : Nat) (v : Value) (l ns : List Int) : Prop where
  own : wr.ownsRow (B + 2) 3 1 v l.length (V l)
  g : Arr wr w.heap.size (V (gl p q n)) 62
  res : Arr wr (w.heap.size + 1) (V zeros) 60
  nm : Arr wr B (V ns) 60
  met : Arr wr (B + 1) (VB (flagsOf l)) 111
  below : Below w.heap.size w wr
  hB : w.heap.size + 2 ≤ B
theorem Nr.drew {w wr : World} {B : Nat} {p q l ns : List Int} {n : Nat} {v : Value} (h : Nr w wr B p q n v l ns) (m : Nat) : Nr w (wr.drewN m) B p q n v l ns := ⟨h.own, h.g, h.res, h.nm, h.met, below_drewN h.below m, h.hB⟩
theorem Nr.ne {w wr : World} {B : Nat} {p q l ns : List Int} {n : Nat} {v : Value} (h : Nr w wr B p q n v l ns) {k : Nat} (hk : k < B + 2) : some k ≠ v.ownBlock := fun e => by
  have := (h.own.lt k e.symm).1; omega
theorem Nr.name {w wr : World} {B : Nat} {p q l ns : List Int} {n : Nat} {v : Value} (h : Nr w wr B p q n v l ns) (z k : Nat) : Nr w (wr.setCell ⟨B, z, none⟩ (.int .i64 (k : Int))) B p q n v l (ns.set z (k : Int)) := by
  have hB := h.hB
  refine ⟨?_, h.g.other (by omega) _, h.res.other (by omega) _, ?_, h.met.other (by omega) _, h.below.setCell (show w.heap.size ≤ B by omega) _, hB⟩
  · exact h.own.kept (row := some B) ⟨rfl, rfl, rfl, by simp [World.setCell], fun i hi hne => heap_setCell_other _ _ _ _ (fun e => hne (by rw [e]))⟩ (.inr (fun e => h.ne (k := B) (by omega) e.symm))
  · have := h.nm.set_ z (.int .i64 (k : Int))
    rw [V_set] at this
    exact this
theorem Nr.next {w wr w1 w' : World} {B : Nat} {p q l ns : List Int} {n m : Nat} {v v' : Value} {z : Nat} (h : Nr w wr B p q n v l ns) (hw1 : w1 = wr.setCell ⟨B + 1, z, none⟩ (.bool true))
    (ho : w'.ownsRow (B + 2) 3 1 v' (m + 1) (V l ++ [.int .i64 (z : Int)])) (hn : m = l.length) (hg : w1.grownBy w' v.ownBlock) (hz : ¬ (z : Int) ∈ l) : Nr w w' B p q n v' (add1 l (z : Int)) ns := by
  subst hn
  have e : V (add1 l (z : Int)) = V l ++ [.int .i64 (z : Int)] := by unfold add1; rw [if_neg hz]; simp [V]
  have el : (add1 l (z : Int)).length = l.length + 1 := by unfold add1; rw [if_neg hz]; simp
  have hB := h.hB
  have g1 := h.g.lt; have g2 := h.res.lt; have g3 := h.nm.lt; have hm := h.met.lt
  have s1 : w1.heap.size = wr.heap.size := by rw [hw1]; simp [World.setCell]
  refine ⟨by rw [e, el]; exact ho, ?_, ?_, ?_, ?_, ?_, hB⟩
  · exact (hg.block _ (by omega) (h.ne (by omega))).trans (by rw [hw1]; exact h.g.other (by omega) _)
  · exact (hg.block _ (by omega) (h.ne (by omega))).trans (by rw [hw1]; exact h.res.other (by omega) _)
  · exact (hg.block _ (by omega) (h.ne (by omega))).trans (by rw [hw1]; exact h.nm.other (by omega) _)
  · refine (hg.block _ (by omega) (h.ne (by omega))).trans ?_
    have hh := h.met.set_ z (.bool true)
    rw [VB_set, flagsOf_add hz, ← hw1] at hh
    exact hh
  · refine Below.trans (b := w1) (by rw [hw1]; exact h.below.setCell (by simp; omega) _) ?_
    exact (Below.refl _ _).grown hg (by have := h.below.size; omega) (fun k hk => by have := (h.own.lt k hk).1; omega)
theorem flagsOf_one {z : Nat} : (List.replicate 24 false).set z true = flagsOf [(z : Int)] := by
  have h : List.replicate 24 false = flagsOf [] := by decide
  rw [h, flagsOf_add (by simp)]
  rfl

theorem gl_at_right {p q : List Int} {n k : Nat} (hp : p.length = 24) (hk : k < 24) : (V (gl p q n))[k]? = some (.int .i64 (p.getD k 0)) := by
  rw [V_getD (by simp [gl]; omega), right_at hp hk]
theorem gl_at_up {p q : List Int} {n k : Nat} (hp : p.length = 24) (hq : q.length = 24) (hk : k < 24) : (V (gl p q n))[24 + k]? = some (.int .i64 (q.getD k 0)) := by
  rw [V_getD (by simp [gl]; omega), up_at hp hq hk]

end Go.Proofs.Ytngglhbcpeigcaa.gl

/-
  The model's names and renaming of a surface; NamesFrom and RenameSurface, of the model and of the program.
-/
namespace Go.Proofs.Ytngglhbcpeigcaa.gl
open Go.ChangeShapes Go.WideShapes Go.ChangeAt Go.RowKit
open Go.Proofs.Ytngglhbcpeigcaa.mem Go.Proofs.Ytngglhbcpeigcaa.ints Go.Proofs.Ytngglhbcpeigcaa.arr Go.Proofs.Ytngglhbcpeigcaa.pm Go.Proofs.Ytngglhbcpeigcaa.permOk Go.Proofs.Ytngglhbcpeigcaa.permOf Go.Proofs.Ytngglhbcpeigcaa.inv Go.Proofs.Ytngglhbcpeigcaa.fns Go.Proofs.Ytngglhbcpeigcaa.sf
set_option linter.unusedVariables false
set_option maxRecDepth 100000

theorem gives_rows {r : List Int} {w w' : World} {v : Value} (h : w'.ownsRow w.heap.size 3 1 v r.length (V r)) : ∃ P c, v = .slice P r.length c ∧ Row w' w.heap.size w'.heap.size P r.length (V r) ∧ r.length ≤ c := by
  obtain ⟨P, c, rfl⟩ := own_form h
  exact ⟨P, c, rfl, Row.of_own h, (own_cap h).2⟩

end Go.Proofs.Ytngglhbcpeigcaa.gl

/-
  NamesFrom, of the model and of the program.
-/
namespace Go.Proofs.Ytngglhbcpeigcaa.gl
open Go.ChangeShapes Go.WideShapes Go.ChangeAt Go.RowKit
open Go.Proofs.Ytngglhbcpeigcaa.mem Go.Proofs.Ytngglhbcpeigcaa.ints Go.Proofs.Ytngglhbcpeigcaa.arr Go.Proofs.Ytngglhbcpeigcaa.pm Go.Proofs.Ytngglhbcpeigcaa.permOk Go.Proofs.Ytngglhbcpeigcaa.permOf Go.Proofs.Ytngglhbcpeigcaa.inv Go.Proofs.Ytngglhbcpeigcaa.fns Go.Proofs.Ytngglhbcpeigcaa.sf
set_option linter.unusedVariables false
set_option maxRecDepth 100000

theorem ext_take (xs : List Int) (h : xs.length ≤ 24) : (ext xs).take xs.length = xs := by
  refine list_eq xs.length (by simp [ext_len]; omega) rfl fun i hi => ?_
  have e : (ext xs).getD i 0 = xs.getD i 0 := by rw [ext_at (by omega), if_pos hi]
  rw [← e]
  simp [List.getD, hi]
/-- The names from a square, if there is one. -/
def nfF (r u : List Int) (a : Int) : List Int := if transB r u = true ∧ 0 ≤ a ∧ a < r.length then nm r u a else []
theorem nfF_no {r u : List Int} {a : Int} (h : ¬ (transB r u = true ∧ 0 ≤ a ∧ a < r.length)) : nfF r u a = [] := by unfold nfF; rw [if_neg h]
theorem nfF_yes {r u : List Int} {a : Int} (h : transB r u = true) (a0 : 0 ≤ a) (a1 : a < r.length) : nfF r u a = nm r u a := by unfold nfF; rw [if_pos ⟨h, a0, a1⟩]
theorem nfF_len (r u : List Int) (a : Int) : (nfF r u a).length ≤ 1048576 := by
  unfold nfF; split
  · rename_i h
    obtain ⟨nk, nl⟩ := (transB_iff.1 h.1).nok h.2.1 h.2.2
    have := nk.len; omega
  · simp

end Go.Proofs.Ytngglhbcpeigcaa.gl

/-
  RenameSurface, of the model and of the program.
-/
namespace Go.Proofs.Ytngglhbcpeigcaa.gl
open Go.ChangeShapes Go.WideShapes Go.ChangeAt Go.RowKit
open Go.Proofs.Ytngglhbcpeigcaa.mem Go.Proofs.Ytngglhbcpeigcaa.ints Go.Proofs.Ytngglhbcpeigcaa.arr Go.Proofs.Ytngglhbcpeigcaa.pm Go.Proofs.Ytngglhbcpeigcaa.permOk Go.Proofs.Ytngglhbcpeigcaa.permOf Go.Proofs.Ytngglhbcpeigcaa.inv Go.Proofs.Ytngglhbcpeigcaa.fns Go.Proofs.Ytngglhbcpeigcaa.sf
set_option linter.unusedVariables false
set_option maxRecDepth 100000

/-- A surface and a bool. -/
def SB (r u : List Int) (b : Bool) (w : World) (e : Ending) (w' : World) : Prop := ∃ g, e = .returned (.tuple #[g, .bool b]) ∧ Svl w' w.heap.size w'.heap.size g r u ∧ Below w.heap.size w w'
theorem built2 : Try.prog.built 28 [] = some #[.slice none 0 0, .slice none 0 0] := by kernel_rfl
theorem sb_nil {w w1 : World} {b : Bool} {r u : List Int} (hr : r = []) (hu : u = []) (hb : b = false) (h : Below w.heap.size w w1) : SB r u b w (.returned (.tuple #[.agg #[.slice none 0 0, .slice none 0 0], .bool false])) w1 := by
  subst hr; subst hu; subst hb
  exact ⟨_, rfl, Svl.nil _ _ _ (Nat.le_refl _) h.size, h⟩
theorem Svl.row {w : World} {lo hi g : Nat} {v : Value} {r u : List Int} (h : Svl w lo hi v r u) (hg : g < lo) (cs : Array Value) : Svl (w.setRow g cs) lo hi v r u :=
  h.out ((Out.refl 0 (g + 1) w).row_ (Nat.zero_le _) (Nat.lt_succ_self _) cs) (.inr (by omega))
def rsB (r u ns : List Int) : Bool := transB r u && okB ns && decide (ns.length = r.length)
def rsR (r u ns : List Int) : List Int := if rsB r u ns then renTo r.length r ns r.length else []
def rsU (r u ns : List Int) : List Int := if rsB r u ns then renTo r.length u ns r.length else []
theorem rsB_iff {r u ns : List Int} : rsB r u ns = true ↔ transB r u = true ∧ okB ns = true ∧ ns.length = r.length := by simp [rsB, and_assoc]
theorem rs_no {r u ns : List Int} (h : ¬ (transB r u = true ∧ okB ns = true ∧ ns.length = r.length)) : rsR r u ns = [] ∧ rsU r u ns = [] ∧ rsB r u ns = false := by
  have : rsB r u ns = false := by rw [← Bool.not_eq_true, rsB_iff]; exact h
  simp [rsR, rsU, this]
theorem rs_yes {r u ns : List Int} (h : transB r u = true) (h2 : okB ns = true) (h3 : ns.length = r.length) : rsR r u ns = renTo r.length r ns r.length ∧ rsU r u ns = renTo r.length u ns r.length ∧ rsB r u ns = true := by
  have : rsB r u ns = true := rsB_iff.2 ⟨h, h2, h3⟩
  simp [rsR, rsU, this]
theorem rsR_len (r u ns : List Int) : (rsR r u ns).length ≤ 1048576 := by
  unfold rsR; split
  · rename_i h; have := (transB_iff.1 (rsB_iff.1 h).1).r.len; rw [renTo_len]; omega
  · simp
theorem rsU_len (r u ns : List Int) : (rsU r u ns).length ≤ 1048576 := by
  unfold rsU; split
  · rename_i h; have := (transB_iff.1 (rsB_iff.1 h).1).r.len; rw [renTo_len]; omega
  · simp

end Go.Proofs.Ytngglhbcpeigcaa.gl
