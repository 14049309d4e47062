/-
  The names from a square, as the program finds them.
-/
import Derived.Test.YtkkklpchkkdhfaaGr
namespace Go.Proofs.Ytkkklpchkkdhfaa.gl
open Go.ChangeShapes Go.WideShapes Go.ChangeAt Go.RowKit
open Go.Proofs.Ytkkklpchkkdhfaa.mem Go.Proofs.Ytkkklpchkkdhfaa.ints Go.Proofs.Ytkkklpchkkdhfaa.arr Go.Proofs.Ytkkklpchkkdhfaa.pm Go.Proofs.Ytkkklpchkkdhfaa.permOk Go.Proofs.Ytkkklpchkkdhfaa.permOf Go.Proofs.Ytkkklpchkkdhfaa.inv Go.Proofs.Ytkkklpchkkdhfaa.fns Go.Proofs.Ytkkklpchkkdhfaa.sf
set_option linter.unusedVariables false
set_option maxRecDepth 100000

/-- The names behind k rounds. -/
def nms (ps qs : List Int) (f : Int) : Nat → List Int
  | 0 => idl
  | k + 1 => (nms ps qs f k).set ((rs ps qs f k).getD k 0).toNat (k : Int)
theorem nms_len (ps qs : List Int) (f : Int) (k : Nat) : (nms ps qs f k).length = 24 := by
  induction k with
  | zero => exact tab_len _
  | succ k ih => rw [nms, List.length_set]; exact ih
def nmsF (ps qs : List Int) (f : Int) : List Int := nms ps qs f (reach ps qs f).length
theorem nms_at {ps qs : List Int} (hp : Maps 24 ps) (hq : Maps 24 qs) (l24 : ps.length = 24) {f : Int} (f0 : 0 ≤ f) (f1 : f < 24) : ∀ k, k ≤ (reach ps qs f).length →
    (∀ j, j < k → (nms ps qs f k).getD ((reach ps qs f).getD j 0).toNat 0 = (j : Int)) ∧ (∀ i : Nat, i < 24 → (∀ j, j < k → (reach ps qs f).getD j 0 ≠ (i : Int)) → (nms ps qs f k).getD i 0 = (i : Int)) := by
  intro k
  induction k with
  | zero => exact fun _ => ⟨fun j hj => by omega, fun i hi _ => tab_get _ hi⟩
  | succ k ih =>
    intro hk
    obtain ⟨h1, h2⟩ := ih (by omega)
    have hin : In 24 (reach ps qs f) := rs_in hp hq f0 f1 _
    have hle := hin.len
    have hk24 : k ≤ 24 := by omega
    have hkk : k < (rs ps qs f k).length := rs_early (m := ps.length) (by unfold reach at hk; omega) (by omega)
    have he : (rs ps qs f k).getD k 0 = (reach ps qs f).getD k 0 := (pre_at (rs_pre ps qs f (by omega)) hkk).symm
    obtain ⟨z, hz, _, hzd⟩ := hin.at_ (k := k) (by omega)
    have hs : nms ps qs f (k + 1) = (nms ps qs f k).set z (k : Int) := by rw [nms, he, hzd]; rfl
    have hl := nms_len ps qs f k
    rw [hs]
    refine ⟨fun j hj => ?_, fun i hi hne => ?_⟩
    · by_cases e : j = k
      · subst e
        rw [hzd, Int.toNat_natCast]
        simp [List.getD, hl, hz]
      · obtain ⟨y, hy, _, hyd⟩ := hin.at_ (k := j) (by omega)
        have hyz : y ≠ z := fun e2 => e (nodup_getD hin.nd (by omega) (by omega) (by rw [hzd, hyd, e2]))
        rw [hyd, Int.toNat_natCast]
        have := h1 j (by omega)
        rw [hyd, Int.toNat_natCast] at this
        rw [← this]
        simp [List.getD, Ne.symm hyz]
    · have hiz : i ≠ z := fun e2 => hne k (by omega) (by rw [hzd, e2])
      rw [← h2 i hi (fun j hj => hne j (by omega))]
      simp [List.getD, Ne.symm hiz]
/-- The program's names are the model's. -/
theorem nmsF_eq {n : Nat} {R U : List Int} (s : Sf n R U) {f : Int} (f0 : 0 ≤ f) (f1 : f < n) : nmsF (ext R) (ext U) f = ext (nm R U f) := by
  have hn : n ≤ 24 := by have := s.r.len; have := s.lr; omega
  have er : reach (ext R) (ext U) f = reach R U f := reach_ext s.r s.u (by rw [s.lr, s.lu]) f0 (by rw [s.lr]; exact f1)
  have fl := s.flen f0 f1
  obtain ⟨nk, nl⟩ := s.nok f0 f1
  obtain ⟨h1, h2⟩ := nms_at (Sq.maps s.r.sq) (Sq.maps s.u.sq) (ext_len _) f0 (by omega) n (by rw [er, fl]; exact Nat.le_refl _)
  rw [er] at h1 h2
  unfold nmsF
  rw [er, fl]
  refine list_eq 24 (nms_len _ _ _ _) (ext_len _) fun i hi => ?_
  rw [ext_at hi, nl]
  by_cases hin : i < n
  · rw [if_pos hin]
    obtain ⟨k, hk, e⟩ := mem_getD (s.full f0 f1 (y := (i : Int)) (by omega) (by omega))
    have a := h1 k (by omega)
    rw [e, Int.toNat_natCast] at a
    have b := Inv_at (s.rok f0 f1) hk
    rw [e, Int.toNat_natCast] at b
    rw [a]
    exact b.symm
  · rw [if_neg hin]
    exact h2 i hi (fun j hj e => by
      have := (s.inn f0 f1).hi _ (getD_mem (i := j) (l := reach R U f) (by omega))
      omega)

/-- The boxed gluing, the result's box, the names, the flags of l, and the row l that grows. -/
structure Nr (w wr : World) (B : Nat) (p q : List Int) (n : Nat) (v : Value) (l ns : List Int) : Prop where
  own : wr.ownsRow (B + 2) 3 1 v l.length (V l)
  g : Arr wr w.heap.size (V (gl p q n)) 64
  res : Arr wr (w.heap.size + 1) (V zeros) 62
  nm : Arr wr B (V ns) 62
  met : Arr wr (B + 1) (VB (flagsOf l)) 129
  below : Below w.heap.size w wr
  hB : w.heap.size + 2 ≤ B
theorem Nr.drew {w wr : World} {B : Nat} {p q l ns : List Int} {n : Nat} {v : Value} (h : Nr w wr B p q n v l ns) (m : Nat) : Nr w (wr.drewN m) B p q n v l ns := ⟨h.own, h.g, h.res, h.nm, h.met, below_drewN h.below m, h.hB⟩
theorem Nr.ne {w wr : World} {B : Nat} {p q l ns : List Int} {n : Nat} {v : Value} (h : Nr w wr B p q n v l ns) {k : Nat} (hk : k < B + 2) : some k ≠ v.ownBlock := fun e => by
  have := (h.own.lt k e.symm).1; omega
theorem Nr.name {w wr : World} {B : Nat} {p q l ns : List Int} {n : Nat} {v : Value} (h : Nr w wr B p q n v l ns) (z k : Nat) : Nr w (wr.setCell ⟨B, z, none⟩ (.int .i64 (k : Int))) B p q n v l (ns.set z (k : Int)) := by
  have hB := h.hB
  refine ⟨?_, h.g.other (by omega) _, h.res.other (by omega) _, ?_, h.met.other (by omega) _, h.below.setCell (show w.heap.size ≤ B by omega) _, hB⟩
  · exact h.own.kept (row := some B) ⟨rfl, rfl, rfl, by simp [World.setCell], fun i hi hne => heap_setCell_other _ _ _ _ (fun e => hne (by rw [e]))⟩ (.inr (fun e => h.ne (k := B) (by omega) e.symm))
  · have := h.nm.set_ z (.int .i64 (k : Int))
    rw [V_set] at this
    exact this
theorem Nr.next {w wr w1 w' : World} {B : Nat} {p q l ns : List Int} {n m : Nat} {v v' : Value} {z : Nat} (h : Nr w wr B p q n v l ns) (hw1 : w1 = wr.setCell ⟨B + 1, z, none⟩ (.bool true))
    (ho : w'.ownsRow (B + 2) 3 1 v' (m + 1) (V l ++ [.int .i64 (z : Int)])) (hn : m = l.length) (hg : w1.grownBy w' v.ownBlock) (hz : ¬ (z : Int) ∈ l) : Nr w w' B p q n v' (add1 l (z : Int)) ns := by
  subst hn
  have e : V (add1 l (z : Int)) = V l ++ [.int .i64 (z : Int)] := by unfold add1; rw [if_neg hz]; simp [V]
  have el : (add1 l (z : Int)).length = l.length + 1 := by unfold add1; rw [if_neg hz]; simp
  have hB := h.hB
  have g1 := h.g.lt; have g2 := h.res.lt; have g3 := h.nm.lt; have hm := h.met.lt
  have s1 : w1.heap.size = wr.heap.size := by rw [hw1]; simp [World.setCell]
  refine ⟨by rw [e, el]; exact ho, ?_, ?_, ?_, ?_, ?_, hB⟩
  · exact (hg.block _ (by omega) (h.ne (by omega))).trans (by rw [hw1]; exact h.g.other (by omega) _)
  · exact (hg.block _ (by omega) (h.ne (by omega))).trans (by rw [hw1]; exact h.res.other (by omega) _)
  · exact (hg.block _ (by omega) (h.ne (by omega))).trans (by rw [hw1]; exact h.nm.other (by omega) _)
  · refine (hg.block _ (by omega) (h.ne (by omega))).trans ?_
    have hh := h.met.set_ z (.bool true)
    rw [VB_set, flagsOf_add hz, ← hw1] at hh
    exact hh
  · refine Below.trans (b := w1) (by rw [hw1]; exact h.below.setCell (by simp; omega) _) ?_
    exact (Below.refl _ _).grown hg (by have := h.below.size; omega) (fun k hk => by have := (h.own.lt k hk).1; omega)
theorem flagsOf_one {z : Nat} : (List.replicate 24 false).set z true = flagsOf [(z : Int)] := by
  have h : List.replicate 24 false = flagsOf [] := by decide
  rw [h, flagsOf_add (by simp)]
  rfl

theorem gl_at_right {p q : List Int} {n k : Nat} (hp : p.length = 24) (hk : k < 24) : (V (gl p q n))[k]? = some (.int .i64 (p.getD k 0)) := by
  rw [V_getD (by simp [gl]; omega), right_at hp hk]
theorem gl_at_up {p q : List Int} {n k : Nat} (hp : p.length = 24) (hq : q.length = 24) (hk : k < 24) : (V (gl p q n))[24 + k]? = some (.int .i64 (q.getD k 0)) := by
  rw [V_getD (by simp [gl]; omega), up_at hp hq hk]

end Go.Proofs.Ytkkklpchkkdhfaa.gl
