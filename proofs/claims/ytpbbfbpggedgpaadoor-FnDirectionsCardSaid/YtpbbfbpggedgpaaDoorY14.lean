import Derived.Test.YtpbbfbpggedgpaaDoorY13
import Derived.Test.YtpbbfbpggedgpaaDoorY04
import Derived.Test.YtpbbfbpggedgpaaDoorY09
/-
  The rows of a surface and the rows above them: mathematics alone.
-/
namespace Go.Proofs.YtpbbfbpggedgpaaDoor.cy
open Go.Proofs.YtpbbfbpggedgpaaDoor.pm Go.Proofs.YtpbbfbpggedgpaaDoor.arr Go.Proofs.YtpbbfbpggedgpaaDoor.inv Go.Proofs.YtpbbfbpggedgpaaDoor.permOf
set_option linter.unusedVariables false
set_option maxRecDepth 100000

structure Rws (n : Nat) (ps : List Int) (rr : List (List Int)) : Prop where
  bij : Bij n ps
  inn : In n rr.flatten
  all : ∀ y : Nat, y < n → (y : Int) ∈ rr.flatten
  row : ∀ (i : Nat) (xs : List Int), rr[i]? = some xs → ∃ f : Nat, f < n ∧ xs = cyc ps n (f : Int)
  len : rr.length ≤ n
theorem Rws.of {n : Nat} {ps : List Int} (hb : Bij n ps) : Rws n ps (cso ps n n) :=
  have h := cso_cs hb n (Nat.le_refl _)
  ⟨hb, h.inn, h.all, fun i xs hx => cso_cyc n (Nat.le_refl _) xs (List.mem_of_getElem? hx), h.len⟩
theorem flat_same : ∀ {rr : List (List Int)} {i j : Nat} {xs ys : List Int} {y : Int}, rr.flatten.Nodup → rr[i]? = some xs → rr[j]? = some ys → y ∈ xs → y ∈ ys → i = j
  | [], i, j, xs, ys, y, h, hi, hj, h1, h2 => by simp at hi
  | z :: t, 0, 0, xs, ys, y, h, hi, hj, h1, h2 => rfl
  | z :: t, 0, j + 1, xs, ys, y, h, hi, hj, h1, h2 => by
    rw [List.flatten_cons, List.nodup_append] at h
    obtain rfl : z = xs := by simpa using hi
    exact absurd rfl (h.2.2 y h1 y (List.mem_flatten.2 ⟨ys, List.mem_of_getElem? (by simpa using hj), h2⟩))
  | z :: t, i + 1, 0, xs, ys, y, h, hi, hj, h1, h2 => by
    rw [List.flatten_cons, List.nodup_append] at h
    obtain rfl : z = ys := by simpa using hj
    exact absurd rfl (h.2.2 y h2 y (List.mem_flatten.2 ⟨xs, List.mem_of_getElem? (by simpa using hi), h1⟩))
  | z :: t, i + 1, j + 1, xs, ys, y, h, hi, hj, h1, h2 => by
    rw [List.flatten_cons, List.nodup_append] at h
    rw [flat_same (i := i) (j := j) h.2.1 (by simpa using hi) (by simpa using hj) h1 h2]
section
variable {n : Nat} {ps : List Int} {rr : List (List Int)} (h : Rws n ps rr)
include h
theorem Rws.same {i j : Nat} {xs ys : List Int} {y : Int} (hi : rr[i]? = some xs) (hj : rr[j]? = some ys) (h1 : y ∈ xs) (h2 : y ∈ ys) : i = j := flat_same h.inn.nd hi hj h1 h2
theorem Rws.has {y : Int} (y0 : 0 ≤ y) (y1 : y < n) : ∃ (i : Nat) (xs : List Int), rr[i]? = some xs ∧ y ∈ xs := by
  have := h.all y.toNat (by omega)
  rw [Int.toNat_of_nonneg y0] at this
  obtain ⟨xs, h1, h2⟩ := List.mem_flatten.1 this
  obtain ⟨i, hi, e⟩ := List.getElem_of_mem h1
  exact ⟨i, xs, by rw [List.getElem?_eq_getElem hi, e], h2⟩
theorem Rws.rng {i : Nat} {xs : List Int} {y : Int} (hx : rr[i]? = some xs) (hy : y ∈ xs) : 0 ≤ y ∧ y < n := by
  have : y ∈ rr.flatten := List.mem_flatten.2 ⟨xs, List.mem_of_getElem? hx, hy⟩
  exact ⟨h.inn.lo y this, h.inn.hi y this⟩
theorem Rws.way {i : Nat} {xs : List Int} (hx : rr[i]? = some xs) : ∃ f : Nat, f < n ∧ xs = cyc ps n (f : Int) ∧ pm.Way n ps f f xs := by
  obtain ⟨f, h1, h2⟩ := h.row i xs hx
  exact ⟨f, h1, h2, by rw [h2]; exact cyc_way h.bij (by omega) (by omega)⟩
theorem Rws.head {i : Nat} {xs : List Int} (hx : rr[i]? = some xs) : 0 < xs.length ∧ xs.getD 0 0 ∈ xs := by
  obtain ⟨f, h1, h2, w⟩ := h.way hx
  exact ⟨w.pos, getD_mem w.pos⟩
theorem Rws.reach {i : Nat} {xs : List Int} {y z : Int} (hx : rr[i]? = some xs) (hy : y ∈ xs) (hz : z ∈ xs) : ∃ m, it ps y m = z := by
  obtain ⟨f, h1, h2, w⟩ := h.way hx
  obtain ⟨a, a1, a2⟩ := mem_getD hy
  obtain ⟨b, b1, b2⟩ := mem_getD hz
  rw [way_it w a a1] at a2
  rw [way_it w b b1] at b2
  refine ⟨xs.length - a + b, ?_⟩
  rw [← a2, it_add, show a + (xs.length - a + b) = xs.length + b by omega, ← it_add, ← way_last w, b2]
theorem Rws.next {i : Nat} {xs : List Int} {y : Int} (hx : rr[i]? = some xs) (hy : y ∈ xs) : ps.getD y.toNat 0 ∈ xs := by
  obtain ⟨f, h1, h2, w⟩ := h.way hx
  obtain ⟨a, a1, a2⟩ := mem_getD hy
  by_cases q : a + 1 < xs.length
  · have := w.step a q
    rw [a2] at this
    rw [← this]
    exact getD_mem q
  · have e : a = xs.length - 1 := by omega
    have := w.last
    rw [← e, a2] at this
    rw [← this, ← w.head]
    exact getD_mem w.pos
theorem Rws.it_in {i : Nat} {xs : List Int} {y : Int} (hx : rr[i]? = some xs) (hy : y ∈ xs) : ∀ m, it ps y m ∈ xs
  | 0 => hy
  | m + 1 => h.next hx (Rws.it_in hx hy m)
end

def rix : List (List Int) → Int → Int
  | [], _ => -1
  | xs :: t, y => if y ∈ xs then 0 else if rix t y < 0 then -1 else rix t y + 1
theorem rix_low : ∀ (rr : List (List Int)) (y : Int), -1 ≤ rix rr y ∧ rix rr y < rr.length
  | [], y => by simp [rix]
  | xs :: t, y => by
    have := rix_low t y
    rw [rix]
    simp only [List.length_cons]
    split
    · omega
    · split <;> omega
theorem rix_at : ∀ {rr : List (List Int)} {y : Int} {k : Nat} {xs : List Int}, rr[k]? = some xs → y ∈ xs → (∀ j : Nat, j < k → ∀ zs : List Int, rr[j]? = some zs → ¬ y ∈ zs) → rix rr y = k
  | [], y, k, xs, h, _, _ => by simp at h
  | z :: t, y, 0, xs, h, hy, _ => by
    obtain rfl : z = xs := by simpa using h
    rw [rix, if_pos hy]; rfl
  | z :: t, y, k + 1, xs, h, hy, hn => by
    have := rix_at (rr := t) (y := y) (k := k) (by simpa using h) hy (fun j hj zs hz => hn (j + 1) (by omega) zs (by simpa using hz))
    rw [rix, if_neg (hn 0 (by omega) z rfl), this, if_neg (by omega)]
    omega
theorem rix_none : ∀ {rr : List (List Int)} {y : Int}, (∀ (j : Nat) (zs : List Int), rr[j]? = some zs → ¬ y ∈ zs) → rix rr y = -1
  | [], y, _ => rfl
  | z :: t, y, hn => by
    have := rix_none (rr := t) (y := y) (fun j zs hz => hn (j + 1) zs (by simpa using hz))
    rw [rix, if_neg (hn 0 z rfl), this, if_pos (by omega)]
theorem rix_mem : ∀ {rr : List (List Int)} {y : Int} {k : Nat}, rix rr y = k → ∃ xs, rr[k]? = some xs ∧ y ∈ xs
  | [], y, k, h => by simp [rix] at h
  | z :: t, y, k, h => by
    rw [rix] at h
    split at h
    · rename_i q
      have : k = 0 := by omega
      subst this
      exact ⟨z, rfl, q⟩
    · split at h
      · omega
      · obtain ⟨xs, h1, h2⟩ := rix_mem (rr := t) (y := y) (k := k - 1) (by omega)
        obtain ⟨m, rfl⟩ : ∃ m, k = m + 1 := ⟨k - 1, by omega⟩
        exact ⟨xs, by simpa using h1, h2⟩
theorem Rws.rix {n : Nat} {ps : List Int} {rr : List (List Int)} (h : Rws n ps rr) {i : Nat} {xs : List Int} {y : Int} (hx : rr[i]? = some xs) (hy : y ∈ xs) : rix rr y = i :=
  rix_at hx hy fun j hj zs hz q => by have := h.same hx hz hy q; omega

def regB (c xs : List Int) : Bool := xs.all fun x => decide (c.getD x.toNat 0 = x)
def abF (c u : List Int) (rr : List (List Int)) : List Int := rr.map fun xs => if regB c xs then rix rr (u.getD (xs.getD 0 0).toNat 0) else -1
theorem abF_len (c u : List Int) (rr : List (List Int)) : (abF c u rr).length = rr.length := by simp [abF]
theorem abF_at {c u : List Int} {rr : List (List Int)} {i : Nat} {xs : List Int} (h : rr[i]? = some xs) : at_ (abF c u rr) i = if regB c xs then rix rr (u.getD (xs.getD 0 0).toNat 0) else -1 := by
  simp [at_, abF, h]
theorem comm_fix {n : Nat} {r u : List Int} (s : Sf n r u) {x : Int} (x0 : 0 ≤ x) (x1 : x < n) : (comm r u).getD x.toNat 0 = x ↔ u.getD (r.getD x.toNat 0).toNat 0 = r.getD (u.getD x.toNat 0).toNat 0 := by
  have hr := s.br.maps x.toNat (by omega)
  have hu := s.bu.maps x.toNat (by omega)
  have hur := s.bu.maps (r.getD x.toNat 0).toNat (by omega)
  have lI : (Inv r).length = n := by rw [Inv_len, s.lr]
  have e : (comm r u).getD x.toNat 0 = (Inv u).getD ((Inv r).getD (u.getD (r.getD x.toNat 0).toNat 0).toNat 0).toNat 0 := by
    unfold comm
    have e1 : (thn r u).getD x.toNat 0 = u.getD (r.getD x.toNat 0).toNat 0 := thn_at (by rw [s.lr]; omega)
    rw [thn_at (by rw [thn_len, s.lr]; omega), e1, thn_at (by omega)]
  rw [e]
  constructor
  · intro q
    have iR := (Inv_ok s.r).maps (u.getD (r.getD x.toNat 0).toNat 0).toNat (by omega)
    rw [lI] at iR
    have := Inv_right s.u (x := (Inv r).getD (u.getD (r.getD x.toNat 0).toNat 0).toNat 0) iR.1 (by rw [s.lu]; exact iR.2)
    rw [q] at this
    rw [this]
    exact (Inv_right s.r hur.1 (by rw [s.lr]; exact hur.2)).symm
  · intro q
    rw [q, Inv_left s.r hu.1 (by rw [s.lr]; exact hu.2), Inv_left s.u x0 (by rw [s.lu]; exact x1)]
theorem ab_row {r u : List Int} {rr : List (List Int)} {i x : Nat} (hi : i < rr.length) (hx : at_ (abF (comm r u) u rr) i = x) : ∃ xs ys, rr[i]? = some xs ∧ rr[x]? = some ys ∧ regB (comm r u) xs = true ∧ u.getD (xs.getD 0 0).toNat 0 ∈ ys := by
  have e := List.getElem?_eq_getElem hi
  rw [abF_at e] at hx
  split at hx
  · rename_i q
    obtain ⟨ys, h1, h2⟩ := rix_mem hx
    exact ⟨_, ys, e, h1, q, h2⟩
  · omega
section
variable {n : Nat} {r u : List Int} (s : Sf n r u) {rr : List (List Int)} (h : Rws n r rr)
include s h
theorem up_it {i : Nat} {xs : List Int} (hx : rr[i]? = some xs) (hreg : regB (comm r u) xs = true) {y : Int} (hy : y ∈ xs) : ∀ m, u.getD (it r y m).toNat 0 = it r (u.getD y.toNat 0) m
  | 0 => rfl
  | m + 1 => by
    have hm := h.it_in hx hy m
    obtain ⟨a, b⟩ := h.rng hx hm
    have q : (comm r u).getD (it r y m).toNat 0 = it r y m := by
      have := List.all_eq_true.1 hreg _ hm
      simpa using this
    show u.getD (r.getD (it r y m).toNat 0).toNat 0 = r.getD (it r (u.getD y.toNat 0) m).toNat 0
    rw [← up_it hx hreg hy m]
    exact (comm_fix s a b).1 q
theorem ab_inj : Inj rr.length (abF (comm r u) u rr) := by
  refine ⟨abF_len _ _ _, fun i hi => ?_, fun i hi => ?_, fun i j x hi hj ei ej => ?_⟩
  · rw [abF_at (List.getElem?_eq_getElem hi)]
    split
    · exact (rix_low _ _).2
    · omega
  · rw [abF_at (List.getElem?_eq_getElem hi)]
    split
    · exact (rix_low _ _).1
    · omega
  · obtain ⟨xs, zs, x1, x2, x3, x4⟩ := ab_row hi ei
    obtain ⟨ys, zs', y1, y2, y3, y4⟩ := ab_row hj ej
    have e : zs' = zs := by rw [x2] at y2; exact (Option.some.inj y2).symm
    subst e
    obtain ⟨m, hm⟩ := h.reach x2 x4 y4
    rw [← up_it s h x1 x3 (h.head x1).2] at hm
    have a1 := h.it_in x1 (h.head x1).2 m
    have a2 := h.rng x1 a1
    have b1 := (h.head y1).2
    have b2 := h.rng y1 b1
    have := s.bu.inj _ _ (by omega) (by omega) hm
    have e2 : it r (xs.getD 0 0) m = ys.getD 0 0 := by omega
    rw [e2] at a1
    exact h.same x1 y1 a1 b1
/-- Rws of one cylinder have the same length. -/
theorem ab_len {i x : Nat} (hi : i < rr.length) (hx : at_ (abF (comm r u) u rr) i = x) {xs ys : List Int} (h1 : rr[i]? = some xs) (h2 : rr[x]? = some ys) : ys.length = xs.length := by
  obtain ⟨xs', ys', x1, x2, x3, x4⟩ := ab_row hi hx
  have e1 : xs' = xs := by rw [h1] at x1; exact (Option.some.inj x1).symm
  have e2 : ys' = ys := by rw [h2] at x2; exact (Option.some.inj x2).symm
  subst e1; subst e2
  have hf := (h.head h1).2
  obtain ⟨f0, f1⟩ := h.rng h1 hf
  obtain ⟨g0, g1⟩ := h.rng h2 x4
  obtain ⟨a, a1, a2, _⟩ := h.way h1
  obtain ⟨b, b1, b2, _⟩ := h.way h2
  have wf := cyc_way h.bij f0 f1
  have wg := cyc_way h.bij g0 g1
  have p1 : (cyc r n (xs'.getD 0 0)).length = xs'.length := by
    rw [a2] at hf
    have := per_same h.bij (f := (a : Int)) (by omega) (by omega) hf
    rw [← a2] at this hf
    exact this
  have p2 : (cyc r n (u.getD (xs'.getD 0 0).toNat 0)).length = ys'.length := by
    rw [b2] at x4
    have := per_same h.bij (f := (b : Int)) (by omega) (by omega) x4
    rw [← b2] at this
    exact this
  rw [← p1, ← p2]
  generalize hfe : xs'.getD 0 0 = f at *
  have ui := fun m => up_it s h h1 x3 (y := f) (by rw [← hfe]; exact (h.head h1).2) m
  generalize hge : u.getD f.toNat 0 = g at *
  have lf := way_last wf
  have lg := way_last wg
  have pf := wf.pos
  have pg := wg.pos
  rcases Nat.lt_trichotomy (cyc r n g).length (cyc r n f).length with q | q | q
  · have e : it r f (cyc r n g).length = f := by
      have e0 : u.getD (it r f (cyc r n g).length).toNat 0 = u.getD f.toNat 0 := by rw [ui, ← lg, hge]
      have hin := Go.Proofs.YtpbbfbpggedgpaaDoor.pm.it_in h.bij f0 f1 (cyc r n g).length
      have := s.bu.inj _ _ (by omega) (by omega) e0
      omega
    have := nodup_getD wf.inn.nd (i := (cyc r n g).length) (j := 0) q pf (by rw [way_it wf _ q, e, wf.head])
    omega
  · exact q
  · have e : it r g (cyc r n f).length = g := by rw [← ui, ← lf, hge]
    have := nodup_getD wg.inn.nd (i := (cyc r n f).length) (j := 0) q pg (by rw [way_it wg _ q, e, wg.head])
    omega
end
end Go.Proofs.YtpbbfbpggedgpaaDoor.cy

/-
  Contracts of the laws' same, sorted, lengths.
-/
namespace Go.Proofs.YtpbbfbpggedgpaaDoor.fns
open Go.ChangeShapes Go.WideShapes Go.ChangeAt Go.RowKit
open Go.Proofs.YtpbbfbpggedgpaaDoor.mem Go.Proofs.YtpbbfbpggedgpaaDoor.ints Go.Proofs.YtpbbfbpggedgpaaDoor.arr Go.Proofs.YtpbbfbpggedgpaaDoor.pm Go.Proofs.YtpbbfbpggedgpaaDoor.mat
set_option linter.unusedVariables false
set_option maxRecDepth 100000

set_option maxHeartbeats 400000 in
theorem same_any (A : Option Addr) (n c : Nat) (B : Option Addr) (m d : Nat) (xs ys : List Int) (h1 h2 : Nat) (w : World)
    (hx : Rd w h1 A n (V xs)) (hy : Rd w h2 B m (V ys)) (hn : n ≤ maxLen) (hm : m ≤ maxLen) :
    Calls Tryd.prog 13 #[.slice A n c, .slice B m d] w fun e w' => e = .returned (.bool (eqi xs ys)) ∧ Drawn w w' := by
  unfold maxLen at hn hm
  have lx : xs.length = n := by simpa [V] using hx.1
  have ly : ys.length = m := by simpa [V] using hy.1
  have LX := Lib.hid lx; have LY := Lib.hid ly; clear lx ly
  have HX := Lib.hid hx; have HY := Lib.hid hy; clear hx hy
  by_cases hnm : n = m
  · obtain rfl : m = n := hnm.symm
    clear hnm
    go_enter Tryd.func13, Tryd.ntmps13
    go_wp2
    go_loopw [14] (fun i wr => ∃ k : Nat, k ≤ m ∧ i = .int .i64 k ∧ Drawn w wr ∧ Same xs ys k) (fun i _ => m - (intOf i).toNat)
    case atStart => exact ⟨0, Nat.zero_le _, rfl, ⟨0, rfl⟩, fun j hj => by omega⟩
    case round =>
      obtain ⟨k, hk, rfl, hdr, hsame⟩ := hrel
      have HS := Lib.hid hsame; have HD := Lib.hid hdr; clear hsame hdr
      by_cases hlt : k < m
      · obtain ⟨g, off, u, rfl, _, hxu, hcx⟩ := HX.out.at_ hlt
        obtain ⟨g', off', u', rfl, _, hyu, hcy⟩ := HY.out.at_ hlt
        obtain ⟨s, hxs, rfl⟩ := V_at hxu
        obtain ⟨t, hyt, rfl⟩ := V_at hyu
        rw [← HD.out.cell] at hcx hcy
        have HXS := Lib.hid hxs; have HYT := Lib.hid hyt; clear hxs hyt hxu hyu
        by_cases hst : s = t
        · subst hst
          go_wp2
          go_roundw
          case rel => exact ⟨k + 1, by omega, by go_num, HD.out, HS.out.step HXS.out HYT.out⟩
          case measure => simp [intOf]; omega
        · have hb : (s != t) = true := by simpa using hst
          have HST := Lib.hid hst; clear hst
          go_wp2
          go_ret
          exact ⟨ret_bool (eqi_no HXS.out HYT.out HST.out).symm, HD.out⟩
      · obtain rfl : k = m := by omega
        go_wp2
        go_ret
        exact ⟨ret_bool (eqi_yes LX.out LY.out HS.out).symm, HD.out⟩
  · have hb : ((n : Int) != (m : Int)) = true := by simp; omega
    have HB : eqi xs ys = false := eqi_len (by rw [LX.out, LY.out]; exact hnm)
    have HB := Lib.hid HB
    clear hnm
    go_enter Tryd.func13, Tryd.ntmps13
    go_wp2
    go_ret
    exact ⟨ret_bool HB.out.symm, 0, rfl⟩


theorem Grows.set_ {w wr : World} {b cc : Nat} {l : List Int} (h : Grows w wr (.slice (some ⟨b, 0, none⟩) l.length cc) l) (k : Nat) (z : Int) : Grows w (wr.setCell ⟨b, k, none⟩ (.int .i64 z)) (.slice (some ⟨b, 0, none⟩) (l.set k z).length cc) (l.set k z) := by
  have hb := h.own.lt b rfl
  have := (h.own.stored k (.int .i64 z)).1
  rw [V_set] at this
  exact ⟨by simpa using this, h.below.setCell hb.1 _⟩

set_option maxHeartbeats 1000000 in
theorem sorted_any (A : Option Addr) (n c : Nat) (xs : List Int) (hi : Nat) (w : World) (hx : Rd w hi A n (V xs)) (hn : n ≤ 1048576) :
    Calls Tryd.prog 35 #[.slice A n c] w (Gives (sortD xs) w) := by
  obtain ⟨i0, hi0, hz0, hz1, hz2⟩ := info_parts infoI
  have lx : xs.length = n := by simpa [V] using hx.1
  have LX := Lib.hid lx; clear lx
  have HX := Lib.hid hx; clear hx
  go_enter Tryd.func35, Tryd.ntmps35
  go_wp2
  go_loopw [3, 10] (fun v i wr => ∃ j : Nat, j ≤ n ∧ i = .int .i64 j ∧ Grows w wr v (sortD (xs.take j))) (fun _ i _ => n - (intOf i).toNat)
  case atStart => exact ⟨0, Nat.zero_le _, rfl, Grows.empty w⟩
  case round =>
    obtain ⟨j, hj, rfl, hm⟩ := hrel
    obtain ⟨wo, rfl⟩ : ∃ wo : World, wo = wr := ⟨_, rfl⟩
    obtain ⟨C, cc, rfl⟩ := hm.form
    have HLN : Hid ((sortD (xs.take j)).length = j) := Lib.hid (by rw [sortD_len]; have := LX.out; simp; omega)
    have HR := Lib.hid hm; clear hm
    by_cases hlt : j < n
    · obtain ⟨g, off, u, rfl, hgl, hxu, hcx⟩ := HX.out.at_ hlt
      obtain ⟨x, hxs, rfl⟩ := V_at hxu
      have hgw : g < w.heap.size := Nat.lt_of_lt_of_le hgl HX.out.2.1
      rw [← HR.out.below.cell (p := ⟨g, off + j, none⟩) hgw] at hcx
      have NX : Hid (sortD (xs.take (j + 1)) = insD x (sortD (xs.take j))) := Lib.hid (by rw [List.take_add_one, hxs]; exact sortD_snoc _ _)
      have hsz := HR.out.below.size
      clear hxu hxs
      generalize sortD (xs.take j) = l at *
      have hl : l.length ≤ 1048576 := by rw [HLN.out]; omega
      go_wp2_with (at_builtin; refine wpList_append_one wo _ _ rfl _ _ 23 rfl w.heap.size 3 i0 _ 8 Tryd.underlying23 hi0 hz0 hz1 hz2 rfl _ _ _ rfl HR.out.own rfl rfl ?c4 (by decide) hsz ?_)
      case c4 => omega
      intro v' w' ho hg
      have G1 := HR.out.next ho rfl hg
      rw [← ins_end] at G1
      clear ho hg HR hcx
      obtain ⟨C', cc', rfl⟩ := own_form G1.own
      obtain ⟨b, rfl⟩ : ∃ b, C' = some ⟨b, 0, none⟩ := by
        rcases G1.own.2 with ⟨h0, hn0⟩ | ⟨b, cap, cur, q1, _⟩
        · simp [ins_end] at hn0
        · injection q1 with q1; exact ⟨b, q1⟩
      rw [ins_len _ _ (Nat.le_refl _)]
      have HG := Lib.hid G1; clear G1
      go_wp2
      go_loopw [6] (fun i wr => ∃ (k : Nat) (y : Int), k ≤ l.length ∧ i = .int .i64 k ∧ Grows w wr (.slice (some ⟨b, 0, none⟩) (ins y l k).length cc') (ins y l k) ∧ Hid (posD x l k = posD x l l.length)) (fun i _ => (intOf i).toNat)
      case atStart => exact ⟨l.length, 0, Nat.le_refl _, by go_num, HG.out, Lib.hid rfl⟩
      case round =>
        obtain ⟨k, y, hk, rfl, hg, HPOS⟩ := hrel
        have IL := Lib.hid (ins_len y l hk)
        have GG := Lib.hid hg; clear hg HG
        have fk := GG.out.own.frozenAt k
        have hck : wr.cell? ⟨b, k, none⟩ = some (.int .i64 ((ins y l k).getD k 0)) := by rw [GG.out.own.cellAt k (by rw [IL.out]; omega)]; exact V_getD (by rw [IL.out]; omega)
        cases k with
        | zero =>
          have G2 : Hid (Grows w (wr.setCell ⟨b, 0, none⟩ (.int .i64 x)) (.slice (some ⟨b, 0, none⟩) (l.length + 1) cc') (insD x l)) := Lib.hid (by
            have := GG.out.set_ 0 x
            rw [ins_set _ _ _ hk] at this
            unfold insD
            rw [← HPOS.out]
            rw [ins_len _ _ hk] at this
            exact this)
          go_wp2
          go_roundw
          case rel => exact ⟨j + 1, by omega, by go_num, by rw [NX.out]; exact G2.out⟩
          case measure => simp [intOf]; omega
        | succ k =>
          have hcl : wr.cell? ⟨b, k, none⟩ = some (.int .i64 (l.getD k 0)) := by rw [GG.out.own.cellAt k (by rw [IL.out]; omega), V_getD (by rw [IL.out]; omega), ins_at _ _ (by omega) hk]
          by_cases hd : l.getD k 0 < x
          · have G2 := GG.out.set_ (k + 1) (l.getD k 0)
            rw [ins_move _ _ (by omega)] at G2
            have HP2 : Hid (posD x l k = posD x l l.length) := Lib.hid (by rw [← HPOS.out, posD, if_pos hd])
            generalize l.getD k 0 = z at *
            have HG2 := Lib.hid G2; clear G2
            go_wp2
            go_roundw
            case rel => exact ⟨k, z, by omega, by go_num, HG2.out, HP2⟩
            case measure => simp [intOf]
          · have G2 : Hid (Grows w (wr.setCell ⟨b, k + 1, none⟩ (.int .i64 x)) (.slice (some ⟨b, 0, none⟩) (l.length + 1) cc') (insD x l)) := Lib.hid (by
              have := GG.out.set_ (k + 1) x
              rw [ins_set _ _ _ hk] at this
              unfold insD
              rw [← HPOS.out, posD, if_neg hd]
              rw [ins_len _ _ hk] at this
              exact this)
            generalize l.getD k 0 = z at *
            have hdd : decide (z < x) = false := by simp; omega
            clear hd
            go_wp2
            go_roundw
            case rel => exact ⟨j + 1, by omega, by go_num, by rw [NX.out]; exact G2.out⟩
            case measure => simp [intOf]; omega
    · obtain rfl : j = n := by omega
      go_wp2
      go_ret
      have := HR.out
      rw [List.take_of_length_le (by rw [LX.out]; exact Nat.le_refl _)] at this ⊢
      exact this.gives

def lensF (xss : List (List Int)) : List Int := xss.map fun xs => (xs.length : Int)
set_option maxHeartbeats 1000000 in
theorem lengths_any (A : Option Addr) (n c : Nat) (xss : List (List Int)) (lo hi : Nat) (w : World) (hx : Mat w lo hi A n xss) (hn : n ≤ 1048576) (tx : tot xss ≤ 1048576) :
    Calls Tryd.prog 14 #[.slice A n c] w (Gives (sortD (lensF xss)) w) := by
  obtain ⟨i0, hi0, hz0, hz1, hz2⟩ := info_parts infoI
  have LX := Lib.hid hx.1
  have HX := Lib.hid hx; clear hx
  go_enter Tryd.func14, Tryd.ntmps14
  go_wp2
  go_loopw [3, 9] (fun v i wr => ∃ j : Nat, j ≤ n ∧ i = .int .i64 j ∧ Grows w wr v (lensF (xss.take j))) (fun _ i _ => n - (intOf i).toNat)
  case atStart => exact ⟨0, Nat.zero_le _, rfl, Grows.empty w⟩
  case round =>
    obtain ⟨j, hj, rfl, hm⟩ := hrel
    obtain ⟨C, cc, rfl⟩ := hm.form
    have HLN : Hid ((lensF (xss.take j)).length = j) := Lib.hid (by have := LX.out; simp [lensF]; omega)
    have HR := Lib.hid hm; clear hm
    by_cases hlt : j < n
    · obtain ⟨G, off, A1, c1, xs, l, u, rfl, hxk, hcx, rx, _⟩ := (HX.out.keep HR.out.below HX.out.2.1).at_ hlt
      have NX : Hid (lensF (xss.take (j + 1)) = lensF (xss.take j) ++ [(xs.length : Int)]) := Lib.hid (by rw [List.take_add_one, hxk]; simp [lensF])
      have hsz := HR.out.below.size
      have b1 := tot_row hxk
      clear hxk rx
      generalize lensF (xss.take j) = l1 at *
      have hl : l1.length ≤ 1048576 := by rw [HLN.out]; omega
      go_wp2_with (at_builtin; refine wpList_append_one wr _ _ rfl _ _ 23 rfl w.heap.size 3 i0 _ 8 Tryd.underlying23 hi0 hz0 hz1 hz2 rfl _ _ _ rfl HR.out.own rfl rfl ?c4 (by decide) hsz ?_)
      case c4 => omega
      intro v' w' ho hg
      have HN : Hid (Grows w w' v' (lensF (xss.take (j + 1)))) := Lib.hid (by rw [NX.out]; exact HR.out.next ho rfl hg)
      clear ho hg HR hcx
      go_wp2
      go_roundw
      case rel => exact ⟨j + 1, by omega, by go_num, HN.out⟩
      case measure => simp [intOf]; omega
    · obtain rfl : j = n := by omega
      have e : xss.take j = xss := List.take_of_length_le (by rw [LX.out]; exact Nat.le_refl _)
      rw [e] at HR HLN ⊢
      clear e
      go_wp2_with fail
      refine (sorted_any C _ cc (lensF xss) _ _ (Row.of_own HR.out.own).rd (by rw [HLN.out]; exact hn)).mono ?_
      rintro e w2 hg
      obtain ⟨v, rfl, ho, hb⟩ := gives_later HR.out.below hg
      have HOW := Lib.hid ho; have HB := Lib.hid hb; clear ho hb hg
      go_wp2_with fail
      go_ret
      exact ⟨v, rfl, HOW.out, HB.out⟩
end Go.Proofs.YtpbbfbpggedgpaaDoor.fns

/-
  The model's descending order (as the laws' own): contracts of l04Down and l04Lengths.
-/
namespace Go.Proofs.YtpbbfbpggedgpaaDoor.fns
open Go.ChangeShapes Go.WideShapes Go.ChangeAt Go.RowKit
open Go.Proofs.YtpbbfbpggedgpaaDoor.mem Go.Proofs.YtpbbfbpggedgpaaDoor.ints Go.Proofs.YtpbbfbpggedgpaaDoor.arr Go.Proofs.YtpbbfbpggedgpaaDoor.pm Go.Proofs.YtpbbfbpggedgpaaDoor.mat
set_option linter.unusedVariables false
set_option maxRecDepth 100000

end Go.Proofs.YtpbbfbpggedgpaaDoor.fns

/-
  Contract of the program's cycles and CyclesOf.
-/
namespace Go.Proofs.YtpbbfbpggedgpaaDoor.fns
open Go.ChangeShapes Go.WideShapes Go.ChangeAt Go.RowKit
open Go.Proofs.YtpbbfbpggedgpaaDoor.mem Go.Proofs.YtpbbfbpggedgpaaDoor.ints Go.Proofs.YtpbbfbpggedgpaaDoor.arr Go.Proofs.YtpbbfbpggedgpaaDoor.pm Go.Proofs.YtpbbfbpggedgpaaDoor.permOk Go.Proofs.YtpbbfbpggedgpaaDoor.permOf Go.Proofs.YtpbbfbpggedgpaaDoor.inv Go.Proofs.YtpbbfbpggedgpaaDoor.mat
set_option linter.unusedVariables false
set_option maxRecDepth 100000

theorem infoII : (Tryd.prog.info? 23).map (fun i => (i.zero, i.size, i.bytes)) = some (some (.slice none 0 0), 1, 24) := by kernel_rfl
theorem flagsOf_set {l : List Int} {z : Nat} : (flagsOf l).set z true = flagsOf (l ++ [(z : Int)]) := by
  refine tabB_set _ _ fun j hj => ?_
  by_cases hjz : j = z
  · subst hjz; simp
  · have : ¬ ((j : Int) = (z : Int)) := by omega
    simp [hjz, this]
/-- A boxed permutation, the flags of all rows, and the rows that grow. -/
structure Cm (w wr : World) (ps : List Int) (v : Value) (xss : List (List Int)) : Prop where
  p : Arr wr w.heap.size (V ps) 67
  met : Arr wr (w.heap.size + 1) (VB (flagsOf xss.flatten)) 95
  below : Below w.heap.size w wr
  mg : Mg wr (w.heap.size + 2) (w.heap.size + 2) (w.heap.size + 1) v xss
def MGives (xss : List (List Int)) (w : World) (e : Ending) (w' : World) : Prop := ∃ A c, e = .returned (.slice A xss.length c) ∧ Mat w' w.heap.size w'.heap.size A xss.length xss ∧ Below w.heap.size w w'
def Mk (w w1 wr : World) (S : List Int) : Prop := Out (w.heap.size + 1) (w.heap.size + 2) w1 wr ∧ Arr wr (w.heap.size + 1) (VB (flagsOf S)) 95

set_option maxHeartbeats 2000000 in
theorem cycles_any (ps : List Int) (n : Nat) (w : World) (hl : ps.length = 24) (hb : Bij n ps) (hn : n ≤ 24) :
    Calls Tryd.prog 36 #[.agg (V ps).toArray, .int .i64 n] w (MGives (cso ps n n) w) := by
  obtain ⟨i0, hi0, hz0, hz1, hz2⟩ := info_parts infoII
  have HL := Lib.hid hl; have HB := Lib.hid hb; clear hl hb
  go_enter Tryd.func36, Tryd.ntmps36
  go_wp2
  go_loopw [6, 12] (fun v i wr => ∃ k : Nat, k ≤ n ∧ i = .int .i64 k ∧ Cm w wr ps v (cso ps n k)) (fun _ i _ => n - (intOf i).toNat)
  case atStart =>
    exact ⟨0, Nat.zero_le _, rfl, (Arr.new w (V ps) _ rfl).alloc _, Arr.new _ (VB (flagsOf [])) _ (by simp), ((Below.refl _ _).alloc (Nat.le_refl _) _).alloc (by simp) _, Mg.nil _ _ _ _⟩
  case round =>
    obtain ⟨k, hk, rfl, hm⟩ := hrel
    obtain ⟨wo, rfl⟩ : ∃ wo : World, wo = wr := ⟨_, rfl⟩
    obtain ⟨C, cc, rfl⟩ := hm.mg.form
    have CM := Lib.hid hm; clear hm
    have hso : w.heap.size + 2 ≤ wo.heap.size := CM.out.met.lt
    by_cases hlt : k < n
    · have CS := Lib.hid (cso_cs HB.out k hk)
      by_cases hin : (k : Int) ∈ (cso ps n k).flatten
      · have hfl : wo.cell? ⟨w.heap.size + 1, k, none⟩ = some (.bool true) := flags_cell CM.out.met (by omega) (by simpa using hin)
        have NX : Hid (cso ps n (k + 1) = cso ps n k) := Lib.hid (by rw [cso, if_pos hin])
        clear hin
        go_wp2
        go_roundw
        case rel => exact ⟨k + 1, by omega, by go_num, by rw [NX.out]; exact CM.out⟩
        case measure => simp [intOf]; omega
      · have hfl : wo.cell? ⟨w.heap.size + 1, k, none⟩ = some (.bool false) := flags_cell CM.out.met (by omega) (by simpa using hin)
        have NX : Hid (cso ps n (k + 1) = cso ps n k ++ [cyc ps n k]) := Lib.hid (by rw [cso, if_neg hin])
        have FL : Hid ((cso ps n (k + 1)).flatten = (cso ps n k).flatten ++ cyc ps n k) := Lib.hid (by rw [NX.out]; simp)
        have CY := Lib.hid (cyc_way (f := (k : Int)) HB.out (by omega) (by omega))
        have hcl : (cyc ps n (k : Int)).length ≤ n := CY.out.inn.len
        clear hin
        go_wp2_with (refine wpList_load_row rfl 67 (.tmp 2) rfl w.heap.size rfl 67 (V ps).toArray (0, 0) _ CM.out.p Tryd.underlying67 rfl (size_V HL.out) ?_)
        refine (cycleFrom_any ps n k _ HL.out HB.out hn hlt).mono ?_
        rintro e w1 ⟨v1, rfl, ho1, b1⟩
        obtain ⟨C1, c1, rfl⟩ := own_form ho1
        have OW := Lib.hid ho1; have B1 := Lib.hid b1
        have hs1 := b1.size
        have A1 := Lib.hid (CM.out.met.keep b1 (by omega))
        clear ho1 b1 hfl
        go_wp2
        go_loopw [23] (fun i wr => ∃ j : Nat, j ≤ (cyc ps n (k : Int)).length ∧ i = .int .i64 j ∧ Mk w w1 wr ((cso ps n k).flatten ++ (cyc ps n (k : Int)).take j)) (fun i _ => (cyc ps n (k : Int)).length - (intOf i).toNat)
        case atStart => exact ⟨0, Nat.zero_le _, rfl, Out.refl _ _ _, by simpa using A1.out⟩
        case round =>
          obtain ⟨j, hj, rfl, hmk⟩ := hrel
          have MK := Lib.hid hmk; clear hmk
          have RO := Row.out (Row.of_own OW.out) (lo' := w.heap.size + 1) (hi' := w.heap.size + 2) MK.out.1 (.inr (by omega))
          by_cases hjl : j < (cyc ps n (k : Int)).length
          · obtain ⟨z, hz, hzs, hzd⟩ := CY.out.inn.at_ hjl
            obtain ⟨go, oo, uo, rfl, hgo, hgo2, huo, hco, hfo⟩ := RO.at_ hjl
            rw [V_get hzs] at huo
            obtain rfl := Option.some.inj huo
            obtain ⟨bz, hcz⟩ : ∃ b : Bool, wr.cell? ⟨w.heap.size + 1, z, none⟩ = some (.bool b) := ⟨_, flags_cell MK.out.2 (by omega) rfl⟩
            have hfz := MK.out.2.frozen z
            have HZ := Lib.hid hzs
            clear hzs hzd huo hfo RO
            go_wp2
            go_roundw
            case rel =>
              refine ⟨j + 1, by omega, by go_num, MK.out.1.set_ (by omega) (by omega) _, ?_⟩
              have h := MK.out.2.set_ z (.bool true)
              rw [VB_set, flagsOf_set] at h
              rw [List.take_add_one, HZ.out, ← List.append_assoc]
              exact h
            case measure => simp [intOf]; omega
          · obtain rfl : j = (cyc ps n (k : Int)).length := by omega
            have CPOS := CY.out.pos
            obtain ⟨hs, bl, own, hh, ne⟩ := CM.out.mg
            have hlx : hs.length = (cso ps n k).length := by simpa using own.1
            obtain ⟨g, hg0, hrow⟩ := own_row (xs := V (cyc ps n (k : Int))) (by rw [V_len]; exact OW.out) (by rw [V_len]; exact CPOS)
            rw [V_len] at hrow
            have HROW := Lib.hid (mat.Row.block hrow (w' := wr) (MK.out.1.block g (by have := hrow.2.1; omega) (by omega)) MK.out.1.size)
            have hs2 := MK.out.1.size
            have KEEP : Hid (∀ b, w.heap.size + 2 ≤ b → b < wo.heap.size → wr.heap[b]? = wo.heap[b]?) := Lib.hid (fun b q1 q2 => (MK.out.1.block b (by omega) (by omega)).trans (B1.out.block b q2))
            have OWN : Hid (wr.ownsRow (w.heap.size + 2) 23 1 (.slice C (cso ps n k).length cc) (cso ps n k).length hs) := Lib.hid (by
              refine ⟨own.1, ?_⟩
              rcases own.2 with h0 | ⟨g, cap, cur, q1, q2, q3, q4⟩
              · exact .inl h0
              · exact .inr ⟨g, cap, cur, q1, q2, (KEEP.out g q2 (Array.getElem?_eq_some_iff.1 q3).1).trans q3, q4⟩)
            have HHH := Lib.hid hh; have NE := Lib.hid ne
            have VLT : Hid (∀ b, (Value.slice C (cso ps n k).length cc).ownBlock = some b → b < wo.heap.size) := Lib.hid (fun b e => (own.lt b e).2)
            have hcle : (cso ps n k).length ≤ k := CS.out.len
            clear own hh ne hrow RO hlx
            go_wp2_with (at_builtin; refine wpList_append_one2 wr _ _ rfl _ _ 45 rfl (w.heap.size + 2) 23 i0 _ 24 1 Tryd.underlying45 hi0 hz0 hz1 rfl hz2 rfl _ _ _ rfl OWN.out rfl rfl ?c4 (by decide) (by omega) ?_)
            case c4 => omega
            intro v' w' ho hg hb
            have HN : Hid (Mg w' (w.heap.size + 2) (w.heap.size + 2) (w.heap.size + 1) v' (cso ps n (k + 1))) := Lib.hid (by
              rw [NX.out]
              exact Mg.push HHH.out NE.out (by omega) KEEP.out hso (by omega) HROW.out hg0 VLT.out rfl ho hg hb)
            have HP : Hid (Arr w' w.heap.size (V ps) 67) := Lib.hid ((hg.block _ (by omega) (fun e => by have := (OWN.out.lt _ e.symm).1; omega)).trans ((MK.out.1.block _ (by omega) (by omega)).trans (CM.out.p.keep B1.out (by omega))))
            have HM : Hid (Arr w' (w.heap.size + 1) (VB (flagsOf (cso ps n (k + 1)).flatten)) 95) := Lib.hid (by
              have := MK.out.2
              rw [List.take_of_length_le (Nat.le_refl _), ← FL.out] at this
              exact (hg.block _ (by omega) (fun e => by have := (OWN.out.lt _ e.symm).1; omega)).trans this)
            have HBL : Hid (Below w.heap.size w w') := Lib.hid (((CM.out.below.trans (B1.out.mono (by omega))).trans (MK.out.1.below (by omega) (by omega))).trans ((Below.refl _ _).grown hg (by omega) (fun b hb => by have := (OWN.out.lt b hb).1; omega)))
            clear ho hg hb MK OWN HHH KEEP CM
            go_wp2
            go_roundw
            case rel => exact ⟨k + 1, by omega, by go_num, HP.out, HM.out, HBL.out, HN.out⟩
            case measure => simp [intOf]; omega
    · obtain rfl : k = n := by omega
      go_wp2
      go_ret
      exact ⟨C, cc, rfl, CM.out.mg.mat (by omega) (by omega), CM.out.below⟩
end Go.Proofs.YtpbbfbpggedgpaaDoor.fns

/-
  Contracts of CyclesOf, of the program and of the model.
-/
namespace Go.Proofs.YtpbbfbpggedgpaaDoor.fns
open Go.ChangeShapes Go.WideShapes Go.ChangeAt Go.RowKit
open Go.Proofs.YtpbbfbpggedgpaaDoor.mem Go.Proofs.YtpbbfbpggedgpaaDoor.ints Go.Proofs.YtpbbfbpggedgpaaDoor.arr Go.Proofs.YtpbbfbpggedgpaaDoor.pm Go.Proofs.YtpbbfbpggedgpaaDoor.permOk Go.Proofs.YtpbbfbpggedgpaaDoor.permOf Go.Proofs.YtpbbfbpggedgpaaDoor.inv Go.Proofs.YtpbbfbpggedgpaaDoor.mat
set_option linter.unusedVariables false
set_option maxRecDepth 100000

theorem mgives_nil {w w' : World} (h : Below w.heap.size w w') : MGives [] w (.returned (.slice none 0 0)) w' := ⟨none, 0, rfl, Mat.nil _ _ _ _ (Nat.le_refl _), h⟩
theorem mgives_later {w w1 w' : World} {r : List (List Int)} {e : Ending} (hb : Below w.heap.size w w1) (h : MGives r w1 e w') : MGives r w e w' := by
  obtain ⟨A, c, he, ho, hb'⟩ := h
  exact ⟨A, c, he, ho.wider hb.size (Nat.le_refl _) (Nat.le_refl _), hb.trans (hb'.mono hb.size)⟩

set_option maxHeartbeats 1000000 in
theorem cyc_impl (A : Option Addr) (n c : Nat) (xs : List Int) (hi : Nat) (w : World) (hx : Rd w hi A n (V xs)) (hn : n ≤ 1048576) :
    Calls Tryd.prog 16 #[.slice A n c] w (MGives (cycF xs) w) := by
  have lx : xs.length = n := by simpa [V] using hx.1
  have LX := Lib.hid lx; clear lx
  have HX := Lib.hid hx; clear hx
  by_cases ox : okB xs = true
  · have OK := Lib.hid (Ok.of xs ox)
    have hn24 : n ≤ 24 := by have := OK.out.len; rw [LX.out] at this; exact this
    have HV : Hid (pv xs = ext xs) := Lib.hid (by simp [pv, ox])
    have HF : Hid (cycF xs = cso (ext xs) n n) := Lib.hid (by rw [← LX.out, cycF_ext OK.out]; simp [cycF, ox])
    have BJ : Hid (Bij n (ext xs)) := Lib.hid (by have := OK.out.bijExt; rw [LX.out] at this; exact this)
    have HO := Lib.hid ox; clear ox
    go_enter Tryd.func16, Tryd.ntmps16
    go_wp2_with fail
    refine (permOf_any A n c xs _ _ HX.out hn).mono ?_
    rintro e w1 ⟨rfl, b1⟩
    rw [HO.out, HV.out]
    have B1 := Lib.hid b1; clear b1
    have N1 := Lib.hid ((Arr.new w1 (V zeros) 67 rfl).row (cs' := V (ext xs)))
    go_wp2_with (first | (refine wpList_store_row rfl 67 (.tmp 3) (.tmp 8) rfl w1.heap.size (V (ext xs)).toArray rfl rfl 67 (V zeros).toArray (Arr.new w1 (V zeros) _ rfl) (size_V (ext_len _)) (by simp [V_len, ext_len, zeros]) (one_V _) ?_) | (refine wpList_load_row rfl 67 (.tmp 3) rfl w1.heap.size rfl 67 (V (ext xs)).toArray (0, 0) _ N1.out Tryd.underlying67 rfl (size_V (ext_len _)) ?_))
    refine (cycles_any (ext xs) n _ (ext_len _) BJ.out hn24).mono ?_
    rintro e w2 hg
    have hg2 := mgives_later (arr.below_setRow (B1.out.alloc B1.out.size _) B1.out.size _) hg
    rw [← HF.out] at hg2
    obtain ⟨C, cc, rfl, ho, hb⟩ := hg2
    have HOW := Lib.hid ho; have HB := Lib.hid hb; clear ho hb hg
    go_wp2_with fail
    go_ret
    exact ⟨C, cc, rfl, HOW.out, HB.out⟩
  · have ox' : okB xs = false := by simpa using ox
    have HF : Hid (cycF xs = []) := Lib.hid (by simp [cycF, ox'])
    have HO := Lib.hid ox'; clear ox ox'
    rw [HF.out]
    go_enter Tryd.func16, Tryd.ntmps16
    go_wp2_with fail
    refine (permOf_any A n c xs _ _ HX.out hn).mono ?_
    rintro e w1 ⟨rfl, b1⟩
    rw [HO.out]
    have B1 := Lib.hid b1; clear b1
    go_wp2_with (refine wpList_store_row rfl 67 (.tmp 3) (.tmp 8) rfl w1.heap.size (V (pv xs)).toArray rfl rfl 67 (V zeros).toArray (Arr.new w1 (V zeros) _ rfl) (size_V (pv_len _)) (by simp [V_len, pv_len, zeros]) (one_V _) ?_)
    go_ret
    exact mgives_nil (arr.below_setRow (B1.out.alloc B1.out.size _) B1.out.size _)

theorem infoB : (Tryd.prog.info? 4).map (fun i => (i.zero, i.size, i.bytes)) = some (some (.bool false), 1, 1) := by kernel_rfl
def flagsN (n : Nat) (l : List Int) : List Bool := (List.range n).map fun (j : Nat) => decide ((j : Int) ∈ l)
theorem flagsN_at (n : Nat) (l : List Int) {k : Nat} (h : k < n) : (flagsN n l)[k]? = some (decide ((k : Int) ∈ l)) := by simp [flagsN, h]
theorem flagsN_set {n : Nat} {l : List Int} {z : Nat} : (flagsN n l).set z true = flagsN n (l ++ [(z : Int)]) := by
  refine List.ext_getElem? fun i => ?_
  by_cases hi : i < n
  · rw [flagsN_at _ _ hi, List.getElem?_set]
    by_cases e : z = i
    · subst e; simp [flagsN, hi]
    · rw [if_neg e, flagsN_at _ _ hi]
      have : ¬ ((i : Int) = (z : Int)) := by omega
      simp [this]
  · rw [List.getElem?_eq_none (by simp [flagsN]; omega), List.getElem?_eq_none (by simp [flagsN]; omega)]
theorem flagsN_nil (n : Nat) : flagsN n [] = List.replicate n false := by
  refine List.ext_getElem? fun i => ?_
  by_cases hi : i < n
  · rw [flagsN_at _ _ hi]; simp [hi]
  · rw [List.getElem?_eq_none (by simp [flagsN]; omega), List.getElem?_eq_none (by simp; omega)]
theorem flagsN_cell {w : World} {g n : Nat} {l : List Int} {t : TypeId} (h : Arr w g (VB (flagsN n l)) t) {k : Nat} (hk : k < n) {b : Bool} (hb : decide ((k : Int) ∈ l) = b) : w.cell? ⟨g, k, none⟩ = some (.bool b) :=
  h.cell (by simp [VB, flagsN_at n l hk, hb])
/-- The flags of all rows, and the rows that grow. -/
structure Sm (w wr : World) (n : Nat) (v : Value) (xss : List (List Int)) : Prop where
  met : Arr wr (w.heap.size + 1) (VB (flagsN n xss.flatten)) 4
  below : Below w.heap.size w wr
  mg : Mg wr w.heap.size (w.heap.size + 2) (w.heap.size + 1) v xss
/-- Inside a round that began at wo: a row acc that grows in new blocks, the flags of S and of acc. -/
structure Si (w wo wr : World) (n : Nat) (S : List Int) (v : Value) (acc : List Int) : Prop where
  own : wr.ownsRow wo.heap.size 3 1 v acc.length (V acc)
  met : Arr wr (w.heap.size + 1) (VB (flagsN n (S ++ acc))) 4
  out : Out (w.heap.size + 1) (w.heap.size + 2) wo wr
/-- The state of the model's walk along a cycle: not begun, or begun and not back. -/
def Sw (n : Nat) (ps : List Int) (f x : Int) (acc S : List Int) : Prop := (acc = [] ∧ x = f) ∨ (∃ m, Cw n ps f x acc m) ∧ (∀ y ∈ acc, ¬ y ∈ S)

theorem Sw.x_in {n : Nat} {ps acc S : List Int} {f x : Int} (h : Sw n ps f x acc S) (hb : Bij n ps) (f0 : 0 ≤ f) (f1 : f < n) : ∃ z : Nat, x = (z : Int) ∧ z < n := by
  have : 0 ≤ x ∧ x < n := by
    rcases h with ⟨_, rfl⟩ | ⟨⟨m, hc⟩, _⟩
    · exact ⟨f0, f1⟩
    · exact hc.way.x_in hb
  exact ⟨x.toNat, by omega, by omega⟩
theorem Sw.len {n : Nat} {ps acc S : List Int} {f x : Int} (h : Sw n ps f x acc S) : acc.length ≤ n := by
  rcases h with ⟨rfl, _⟩ | ⟨⟨m, hc⟩, _⟩
  · simp
  · exact hc.way.inn.len
theorem Sw.exit {n k : Nat} {ps acc : List Int} {out : List (List Int)} {f x : Int} (h : Sw n ps f x acc out.flatten) (hb : Bij n ps) (hc : Cs n ps k out) (hx : x ∈ out.flatten ++ acc) :
    (acc = [] ∧ f ∈ out.flatten) ∨ (acc = cyc ps n f ∧ ¬ f ∈ out.flatten) := by
  rcases h with ⟨rfl, rfl⟩ | ⟨⟨m, hw⟩, hd⟩
  · exact .inl ⟨rfl, by simpa using hx⟩
  · have hp := hw.way.pos
    have hf : f ∈ acc := by have := getD_mem (l := acc) (i := 0) hp; rw [hw.way.head] at this; exact this
    by_cases e : x = f
    · subst e; exact .inr ⟨hw.done, hd _ hf⟩
    · exfalso
      rcases List.mem_append.1 hx with q | q
      · have m1 := getD_mem (l := acc) (i := acc.length - 1) (by omega)
        have a1 := hw.way.inn.lo _ m1; have a2 := hw.way.inn.hi _ m1
        rw [hw.way.last] at q
        have := hc.back _ (by omega) q
        rw [Int.toNat_of_nonneg a1] at this
        exact hd _ m1 this
      · exact hw.way.fresh hb e q
theorem Sw.next {n : Nat} {ps acc S : List Int} {f x : Int} (h : Sw n ps f x acc S) (hb : Bij n ps) (f0 : 0 ≤ f) (f1 : f < n) (hx : ¬ x ∈ S ++ acc) : Sw n ps f (ps.getD x.toNat 0) (acc ++ [x]) S := by
  have hxS : ¬ x ∈ S := fun q => hx (List.mem_append.2 (.inl q))
  have hxa : ¬ x ∈ acc := fun q => hx (List.mem_append.2 (.inr q))
  rcases h with ⟨rfl, rfl⟩ | ⟨⟨m, hw⟩, hd⟩
  · exact .inr ⟨⟨n, Cw.start f0 f1⟩, fun y hy => by simp at hy; subst hy; exact hxS⟩
  · have hp := hw.way.pos
    have hf : f ∈ acc := by have := getD_mem (l := acc) (i := 0) hp; rw [hw.way.head] at this; exact this
    refine .inr ⟨⟨m - 1, hw.next hb (fun e => hxa (e ▸ hf))⟩, fun y hy => ?_⟩
    rcases List.mem_append.1 hy with q | q
    · exact hd y q
    · simp at q; subst q; exact hxS

theorem Si.next {w wo wr w1 w' : World} {n : Nat} {S acc : List Int} {v v' : Value} {z m : Nat} (h : Si w wo wr n S v acc) (hw1 : w1 = wr.setCell ⟨w.heap.size + 1, z, none⟩ (.bool true))
    (ho : w'.ownsRow wo.heap.size 3 1 v' (m + 1) (V acc ++ [.int .i64 (z : Int)])) (hm : m = acc.length) (hg : w1.grownBy w' v.ownBlock) (hso : w.heap.size + 2 ≤ wo.heap.size) : Si w wo w' n S v' (acc ++ [(z : Int)]) := by
  subst hm
  have e : V (acc ++ [(z : Int)]) = V acc ++ [.int .i64 (z : Int)] := by simp [V]
  have s1 : w1.heap.size = wr.heap.size := by rw [hw1]; simp [World.setCell]
  have hm := h.met.lt
  have O1 : Out (w.heap.size + 1) (w.heap.size + 2) wo w1 := by rw [hw1]; exact h.out.set_ (by omega) (by omega) _
  refine ⟨by rw [e]; simpa using ho, ?_, ⟨hg.os.trans O1.os, hg.tape.trans O1.tape, hg.output.trans O1.output, Nat.le_trans O1.size hg.size, fun b hb hne => (hg.block b (by have := O1.size; omega) (fun e => by have := (h.own.lt b e.symm).1; omega)).trans (O1.block b hb hne)⟩⟩
  refine (hg.block _ (by omega) (fun e => by have := (h.own.lt _ e.symm).1; omega)).trans ?_
  have hh := h.met.set_ z (.bool true)
  rw [VB_set, flagsN_set, ← hw1, List.append_assoc] at hh
  exact hh

end Go.Proofs.YtpbbfbpggedgpaaDoor.fns
