/-
  The text of a list of integers: the model's l17Ints, the program's joinInts; FormatSurface of both.
-/
import Derived.Test.YtdoohnphgembdaaDoorImplFmt
import Derived.Test.YtdoohnphgembdaaDoorJoin
import Derived.Test.YtdoohnphgembdaaDoorSfn
import Derived.Test.YtdoohnphgembdaaDoorRg
namespace Go.Proofs.YtdoohnphgembdaaDoor.ji
open Go.ChangeShapes Go.WideShapes Go.ChangeAt Go.RowKit
open Go.Proofs.YtdoohnphgembdaaDoor.mem Go.Proofs.YtdoohnphgembdaaDoor.strs Go.Proofs.YtdoohnphgembdaaDoor.ints Go.Proofs.YtdoohnphgembdaaDoor.arr Go.Proofs.YtdoohnphgembdaaDoor.fmt Go.Proofs.YtdoohnphgembdaaDoor.door Go.Proofs.YtdoohnphgembdaaDoor.sf Go.Proofs.YtdoohnphgembdaaDoor.pm Go.Proofs.YtdoohnphgembdaaDoor.permOf Go.Proofs.YtdoohnphgembdaaDoor.fns
set_option linter.unusedVariables false
set_option maxRecDepth 100000

/-- The texts of integers, one by one. -/
def txt (xs : List Int) : List ByteArray := xs.map fun x => B (Lib.itoa x)
def In64 (xs : List Int) : Prop := ∀ x ∈ xs, -9223372036854775808 ≤ x ∧ x ≤ 9223372036854775807
theorem txt_len (xs : List Int) : (txt xs).length = xs.length := by simp [txt]
theorem txt_take (xs : List Int) (k : Nat) : (txt xs).take k = txt (xs.take k) := by simp [txt, List.map_take]
theorem txt_snoc {xs : List Int} {k : Nat} {z : Int} (h : xs[k]? = some z) : S (txt (xs.take (k + 1))) = S (txt (xs.take k)) ++ [.string (B (Lib.itoa z))] := by
  rw [List.take_add_one, h]; simp [txt, S]
theorem itoa_len {x : Int} (h1 : -9223372036854775808 ≤ x) (h2 : x ≤ 9223372036854775807) : (Lib.itoa x).length ≤ 21 := by
  unfold Lib.itoa
  split
  · have := dec_len20 (u := x.natAbs) (by omega)
    simp; omega
  · have := dec_len20 (u := x.toNat) (by omega)
    omega
theorem In64.tail {x : Int} {xs : List Int} (h : In64 (x :: xs)) : In64 xs := fun y hy => h y (List.mem_cons_of_mem _ hy)
theorem sm_txt : ∀ {xs : List Int}, In64 xs → sm (txt xs) ≤ 21 * xs.length
  | [], _ => by simp [txt, sm]
  | x :: xs, h => by
    have h1 := sm_txt h.tail
    obtain ⟨a, b⟩ := h x (by simp)
    have h2 := itoa_len a b
    have h3 := B_size (Lib.itoa x)
    simp only [txt, sm, List.map_cons, List.sum_cons, List.length_cons] at *
    omega
theorem In64.at {xs : List Int} (h : In64 xs) {k : Nat} {z : Int} (hz : xs[k]? = some z) : -9223372036854775808 ≤ z ∧ z ≤ 9223372036854775807 := h z (List.mem_of_getElem? hz)

structure JRel (xs : List Int) (base : Nat) (w wr : World) (v : Value) (k : Nat) : Prop where
  own : wr.ownsRow base 9 1 v k (S (txt (xs.take k)))
  bel : Below w.heap.size w wr

theorem own_past {w w' : World} {base : Nat} {e : TypeId} {size n : Nat} {v : Value} {xs : List Value} (h : w.ownsRow base e size v n xs) (hb : Below w.heap.size w w') : w'.ownsRow base e size v n xs := by
  refine ⟨h.1, ?_⟩
  rcases h.2 with q | ⟨g, cap, cur, q1, q2, q3, q4⟩
  · exact .inl q
  · have hlt : g < w.heap.size := by
      rcases Nat.lt_or_ge g w.heap.size with hl | hl
      · exact hl
      · rw [Array.getElem?_eq_none hl] at q3; cases q3
    exact .inr ⟨g, cap, cur, q1, q2, by rw [hb.block _ hlt]; exact q3, q4⟩
theorem JRel.nil (xs : List Int) (w : World) : JRel xs w.heap.size w w (.slice none 0 0) 0 :=
  ⟨by simpa [txt, S] using World.ownsRow_nil w w.heap.size 9 1, Below.refl _ _⟩

set_option maxHeartbeats 1000000 in
theorem ints_spec (A : Option Addr) (n c : Nat) (xs : List Int) (b : ByteArray) (hi : Nat) (w : World) (hx : Rd w hi A n (V xs)) (hn : n ≤ 40000) (hv : In64 xs) (hb : b.size ≤ 1048576) :
    Calls Tryd.prog 20 #[.slice A n c, .string b] w fun e w' => e = .returned (.string ⟨(join.J (txt xs) b).toArray⟩) ∧ Below w.heap.size w w' := by
  have lx : xs.length = n := by simpa [V] using hx.1
  have LX := Lib.hid lx; clear lx
  have HX := Lib.hid hx; have HV := Lib.hid hv; clear hx hv
  obtain ⟨i0, hi0, hz0, hz1, hz2⟩ := info_parts infoS
  go_enter Tryd.func20, Tryd.ntmps20
  go_wp2
  go_loopw [5, 7, 11] (fun v _ i wr => ∃ k : Nat, k ≤ n ∧ i = .int .i64 k ∧ JRel xs w.heap.size w wr v k) (fun _ _ i _ => n - (intOf i).toNat)
  case atStart => exact ⟨0, Nat.zero_le _, rfl, by simpa [txt, S] using World.ownsRow_made w #[] 0 (Nat.le_refl _) (by simp) rfl, (Below.refl _ _).alloc (Nat.le_refl _) _⟩
  case round =>
    obtain ⟨k, hk, rfl, hrl⟩ := hrel
    have HR := Lib.hid hrl; clear hrl
    have hsz := HR.out.bel.size
    by_cases hlt : k < n
    · obtain ⟨g, off, u, rfl, hgl, hxu, hcx⟩ := HX.out.at_ hlt
      obtain ⟨z, hz, rfl⟩ := V_at hxu
      rw [← HR.out.bel.cell (p := ⟨g, off + k, none⟩) (Nat.lt_of_lt_of_le hgl HX.out.2.1)] at hcx
      obtain ⟨z1, z2⟩ := HV.out.at hz
      have HZ := Lib.hid hz; clear hz hxu
      go_wp2_with fail
      refine (fmt.spec_any z _ z1 z2).mono ?_
      rintro e w1 ⟨rfl, b1⟩
      have HO : Hid (w1.ownsRow w.heap.size 9 1 u5 k (S (txt (xs.take k)))) := Lib.hid (own_past HR.out.own b1)
      have hsz1 := b1.size
      have B1 := Lib.hid (HR.out.bel.trans (b1.mono hsz)); clear b1
      go_wp2_with (at_builtin; refine wpList_append_one w1 _ _ rfl _ _ 53 rfl w.heap.size 9 i0 _ 16 Tryd.underlying53 hi0 hz0 hz1 hz2 rfl _ _ _ rfl HO.out rfl rfl ?c4 (by decide) (by omega) ?_)
      case c4 => omega
      intro v' w2 hown hg
      have H1 := Lib.hid hown; have HG := Lib.hid (own_below (B := w.heap.size) HO.out hg (Nat.le_refl _) (by omega)); clear hown hg
      go_wp2
      go_roundw
      case rel => exact ⟨k + 1, by omega, by go_num, by rw [txt_snoc HZ.out]; exact H1.out, B1.out.trans HG.out⟩
      case measure => simp [intOf]; omega
    · obtain rfl : k = n := by omega
      obtain ⟨A', c', rfl⟩ := own_form HR.out.own
      have hsm := sm_txt HV.out
      rw [LX.out] at hsm
      have rA := Row.of_own HR.out.own
      have e : xs.take k = xs := List.take_of_length_le (by rw [LX.out]; exact Nat.le_refl _)
      rw [e] at rA
      have RA := Lib.hid rA; clear rA
      go_wp2_with fail
      refine (join.spec_any A' k c' (txt xs) b _ _ RA.out.rd (by omega) (by omega) hb).mono ?_
      rintro e w1 ⟨rfl, rfl⟩
      go_wp2
      go_ret
      exact ⟨rfl, HR.out.bel⟩

set_option maxHeartbeats 1000000 in
theorem ints_impl (A : Option Addr) (n c : Nat) (xs : List Int) (hi : Nat) (w : World) (hx : Rd w hi A n (V xs)) (hn : n ≤ 40000) (hv : In64 xs) (tab : Pow w) :
    Calls Tryd.prog 24 #[.slice A n c] w fun e w' => e = .returned (.string ⟨(join.J (txt xs) ⟨#[44]⟩).toArray⟩) ∧ Below w.heap.size w w' := by
  have lx : xs.length = n := by simpa [V] using hx.1
  have LX := Lib.hid lx; clear lx
  have HX := Lib.hid hx; have HV := Lib.hid hv; have TAB := Lib.hid tab; clear hx hv tab
  obtain ⟨i0, hi0, hz0, hz1, hz2⟩ := info_parts infoS
  go_enter Tryd.func24, Tryd.ntmps24
  go_wp2
  go_loopw [3, 5, 8] (fun v _ i wr => ∃ k : Nat, k ≤ n ∧ i = .int .i64 k ∧ JRel xs w.heap.size w wr v k) (fun _ _ i _ => n - (intOf i).toNat)
  case atStart => exact ⟨0, Nat.zero_le _, rfl, JRel.nil xs w⟩
  case round =>
    obtain ⟨k, hk, rfl, hrl⟩ := hrel
    have HR := Lib.hid hrl; clear hrl
    have hsz := HR.out.bel.size
    by_cases hlt : k < n
    · obtain ⟨g, off, u, rfl, hgl, hxu, hcx⟩ := HX.out.at_ hlt
      obtain ⟨z, hz, rfl⟩ := V_at hxu
      rw [← HR.out.bel.cell (p := ⟨g, off + k, none⟩) (Nat.lt_of_lt_of_le hgl HX.out.2.1)] at hcx
      obtain ⟨z1, z2⟩ := HV.out.at hz
      have HZ := Lib.hid hz; clear hz hxu
      go_wp2_with fail
      refine (implFmt.impl_any z _ z1 z2 (TAB.out.keep HR.out.bel TAB.out.lt)).mono ?_
      rintro e w1 ⟨rfl, b1⟩
      have HO : Hid (w1.ownsRow w.heap.size 9 1 u3 k (S (txt (xs.take k)))) := Lib.hid (own_past HR.out.own b1)
      have hsz1 := b1.size
      have B1 := Lib.hid (HR.out.bel.trans (b1.mono hsz)); clear b1
      go_wp2_with (at_builtin; refine wpList_append_one w1 _ _ rfl _ _ 53 rfl w.heap.size 9 i0 _ 16 Tryd.underlying53 hi0 hz0 hz1 hz2 rfl _ _ _ rfl HO.out rfl rfl ?c4 (by decide) (by omega) ?_)
      case c4 => omega
      intro v' w2 hown hg
      have H1 := Lib.hid hown; have HG := Lib.hid (own_below (B := w.heap.size) HO.out hg (Nat.le_refl _) (by omega)); clear hown hg
      go_wp2
      go_roundw
      case rel => exact ⟨k + 1, by omega, by go_num, by rw [txt_snoc HZ.out]; exact H1.out, B1.out.trans HG.out⟩
      case measure => simp [intOf]; omega
    · obtain rfl : k = n := by omega
      obtain ⟨A', c', rfl⟩ := own_form HR.out.own
      have hcc := (sf.own_cap HR.out.own).2
      have hsm := sm_txt HV.out
      rw [LX.out] at hsm
      have rA := Row.of_own HR.out.own
      have e : xs.take k = xs := List.take_of_length_le (by rw [LX.out]; exact Nat.le_refl _)
      rw [e] at rA
      have RA := Lib.hid rA; clear rA
      go_wp2_with fail
      refine (join.impl_any A' k c' (txt xs) ⟨#[44]⟩ _ _ RA.out.rd (by omega) hcc (by omega) (by decide)).mono ?_
      rintro e w1 ⟨rfl, b1⟩
      go_wp2
      go_ret
      exact ⟨rfl, HR.out.bel.trans (b1.mono hsz)⟩

theorem ok_in {xs : List Int} (h : Ok xs) : In64 xs := by
  intro x hx
  obtain ⟨i, hi, rfl⟩ := List.mem_iff_getElem.1 hx
  have h1 := h.lo i hi; have h2 := h.hi i hi; have h3 := h.len
  rw [List.getD_eq_getElem?_getD, List.getElem?_eq_getElem hi, Option.getD_some] at h1 h2
  omega
theorem trans_ok {r u : List Int} (h : transB r u = true) : Ok r ∧ Ok u := by
  simp only [transB, okBB, Bool.and_eq_true] at h
  exact ⟨Ok.of _ h.1.1.1.1, Ok.of _ h.1.1.1.2⟩
/-- The text of a list, with commas. -/
def cm (xs : List Int) : ByteArray := ⟨(join.J (txt xs) ⟨#[44]⟩).toArray⟩
theorem cm_size {xs : List Int} (h : Ok xs) : (cm xs).size ≤ 600 := by
  have h1 := join.J_le (txt xs) ⟨#[44]⟩ (m := 1) (n := 24) (by rw [txt_len]; exact h.len) (by decide)
  have h2 := sm_txt (ok_in h)
  have h3 := h.len
  show (join.J (txt xs) ⟨#[44]⟩).toArray.size ≤ 600
  rw [List.size_toArray]; omega
def fsF (r u : List Int) : ByteArray := if transB r u then cm r ++ ⟨#[124]⟩ ++ cm u else ⟨#[]⟩
theorem pair_bytes (a b : ByteArray) : (⟨(join.J [a, b] ⟨#[124]⟩).toArray⟩ : ByteArray) = a ++ ⟨#[124]⟩ ++ b := by
  have e1 : a = ⟨a.data.toList.toArray⟩ := by simp
  have e2 : b = ⟨b.data.toList.toArray⟩ := by simp
  conv => rhs; rw [e1, e2]
  rw [ByteArray.mk_append_mk, ByteArray.mk_append_mk]
  simp [join.J, join.L, Lib.join_cons, Lib.joinTail]
theorem fst_rd {w : World} {hi : Nat} {P Q : Option Addr} {n c m d : Nat} {r u : List Int} (h : Srd w hi (.agg #[.slice P n c, .slice Q m d]) r u) : Rd w hi P n (V r) := by
  obtain ⟨P', n', c', Q', m', d', q, a, b, e1, e2⟩ := h
  simp at q; obtain ⟨⟨rfl, rfl, rfl⟩, rfl, rfl, rfl⟩ := q
  exact a
theorem snd_rd {w : World} {hi : Nat} {P Q : Option Addr} {n c m d : Nat} {r u : List Int} (h : Srd w hi (.agg #[.slice P n c, .slice Q m d]) r u) : Rd w hi Q m (V u) := by
  obtain ⟨P', n', c', Q', m', d', q, a, b, e1, e2⟩ := h
  simp at q; obtain ⟨⟨rfl, rfl, rfl⟩, rfl, rfl, rfl⟩ := q
  exact b
theorem box0 {base top a : Nat} {w W : World} {x y : Value} {l : List (Nat × List Value)} (h : Hld base top w ((a, [x, y]) :: l) W) : W.cell? ⟨a, 0, none⟩ = some x := by simpa using h.fst 0 x rfl
theorem box1 {base top a : Nat} {w W : World} {x y : Value} {l : List (Nat × List Value)} (h : Hld base top w ((a, [x, y]) :: l) W) : W.cell? ⟨a, 1, none⟩ = some y := by simpa using h.fst 1 y rfl

theorem cm_spec (A : Option Addr) (n c : Nat) (xs : List Int) (hi : Nat) (w : World) (hx : Rd w hi A n (V xs)) (hn : n ≤ 40000) (hv : In64 xs) :
    Calls Tryd.prog 20 #[.slice A n c, .string ⟨#[44]⟩] w fun e w' => e = .returned (.string (cm xs)) ∧ Below w.heap.size w w' :=
  ints_spec A n c xs ⟨#[44]⟩ hi w hx hn hv (by decide)
theorem cm_impl (A : Option Addr) (n c : Nat) (xs : List Int) (hi : Nat) (w : World) (hx : Rd w hi A n (V xs)) (hn : n ≤ 40000) (hv : In64 xs) (tab : Pow w) :
    Calls Tryd.prog 24 #[.slice A n c] w fun e w' => e = .returned (.string (cm xs)) ∧ Below w.heap.size w w' :=
  ints_impl A n c xs hi w hx hn hv tab

set_option maxHeartbeats 4000000 in
theorem fs_spec (v : Value) (r u : List Int) (hi : Nat) (w : World) (hx : Srd w hi v r u) (hn : r.length ≤ 1048576) (hm : u.length ≤ 1048576) :
    Calls Tryd.prog 9 #[v] w fun e w' => e = .returned (.string (fsF r u)) ∧ Below w.heap.size w w' := by
  have HX := Lib.hid hx; clear hx
  obtain ⟨P, n, c, Q, m, d, rfl, q1, q2, e1, e2, ht, HR⟩ := HX.out.open
  have L1 := Lib.hid q1; have L2 := Lib.hid q2
  go_enter Tryd.func9, Tryd.ntmps9
  go_wp2_with fail
  refine (ok_spec _ r u hi _ (HX.out.keep ((Below.refl hi w).alloc ht _) (Nat.le_refl _)) hn hm).mono ?_
  rintro e w1 ⟨rfl, b1⟩
  have A0 := Lib.hid ((Arr.new w [.slice P n c, .slice Q m d] 33 rfl).keep b1 (by simp))
  have B1 := Lib.hid (below1 _ _ b1); clear b1
  have X1 := Lib.hid (HX.out.keep (B1.out.mono ht) (Nat.le_refl _))
  have hs1 := B1.out.size
  cases hq : transB r u
  · have HQ := Lib.hid hq; clear hq
    go_wp2_with fail
    go_ret
    exact ⟨ret_str (by rw [fsF, HQ.out]; rfl), B1.out⟩
  · obtain ⟨o1, o2⟩ := trans_ok hq
    have n24 : n ≤ 24 := by have := o1.len; rw [L1.out] at this; exact this
    have m24 : m ≤ 24 := by have := o2.len; rw [L2.out] at this; exact this
    have z1 := cm_size o1; have z2 := cm_size o2
    have I1 := Lib.hid (ok_in o1); have I2 := Lib.hid (ok_in o2)
    have HF : Hid (fsF r u = cm r ++ ⟨#[124]⟩ ++ cm u) := Lib.hid (by rw [fsF, hq]; rfl)
    clear hq o1 o2
    clear q1 q2 HR
    go_wp2_with fail
    refine wp_region_held_drew (S := Hld w1.heap.size w1.heap.size w1 [(w.heap.size, [.slice P n c, .slice Q m d])]) (by kernel_rfl) (Hld.start1 A0.out) (fun hHeld => ?_)
    have b1 := hHeld.below
    generalize w1.drew = w2 at *
    have s2 := b1.size; replace X1 := Lib.hid (X1.out.keep b1 X1.out.top); replace B1 := Lib.hid (B1.out.trans (b1.mono B1.out.size)); clear b1
    refine wpAnyH_take (i := 0) (v := .pointer (some ⟨w.heap.size, 0, none⟩)) rfl (by kernel_rfl) (by kernel_rfl) (by kernel_rfl) (fun _ _ _ h => h) (Or.inl ⟨by rfl, fun w hSw => by go_simp⟩) hHeld ?_
    refine wpAnyH_take (i := 4) (v := .pointer (some ⟨w.heap.size, 1, none⟩)) rfl (by kernel_rfl) (by kernel_rfl) (by kernel_rfl) (fun _ _ _ h => h) (Or.inl ⟨by rfl, fun w hSw => by go_simp⟩) hHeld ?_
    refine wpAnyH_take (i := 1) (v := .slice P n c) rfl (by kernel_rfl) (by kernel_rfl) (by kernel_rfl) (fun _ _ _ h => h) (Or.inl ⟨by rfl, fun w hSw => by have := box0 hSw; go_simp⟩) hHeld ?_
    refine wpAnyH_take (i := 5) (v := .slice Q m d) rfl (by kernel_rfl) (by kernel_rfl) (by kernel_rfl) (fun _ _ _ h => h) (Or.inl ⟨by rfl, fun w hSw => by have := box1 hSw; go_simp⟩) hHeld ?_
    refine wpAnyH_ready (rs := [2]) (by kernel_rfl) (by simp) (AllReadyH.cons rfl (fun K hK => ?_) AllReadyH.nil)
    go_simp
    refine (cm_spec P n c r hi _ (fst_rd X1.out) (by omega) I1.out).mono ?_
    rintro e w3 ⟨rfl, b1⟩
    have s3 := b1.size; replace X1 := Lib.hid (X1.out.keep b1 X1.out.top); replace B1 := Lib.hid (B1.out.trans (b1.mono B1.out.size))
    go_wp2_with fail
    have hHeld2 := hHeld.later b1 (Nat.le_refl _); clear b1 hHeld
    refine hK.out _ _ hHeld2 (fun hHeld => ?_)
    clear hK K hHeld2
    refine wpAnyH_take (i := 3) (v := .string (cm r ++ ⟨#[124]⟩)) rfl (by kernel_rfl) (by kernel_rfl) (by kernel_rfl) (fun _ _ _ h => h) (Or.inl ⟨by rfl, fun w hSw => by go_simp; omega⟩) hHeld ?_
    refine wpAnyH_ready (rs := [6]) (by kernel_rfl) (by simp) (AllReadyH.cons rfl (fun K hK => ?_) AllReadyH.nil)
    go_simp
    refine (cm_spec Q m d u hi _ (snd_rd X1.out) (by omega) I2.out).mono ?_
    rintro e w4 ⟨rfl, b1⟩
    have s4 := b1.size; replace B1 := Lib.hid (B1.out.trans (b1.mono B1.out.size))
    go_wp2_with fail
    have hHeld2 := hHeld.later b1 (Nat.le_refl _); clear b1 hHeld
    refine hK.out _ _ hHeld2 (fun hHeld => ?_)
    clear hK K hHeld2
    have z3 : (cm r ++ ⟨#[124]⟩ : ByteArray).size ≤ 601 := by rw [ByteArray.size_append]; have : (⟨#[124]⟩ : ByteArray).size = 1 := rfl; omega
    refine wpAnyH_take (i := 7) (v := .string (cm r ++ ⟨#[124]⟩ ++ cm u)) rfl (by kernel_rfl) (by kernel_rfl) (by kernel_rfl) (fun _ _ _ h => h) (Or.inl ⟨by rfl, fun w hSw => by go_simp; simp at z3; omega⟩) hHeld ?_
    refine wpAnyH_ready (rs := [8]) (by kernel_rfl) (by simp) (AllReadyH.cons rfl (fun K hK => ?_) AllReadyH.nil)
    go_simp
    refine hK.out _ _ hHeld (fun hHeld2 => ?_)
    clear hK K hHeld hHeld2
    refine wpAnyH_done (by kernel_rfl) ?_ _
    go_wp2_with fail
    go_ret
    exact ⟨ret_str HF.out.symm, B1.out⟩
set_option maxHeartbeats 4000000 in
theorem fs_impl (v : Value) (r u : List Int) (hi : Nat) (w : World) (hx : Srd w hi v r u) (hn : r.length ≤ 1048576) (hm : u.length ≤ 1048576) (tab : Pow w) :
    Calls Tryd.prog 11 #[v] w fun e w' => e = .returned (.string (fsF r u)) ∧ Below w.heap.size w w' := by
  have HX := Lib.hid hx; have TAB := Lib.hid tab; clear hx tab
  obtain ⟨P, n, c, Q, m, d, rfl, q1, q2, e1, e2, ht, HR⟩ := HX.out.open
  have L1 := Lib.hid q1; have L2 := Lib.hid q2
  go_enter Tryd.func11, Tryd.ntmps11
  go_wp2_with fail
  refine (ok_impl _ r u hi _ (HX.out.keep ((Below.refl hi w).alloc ht _) (Nat.le_refl _)) hn hm).mono ?_
  rintro e w1 ⟨rfl, b1⟩
  have A0 := Lib.hid ((Arr.new w [.slice P n c, .slice Q m d] 33 rfl).keep b1 (by simp))
  have B1 := Lib.hid (below1 _ _ b1); clear b1
  have X1 := Lib.hid (HX.out.keep (B1.out.mono ht) (Nat.le_refl _))
  have hs1 := B1.out.size
  cases hq : transB r u
  · have HQ := Lib.hid hq; clear hq
    go_wp2_with fail
    go_ret
    exact ⟨ret_str (by rw [fsF, HQ.out]; rfl), B1.out⟩
  · obtain ⟨o1, o2⟩ := trans_ok hq
    have n24 : n ≤ 24 := by have := o1.len; rw [L1.out] at this; exact this
    have m24 : m ≤ 24 := by have := o2.len; rw [L2.out] at this; exact this
    have z1 := cm_size o1; have z2 := cm_size o2
    have I1 := Lib.hid (ok_in o1); have I2 := Lib.hid (ok_in o2)
    have HF : Hid (fsF r u = ⟨(join.J [cm r, cm u] ⟨#[124]⟩).toArray⟩) := Lib.hid (by rw [pair_bytes, fsF, hq]; rfl)
    clear hq o1 o2
    clear q1 q2 HR
    go_wp2_with fail
    refine wp_region_held_drew (S := Hld w1.heap.size w1.heap.size w1 [(w.heap.size, [.slice P n c, .slice Q m d])]) (by kernel_rfl) (Hld.start1 A0.out) (fun hHeld => ?_)
    have b1 := hHeld.below
    generalize w1.drew = w2 at *
    have s2 := b1.size; replace X1 := Lib.hid (X1.out.keep b1 X1.out.top); replace B1 := Lib.hid (B1.out.trans (b1.mono B1.out.size)); clear b1
    refine wpAnyH_take (i := 0) (v := .pointer (some ⟨w.heap.size, 0, none⟩)) rfl (by kernel_rfl) (by kernel_rfl) (by kernel_rfl) (fun _ _ _ h => h) (Or.inl ⟨by rfl, fun w hSw => by go_simp⟩) hHeld ?_
    refine wpAnyH_take (i := 3) (v := .pointer (some ⟨w.heap.size, 1, none⟩)) rfl (by kernel_rfl) (by kernel_rfl) (by kernel_rfl) (fun _ _ _ h => h) (Or.inl ⟨by rfl, fun w hSw => by go_simp⟩) hHeld ?_
    refine wpAnyH_take (i := 1) (v := .slice P n c) rfl (by kernel_rfl) (by kernel_rfl) (by kernel_rfl) (fun _ _ _ h => h) (Or.inl ⟨by rfl, fun w hSw => by have := box0 hSw; go_simp⟩) hHeld ?_
    refine wpAnyH_take (i := 4) (v := .slice Q m d) rfl (by kernel_rfl) (by kernel_rfl) (by kernel_rfl) (fun _ _ _ h => h) (Or.inl ⟨by rfl, fun w hSw => by have := box1 hSw; go_simp⟩) hHeld ?_
    refine wpAnyH_ready (rs := [2]) (by kernel_rfl) (by simp) (AllReadyH.cons rfl (fun K hK => ?_) AllReadyH.nil)
    go_simp
    refine (cm_impl P n c r hi _ (fst_rd X1.out) (by omega) I1.out (TAB.out.keep B1.out TAB.out.lt)).mono ?_
    rintro e w3 ⟨rfl, b1⟩
    have s3 := b1.size; replace X1 := Lib.hid (X1.out.keep b1 X1.out.top); replace B1 := Lib.hid (B1.out.trans (b1.mono B1.out.size))
    go_wp2_with fail
    have hHeld2 := hHeld.later b1 (Nat.le_refl _); clear b1 hHeld
    refine hK.out _ _ hHeld2 (fun hHeld => ?_)
    clear hK K hHeld2
    refine wpAnyH_ready (rs := [5]) (by kernel_rfl) (by simp) (AllReadyH.cons rfl (fun K hK => ?_) AllReadyH.nil)
    go_simp
    refine (cm_impl Q m d u hi _ (snd_rd X1.out) (by omega) I2.out (TAB.out.keep B1.out TAB.out.lt)).mono ?_
    rintro e w4 ⟨rfl, b1⟩
    have s4 := b1.size; replace B1 := Lib.hid (B1.out.trans (b1.mono B1.out.size))
    go_wp2_with fail
    have hHeld2 := hHeld.later b1 (Nat.le_refl _); clear b1 hHeld
    refine hK.out _ _ hHeld2 (fun hHeld => ?_)
    clear hK K hHeld2
    refine wpAnyH_ready (rs := [6]) (by kernel_rfl) (by simp) (AllReadyH.cons rfl (fun K hK => ?_) AllReadyH.nil)
    go_simp
    have b1 : Below w4.heap.size w4 (w4.alloc (.cells #[.string (cm r), .string (cm u)] 9)) := (Below.refl _ _).alloc (Nat.le_refl _) _
    have PR : Hid (Rd (w4.alloc (.cells #[.string (cm r), .string (cm u)] 9)) (w4.heap.size + 1) (some ⟨w4.heap.size, 0, none⟩) 2 (S [cm r, cm u])) := Lib.hid ⟨rfl, by simp, fun _ => ⟨w4.heap.size, 0, rfl, by omega, fun j hj => by
      match j, hj with
      | 0, _ => simp [go_sem, S]
      | 1, _ => simp [go_sem, S]⟩⟩
    have hHeld2 := hHeld.later b1 (Nat.le_refl _); clear hHeld
    replace B1 := Lib.hid (B1.out.trans (b1.mono B1.out.size)); clear b1
    generalize w4.alloc (.cells #[.string (cm r), .string (cm u)] 9) = w5 at *
    refine hK.out _ _ hHeld2 (fun hHeld => ?_)
    clear hK K hHeld2
    refine wpAnyH_ready (rs := [7]) (by kernel_rfl) (by simp) (AllReadyH.cons rfl (fun K hK => ?_) AllReadyH.nil)
    go_simp
    have hsm : sm [cm r, cm u] ≤ 1048576 := by simp [sm]; omega
    refine (join.parts_any (some ⟨w4.heap.size, 0, none⟩) 2 2 [cm r, cm u] ⟨#[124]⟩ _ _ PR.out (by decide) (by decide) hsm (by decide)).mono ?_
    rintro e w6 ⟨rfl, b1⟩
    have s6 := b1.size; replace B1 := Lib.hid (B1.out.trans (b1.mono B1.out.size))
    rw [← HF.out]
    go_wp2_with fail
    have hHeld2 := hHeld.later b1 (Nat.le_refl _); clear b1 hHeld
    refine hK.out _ _ hHeld2 (fun hHeld => ?_)
    clear hK K hHeld2
    refine wpAnyH_ready (rs := [8]) (by kernel_rfl) (by simp) (AllReadyH.cons rfl (fun K hK => ?_) AllReadyH.nil)
    go_simp
    refine hK.out _ _ hHeld (fun hHeld2 => ?_)
    clear hK K hHeld hHeld2
    refine wpAnyH_done (by kernel_rfl) ?_ _
    go_wp2_with fail
    go_ret
    exact ⟨rfl, B1.out⟩
end Go.Proofs.YtdoohnphgembdaaDoor.ji
