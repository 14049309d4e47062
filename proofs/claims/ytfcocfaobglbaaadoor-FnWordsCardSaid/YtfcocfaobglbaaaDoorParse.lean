/-
  The contract of the model's ParseInt: the int whose text is s, and true; or 0 and false, if there is none.
-/
import Derived.Test.YtfcocfaobglbaaaDoorFmt
import Derived.Test.YtfcocfaobglbaaaDoorNum
import Derived.Test.YtfcocfaobglbaaaDoorDigSpec
import Derived.Lib.Split
namespace Go.Proofs.YtfcocfaobglbaaaDoor.parse
open Go.ChangeShapes Go.WideShapes Go.ChangeAt Go.RowKit
open Go.Proofs.YtfcocfaobglbaaaDoor.mem Go.Proofs.YtfcocfaobglbaaaDoor.num
set_option linter.unusedVariables false

/-- The int whose text is s, and true; or 0 and false. -/
def Post (s : ByteArray) (w : World) (e : Ending) (w' : World) : Prop :=
  (∃ m, Num s.data.toList m ∧ e = .returned (.tuple #[.int .i64 m, .bool true]) ∧ Below w.heap.size w w') ∨ ((∀ m, ¬ Num s.data.toList m) ∧ e = .returned (.tuple #[.int .i64 0, .bool false]) ∧ Below w.heap.size w w')

theorem at_list {t : ByteArray} {k : Nat} (h : k < t.size) : t.data.toList[k]? = some t[k] := by
  have : t[k] = t.data.toList[k]'(by simpa using h) := rfl
  rw [this]; exact List.getElem?_eq_getElem _
theorem digs_dec {t : ByteArray} {u : Nat} (h : t.data.toList = Lib.decDigits u) : digits.digs t = true := by
  unfold digits.digs
  have hs : t.size = t.data.toList.length := by simp
  have hn : t.data.toList ≠ [] := by rw [h]; exact dec_ne u
  have h0 : 0 < t.size := by rw [hs]; exact List.length_pos_iff.2 hn
  simp only [h0, decide_true, Bool.true_and, List.all_eq_true]
  intro c hc
  rw [h] at hc
  have := dec_dig u c hc
  simp [digits.isDig, this.1, this.2]
theorem size_dec {t : ByteArray} {u : Nat} (h : t.data.toList = Lib.decDigits u) (hu : u ≤ 9223372036854775808) : t.size ≤ 19 := by
  have hs : t.size = t.data.toList.length := by simp
  rw [hs, h]; exact dec_len19 hu
theorem take_dec {t : ByteArray} {u : Nat} (h : t.data.toList = Lib.decDigits u) (k : Nat) : vl (t.data.toList.take k) ≤ u := by
  have := vl_take_le t.data.toList k
  rw [h, vl_dec] at this; rw [h]; exact this
theorem digs_all {t : ByteArray} (h : digits.digs t = true) : ∀ k (hk : k < t.size), 48 ≤ t[k].toNat ∧ t[k].toNat ≤ 57 := by
  intro k hk
  unfold digits.digs at h
  simp only [Bool.and_eq_true, List.all_eq_true] at h
  have := h.2 t[k] (List.mem_of_getElem? (at_list hk))
  simpa [digits.isDig] using this
theorem vl_at {t : ByteArray} {k : Nat} (h : k < t.size) : vl (t.data.toList.take (k + 1)) = vl (t.data.toList.take k) * 10 + (t[k].toNat - 48) := by
  rw [List.take_add_one, at_list h]; exact vl_snoc _ _
theorem over_yes {a c : Nat} (h1 : 48 ≤ c) (h2 : c ≤ 57) (h : -(a : Int) < (-9223372036854775808 + ((c : Int) - 48)).tdiv 10) : 9223372036854775808 < a * 10 + (c - 48) := by
  obtain ⟨u, hu⟩ : ∃ u : Nat, (-9223372036854775808 + ((c : Int) - 48)) = -(u : Int) := ⟨(9223372036854775808 - ((c : Int) - 48)).toNat, by omega⟩
  rw [hu, fmt.tdiv_neg] at h
  omega
theorem over_no {a c : Nat} (h1 : 48 ≤ c) (h2 : c ≤ 57) (h : ¬ -(a : Int) < (-9223372036854775808 + ((c : Int) - 48)).tdiv 10) : a * 10 + (c - 48) ≤ 9223372036854775808 := by
  obtain ⟨u, hu⟩ : ∃ u : Nat, (-9223372036854775808 + ((c : Int) - 48)) = -(u : Int) := ⟨(9223372036854775808 - ((c : Int) - 48)).toNat, by omega⟩
  rw [hu, fmt.tdiv_neg] at h
  omega
theorem B_toList (l : List UInt8) : (fmt.B l).toList = l := ByteArray.toList_mk l

theorem tof_pos {s : ByteArray} (hneg : ¬ (0 < s.size ∧ s.data.toList.head? = some 45)) {m : Int} (h : Num s.data.toList m) : s.data.toList = Lib.decDigits m.natAbs := by
  have hl : s.data.toList.head? ≠ some 45 := by
    intro e
    refine hneg ⟨?_, e⟩
    have hs : s.size = s.data.toList.length := by simp
    rw [hs]
    cases hc : s.data.toList with
    | nil => rw [hc] at e; cases e
    | cons _ _ => simp
  obtain ⟨h1, h2⟩ := h.pos hl
  rw [show m.natAbs = m.toNat by omega]; exact h2
theorem val_pos {s : ByteArray} (hneg : ¬ (0 < s.size ∧ s.data.toList.head? = some 45)) {m : Int} (h : Num s.data.toList m) : m = vl s.data.toList := by
  have hl : s.data.toList.head? ≠ some 45 := by
    intro e
    refine hneg ⟨?_, e⟩
    have hs : s.size = s.data.toList.length := by simp
    rw [hs]
    cases hc : s.data.toList with
    | nil => rw [hc] at e; cases e
    | cons _ _ => simp
  obtain ⟨h1, h2⟩ := h.pos hl
  rw [h2, vl_dec]; omega
theorem mag {l : List UInt8} {m : Int} (h : Num l m) : m.natAbs ≤ 9223372036854775808 := by
  obtain ⟨⟨_, _⟩, _⟩ := h; omega

theorem beq_yes {l : List UInt8} {s : ByteArray} (h : l = s.data.toList) : ((fmt.B l).toList == s.toList) = true := by
  rw [B_toList, ByteArray.toList_eq, h]; simp
theorem beq_no {l : List UInt8} {s : ByteArray} (h : ¬ l = s.data.toList) : ((fmt.B l).toList == s.toList) = false := by
  rw [B_toList, ByteArray.toList_eq, beq_eq_false_iff_ne]; exact h
theorem tof_neg {s : ByteArray} (hneg : 0 < s.size ∧ s.data.toList.head? = some 45) {m : Int} (h : Num s.data.toList m) : (s.extract 1 s.size).data.toList = Lib.decDigits m.natAbs ∧ m < 0 := by
  have e : (s.extract 1 s.size).data.toList = s.data.toList.drop 1 := by
    rw [Lib.extract_data]
    rw [List.take_of_length_le (by simp)]
  cases hc : s.data.toList with
  | nil => rw [hc] at hneg; cases hneg.2
  | cons c r =>
    rw [hc] at hneg h
    have : c = 45 := by simpa using hneg.2
    subst this
    obtain ⟨h1, h2⟩ := h.neg
    rw [e, hc]
    exact ⟨by simpa using h2, h1⟩

set_option maxHeartbeats 1600000 in
theorem spec_pos (s : ByteArray) (w : World) (hs : s.size ≤ 1048576) (hneg : ¬ (0 < s.size ∧ s.data.toList.head? = some 45)) (h0 : 0 < s.size) :
    Calls Tryd.prog 15 #[.string s] w (Post s w) := by
    have HNG := Lib.hid hneg
    have hh : ((s[0].toNat : Int) == 45) = false := by
      rw [beq_eq_false_iff_ne]
      intro e
      refine HNG.out ⟨h0, ?_⟩
      rw [List.head?_eq_getElem?, at_list h0]
      exact congrArg some (UInt8.toNat_inj.1 (by simpa using (show s[0].toNat = 45 by omega)))
    clear hneg
    go_enter Tryd.func15, Tryd.ntmps15
    go_wp2_with fail
    have hsz : s.size ≤ 1048577 := by omega
    refine (digits.spec_any s _ (by unfold maxLen; omega)).mono ?_
    rintro e w' ⟨rfl, rfl⟩
    cases hdg : digits.digs s
    · have hno : ∀ m, ¬ Num s.data.toList m := fun m hm => by
        have := digs_dec (tof_pos HNG.out hm) ; rw [hdg] at this; cases this
      have HNO := Lib.hid hno; clear hno
      have HDG := Lib.hid hdg; clear hdg
      go_wp2_with fail
      go_ret2
      exact .inr ⟨HNO.out, rfl, Below.refl _ _⟩
    by_cases h19 : 19 < s.size
    · have hno : ∀ m, ¬ Num s.data.toList m := fun m hm => by
        have := size_dec (tof_pos HNG.out hm) (mag hm); omega
      have HNO := Lib.hid hno; clear hno
      have HDG := Lib.hid hdg; clear hdg
      go_wp2_with fail
      go_ret2
      exact .inr ⟨HNO.out, rfl, Below.refl _ _⟩
    have hdig := digs_all hdg
    have HDI := Lib.hid hdig; clear hdig
    have HDG := Lib.hid hdg; clear hdg
    have h19' : decide (19 < (s.size : Int)) = false := by simp; omega
    go_wp2_with fail
    go_loop [6, 7, 8] (fun v i _ => ∃ k : Nat, k ≤ s.size ∧ i = .int .i64 k ∧ vl (s.data.toList.take k) ≤ 9223372036854775808 ∧ v = .int .i64 (-(vl (s.data.toList.take k) : Int))) (fun _ i _ => s.size - (intOf i).toNat)
    case atStart => exact ⟨0, Nat.zero_le _, rfl, by simp [vl], by simp [vl]⟩
    case round =>
      obtain ⟨k, hk, rfl, hv, rfl⟩ := hrel
      by_cases hlt : k < s.size
      · obtain ⟨d1, d2⟩ := HDI.out k hlt
        have hsn := vl_at hlt
        generalize HA : vl (s.data.toList.take k) = a at *
        clear HA
        have HSN := Lib.hid hsn; clear hsn
        by_cases hov : -(a : Int) < (-9223372036854775808 + ((s[k].toNat : Int) - 48)).tdiv 10
        · have hno : ∀ m, ¬ Num s.data.toList m := fun m hm => by
            have h1 := take_dec (tof_pos HNG.out hm) (k + 1)
            have h2 := mag hm
            have h3 := over_yes d1 d2 hov
            have h4 := HSN.out
            omega
          have HNO := Lib.hid hno; clear hno
          go_wp2_with fail
          go_ret2
          exact .inr ⟨HNO.out, rfl, Below.refl _ _⟩
        · have h3 := over_no d1 d2 hov
          have h5 : 0 ≤ (a : Int) := by omega
          go_wp2_with fail
          go_round
          case rel => exact ⟨k + 1, by omega, by go_num, by rw [HSN.out]; omega, by rw [HSN.out]; go_num⟩
          case measure => simp [intOf]; omega
      · obtain rfl : k = s.size := by omega
        have ht : s.data.toList.take s.size = s.data.toList := List.take_of_length_le (by simp)
        rw [ht] at hv ⊢
        clear ht
        generalize HA : vl s.data.toList = a at *
        have HA' := Lib.hid HA; clear HA
        by_cases hmin : a = 9223372036854775808
        · have hno : ∀ m, ¬ Num s.data.toList m := fun m hm => by
            have h1 := val_pos HNG.out hm
            rw [HA'.out] at h1
            obtain ⟨⟨_, h2⟩, _⟩ := hm
            omega
          have hb1 : ((-(a : Int)) == -9223372036854775808) = true := by simp [hmin]
          have HNO := Lib.hid hno; have HM := Lib.hid hmin; clear hno hmin
          go_wp2_with fail
          go_ret2
          exact .inr ⟨HNO.out, rfl, Below.refl _ _⟩
        have hb0 : ((-(a : Int)) == -9223372036854775808) = false := by rw [beq_eq_false_iff_ne]; omega
        have ha : (a : Int) ≤ 9223372036854775807 := by omega
        by_cases heq : Lib.itoa ((a : Int)) = s.data.toList
        · have hb1 := beq_yes heq
          have HEQ := Lib.hid heq; clear heq
          go_wp2_with fail
          refine (fmt.spec_any ((a : Int)) _ (by omega) (by omega)).mono ?_
          rintro e w' ⟨rfl, hb⟩
          have HB := Lib.hid hb; clear hb
          go_wp2_with fail
          go_ret2
          exact .inl ⟨(a : Int), ⟨⟨by omega, by omega⟩, HEQ.out⟩, rfl, HB.out⟩
        · have hb1 := beq_no heq
          have hno : ∀ m, ¬ Num s.data.toList m := fun m hm => by
            have h1 := val_pos HNG.out hm
            rw [HA'.out] at h1
            subst h1
            exact heq hm.2
          have HNO := Lib.hid hno; clear hno heq
          go_wp2_with fail
          refine (fmt.spec_any ((a : Int)) _ (by omega) (by omega)).mono ?_
          rintro e w' ⟨rfl, hb⟩
          have HB := Lib.hid hb; clear hb
          go_wp2_with fail
          go_ret2
          exact .inr ⟨HNO.out, rfl, HB.out⟩

theorem spec_empty (s : ByteArray) (w : World) (h0 : s.size = 0) :
    Calls Tryd.prog 15 #[.string s] w (Post s w) := by
  have hdg : digits.digs s = false := by unfold digits.digs; simp [h0]
  have hno : ∀ m, ¬ Num s.data.toList m := fun m hm => by
    have hl : s.data.toList = [] := List.eq_nil_of_length_eq_zero (by simpa using h0)
    have := digs_dec (tof_pos (by omega) hm)
    rw [hdg] at this; cases this
  have HNO := Lib.hid hno; have HDG := Lib.hid hdg
  have h00 : s.size ≤ 0 := by omega
  have H0 := Lib.hid h0
  clear hno hdg h0
  go_enter Tryd.func15, Tryd.ntmps15
  go_wp2_with fail
  refine (digits.spec_any s _ (by unfold maxLen; omega)).mono ?_
  rintro e w' ⟨rfl, rfl⟩
  rw [HDG.out]
  go_wp2_with fail
  go_ret2
  exact .inr ⟨HNO.out, rfl, Below.refl _ _⟩

set_option maxHeartbeats 1600000 in
theorem spec_neg (s : ByteArray) (w : World) (hs : s.size ≤ 1048576) (hneg : 0 < s.size ∧ s.data.toList.head? = some 45) :
    Calls Tryd.prog 15 #[.string s] w (Post s w) := by
    have h0 := hneg.1
    have HNG := Lib.hid hneg
    have hh : ((s[0].toNat : Int) == 45) = true := by
      have h1 := hneg.2
      rw [List.head?_eq_getElem?, at_list h0] at h1
      rw [Option.some.inj h1]; rfl
    clear hneg
    have hex : (s.extract 1 s.size).size = s.size - 1 := by simp
    have hTS : (s.extract 1 s.size).size ≤ 1048576 := by omega
    have HTO := Lib.hid (fun (m : Int) (hm : Num s.data.toList m) => tof_neg HNG.out hm)
    have HEX := Lib.hid hex; clear hex
    go_enter Tryd.func15, Tryd.ntmps15
    go_wp2_with fail
    generalize HG : s.extract 1 s.size = t at *
    have HG' := Lib.hid HG; clear HG
    have hsz : t.size ≤ 1048577 := by omega
    refine (digits.spec_any t _ (by unfold maxLen; omega)).mono ?_
    rintro e w' ⟨rfl, rfl⟩
    cases hdg : digits.digs t
    · have hno : ∀ m, ¬ Num s.data.toList m := fun m hm => by
        have := digs_dec ((HTO.out _ hm).1) ; rw [hdg] at this; cases this
      have HNO := Lib.hid hno; clear hno
      have HDG := Lib.hid hdg; clear hdg
      go_wp2_with fail
      go_ret2
      exact .inr ⟨HNO.out, rfl, Below.refl _ _⟩
    by_cases h19 : 19 < t.size
    · have hno : ∀ m, ¬ Num s.data.toList m := fun m hm => by
        have := size_dec ((HTO.out _ hm).1) (mag hm); omega
      have HNO := Lib.hid hno; clear hno
      have HDG := Lib.hid hdg; clear hdg
      go_wp2_with fail
      go_ret2
      exact .inr ⟨HNO.out, rfl, Below.refl _ _⟩
    have hdig := digs_all hdg
    have HDI := Lib.hid hdig; clear hdig
    have HDG := Lib.hid hdg; clear hdg
    have h19' : decide (19 < (t.size : Int)) = false := by simp; omega
    go_wp2_with fail
    go_loop [6, 7, 8] (fun v i _ => ∃ k : Nat, k ≤ t.size ∧ i = .int .i64 k ∧ vl (t.data.toList.take k) ≤ 9223372036854775808 ∧ v = .int .i64 (-(vl (t.data.toList.take k) : Int))) (fun _ i _ => t.size - (intOf i).toNat)
    case atStart => exact ⟨0, Nat.zero_le _, rfl, by simp [vl], by simp [vl]⟩
    case round =>
      obtain ⟨k, hk, rfl, hv, rfl⟩ := hrel
      by_cases hlt : k < t.size
      · obtain ⟨d1, d2⟩ := HDI.out k hlt
        have hsn := vl_at hlt
        generalize HA : vl (t.data.toList.take k) = a at *
        clear HA
        have HSN := Lib.hid hsn; clear hsn
        by_cases hov : -(a : Int) < (-9223372036854775808 + ((t[k].toNat : Int) - 48)).tdiv 10
        · have hno : ∀ m, ¬ Num s.data.toList m := fun m hm => by
            have h1 := take_dec ((HTO.out _ hm).1) (k + 1)
            have h2 := mag hm
            have h3 := over_yes d1 d2 hov
            have h4 := HSN.out
            omega
          have HNO := Lib.hid hno; clear hno
          go_wp2_with fail
          go_ret2
          exact .inr ⟨HNO.out, rfl, Below.refl _ _⟩
        · have h3 := over_no d1 d2 hov
          have h5 : 0 ≤ (a : Int) := by omega
          go_wp2_with fail
          go_round
          case rel => exact ⟨k + 1, by omega, by go_num, by rw [HSN.out]; omega, by rw [HSN.out]; go_num⟩
          case measure => simp [intOf]; omega
      · obtain rfl : k = t.size := by omega
        have ht : t.data.toList.take t.size = t.data.toList := List.take_of_length_le (by simp)
        rw [ht] at hv ⊢
        clear ht
        generalize HA : vl t.data.toList = a at *
        have HA' := Lib.hid HA; clear HA
        by_cases heq : Lib.itoa ((-(a : Int))) = s.data.toList
        · have hb1 := beq_yes heq
          have HEQ := Lib.hid heq; clear heq
          go_wp2_with fail
          refine (fmt.spec_any ((-(a : Int))) _ (by omega) (by omega)).mono ?_
          rintro e w' ⟨rfl, hb⟩
          have HB := Lib.hid hb; clear hb
          go_wp2_with fail
          go_ret2
          exact .inl ⟨(-(a : Int)), ⟨⟨by omega, by omega⟩, HEQ.out⟩, rfl, HB.out⟩
        · have hb1 := beq_no heq
          have hno : ∀ m, ¬ Num s.data.toList m := fun m hm => by
            have h1 : m = -(vl t.data.toList : Int) := by
              have h2 := HTO.out m hm
              have h3 := vl_dec m.natAbs
              rw [← h2.1] at h3; omega
            rw [HA'.out] at h1
            subst h1
            exact heq hm.2
          have HNO := Lib.hid hno; clear hno heq
          go_wp2_with fail
          refine (fmt.spec_any ((-(a : Int))) _ (by omega) (by omega)).mono ?_
          rintro e w' ⟨rfl, hb⟩
          have HB := Lib.hid hb; clear hb
          go_wp2_with fail
          go_ret2
          exact .inr ⟨HNO.out, rfl, HB.out⟩

theorem spec_any (s : ByteArray) (w : World) (hs : s.size ≤ 1048576) :
    Calls Tryd.prog 15 #[.string s] w (Post s w) := by
  by_cases h0 : s.size = 0
  · exact spec_empty s w h0
  by_cases hneg : 0 < s.size ∧ s.data.toList.head? = some 45
  · exact spec_neg s w hs hneg
  · exact spec_pos s w hs hneg (by omega)

end Go.Proofs.YtfcocfaobglbaaaDoor.parse
