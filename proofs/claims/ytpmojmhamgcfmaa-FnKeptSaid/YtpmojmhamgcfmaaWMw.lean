/-
  Words that a law draws: one of the strings of a list; l05Word, MakeWord of the model.
-/
import Derived.Test.YtpmojmhamgcfmaaWDrawN
import Derived.Test.YtpmojmhamgcfmaaY15
namespace Go.Proofs.Ytpmojmhamgcfmaa.cur
open Go.ChangeShapes Go.WideShapes Go.ChangeAt Go.RowKit
open Go.Proofs.Ytpmojmhamgcfmaa.mem Go.Proofs.Ytpmojmhamgcfmaa.ints Go.Proofs.Ytpmojmhamgcfmaa.arr Go.Proofs.Ytpmojmhamgcfmaa.pm Go.Proofs.Ytpmojmhamgcfmaa.wd
set_option linter.unusedVariables false
set_option maxRecDepth 100000
/-- One of the strings. -/
def OneOf (xs : List ByteArray) (g : Nat) (A : Option Addr) (n c : Nat) (l : List Int) (w : World) (e : Ending) (w' : World) : Prop :=
  ∃ s ∈ xs, e = .returned (.string s) ∧ Cur w' g A n c l ∧ Out g (g + 1) w w'

set_option maxHeartbeats 400000 in
theorem str_any (w : World) (g : Nat) (A : Option Addr) (n c : Nat) (l : List Int) (b m d : Nat) (xs : List ByteArray) (hm : 1 ≤ m) (hm2 : m ≤ 1000) (hc : Cur w g A n c l) (hx : Rd w w.heap.size (some ⟨b, 0, none⟩) m (xs.map Value.string)) (hbg : b ≠ g) :
    Calls Try.prog 67 #[.pointer (some ⟨g, 0, none⟩), .slice (some ⟨b, 0, none⟩) m d] w (OneOf xs g A n c l w) := by
  have HC := Lib.hid hc; have HX := Lib.hid hx; clear hc hx
  go_enter Try.func67, Try.ntmps67
  go_wp2_with fail
  refine (below_any _ g A n c l m (by omega) (by omega) HC.out).mono ?_
  rintro e w2 ⟨x, x0, x1, rfl, hcur, ho⟩
  obtain ⟨j, rfl⟩ := Int.eq_ofNat_of_zero_le x0
  have hj : j < m := by omega
  obtain ⟨g', off, u, he, hgl, hxu, hcx⟩ := HX.out.at_ hj
  injection he with he; injection he with e1 e2; subst e1; subst e2
  simp only [List.getElem?_map, Option.map_eq_some_iff] at hxu
  obtain ⟨s, hs, rfl⟩ := hxu
  rw [Nat.zero_add] at hcx
  have hc2 : w2.cell? ⟨b, j, none⟩ = some (.string s) := by
    rw [World.cell?_of_block (w := w) (a := ⟨b, j, none⟩) (ho.block b (by omega) (by omega))]; exact hcx
  have HS := Lib.hid (List.mem_of_getElem? hs)
  have HC2 := Lib.hid hcur; have HO := Lib.hid ho; clear hcur ho hs hcx
  go_wp2_with fail
  go_ret
  exact ⟨s, HS.out, rfl, HC2.out, HO.out⟩


def letters5 : List ByteArray := [⟨#[84]⟩, ⟨#[83]⟩, ⟨#[116]⟩, ⟨#[115]⟩, ⟨#[84]⟩]
theorem letters5_is {s : ByteArray} (h : s ∈ letters5) : ∃ c, isL c = true ∧ s = ⟨#[c]⟩ := by
  simp only [letters5, List.mem_cons, List.not_mem_nil, or_false] at h
  rcases h with rfl | rfl | rfl | rfl | rfl
  · exact ⟨84, rfl, rfl⟩
  · exact ⟨83, rfl, rfl⟩
  · exact ⟨116, rfl, rfl⟩
  · exact ⟨115, rfl, rfl⟩
  · exact ⟨84, rfl, rfl⟩
/-- A word of at most k letters. -/
def Wrd (k : Nat) (s : ByteArray) : Prop := s.size ≤ k ∧ s.data.toList.all isL = true
theorem Wrd.snoc {k : Nat} {s : ByteArray} {c : UInt8} (h : Wrd k s) (hc : isL c = true) : Wrd (k + 1) (s ++ ⟨#[c]⟩) := by
  refine ⟨?_, ?_⟩
  · have := h.1; simp [ByteArray.size_append]; show s.size + 1 ≤ k + 1; omega
  · simp [h.2, hc]
theorem Wrd.ok {k : Nat} {s : ByteArray} (h : Wrd k s) (hk : k ≤ 40) : wok s = true := by
  unfold wok; rw [decide_eq_true (Nat.le_trans h.1 hk), h.2]; rfl
def WPost (k : Nat) (g : Nat) (A : Option Addr) (n c : Nat) (l : List Int) (w : World) (e : Ending) (w' : World) : Prop :=
  ∃ s, Wrd k s ∧ e = .returned (.string s) ∧ Cur w' g A n c l ∧ Out g (g + 1) w w'
set_option maxHeartbeats 1000000 in
theorem word_any (w : World) (g : Nat) (A : Option Addr) (n c : Nat) (l : List Int) (hc : Cur w g A n c l) :
    Calls Try.prog 38 #[.pointer (some ⟨g, 0, none⟩), .int .i64 6] w (WPost 6 g A n c l w) := by
  have HC := Lib.hid hc; clear hc
  go_enter Try.func38, Try.ntmps38
  go_wp2_with fail
  refine (below_any _ g A n c l 7 (by omega) (by omega) HC.out).mono ?_
  rintro e w2 ⟨x, x0, x1, rfl, hcur, ho⟩
  obtain ⟨j, rfl⟩ := Int.eq_ofNat_of_zero_le x0
  have HC2 := Lib.hid hcur; have HO := Lib.hid ho; clear hcur ho HC
  go_wp2_with fail
  go_loopw [5, 6] (fun v i wr => ∃ k : Nat, k ≤ j ∧ i = .int .i64 ((j : Int) - k) ∧ (∃ s, v = .string s ∧ Wrd k s) ∧ Cur wr g A n c l ∧ Out g (g + 1) w wr) (fun _ i _ => (intOf i).toNat)
  case atStart => exact ⟨0, Nat.zero_le _, by go_num, ⟨_, rfl, by unfold Wrd; exact ⟨Nat.le_refl _, rfl⟩⟩, HC2.out, HO.out⟩
  case round =>
    clear HC2 HO
    obtain ⟨k, hk, rfl, ⟨s, rfl, hw⟩, hcur, ho⟩ := hrel
    have HC2 := Lib.hid hcur; have HO := Lib.hid ho; have HW := Lib.hid hw
    have hsz : s.size ≤ 6 := by have := hw.1; omega
    clear hcur ho hw
    by_cases hlt : k < j
    · have hpos : (0 : Int) < (j : Int) - k := by omega
      obtain ⟨q, hq⟩ : ∃ q : Nat, (j : Int) - k = (q : Int) := ⟨j - k, by omega⟩
      rw [hq] at hpos ⊢
      have hq6 : q ≤ 6 := by omega
      have HQ := Lib.hid hq; clear hq
      go_wp2_with fail
      have hgl := HC2.out.lt
      have hcu : Cur (wr.alloc (.cells #[.string ⟨#[84]⟩, .string ⟨#[83]⟩, .string ⟨#[116]⟩, .string ⟨#[115]⟩, .string ⟨#[84]⟩] 9)) g A n c l := HC2.out.keep ((Below.refl wr.heap.size wr).alloc (Nat.le_refl _) _) hgl
      have hrd : Rd (wr.alloc (.cells #[.string ⟨#[84]⟩, .string ⟨#[83]⟩, .string ⟨#[116]⟩, .string ⟨#[115]⟩, .string ⟨#[84]⟩] 9)) (wr.alloc (.cells #[.string ⟨#[84]⟩, .string ⟨#[83]⟩, .string ⟨#[116]⟩, .string ⟨#[115]⟩, .string ⟨#[84]⟩] 9)).heap.size (some ⟨wr.heap.size, 0, none⟩) 5 (letters5.map Value.string) := by
        refine ⟨rfl, Nat.le_refl _, fun _ => ⟨wr.heap.size, 0, rfl, by simp, fun j hj => ?_⟩⟩
        rw [Nat.zero_add, World.cell?_alloc_at _ _ _ _ rfl]
        match j, hj with
        | 0, _ => rfl
        | 1, _ => rfl
        | 2, _ => rfl
        | 3, _ => rfl
        | 4, _ => rfl
      refine (str_any _ g A n c l wr.heap.size 5 5 letters5 (by omega) (by omega) hcu hrd (by omega)).mono ?_
      rintro e w3 ⟨s3, hs, rfl, hcur, ho⟩
      obtain ⟨ch, hch, rfl⟩ := letters5_is hs
      have HC3 := Lib.hid hcur
      have HO3 : Hid (Out g (g + 1) w w3) := Lib.hid (HO.out.trans ((Out.of_below ((Below.refl wr.heap.size wr).alloc (Nat.le_refl _) (.cells #[.string ⟨#[84]⟩, .string ⟨#[83]⟩, .string ⟨#[116]⟩, .string ⟨#[115]⟩, .string ⟨#[84]⟩] 9))).trans ho))
      have HW3 := Lib.hid (HW.out.snoc hch)
      clear hcur ho hs hcu hrd hch
      go_wp2_with fail
      go_roundw
      case rel => exact ⟨k + 1, by omega, by rw [show (j : Int) - ((k + 1 : Nat) : Int) = (q : Int) - 1 by have := HQ.out; omega], ⟨_, rfl, HW3.out⟩, HC3.out, HO3.out⟩
      case measure => have := HQ.out; simp [intOf]; omega
    · obtain rfl : k = j := by omega
      have hneg : ¬ (0 : Int) < (k : Int) - k := by omega
      go_wp2_with fail
      go_ret
      exact ⟨s, ⟨by have := HW.out.1; omega, HW.out.2⟩, rfl, HC2.out, HO.out⟩
/-- A word that a law draws. -/
def MPost (w : World) (e : Ending) (w' : World) : Prop := ∃ s, Wrd 6 s ∧ e = .returned (.string s) ∧ Below w.heap.size w w'
set_option maxHeartbeats 1000000 in
theorem makeW_any (w : World) (hi : Nat) (A : Option Addr) (n c : Nat) (l : List Int) (m : Nat) (hm : m ≤ 1000) (hc : cur.Code w hi A n l) :
    Calls Try.prog 8 #[.slice A n c, .int .i64 m] w (MPost w) := by
  have HC := Lib.hid hc; clear hc
  go_enter Try.func8, Try.ntmps8
  go_wp2_with fail
  refine (skip_any w hi A n c l m hm HC.out).mono ?_
  rintro e w1 ⟨g, hg, hlt, rfl, hcur, hb⟩
  have HCU := Lib.hid hcur; have HB := Lib.hid hb; clear hcur hb
  go_wp2_with fail
  refine (word_any _ g A n c l HCU.out).mono ?_
  rintro e w2 ⟨s, hs, rfl, hcur, ho⟩
  have HB2 := Lib.hid (HB.out.trans (ho.below hg HB.out.size)); have HS := Lib.hid hs
  clear hcur ho hs
  go_wp2_with fail
  go_ret
  exact ⟨s, HS.out, rfl, HB2.out⟩
end Go.Proofs.Ytpmojmhamgcfmaa.cur
