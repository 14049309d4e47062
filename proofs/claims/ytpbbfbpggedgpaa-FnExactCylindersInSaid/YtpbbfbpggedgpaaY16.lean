import Derived.Test.YtpbbfbpggedgpaaY05
import Derived.Test.YtpbbfbpggedgpaaY08
import Derived.Test.YtpbbfbpggedgpaaY03
import Derived.Lib.Bytealg
import Derived.Laws.StandIn
/-
  Words: which strings are words (WordOk of the model, of the program); the letters' numbers (lettersOf of the program).
-/
namespace Go.Proofs.Ytpbbfbpggedgpaa.wd
open Go.ChangeShapes Go.WideShapes Go.ChangeAt Go.RowKit
open Go.Proofs.Ytpbbfbpggedgpaa.mem Go.Proofs.Ytpbbfbpggedgpaa.ints Go.Proofs.Ytpbbfbpggedgpaa.arr Go.Proofs.Ytpbbfbpggedgpaa.pm
set_option linter.unusedVariables false
set_option maxRecDepth 100000
/-- A word: at most 40 bytes, each of them one of the four letters. -/
def wok (s : ByteArray) : Bool := decide (s.size ≤ 40) && s.data.toList.all isL
theorem take_snoc (s : ByteArray) (k : Nat) (h : k < s.size) : s.data.toList.take (k + 1) = s.data.toList.take k ++ [s[k]] := by
  rw [List.take_succ_eq_append_getElem (by simpa using h)]; rfl
theorem all_step {s : ByteArray} {k : Nat} (h : k < s.size) (ha : (s.data.toList.take k).all isL = true) (h1 : isL s[k] = true) : (s.data.toList.take (k + 1)).all isL = true := by
  rw [take_snoc s k h, List.all_append, ha]; simp [h1]
theorem wok_long {s : ByteArray} (h : 40 < s.size) : wok s = false := by
  unfold wok; rw [decide_eq_false (by omega)]; rfl
theorem wok_no {s : ByteArray} {k : Nat} (h : k < s.size) (h1 : isL s[k] = false) : wok s = false := by
  unfold wok
  have : s.data.toList.all isL = false := by
    rw [List.all_eq_false]
    refine ⟨s[k], ?_, by rw [h1]; decide⟩
    have : s[k] = s.data.toList[k]'(by simpa using h) := rfl
    rw [this]; exact List.getElem_mem _
  rw [this, Bool.and_false]
theorem wok_yes {s : ByteArray} (h : s.size ≤ 40) (ha : (s.data.toList.take s.size).all isL = true) : wok s = true := by
  have e : s.data.toList.take s.size = s.data.toList := List.take_of_length_le (by simp)
  rw [e] at ha
  unfold wok
  rw [decide_eq_true h, ha]; rfl
theorem wok_len {s : ByteArray} (h : wok s = true) : s.size ≤ 40 := by
  unfold wok at h; simp at h; exact h.1
theorem wok_all {s : ByteArray} (h : wok s = true) : s.data.toList.all isL = true := by
  unfold wok at h; rw [Bool.and_eq_true] at h; exact h.2
theorem wok_at {s : ByteArray} (h : wok s = true) {k : Nat} (hk : k < s.size) : isL s[k] = true := by
  have := List.all_eq_true.1 (wok_all h) s[k] (by
    have : s[k] = s.data.toList[k]'(by simpa using hk) := rfl
    rw [this]; exact List.getElem_mem _)
  exact this
theorem isL_no {c : UInt8} (h1 : c.toNat ≠ 84) (h2 : c.toNat ≠ 116) (h3 : c.toNat ≠ 83) (h4 : c.toNat ≠ 115) : isL c = false := by simp [isL, h1, h2, h3, h4]
theorem ret_bool {a b : Bool} (h : a = b) : Ending.returned (.bool a) = .returned (.bool b) := by rw [h]
/-- The number of a letter, in the order of "TtSs"; -1: no letter. -/
def num (c : UInt8) : Int := if c.toNat = 84 then 0 else if c.toNat = 116 then 1 else if c.toNat = 83 then 2 else if c.toNat = 115 then 3 else -1
theorem num_no {c : UInt8} (h : isL c = false) : num c = -1 := by
  simp [isL] at h
  simp [num, h]
theorem num_cases {c : UInt8} (h : isL c = true) : (c.toNat = 84 ∧ num c = 0) ∨ (c.toNat = 116 ∧ num c = 1) ∨ (c.toNat = 83 ∧ num c = 2) ∨ (c.toNat = 115 ∧ num c = 3) := by
  rcases isL_iff.1 h with e | e | e | e
  · exact .inl ⟨e, by simp [num, e]⟩
  · exact .inr (.inl ⟨e, by simp [num, e]⟩)
  · exact .inr (.inr (.inl ⟨e, by simp [num, e]⟩))
  · exact .inr (.inr (.inr ⟨e, by simp [num, e]⟩))
theorem num_index (c : UInt8) : Lib.indexByte [84, 116, 83, 115] c = num c := by
  have h : ∀ n : Fin 256, Lib.indexByte [84, 116, 83, 115] (UInt8.ofFin n) = num (UInt8.ofFin n) := by decide +kernel
  exact h c.toFin
/-- The numbers of a string's bytes. -/
def nums (s : ByteArray) : List Int := s.data.toList.map num
theorem nums_len (s : ByteArray) : (nums s).length = s.size := by simp [nums]
theorem nums_snoc {s : ByteArray} {k : Nat} (h : k < s.size) : (nums s).take (k + 1) = (nums s).take k ++ [num s[k]] := by
  unfold nums; rw [← List.map_take, ← List.map_take, take_snoc s k h]; simp
theorem nums_at {s : ByteArray} {k : Nat} (h : k < s.size) : (nums s)[k]? = some (num s[k]) := by
  unfold nums; rw [List.getElem?_map, List.getElem?_eq_getElem (by simpa using h)]; rfl

set_option maxHeartbeats 1000000 in
theorem idx_any (c : UInt8) (w : World) :
    Calls Try.prog 79 #[.string { data := #[84, 116, 83, 115] }, .int .u8 (c.toNat : Int)] w fun e w' => e = .returned (.int .i64 (num c)) ∧ w' = w := by
  go_enter Try.func79, Try.ntmps79
  go_wp2
  rw [run_callFunc_extern Try.func84 (by kernel_rfl) (by kernel_rfl) (by kernel_rfl) (e := Extern.BytealgIndexByte.indexByte) (by kernel_rfl), Lib.run_indexByteString]
  simp only [Result.andThen]
  rw [Oper.upon_value]
  go_wp2
  go_ret
  exact ⟨by rw [num_index]; rfl, rfl⟩
theorem idx2_any (c : UInt8) (w : World) :
    Calls Try.prog 71 #[.string { data := #[84, 116, 83, 115] }, .int .u8 (c.toNat : Int)] w fun e w' => e = .returned (.int .i64 (num c)) ∧ w' = w := by
  go_enter Try.func71, Try.ntmps71
  go_wp2_with fail
  refine (idx_any c _).mono ?_
  rintro e w' ⟨rfl, rfl⟩
  go_wp2_with fail
  go_ret
  exact ⟨rfl, rfl⟩
theorem infoL : (Try.prog.info? 90).map (fun i => (i.zero, i.size, i.bytes)) = some (some (.int .i64 0), 1, 8) := by kernel_rfl
/-- What lettersOf gives. -/
def LPost (s : ByteArray) (w : World) (e : Ending) (w' : World) : Prop :=
  ∃ v L, e = .returned (.tuple #[v, .bool (wok s)]) ∧ w'.ownsRow w.heap.size 90 1 v L.length (V L) ∧ L = (if wok s then nums s else []) ∧ Below w.heap.size w w'
theorem lpost_no {s : ByteArray} {w w' : World} (h : wok s = false) (hb : Below w.heap.size w w') : LPost s w (.returned (.tuple #[.slice none 0 0, .bool false])) w' :=
  ⟨_, [], by rw [h], World.ownsRow_nil _ _ _ _, by simp [h], hb⟩
theorem lpost_yes {s : ByteArray} {w w' : World} {v : Value} (h : wok s = true) (ho : w'.ownsRow w.heap.size 90 1 v s.size (V ((nums s).take s.size))) (hb : Below w.heap.size w w') : LPost s w (.returned (.tuple #[v, .bool true])) w' := by
  have e : (nums s).take s.size = nums s := List.take_of_length_le (by rw [nums_len]; exact Nat.le_refl _)
  rw [e] at ho
  exact ⟨v, nums s, by rw [h], by rw [nums_len]; exact ho, by simp [h], hb⟩
set_option maxHeartbeats 2000000 in
theorem lets_any (s : ByteArray) (w : World) (hs : s.size ≤ 1048576) : Calls Try.prog 57 #[.string s] w (LPost s w) := by
  obtain ⟨i0, hi, hz0, hz1, hz2⟩ := info_parts infoL
  go_enter Try.func57, Try.ntmps57
  by_cases h40 : 40 < s.size
  · go_wp2
    go_ret2
    exact lpost_no (wok_long h40) (Below.refl _ _)
  go_wp2
  go_loopw [4, 12] (fun v i wr => ∃ k : Nat, k ≤ s.size ∧ i = .int .i64 k ∧ (s.data.toList.take k).all isL = true ∧ wr.ownsRow w.heap.size 90 1 v k (V ((nums s).take k)) ∧ Below w.heap.size w wr) (fun _ i _ => s.size - (intOf i).toNat)
  case atStart => exact ⟨0, Nat.zero_le _, rfl, rfl, by simpa [V] using World.ownsRow_nil _ _ _ _, Below.refl _ _⟩
  case round =>
    obtain ⟨k, hk, rfl, ha, ho, hb⟩ := hrel
    have HA := Lib.hid ha; clear ha
    obtain ⟨C, cc, rfl⟩ := own_form ho
    have HO := Lib.hid ho; have HB := Lib.hid hb; clear ho hb
    by_cases hlt : k < s.size
    · have EN := Lib.hid (nums_snoc hlt)
      by_cases hl : isL s[k] = true
      · have ST := Lib.hid (all_step hlt HA.out hl)
        obtain ⟨z, hz, hz3⟩ : ∃ z : Nat, num s[k] = (z : Int) ∧ z ≤ 3 := by
          rcases num_cases hl with h | h | h | h
          · exact ⟨0, by rw [h.2]; rfl, by omega⟩
          · exact ⟨1, by rw [h.2]; rfl, by omega⟩
          · exact ⟨2, by rw [h.2]; rfl, by omega⟩
          · exact ⟨3, by rw [h.2]; rfl, by omega⟩
        have HZ := Lib.hid hz; clear hz hl HA
        have hsz : w.heap.size ≤ wr.heap.size := HB.out.size
        go_wp2_with fail
        refine (idx2_any s[k] _).mono ?_
        rintro e w' ⟨rfl, rfl⟩
        rw [HZ.out]
        go_wp2_with (at_builtin; refine wpList_append_one w' _ _ rfl _ _ 76 rfl (w.heap.size) 90 i0 _ 8 Try.underlying76 hi hz0 hz1 hz2 rfl _ _ _ rfl HO.out rfl rfl ?c4 (by decide) hsz ?_)
        case c4 => omega
        intro v' w2 ho hg
        have HN : Hid (w2.ownsRow w.heap.size 90 1 v' (k + 1) (V ((nums s).take (k + 1)))) := Lib.hid (by rw [EN.out, HZ.out]; simpa [V] using ho)
        have HB2 : Hid (Below w.heap.size w w2) := Lib.hid (HB.out.trans (own_below HO.out hg (Nat.le_refl _) HB.out.size))
        clear ho hg
        go_wp2
        go_roundw
        case rel => exact ⟨k + 1, by omega, by go_num, ST.out, HN.out, HB2.out⟩
        case measure => simp [intOf]; omega
      · have hno : isL s[k] = false := by simpa using hl
        have HZ := Lib.hid (num_no hno); have NO := Lib.hid (wok_no hlt hno); clear hl hno
        go_wp2_with fail
        refine (idx2_any s[k] _).mono ?_
        rintro e w' ⟨rfl, rfl⟩
        rw [HZ.out]
        go_wp2_with fail
        go_ret2
        exact lpost_no NO.out HB.out
    · obtain rfl : k = s.size := by omega
      go_wp2
      go_ret2
      exact lpost_yes (wok_yes (by omega) HA.out) HO.out HB.out
end Go.Proofs.Ytpbbfbpggedgpaa.wd
