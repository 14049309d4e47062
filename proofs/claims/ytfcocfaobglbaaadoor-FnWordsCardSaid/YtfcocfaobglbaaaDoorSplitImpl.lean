/-
  The contract of the program's SplitAny.
-/
import Derived.Test.YtfcocfaobglbaaaDoorStrDefs
namespace Go.Proofs.YtfcocfaobglbaaaDoor.split
open Go.ChangeShapes Go.WideShapes Go.ChangeAt Go.RowKit
open Go.Proofs.YtfcocfaobglbaaaDoor.mem Go.Proofs.YtfcocfaobglbaaaDoor.strs
set_option linter.unusedVariables false

def has (b : ByteArray) (n : Nat) (c : UInt8) : Bool := (b.data.toList.take n).contains c
def st (s : ByteArray) (f : UInt8 → Bool) : Nat → List ByteArray × Nat
  | 0 => ([], 0)
  | k + 1 => if h : k < s.size then (if f s[k] then ((st s f k).1 ++ [s.extract (st s f k).2 k], k + 1) else st s f k) else st s f k

theorem st_from (s : ByteArray) (f : UInt8 → Bool) (k : Nat) : (st s f k).2 ≤ k := by
  induction k with
  | zero => simp [st]
  | succ k ih =>
    unfold st
    split
    · split
      · simp; try omega
      · omega
    · omega
theorem st_len (s : ByteArray) (f : UInt8 → Bool) (k : Nat) : (st s f k).1.length ≤ k := by
  induction k with
  | zero => simp [st]
  | succ k ih =>
    unfold st
    split
    · split
      · simp; try omega
      · omega
    · omega
theorem st_yes {s : ByteArray} {f : UInt8 → Bool} {k : Nat} (h : k < s.size) (hf : f s[k] = true) : st s f (k + 1) = ((st s f k).1 ++ [s.extract (st s f k).2 k], k + 1) := by
  rw [st, dif_pos h, if_pos hf]
theorem st_no {s : ByteArray} {f : UInt8 → Bool} {k : Nat} (h : k < s.size) (hf : f s[k] = false) : st s f (k + 1) = st s f k := by
  rw [st, dif_pos h, if_neg (by rw [hf]; decide)]
def fin (s : ByteArray) (f : UInt8 → Bool) : List ByteArray := (st s f s.size).1 ++ [s.extract (st s f s.size).2 s.size]
theorem fin_len (s : ByteArray) (f : UInt8 → Bool) : (fin s f).length = (st s f s.size).1.length + 1 := by simp [fin]
theorem S_snoc (l : List ByteArray) (x : ByteArray) : S l ++ [.string x] = S (l ++ [x]) := by simp [S]

def zs : Array Value := Array.replicate 256 (.bool false)
theorem zero36 (w : World) : (zeroValue 46).run Tryd.prog w = .ok (.agg zs) w := by kernel_rfl
def Tab (cs : Array Value) (b : ByteArray) (n : Nat) : Prop := cs.size = 256 ∧ ∀ c : UInt8, cs[c.toNat]? = some (.bool (has b n c))
theorem tab_zero (b : ByteArray) : Tab zs b 0 := by
  refine ⟨by simp [zs], fun c => ?_⟩
  have := c.toNat_lt
  simp only [zs, has, List.take_zero, List.contains_nil, Array.getElem?_replicate]
  rw [if_pos (by omega)]
theorem take_snoc (s : ByteArray) (k : Nat) (h : k < s.size) : s.data.toList.take (k + 1) = s.data.toList.take k ++ [s[k]] := by
  rw [List.take_succ_eq_append_getElem (by simpa using h)]; rfl
theorem has_snoc {b : ByteArray} {k : Nat} (h : k < b.size) (c : UInt8) : has b (k + 1) c = (has b k c || c == b[k]) := by
  unfold has
  rw [take_snoc b k h]
  by_cases e : c = b[k] <;> simp [e]
theorem tab_step {cs : Array Value} {b : ByteArray} {k : Nat} (h : Tab cs b k) (hk : k < b.size) : Tab (cs.setIfInBounds b[k].toNat (.bool true)) b (k + 1) := by
  refine ⟨by simpa using h.1, fun c => ?_⟩
  have h1 := c.toNat_lt
  have h2 := b[k].toNat_lt
  rw [has_snoc hk, Array.getElem?_setIfInBounds]
  by_cases e : b[k].toNat = c.toNat
  · have e' : c = b[k] := UInt8.toNat_inj.1 e.symm
    rw [if_pos e, if_pos (by rw [h.1]; omega)]
    simp [e']
  · have e' : (c == b[k]) = false := by rw [beq_eq_false_iff_ne]; rintro rfl; exact e rfl
    rw [if_neg e, h.2 c, e', Bool.or_false]

structure SRel (s b : ByteArray) (w wr : World) (cs : Array Value) (v : Value) (k : Nat) : Prop where
  own : wr.ownsRow (w.heap.size + 1) 9 1 v (st s (has b b.size) k).1.length (S (st s (has b b.size) k).1)
  tab : wr.heap[w.heap.size]? = some (.cells cs 46)
  ok : Tab cs b b.size
  bel : Below w.heap.size w wr

set_option maxHeartbeats 400000 in
theorem impl_any (s b : ByteArray) (w : World) (hs : s.size ≤ 1048576) (hb : b.size ≤ 1048576) :
    Calls Tryd.prog 11 #[.string s, .string b] w fun e w' => ∃ v, e = .returned v ∧ w'.ownsRow (w.heap.size + 1) 9 1 v (fin s (has b b.size)).length (S (fin s (has b b.size))) ∧ Below w.heap.size w w' := by
  obtain ⟨i0, hi, hz0, hz1, hz2⟩ := info_parts infoS
  have hz := zero36
  go_enter Tryd.func11, Tryd.ntmps11
  go_wp2
  go_loopw [6, 12] (fun _ i wr => ∃ (k : Nat) (cs : Array Value), k ≤ b.size ∧ i = .int .i64 k ∧ wr = w.alloc (.cells cs 46) ∧ Tab cs b k) (fun _ i _ => b.size - (intOf i).toNat)
  case atStart => exact ⟨0, zs, Nat.zero_le _, rfl, rfl, tab_zero b⟩
  case round =>
    obtain ⟨k, cs, hk, rfl, rfl, ht⟩ := hrel
    have HT := Lib.hid ht
    by_cases hlt : k < b.size
    · have hc := ht.2 b[k]
      have hcell : (w.alloc (.cells cs 46)).cell? ⟨w.heap.size, b[k].toNat, none⟩ = some (.bool (has b k b[k])) := by
        rw [World.cell?_alloc_at _ _ _ _ rfl]; simpa using hc
      have hbd := b[k].toNat_lt
      clear hc ht
      go_wp2
      go_roundw
      case rel => exact ⟨k + 1, _, by omega, by go_num, rfl, tab_step HT.out hlt⟩
      case measure => simp [intOf]; omega
    · obtain rfl : k = b.size := by omega
      clear ht
      go_wp2
      go_loopw [7, 8, 9, 22] (fun v f _ i wr => ∃ (k : Nat) (cs : Array Value), k ≤ s.size ∧ i = .int .i64 k ∧ f = .int .i64 (st s (has b b.size) k).2 ∧ SRel s b w wr cs v k) (fun _ _ _ i _ => s.size - (intOf i).toNat)
      case atStart => exact ⟨0, cs, Nat.zero_le _, rfl, rfl, by simpa [st, S] using World.ownsRow_nil _ _ _ _, MapKept.heap_alloc w _ |>.1, HT.out, (Below.refl _ _).alloc (Nat.le_refl _) _⟩
      case round =>
        obtain ⟨k, cs, hk, rfl, rfl, hrl⟩ := hrel
        have hfr := st_from s (has b b.size) k
        have hln := st_len s (has b b.size) k
        have hsz := hrl.bel.size
        have hsz1 : w.heap.size < wr.heap.size := by
          rcases Nat.lt_or_ge w.heap.size wr.heap.size with hlt | hge
          · exact hlt
          · have := hrl.tab; rw [Array.getElem?_eq_none hge] at this; cases this
        by_cases hlt : k < s.size
        · have hc := hrl.ok.2 s[k]
          have hcell : wr.cell? ⟨w.heap.size, s[k].toNat, none⟩ = some (.bool (has b b.size s[k])) := by
            rw [World.cell?_of_block (w := w.alloc (.cells cs 46)) (a := ⟨w.heap.size, s[k].toNat, none⟩) (by rw [hrl.tab]; exact (MapKept.heap_alloc w _).1.symm), World.cell?_alloc_at _ _ _ _ rfl]; simpa using hc
          have hbd := s[k].toNat_lt
          have HR := Lib.hid hrl; clear hrl hc
          cases hf : has b b.size s[k]
          · rw [hf] at hcell
            have HF := Lib.hid hf; clear hf
            go_wp2
            go_roundw
            case rel =>
              have e := st_no hlt HF.out
              refine ⟨k + 1, cs, by omega, by go_num, by rw [e], ?_⟩
              exact ⟨by rw [e]; exact HR.out.own, HR.out.tab, HR.out.ok, HR.out.bel⟩
            case measure => simp [intOf]; omega
          · rw [hf] at hcell
            have HF := Lib.hid hf; clear hf
            go_wp2_with (at_builtin; refine wpList_append_one wr _ _ rfl _ _ 29 rfl (w.heap.size + 1) 9 i0 _ 16 Tryd.underlying29 hi hz0 hz1 hz2 rfl _ _ _ rfl HR.out.own rfl rfl ?c4 (by decide) ?c5 ?_)
            case c4 => omega
            case c5 => omega
            intro v' w1 hown1 hg1
            have H1 := Lib.hid hown1; have HG := Lib.hid hg1; clear hown1 hg1
            go_wp2
            go_roundw
            case rel =>
              have e := st_yes hlt HF.out
              have hb1 := own_below (B := w.heap.size + 1) HR.out.own HG.out (Nat.le_refl _) (by omega)
              refine ⟨k + 1, cs, by omega, by go_num, by rw [e]; go_num, ?_⟩
              refine ⟨?_, ?_, HR.out.ok, HR.out.bel.trans (hb1.mono (by omega))⟩
              · rw [e, ← S_snoc]; simpa using H1.out
              · rw [hb1.block _ (by omega)]; exact HR.out.tab
            case measure => simp [intOf]; omega
        · obtain rfl : k = s.size := by omega
          have HR := Lib.hid hrl; clear hrl
          go_wp2_with (at_builtin; refine wpList_append_one wr _ _ rfl _ _ 29 rfl (w.heap.size + 1) 9 i0 _ 16 Tryd.underlying29 hi hz0 hz1 hz2 rfl _ _ _ rfl HR.out.own rfl rfl ?d4 (by decide) ?d5 ?_)
          case d4 => omega
          case d5 => omega
          intro v' w1 hown1 hg1
          have H1 := Lib.hid hown1; have HG := Lib.hid hg1; clear hown1 hg1
          go_wp2
          go_ret
          have hb1 := own_below (B := w.heap.size + 1) HR.out.own HG.out (Nat.le_refl _) (by omega)
          refine ⟨v', rfl, ?_, HR.out.bel.trans (hb1.mono (by omega))⟩
          rw [fin_len, fin, ← S_snoc]
          exact H1.out
end Go.Proofs.YtfcocfaobglbaaaDoor.split
