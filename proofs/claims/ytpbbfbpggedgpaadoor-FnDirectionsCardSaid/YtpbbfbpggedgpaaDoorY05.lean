import Derived.Test.YtpbbfbpggedgpaaDoorY01
import Derived.Laws.OwnMore
import Derived.Test.YtpbbfbpggedgpaaDoorY04
import Derived.Test.YtpbbfbpggedgpaaDoorY02
import Derived.Lib.Bytealg
import Derived.Laws.StandIn
import Derived.Test.YtpbbfbpggedgpaaDoorCards
import Derived.Test.YtpbbfbpggedgpaaDoorTie
import Derived.Deep.DeepHandedRow
import Derived.Deep.DeepWitnessRowRef
import Derived.Lib.LaidTab
import Derived.Lib.SmallJoins
import Derived.RegionTactic
import Derived.BigRegion
import Derived.Deep.RegionHeld3
/-
  append of one element to a row of the call's own, with the block in which the result lies.
-/
namespace Go.Proofs.YtpbbfbpggedgpaaDoor.mem
open Go.ChangeShapes Go.WideShapes Go.ChangeAt Go.RowKit
set_option linter.unusedVariables false
set_option maxRecDepth 100000

/-- Where the result of an append of one cell lies: the library's laws for the three cases (nil, room, no room) all speak of the one run. -/
theorem one_where {P : Program} (w : World) (base : Nat) (t ty e : TypeId) (i : TypeInfo) (z : Value) (bytes : Nat) (ht : P.underlying t = some (.slice e)) (hi : P.info? e = some i) (hz : i.zero = some z)
    (hsize : i.size = 1) (hby : i.bytes = bytes) (hzs : z.cells.size = 1) (v : Value) (n : Nat) (xs : List Value) (hown : w.ownsRow base e 1 v n xs)
    (a : Addr) (u : Value) (hu : w.cell? a = some u) (ha : a.add 0 = a) (h1 : u.oneCell' = true) (hbytes : (n + 1) * bytes ≤ 140737488355328) (h63 : n + 1 ≤ maxLen) {v' : Value} {w' : World}
    (hr : (Builtin.append_ #[t, t] ty #[v, .slice (some a) 1 1]).run P w = .ok v' w') : v'.ownBlock = v.ownBlock ∨ ∃ k, v'.ownBlock = some k ∧ w.heap.size ≤ k := by
  have hc : ∀ j q, [u][j]? = some q → w.cell? (a.add j) = some q := by
    intro j q hj
    match j, hj with
    | 0, hj => simp at hj; subst hj; rw [ha]; exact hu
  have ho : ∀ q ∈ [u], q.oneCell' = true := by intro q hq; simp at hq; subst hq; exact h1
  have same : ∀ {v2 : Value} {w2 : World}, (Builtin.append_ #[t, t] ty #[v, .slice (some a) 1 1]).run P w = .ok v2 w2 → v' = v2 := by
    intro v2 w2 h2
    rw [hr] at h2
    injection h2
  rcases hown.2 with ⟨rfl, rfl⟩ | ⟨g, cap, cur, rfl, _⟩
  · have hn : w.ownsRow w.heap.size e 1 (.slice none 0 0) 0 xs := ⟨hown.1, .inl ⟨rfl, rfl⟩⟩
    obtain ⟨v2, w2, h2, own2, _, ne⟩ := run_append_own (P := P) w w.heap.size t ty e i z 1 bytes ht hi hz hsize hby hzs (by decide) _ 0 xs hn a 1 1 [u] rfl hc ho h63 hbytes (Nat.le_refl _)
    rw [same h2]
    cases hb : v2.ownBlock with
    | none => exact .inl rfl
    | some k => exact .inr ⟨k, rfl, (own2.lt k hb).1⟩
  · by_cases room : n + 1 ≤ cap
    · obtain ⟨w2, h2, _⟩ := run_append_fits (P := P) w base t ty e i 1 ht hi hsize g n cap xs hown a 1 1 [u] rfl hc ho room
      rw [same h2]
      exact .inl rfl
    · have h2 := run_append_grow (P := P) w t ty e i z ht hi hz ⟨g, 0, none⟩ n cap xs (by rw [hsize]; exact hown.1) (hown.cells rfl) a 1 1 [u] (by rw [hsize]; rfl) hc (by omega) (by unfold maxLen at h63; omega) (by rw [hby]; exact growslice_fits (by omega) hbytes)
      rw [same h2]
      exact .inr ⟨_, rfl, Nat.le_refl _⟩

/-- 'out = append(out, u)': as wpList_append_one; the result lies where it lay, or in a new block. -/
theorem wpList_append_one2 {P : Program} {ops : Array Oper} {rest : List Oper} {o : Oper} {a : Act} {Q : Exit → Act → World → Prop} (W : World) (u : Value) (ty : TypeId) (hgd : o.guard = none) (s x : Operand) (t : TypeId)
    (ho : o.op = .call { callee := .builtin .append, args := #[s, x], argTypes := #[t, t] })
    (base : Nat) (e : TypeId) (i : TypeInfo) (z : Value) (bytes size : Nat) (ht : P.underlying t = some (.slice e)) (hi : P.info? e = some i) (hz : i.zero = some z)
    (hsize : i.size = size) (hone : size = 1) (hby : i.bytes = bytes) (hzs : z.cells.size = 1)
    (v : Value) (n : Nat) (xs : List Value) (hs : a.eval s = v) (hown : W.ownsRow base e 1 v n xs)
    (hx : a.eval x = .slice (some ⟨W.heap.size, 0, none⟩) 1 1) (h1 : u.oneCell' = true)
    (hbytes : (n + 1) * bytes ≤ 140737488355328) (hb0 : 0 < bytes) (hbase : base ≤ W.heap.size)
    (h : ∀ v' w', w'.ownsRow base e 1 v' (n + 1) (xs ++ [u]) → W.grownBy w' v.ownBlock → (v'.ownBlock = v.ownBlock ∨ ∃ k, v'.ownBlock = some k ∧ W.heap.size + 1 ≤ k) → wpList P ops Q rest (a.put o.dst v') w') : wpList P ops Q (o :: rest) a (W.alloc (.cells #[u] ty)) := by
  subst hone
  have h63 : n + 1 ≤ maxLen := by
    have : (n + 1) * 1 ≤ (n + 1) * bytes := Nat.mul_le_mul_left _ hb0
    unfold maxLen; omega
  have hcell : (W.alloc (.cells #[u] ty)).cell? ⟨W.heap.size, 0, none⟩ = some u := by simp
  have hc : ∀ j q, [u][j]? = some q → (W.alloc (.cells #[u] ty)).cell? ((⟨W.heap.size, 0, none⟩ : Addr).add j) = some q := by
    intro j q hj
    match j, hj with
    | 0, hj => simp at hj; subst hj; simp [Addr.add]
  have hu : ∀ q ∈ [u], q.oneCell' = true := by intro q hq; simp at hq; subst hq; exact h1
  obtain ⟨v', w', hr, own', grown', _⟩ := run_append_own (P := P) (W.alloc (.cells #[u] ty)) base t o.type e i z 1 bytes ht hi hz hsize hby hzs (by decide) v n xs (hown.alloc _) ⟨W.heap.size, 0, none⟩ 1 1 [u] rfl hc hu h63 hbytes (by simp; omega)
  have hwh := one_where (P := P) (W.alloc (.cells #[u] ty)) base t o.type e i z bytes ht hi hz hsize hby hzs v n xs (hown.alloc _) ⟨W.heap.size, 0, none⟩ u hcell (by simp [Addr.add]) h1 hbytes h63 hr
  have hgo := h v' w' own' (grown_trans (World.grownBy_alloc W _ _) grown') (by simpa using hwh)
  refine wpList_plain hgd fun K hK => ?_
  simp [Oper.wp, execOp, ho, resolve, invoke, builtin, hs, hx, hr]
  exact hK _ _ hgo
end Go.Proofs.YtpbbfbpggedgpaaDoor.mem

/-
  Words: which strings are words (WordOk of the model, of the program); the letters' numbers (lettersOf of the program).
-/
namespace Go.Proofs.YtpbbfbpggedgpaaDoor.wd
open Go.ChangeShapes Go.WideShapes Go.ChangeAt Go.RowKit
open Go.Proofs.YtpbbfbpggedgpaaDoor.mem Go.Proofs.YtpbbfbpggedgpaaDoor.ints Go.Proofs.YtpbbfbpggedgpaaDoor.arr Go.Proofs.YtpbbfbpggedgpaaDoor.pm
set_option linter.unusedVariables false
set_option maxRecDepth 100000
/-- A word: at most 40 bytes, each of them one of the four letters. -/
def wok (s : ByteArray) : Bool := decide (s.size ≤ 40) && s.data.toList.all isL
theorem take_snoc (s : ByteArray) (k : Nat) (h : k < s.size) : s.data.toList.take (k + 1) = s.data.toList.take k ++ [s[k]] := by
  rw [List.take_succ_eq_append_getElem (by simpa using h)]; rfl
theorem all_step {s : ByteArray} {k : Nat} (h : k < s.size) (ha : (s.data.toList.take k).all isL = true) (h1 : isL s[k] = true) : (s.data.toList.take (k + 1)).all isL = true := by
  rw [take_snoc s k h, List.all_append, ha]; simp [h1]
theorem wok_long {s : ByteArray} (h : 40 < s.size) : wok s = false := by
  unfold wok; rw [decide_eq_false (by omega)]; rfl
theorem wok_no {s : ByteArray} {k : Nat} (h : k < s.size) (h1 : isL s[k] = false) : wok s = false := by
  unfold wok
  have : s.data.toList.all isL = false := by
    rw [List.all_eq_false]
    refine ⟨s[k], ?_, by rw [h1]; decide⟩
    have : s[k] = s.data.toList[k]'(by simpa using h) := rfl
    rw [this]; exact List.getElem_mem _
  rw [this, Bool.and_false]
theorem wok_yes {s : ByteArray} (h : s.size ≤ 40) (ha : (s.data.toList.take s.size).all isL = true) : wok s = true := by
  have e : s.data.toList.take s.size = s.data.toList := List.take_of_length_le (by simp)
  rw [e] at ha
  unfold wok
  rw [decide_eq_true h, ha]; rfl
theorem wok_len {s : ByteArray} (h : wok s = true) : s.size ≤ 40 := by
  unfold wok at h; simp at h; exact h.1
theorem wok_all {s : ByteArray} (h : wok s = true) : s.data.toList.all isL = true := by
  unfold wok at h; rw [Bool.and_eq_true] at h; exact h.2
theorem wok_at {s : ByteArray} (h : wok s = true) {k : Nat} (hk : k < s.size) : isL s[k] = true := by
  have := List.all_eq_true.1 (wok_all h) s[k] (by
    have : s[k] = s.data.toList[k]'(by simpa using hk) := rfl
    rw [this]; exact List.getElem_mem _)
  exact this
theorem isL_no {c : UInt8} (h1 : c.toNat ≠ 84) (h2 : c.toNat ≠ 116) (h3 : c.toNat ≠ 83) (h4 : c.toNat ≠ 115) : isL c = false := by simp [isL, h1, h2, h3, h4]
theorem ret_bool {a b : Bool} (h : a = b) : Ending.returned (.bool a) = .returned (.bool b) := by rw [h]
/-- The number of a letter, in the order of "TtSs"; -1: no letter. -/
def num (c : UInt8) : Int := if c.toNat = 84 then 0 else if c.toNat = 116 then 1 else if c.toNat = 83 then 2 else if c.toNat = 115 then 3 else -1
theorem num_no {c : UInt8} (h : isL c = false) : num c = -1 := by
  simp [isL] at h
  simp [num, h]
theorem num_cases {c : UInt8} (h : isL c = true) : (c.toNat = 84 ∧ num c = 0) ∨ (c.toNat = 116 ∧ num c = 1) ∨ (c.toNat = 83 ∧ num c = 2) ∨ (c.toNat = 115 ∧ num c = 3) := by
  rcases isL_iff.1 h with e | e | e | e
  · exact .inl ⟨e, by simp [num, e]⟩
  · exact .inr (.inl ⟨e, by simp [num, e]⟩)
  · exact .inr (.inr (.inl ⟨e, by simp [num, e]⟩))
  · exact .inr (.inr (.inr ⟨e, by simp [num, e]⟩))
theorem num_index (c : UInt8) : Lib.indexByte [84, 116, 83, 115] c = num c := by
  have h : ∀ n : Fin 256, Lib.indexByte [84, 116, 83, 115] (UInt8.ofFin n) = num (UInt8.ofFin n) := by decide +kernel
  exact h c.toFin
/-- The numbers of a string's bytes. -/
def nums (s : ByteArray) : List Int := s.data.toList.map num
theorem nums_len (s : ByteArray) : (nums s).length = s.size := by simp [nums]
theorem nums_snoc {s : ByteArray} {k : Nat} (h : k < s.size) : (nums s).take (k + 1) = (nums s).take k ++ [num s[k]] := by
  unfold nums; rw [← List.map_take, ← List.map_take, take_snoc s k h]; simp
theorem nums_at {s : ByteArray} {k : Nat} (h : k < s.size) : (nums s)[k]? = some (num s[k]) := by
  unfold nums; rw [List.getElem?_map, List.getElem?_eq_getElem (by simpa using h)]; rfl

set_option maxHeartbeats 1000000 in
theorem idx_any (c : UInt8) (w : World) :
    Calls Tryd.prog 55 #[.string { data := #[84, 116, 83, 115] }, .int .u8 (c.toNat : Int)] w fun e w' => e = .returned (.int .i64 (num c)) ∧ w' = w := by
  go_enter Tryd.func55, Tryd.ntmps55
  go_wp2
  rw [run_callFunc_extern Tryd.func62 (by kernel_rfl) (by kernel_rfl) (by kernel_rfl) (e := Extern.BytealgIndexByte.indexByte) (by kernel_rfl), Lib.run_indexByteString]
  simp only [Result.andThen]
  rw [Oper.upon_value]
  go_wp2
  go_ret
  exact ⟨by rw [num_index]; rfl, rfl⟩
theorem idx2_any (c : UInt8) (w : World) :
    Calls Tryd.prog 45 #[.string { data := #[84, 116, 83, 115] }, .int .u8 (c.toNat : Int)] w fun e w' => e = .returned (.int .i64 (num c)) ∧ w' = w := by
  go_enter Tryd.func45, Tryd.ntmps45
  go_wp2_with fail
  refine (idx_any c _).mono ?_
  rintro e w' ⟨rfl, rfl⟩
  go_wp2_with fail
  go_ret
  exact ⟨rfl, rfl⟩
theorem infoL : (Tryd.prog.info? 61).map (fun i => (i.zero, i.size, i.bytes)) = some (some (.int .i64 0), 1, 8) := by kernel_rfl
/-- What lettersOf gives. -/
def LPost (s : ByteArray) (w : World) (e : Ending) (w' : World) : Prop :=
  ∃ v L, e = .returned (.tuple #[v, .bool (wok s)]) ∧ w'.ownsRow w.heap.size 61 1 v L.length (V L) ∧ L = (if wok s then nums s else []) ∧ Below w.heap.size w w'
theorem lpost_no {s : ByteArray} {w w' : World} (h : wok s = false) (hb : Below w.heap.size w w') : LPost s w (.returned (.tuple #[.slice none 0 0, .bool false])) w' :=
  ⟨_, [], by rw [h], World.ownsRow_nil _ _ _ _, by simp [h], hb⟩
theorem lpost_yes {s : ByteArray} {w w' : World} {v : Value} (h : wok s = true) (ho : w'.ownsRow w.heap.size 61 1 v s.size (V ((nums s).take s.size))) (hb : Below w.heap.size w w') : LPost s w (.returned (.tuple #[v, .bool true])) w' := by
  have e : (nums s).take s.size = nums s := List.take_of_length_le (by rw [nums_len]; exact Nat.le_refl _)
  rw [e] at ho
  exact ⟨v, nums s, by rw [h], by rw [nums_len]; exact ho, by simp [h], hb⟩
set_option maxHeartbeats 2000000 in
theorem lets_any (s : ByteArray) (w : World) (hs : s.size ≤ 1048576) : Calls Tryd.prog 26 #[.string s] w (LPost s w) := by
  obtain ⟨i0, hi, hz0, hz1, hz2⟩ := info_parts infoL
  go_enter Tryd.func26, Tryd.ntmps26
  by_cases h40 : 40 < s.size
  · go_wp2
    go_ret2
    exact lpost_no (wok_long h40) (Below.refl _ _)
  go_wp2
  go_loopw [4, 12] (fun v i wr => ∃ k : Nat, k ≤ s.size ∧ i = .int .i64 k ∧ (s.data.toList.take k).all isL = true ∧ wr.ownsRow w.heap.size 61 1 v k (V ((nums s).take k)) ∧ Below w.heap.size w wr) (fun _ i _ => s.size - (intOf i).toNat)
  case atStart => exact ⟨0, Nat.zero_le _, rfl, rfl, by simpa [V] using World.ownsRow_nil _ _ _ _, Below.refl _ _⟩
  case round =>
    obtain ⟨k, hk, rfl, ha, ho, hb⟩ := hrel
    have HA := Lib.hid ha; clear ha
    obtain ⟨C, cc, rfl⟩ := own_form ho
    have HO := Lib.hid ho; have HB := Lib.hid hb; clear ho hb
    by_cases hlt : k < s.size
    · have EN := Lib.hid (nums_snoc hlt)
      by_cases hl : isL s[k] = true
      · have ST := Lib.hid (all_step hlt HA.out hl)
        obtain ⟨z, hz, hz3⟩ : ∃ z : Nat, num s[k] = (z : Int) ∧ z ≤ 3 := by
          rcases num_cases hl with h | h | h | h
          · exact ⟨0, by rw [h.2]; rfl, by omega⟩
          · exact ⟨1, by rw [h.2]; rfl, by omega⟩
          · exact ⟨2, by rw [h.2]; rfl, by omega⟩
          · exact ⟨3, by rw [h.2]; rfl, by omega⟩
        have HZ := Lib.hid hz; clear hz hl HA
        have hsz : w.heap.size ≤ wr.heap.size := HB.out.size
        go_wp2_with fail
        refine (idx2_any s[k] _).mono ?_
        rintro e w' ⟨rfl, rfl⟩
        rw [HZ.out]
        go_wp2_with (at_builtin; refine wpList_append_one w' _ _ rfl _ _ 58 rfl (w.heap.size) 61 i0 _ 8 Tryd.underlying58 hi hz0 hz1 hz2 rfl _ _ _ rfl HO.out rfl rfl ?c4 (by decide) hsz ?_)
        case c4 => omega
        intro v' w2 ho hg
        have HN : Hid (w2.ownsRow w.heap.size 61 1 v' (k + 1) (V ((nums s).take (k + 1)))) := Lib.hid (by rw [EN.out, HZ.out]; simpa [V] using ho)
        have HB2 : Hid (Below w.heap.size w w2) := Lib.hid (HB.out.trans (own_below HO.out hg (Nat.le_refl _) HB.out.size))
        clear ho hg
        go_wp2
        go_roundw
        case rel => exact ⟨k + 1, by omega, by go_num, ST.out, HN.out, HB2.out⟩
        case measure => simp [intOf]; omega
      · have hno : isL s[k] = false := by simpa using hl
        have HZ := Lib.hid (num_no hno); have NO := Lib.hid (wok_no hlt hno); clear hl hno
        go_wp2_with fail
        refine (idx2_any s[k] _).mono ?_
        rintro e w' ⟨rfl, rfl⟩
        rw [HZ.out]
        go_wp2_with fail
        go_ret2
        exact lpost_no NO.out HB.out
    · obtain rfl : k = s.size := by omega
      go_wp2
      go_ret2
      exact lpost_yes (wok_yes (by omega) HA.out) HO.out HB.out
end Go.Proofs.YtpbbfbpggedgpaaDoor.wd

/-
  What the program's table of letters' matrices holds, as its initialiser lays it; a world in which it does.
-/
namespace Go.Proofs.YtpbbfbpggedgpaaDoor.doorM
open Go.ChangeShapes Go.WideShapes Go.ChangeAt Go.RowKit Go.Joins Go.Deep
open Go.Proofs.YtpbbfbpggedgpaaDoor.mem Go.Proofs.YtpbbfbpggedgpaaDoor.ints Go.Proofs.YtpbbfbpggedgpaaDoor.arr Go.Proofs.YtpbbfbpggedgpaaDoor.mx Go.Proofs.YtpbbfbpggedgpaaDoor.pm Go.Proofs.YtpbbfbpggedgpaaDoor.wd
set_option linter.unusedVariables false
set_option maxRecDepth 100000
theorem own : ownKnob Tryd.prog.godebug = none := by kernel_rfl
theorem gTab : Tryd.prog.globalNamed "loop.example/g00928/impl.letterMatrices" = some 0 := by kernel_rfl
theorem gTabType : (Tryd.prog.globals[0]?).map (·.type) = some 62 := by kernel_rfl
theorem cellsA : Tryd.prog.cellsOf 62 = 16 := by kernel_rfl
theorem cellsM : Tryd.prog.cellsOf 31 = 4 := by kernel_rfl
/-- The table's sixteen numbers. -/
def tab16 : List Int := [1, 1, 0, 1, 1, -1, 0, 1, 0, -1, 1, 0, 0, 1, -1, 0]
abbrev LM (w : World) : Prop := w.var? Tryd.prog "loop.example/g00928/impl.letterMatrices" = some (V tab16).toArray
theorem cell_of_int {H : Type} {enc : TypeId × Value → H} {P : Program} {w : World} {base fuel : Nat} {sp : Nat → Bool} {held : Bool} {t : TypeId} {v : Value} {z : Int} {p : List MemPlace} (ht : P.underlying t = some (.int .i64))
    (h : DataW.trod enc P w base sp held fuel t [v] = some (.lit (.int .i64 z), p)) : v = .int .i64 z := by
  obtain ⟨a, e, h2, _⟩ := DataW.trod_int ht h
  simp at e
  subst e
  have : a = z := by simpa using (congrArg Prod.fst h2).symm
  rw [this]
theorem row_of {H : Type} {enc : TypeId × Value → H} {w : World} {base fuel : Nat} {sp : Nat → Bool} {held : Bool} {cs : List Value} {a b c d : Int} {p : List MemPlace}
    (h : DataW.trod enc Tryd.prog w base sp held fuel 31 cs = some (.agg [.lit (.int .i64 a), .lit (.int .i64 b), .lit (.int .i64 c), .lit (.int .i64 d)], p)) : cs = [.int .i64 a, .int .i64 b, .int .i64 c, .int .i64 d] := by
  obtain ⟨y0, y1, y2, y3, n, hx, hl, h0, h1, h2, h3⟩ := trod_struct4 Tryd.underlying31 h
  simp only [Prod.mk.injEq, DataW.agg.injEq, List.cons.injEq, and_true] at hx
  obtain ⟨⟨e0, e1, e2, e3⟩, _⟩ := hx
  rw [cellsM] at hl
  match cs, hl with
  | [c0, c1, c2, c3], _ =>
    obtain ⟨d0, q0⟩ := y0; obtain ⟨d1, q1⟩ := y1; obtain ⟨d2, q2⟩ := y2; obtain ⟨d3, q3⟩ := y3
    subst e0; subst e1; subst e2; subst e3
    have ce : Tryd.prog.cellsOf 3 = 1 := by kernel_rfl
    have k0 := cell_of_int Tryd.underlying3 (v := c0) (by simpa [ce] using h0)
    have k1 := cell_of_int Tryd.underlying3 (v := c1) (by simpa [ce] using h1)
    have k2 := cell_of_int Tryd.underlying3 (v := c2) (by simpa [ce] using h2)
    have k3 := cell_of_int Tryd.underlying3 (v := c3) (by simpa [ce] using h3)
    rw [k0, k1, k2, k3]
theorem tab_of {W : World} {rest : List (String × DataW Unit)} (h : laidMet Tryd.prog (("loop.example/g00928/impl.letterMatrices", Rows.laid_loop_example_g00928_impl_letterMatrices) :: rest) W) : LM W := by
  obtain ⟨ps, ⟨g', t', cs, fuel, p, q, hg', ht', hvar, hd, _, _⟩, _⟩ := h
  obtain rfl := Option.some.inj (gTab.symm.trans hg')
  obtain rfl := Option.some.inj (gTabType.symm.trans ht')
  obtain ⟨cl⟩ := cs
  obtain ⟨xs, m, _, hx, hl, hxl, hf⟩ := DataW.trod_array Tryd.underlying62 hd
  rw [cellsA] at hl
  rw [cellsM] at hf
  match xs, hxl with
  | [x0, x1, x2, x3], _ =>
    obtain ⟨d0, q0⟩ := x0; obtain ⟨d1, q1⟩ := x1; obtain ⟨d2, q2⟩ := x2; obtain ⟨d3, q3⟩ := x3
    simp only [Rows.laid_loop_example_g00928_impl_letterMatrices, Prod.mk.injEq, List.map_cons, List.map_nil, DataW.agg.injEq, List.cons.injEq, and_true] at hx
    obtain ⟨⟨e0, e1, e2, e3⟩, _⟩ := hx
    subst e0; subst e1; subst e2; subst e3
    have r0 := row_of (by simpa using hf 0 (by omega))
    have r1 := row_of (by simpa using hf 1 (by omega))
    have r2 := row_of (by simpa using hf 2 (by omega))
    have r3 := row_of (by simpa using hf 3 (by omega))
    show W.var? _ _ = _
    rw [hvar]
    match cl, hl with
    | [c0, c1, c2, c3, c4, c5, c6, c7, c8, c9, ca, cb, cc, cd, ce, cf], _ =>
      simp at r0 r1 r2 r3
      simp [V, tab16, r0, r1, r2, r3]
theorem LM.keep {w w' : World} {B : Nat} (h : LM w) (hb : Below B w w') (hB : 0 < B) : LM w' := by
  unfold LM World.var? at *
  rw [gTab] at *
  simp only [Option.bind_some] at *
  rw [hb.block _ hB]; exact h
theorem LM.cell {w : World} (h : LM w) {i : Nat} {z : Int} (hi : tab16[i]? = some z) : w.cell? ⟨0, i, none⟩ = some (.int .i64 z) := by
  have := World.var?_cell gTab h i
  rw [this]
  simp [V, hi]
theorem LM.lt {w : World} (h : LM w) : 0 < w.heap.size := World.block_lt_of_cell? w _ (h.cell (i := 0) rfl)
theorem laidOut : laidOutB Tryd.prog = true := by kernel_rfl
abbrev Pow (w : World) : Prop := LM w
theorem pow_of {W : World} {rest : List (String × DataW Unit)} (h : laidMet Tryd.prog (("loop.example/g00928/impl.letterMatrices", Rows.laid_loop_example_g00928_impl_letterMatrices) :: rest) W) : Pow W := tab_of h
def put (h : Array Obj) (g : Nat) (cs : Array Value) : Array Obj := h.modify g fun
  | .cells _ t frozen => .cells cs t frozen
  | o => o
/-- A world in which the table holds what its initialiser lays. -/
noncomputable def worldM (os : Os) : World :=
  { World.holding Tryd.prog os ⟨#[], #[], []⟩ with heap := put (World.holding Tryd.prog os ⟨#[], #[], []⟩).heap 0 (V tab16).toArray }
end Go.Proofs.YtpbbfbpggedgpaaDoor.doorM

/-
  Surfaces in memory: a struct of two slices of ints; the laws' helpers szSurface, toSurface, eqSurface, markSurface, heldSurface.
-/
namespace Go.Proofs.YtpbbfbpggedgpaaDoor.sf
open Go.ChangeShapes Go.WideShapes Go.ChangeAt Go.RowKit Go.Joins Go.Deep
open Go.Proofs.YtpbbfbpggedgpaaDoor.mem Go.Proofs.YtpbbfbpggedgpaaDoor.ints Go.Proofs.YtpbbfbpggedgpaaDoor.arr
set_option linter.unusedVariables false
set_option maxRecDepth 100000

/-- v is a surface that reads as r, u; both rows may be written, lie apart from one another, from lo on and below hi. -/
def Svl (w : World) (lo hi : Nat) (v : Value) (r u : List Int) : Prop :=
  ∃ P n c Q m d l1 h1 l2 h2, v = .agg #[.slice P n c, .slice Q m d] ∧ Row w l1 h1 P n (V r) ∧ Row w l2 h2 Q m (V u) ∧ n ≤ c ∧ m ≤ d ∧ lo ≤ l1 ∧ h1 ≤ hi ∧ lo ≤ l2 ∧ h2 ≤ hi ∧ (h1 ≤ l2 ∨ h2 ≤ l1) ∧ hi ≤ w.heap.size
/-- The same, to be read only. -/
def Srd (w : World) (hi : Nat) (v : Value) (r u : List Int) : Prop :=
  ∃ P n c Q m d, v = .agg #[.slice P n c, .slice Q m d] ∧ Rd w hi P n (V r) ∧ Rd w hi Q m (V u) ∧ n ≤ c ∧ m ≤ d
theorem Rd.wider {w : World} {hi hi' n : Nat} {A : Option Addr} {xs : List Value} (h : Rd w hi A n xs) (h1 : hi ≤ hi') (h2 : hi' ≤ w.heap.size) : Rd w hi' A n xs :=
  ⟨h.1, h2, fun hn => by
    obtain ⟨g, off, e, hlt, hc⟩ := h.2.2 hn
    exact ⟨g, off, e, by omega, hc⟩⟩
theorem Rd.up {w : World} {hi n : Nat} {A : Option Addr} {xs : List Value} (h : Rd w hi A n xs) : Rd w w.heap.size A n xs := Rd.wider h h.2.1 (Nat.le_refl _)
theorem Svl.rd {w : World} {lo hi : Nat} {v : Value} {r u : List Int} (h : Svl w lo hi v r u) : Srd w hi v r u := by
  obtain ⟨P, n, c, Q, m, d, l1, h1, l2, h2, rfl, a, b, e1, e2, f1, f2, f3, f4, f5, f6⟩ := h
  exact ⟨P, n, c, Q, m, d, rfl, Rd.wider a.rd f2 f6, Rd.wider b.rd f4 f6, e1, e2⟩
theorem Svl.top {w : World} {lo hi : Nat} {v : Value} {r u : List Int} (h : Svl w lo hi v r u) : hi ≤ w.heap.size := by
  obtain ⟨P, n, c, Q, m, d, l1, h1, l2, h2, rfl, a, b, e1, e2, f1, f2, f3, f4, f5, f6⟩ := h
  exact f6
theorem Srd.top {w : World} {hi : Nat} {v : Value} {r u : List Int} (h : Srd w hi v r u) : hi ≤ w.heap.size := by
  obtain ⟨P, n, c, Q, m, d, rfl, a, b, e1, e2⟩ := h
  exact a.2.1
theorem Srd.up {w : World} {hi : Nat} {v : Value} {r u : List Int} (h : Srd w hi v r u) : Srd w w.heap.size v r u := by
  obtain ⟨P, n, c, Q, m, d, rfl, a, b, e1, e2⟩ := h
  exact ⟨P, n, c, Q, m, d, rfl, Rd.up a, Rd.up b, e1, e2⟩
theorem Svl.keep {w w' : World} {lo hi B : Nat} {v : Value} {r u : List Int} (h : Svl w lo hi v r u) (hb : Below B w w') (hB : hi ≤ B) : Svl w' lo hi v r u := by
  obtain ⟨P, n, c, Q, m, d, l1, h1, l2, h2, rfl, a, b, e1, e2, f1, f2, f3, f4, f5, f6⟩ := h
  exact ⟨P, n, c, Q, m, d, l1, h1, l2, h2, rfl, a.keep hb (by omega), b.keep hb (by omega), e1, e2, f1, f2, f3, f4, f5, Nat.le_trans f6 hb.size⟩
theorem Srd.keep {w w' : World} {hi B : Nat} {v : Value} {r u : List Int} (h : Srd w hi v r u) (hb : Below B w w') (hB : hi ≤ B) : Srd w' hi v r u := by
  obtain ⟨P, n, c, Q, m, d, rfl, a, b, e1, e2⟩ := h
  exact ⟨P, n, c, Q, m, d, rfl, a.keep hb hB, b.keep hb hB, e1, e2⟩
theorem Svl.out {w w' : World} {lo hi lo' hi' : Nat} {v : Value} {r u : List Int} (h : Svl w lo hi v r u) (ho : Out lo' hi' w w') (hd : hi ≤ lo' ∨ hi' ≤ lo) : Svl w' lo hi v r u := by
  obtain ⟨P, n, c, Q, m, d, l1, h1, l2, h2, rfl, a, b, e1, e2, f1, f2, f3, f4, f5, f6⟩ := h
  exact ⟨P, n, c, Q, m, d, l1, h1, l2, h2, rfl, a.out ho (by omega), b.out ho (by omega), e1, e2, f1, f2, f3, f4, f5, Nat.le_trans f6 ho.size⟩
theorem Svl.later {w : World} {lo lo' hi : Nat} {v : Value} {r u : List Int} (h : Svl w lo hi v r u) (hl : lo' ≤ lo) : Svl w lo' hi v r u := by
  obtain ⟨P, n, c, Q, m, d, l1, h1, l2, h2, rfl, a, b, e1, e2, f1, f2, f3, f4, f5, f6⟩ := h
  exact ⟨P, n, c, Q, m, d, l1, h1, l2, h2, rfl, a, b, e1, e2, by omega, f2, by omega, f4, f5, f6⟩
theorem Svl.wide {w : World} {lo hi : Nat} {v : Value} {r u : List Int} (h : Svl w lo hi v r u) : Svl w lo w.heap.size v r u := by
  obtain ⟨P, n, c, Q, m, d, l1, h1, l2, h2, rfl, a, b, e1, e2, f1, f2, f3, f4, f5, f6⟩ := h
  exact ⟨P, n, c, Q, m, d, l1, h1, l2, h2, rfl, a, b, e1, e2, f1, by omega, f3, by omega, f5, Nat.le_refl _⟩
theorem Svl.nil (w : World) (lo hi : Nat) (h : hi ≤ w.heap.size) (hl : lo ≤ hi) : Svl w lo hi (.agg #[.slice none 0 0, .slice none 0 0]) [] [] :=
  ⟨none, 0, 0, none, 0, 0, lo, lo, lo, lo, rfl, ⟨rfl, by omega, fun h => absurd h (by omega)⟩, ⟨rfl, by omega, fun h => absurd h (by omega)⟩, Nat.le_refl _, Nat.le_refl _, Nat.le_refl _, hl, Nat.le_refl _, hl, .inl (Nat.le_refl _), h⟩
theorem own_cap {w : World} {base : Nat} {e : TypeId} {n n' c : Nat} {A : Option Addr} {xs : List Value} (h : w.ownsRow base e 1 (.slice A n' c) n xs) : n' = n ∧ n ≤ c := by
  rcases h.2 with ⟨q, rfl⟩ | ⟨g, cap, cur, q, _, _, hc, _⟩
  · injection q with _ q2 q3; subst q2; subst q3; exact ⟨rfl, Nat.le_refl _⟩
  · injection q with _ q2 q3; subst q2; subst q3; exact ⟨rfl, hc⟩
theorem _root_.Go.Proofs.YtpbbfbpggedgpaaDoor.mem.Out.row_ {lo hi g : Nat} {w w' : World} (h : Out lo hi w w') (h1 : lo ≤ g) (h2 : g < hi) (cs : Array Value) : Out lo hi w (w'.setRow g cs) :=
  ⟨h.os, h.tape, h.output, by simpa using h.size, fun k hk hne => (setRow_other w' g k cs (by omega)).trans (h.block k hk hne)⟩
theorem _root_.Go.Proofs.YtpbbfbpggedgpaaDoor.arr.Arr.out {w w' : World} {g lo hi : Nat} {cs : List Value} {t : TypeId} (h : Arr w g cs t) (ho : Out lo hi w w') (hd : g < lo ∨ hi ≤ g) : Arr w' g cs t :=
  (ho.block g h.lt hd).trans h
/-- Two rows of the call's own, one made behind the other. -/
theorem Svl.mk2 {w : World} {lo l2 : Nat} {P Q : Option Addr} {n c m d : Nat} {r u : List Int} (a : Row w lo l2 P n (V r)) (b : Row w l2 w.heap.size Q m (V u)) (hl : lo ≤ l2) (e1 : n ≤ c) (e2 : m ≤ d) : Svl w lo w.heap.size (.agg #[.slice P n c, .slice Q m d]) r u :=
  ⟨P, n, c, Q, m, d, lo, l2, l2, w.heap.size, rfl, a, b, e1, e2, Nat.le_refl _, a.2.1, hl, Nat.le_refl _, .inl (Nat.le_refl _), Nat.le_refl _⟩
theorem Svl.len {w : World} {lo hi : Nat} {v : Value} {r u : List Int} (h : Svl w lo hi v r u) : ∃ P c Q d, v = .agg #[.slice P r.length c, .slice Q u.length d] := by
  obtain ⟨P, n, c, Q, m, d, l1, h1, l2, h2, rfl, a, b, e1, e2, f1, f2, f3, f4, f5, f6⟩ := h
  have q1 : r.length = n := by simpa [V] using a.1
  have q2 : u.length = m := by simpa [V] using b.1
  subst q1; subst q2
  exact ⟨P, c, Q, d, rfl⟩
theorem Svl.lens {w : World} {lo hi : Nat} {v : Value} {r u : List Int} (h : Svl w lo hi v r u) {n m : Nat} (h1 : r.length = n) (h2 : u.length = m) : ∃ P c Q d, v = .agg #[.slice P n c, .slice Q m d] := by
  subst h1; subst h2; exact h.len

theorem open_cell {H : Type} {enc : TypeId × Value → H} {P : Program} {W : World} {t e : TypeId} {v : Value} {y : DataW H × List MemPlace} {fuel : Nat}
    (ht : P.underlying t = some (.slice e)) (he : P.underlying e = some (.int .i64)) (hc : P.cellsOf e = 1) (h : DataW.trod enc P W 0 (fun _ => true) true fuel t [v] = some y) :
    ∃ A n c, ∃ xs : List Int, v = .slice A n c ∧ Rd W W.heap.size A n (V xs) ∧ n ≤ c ∧ c ≤ maxLen := by
  rcases open_ints ht he hc h with ⟨hcs, _⟩ | ⟨x, l, cap, ss, hcs, _, hl, hm, hz, _, hcell, hwz⟩
  · simp at hcs
    subst hcs
    exact ⟨none, 0, 0, [], rfl, ⟨rfl, Nat.le_refl _, fun h => absurd h (by omega)⟩, Nat.le_refl _, by simp⟩
  · simp at hcs
    subst hcs
    have hz' : ss.length = cap := by simpa using hz
    refine ⟨some x, l, cap, ss.take l, rfl, Rd.of_cells (by simp [V]; omega) (fun i hi => ?_), hl, hm⟩
    rw [hcell i (by omega)]
    simp [V, hi, List.getD, List.getElem?_eq_getElem (show i < ss.length by omega)]
/-- A struct of two slices of ints that came in. -/
theorem open_S {H : Type} {enc : TypeId × Value → H} {P : Program} {W : World} {r : Reach} {b0 : Nat} {t : TypeId} {f0 f1 : Field} {v : Value} {d : DataW H} {p : List MemPlace} {e : TypeId} (hs : P.underlying t = some (.struct #[f0, f1])) (hone : oneCellFields P #[f0, f1] = true) (hC : P.cellsOf t = 2)
    (ht0 : P.underlying f0.type = some (.slice e)) (ht1 : P.underlying f1.type = some (.slice e)) (he : P.underlying e = some (.int .i64)) (hc : P.cellsOf e = 1)
    (hv : Value.okWide P W r b0 t v) (h : DataW.Trod enc P W 0 (fun _ => true) true t v d p) :
    ∃ r u : List Int, Srd W W.heap.size v r u ∧ r.length ≤ maxLen ∧ u.length ≤ maxLen := by
  obtain ⟨v0, v1, y0, y1, n, rfl, _, _, h0, h1⟩ := open_agg2 hs hone hC hv h
  obtain ⟨A, l, c, xs, rfl, rd, hl, hm⟩ := open_cell ht0 he hc h0
  obtain ⟨B, l', c', ys, rfl, rd', hl', hm'⟩ := open_cell ht1 he hc h1
  have q1 : xs.length = l := by simpa [V] using rd.1
  have q2 : ys.length = l' := by simpa [V] using rd'.1
  exact ⟨xs, ys, ⟨A, l, c, B, l', c', rfl, rd, rd', hl, hl'⟩, by omega, by omega⟩
end Go.Proofs.YtpbbfbpggedgpaaDoor.sf

/-
  What a region that draws its order holds on to: boxes that no step of it touches.
-/
namespace Go.Proofs.YtpbbfbpggedgpaaDoor.sf
open Go.ChangeShapes Go.WideShapes Go.ChangeAt Go.RowKit
open Go.Proofs.YtpbbfbpggedgpaaDoor.mem Go.Proofs.YtpbbfbpggedgpaaDoor.ints Go.Proofs.YtpbbfbpggedgpaaDoor.arr
set_option linter.unusedVariables false
set_option maxRecDepth 100000

/-- The blocks bs hold what they held, all below base is as in w, and 'top' blocks are there. -/
structure Hld (base top : Nat) (w : World) (bs : List (Nat × List Value)) (w' : World) : Prop where
  at_ : ∀ p ∈ bs, p.1 < top ∧ w'.rangeAt p.1 0 p.2
  below : Below base w w'
  size : top ≤ w'.heap.size
theorem Hld.start1 {w : World} {a : Nat} {xs : List Value} {t : TypeId} (h1 : Arr w a xs t) : Hld w.heap.size w.heap.size w [(a, xs)] w.drew :=
  ⟨fun p hp => by
    simp only [List.mem_cons, List.not_mem_nil, or_false] at hp
    subst hp
    exact ⟨h1.lt, fun j v hv => by rw [Nat.zero_add]; exact h1.cell hv⟩,
    ⟨rfl, rfl, rfl, Nat.le_refl _, fun _ _ => rfl⟩, Nat.le_refl _⟩
theorem Hld.start2 {w : World} {a b : Nat} {xs ys : List Value} {t t' : TypeId} (h1 : Arr w a xs t) (h2 : Arr w b ys t') : Hld w.heap.size w.heap.size w [(a, xs), (b, ys)] w.drew :=
  ⟨fun p hp => by
    simp only [List.mem_cons, List.not_mem_nil, or_false] at hp
    rcases hp with rfl | rfl
    · exact ⟨h1.lt, fun j v hv => by rw [Nat.zero_add]; exact h1.cell hv⟩
    · exact ⟨h2.lt, fun j v hv => by rw [Nat.zero_add]; exact h2.cell hv⟩,
    ⟨rfl, rfl, rfl, Nat.le_refl _, fun _ _ => rfl⟩, Nat.le_refl _⟩
theorem Hld.fst {base top a : Nat} {w W : World} {xs : List Value} {l : List (Nat × List Value)} (h : Hld base top w ((a, xs) :: l) W) : W.rangeAt a 0 xs := (h.at_ _ (List.mem_cons_self ..)).2
theorem Hld.snd {base top a : Nat} {w W : World} {xs : List Value} {p : Nat × List Value} {l : List (Nat × List Value)} (h : Hld base top w (p :: (a, xs) :: l) W) : W.rangeAt a 0 xs := (h.at_ (a, xs) (by simp)).2
theorem Hld.later {base top : Nat} {w W W' : World} {bs : List (Nat × List Value)} (h : Hld base top w bs W) (hB : Below W.heap.size W W') (hb : base ≤ top) : Hld base top w bs W' :=
  ⟨fun p hp => ⟨(h.at_ p hp).1, fun j v hv => by rw [hB.cell (p := ⟨p.1, 0 + j, none⟩) (show p.1 < _ from Nat.lt_of_lt_of_le (h.at_ p hp).1 h.size)]; exact (h.at_ p hp).2 j v hv⟩,
    h.below.trans (hB.mono (Nat.le_trans hb h.size)), Nat.le_trans h.size hB.size⟩
theorem sizeS (a b : Value) : (Tryd.prog.info? 25).map (·.size) = some [a, b].length := by kernel_rfl
theorem size2 : (Tryd.prog.info? 25).map (·.size) = some 2 := by kernel_rfl
end Go.Proofs.YtpbbfbpggedgpaaDoor.sf
