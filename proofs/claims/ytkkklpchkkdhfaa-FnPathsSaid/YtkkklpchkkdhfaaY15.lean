import Derived.Test.YtkkklpchkkdhfaaY10
import Derived.OwnWalk
/-
  Balanced words: what IsBalanced answers; the specification's count and IsBalanced.
-/
namespace Go.Proofs.Ytkkklpchkkdhfaa.pth
open Go.ChangeShapes Go.WideShapes Go.ChangeAt Go.RowKit
open Go.Proofs.Ytkkklpchkkdhfaa.mem Go.Proofs.Ytkkklpchkkdhfaa.ints Go.Proofs.Ytkkklpchkkdhfaa.arr Go.Proofs.Ytkkklpchkkdhfaa.pm Go.Proofs.Ytkkklpchkkdhfaa.dr
set_option linter.unusedVariables false
set_option maxRecDepth 100000
set_option linter.unusedSimpArgs false

/-- The letter at a place of a word that goes on from its end at its beginning. -/
def atW (s : ByteArray) (k : Nat) : UInt8 := s.data.toList.getD (k % s.size) 0
/-- How many r there are in a part. -/
def ctW (s : ByteArray) (f : Nat) : Nat → Nat
  | 0 => 0
  | c + 1 => ctW s f c + (if atW s (f + c) = 114 then 1 else 0)
theorem ctW_le (s : ByteArray) (f : Nat) : ∀ c, ctW s f c ≤ c
  | 0 => Nat.le_refl _
  | c + 1 => by have := ctW_le s f c; unfold ctW; split <;> omega
def ruB (s : ByteArray) : Bool := s.data.toList.all fun c => c == 114 || c == 117
def okC (s : ByteArray) (c : Nat) : Prop := ∀ f, f < s.size → ∀ g, g < s.size → ctW s f c ≤ ctW s g c + 1
instance (s : ByteArray) (c : Nat) : Decidable (okC s c) := by unfold okC; infer_instance
def baF (s : ByteArray) : Bool := decide (s.size ≤ 40) && (ruB s && decide (∀ c, c < s.size → okC s c))
theorem at_get {s : ByteArray} {k : Nat} (h : k < s.size) : s.data.toList[k]? = some s[k] := by
  have h' : k < s.data.size := h
  simp [ByteArray.getElem_eq_getElem_data, h']
theorem atW_eq {s : ByteArray} {k : Nat} (h : k % s.size < s.size) : atW s k = s[k % s.size] := by
  unfold atW; rw [List.getD_eq_getElem?_getD, at_get h]; rfl
set_option maxHeartbeats 1000000 in
theorem ct_spec (s : ByteArray) (f c : Nat) (w : World) (hs : 0 < s.size) (h40 : s.size ≤ 40) (hf : f ≤ 40) (hc : c ≤ 40) :
    Calls Try.prog 55 #[.string s, .int .i64 f, .int .i64 c] w fun e w' => e = .returned (.int .i64 (ctW s f c)) ∧ w' = w := by
  go_enter Try.func55, Try.ntmps55
  go_wp2
  go_loop [7, 8] (fun nv iv => ∃ k : Nat, k ≤ c ∧ iv = .int .i64 k ∧ nv = .int .i64 (ctW s f k)) (fun _ iv => c - (intOf iv).toNat)
  case atStart => exact ⟨0, Nat.zero_le _, rfl, rfl⟩
  case round =>
    obtain ⟨k, hk, rfl, rfl⟩ := hrel
    by_cases hlt : k < c
    · have hm : (f + k) % s.size < s.size := Nat.mod_lt _ hs
      have e0 : IntKind.i64.wrap ((f : Int) + (k : Int)) = ((f + k : Nat) : Int) := by rw [IntWalk.i64_in _ (by omega)]; omega
      have e0' : (f : Int) + (k : Int) = ((f + k : Nat) : Int) := by omega
      have e1 : ((f + k : Nat) : Int).tmod (s.size : Int) = (((f + k) % s.size : Nat) : Int) := by rw [← Int.ofNat_tmod]
      have CE : Hid (ctW s f (k + 1) = ctW s f k + (if s[(f + k) % s.size] = 114 then 1 else 0)) := Lib.hid (by rw [ctW, atW_eq hm])
      have hle := ctW_le s f k
      have hz : ¬ ((s.size : Int) = 0) := by omega
      generalize hz2 : (f + k) % s.size = z at *
      generalize hfk : f + k = fk at *
      have hw := IntWalk.i64_in (z : Int) (by omega)
      by_cases h1 : s[z].toNat = 114
      · have C1 : Hid (ctW s f (k + 1) = ctW s f k + 1) := Lib.hid (by rw [CE.out, if_pos (UInt8.toNat_inj.1 h1)])
        generalize ctW s f k = cv at *
        go_wp2
        go_round
        case rel => exact ⟨k + 1, by omega, by go_num, by rw [C1.out]; go_num⟩
        case measure => first | (simp [intOf]; done) | (simp [intOf]; omega)
      · have C1 : Hid (ctW s f (k + 1) = ctW s f k) := Lib.hid (by rw [CE.out, if_neg (fun e => h1 (by rw [e]; rfl))]; rfl)
        generalize ctW s f k = cv at *
        go_wp2
        go_round
        case rel => exact ⟨k + 1, by omega, by go_num, by rw [C1.out]⟩
        case measure => first | (simp [intOf]; done) | (simp [intOf]; omega)
    · obtain rfl : k = c := by omega
      go_wp2
      go_ret
      exact ⟨rfl, rfl⟩
theorem ruB_iff {s : ByteArray} : ruB s = true ↔ ∀ k (h : k < s.size), s[k] = 114 ∨ s[k] = 117 := by
  unfold ruB
  rw [List.all_eq_true]
  constructor
  · intro h k hk
    have := h s[k] (List.mem_of_getElem? (at_get hk))
    simpa using this
  · intro h c hc
    obtain ⟨k, hk, rfl⟩ := List.getElem_of_mem hc
    have e0 : s.data.toList.length = s.size := Array.length_toList
    have hk' : k < s.size := by omega
    have := h k hk'
    have e := at_get hk'
    rw [List.getElem?_eq_getElem hk] at e
    rw [Option.some.inj e]
    simpa using this
theorem ba_1 {s : ByteArray} (h : ¬ s.size ≤ 40) : baF s = false := by simp [baF, h]
theorem ba_2 {s : ByteArray} {k : Nat} (hk : k < s.size) (h1 : ¬ s[k] = 114) (h2 : ¬ s[k] = 117) : baF s = false := by
  have : ruB s = false := by
    cases q : ruB s
    · rfl
    · rcases ruB_iff.1 q k hk with e | e
      · exact absurd e h1
      · exact absurd e h2
  simp [baF, this]
theorem ba_3 {s : ByteArray} {c : Nat} (hc : c < s.size) (h : ¬ okC s c) : baF s = false := by
  have : decide (∀ c, c < s.size → okC s c) = false := decide_eq_false fun q => h (q c hc)
  simp [baF, this]
theorem ba_4 {s : ByteArray} (h1 : s.size ≤ 40) (h2 : ∀ k (h : k < s.size), s[k] = 114 ∨ s[k] = 117) (h3 : ∀ c, c < s.size → okC s c) : baF s = true := by
  simp only [baF, Bool.and_eq_true, decide_eq_true_eq]
  exact ⟨h1, ruB_iff.2 h2, h3⟩
/-- The least and the greatest number so far. -/
structure Lh (s : ByteArray) (c f : Nat) (lo hi : Nat) : Prop where
  lo_ : ∀ x, x < f → lo ≤ ctW s x c
  hi_ : ∀ x, x < f → ctW s x c ≤ hi
  at_lo : ∃ x, x < s.size ∧ ctW s x c = lo
  at_hi : ∃ x, x < s.size ∧ ctW s x c = hi
theorem Lh.start {s : ByteArray} {c : Nat} (h : 0 < s.size) : Lh s c 0 (ctW s 0 c) (ctW s 0 c) := ⟨fun x h => by omega, fun x h => by omega, ⟨0, h, rfl⟩, ⟨0, h, rfl⟩⟩
theorem Lh.step {s : ByteArray} {c f lo hi : Nat} (h : Lh s c f lo hi) (hf : f < s.size) : Lh s c (f + 1) (min lo (ctW s f c)) (max hi (ctW s f c)) := by
  refine ⟨fun x hx => ?_, fun x hx => ?_, ?_, ?_⟩
  · by_cases e : x = f
    · subst e; omega
    · have := h.lo_ x (by omega); omega
  · by_cases e : x = f
    · subst e; omega
    · have := h.hi_ x (by omega); omega
  · by_cases e : lo ≤ ctW s f c
    · obtain ⟨x, hx, q⟩ := h.at_lo; exact ⟨x, hx, by omega⟩
    · exact ⟨f, hf, by omega⟩
  · by_cases e : ctW s f c ≤ hi
    · obtain ⟨x, hx, q⟩ := h.at_hi; exact ⟨x, hx, by omega⟩
    · exact ⟨f, hf, by omega⟩
theorem Lh.bad {s : ByteArray} {c lo hi : Nat} (h : Lh s c s.size lo hi) (hb : lo + 1 < hi) : ¬ okC s c := by
  obtain ⟨x, hx, e1⟩ := h.at_lo
  obtain ⟨y, hy, e2⟩ := h.at_hi
  intro q
  have := q y hy x hx
  omega
theorem Lh.good {s : ByteArray} {c lo hi : Nat} (h : Lh s c s.size lo hi) (hb : ¬ lo + 1 < hi) : okC s c := by
  intro f hf g hg
  have a := h.hi_ f hf; have b := h.lo_ g hg
  omega
theorem min_i (a b : Nat) : (if (b : Int) < (a : Int) then (b : Int) else (a : Int)) = ((min a b : Nat) : Int) := by split <;> omega
theorem max_i (a b : Nat) : (if (b : Int) > (a : Int) then (b : Int) else (a : Int)) = ((max a b : Nat) : Int) := by split <;> omega
set_option maxHeartbeats 2000000 in
theorem ba_spec (s : ByteArray) (w : World) (hs : s.size ≤ 1048576) :
    Calls Try.prog 33 #[.string s] w fun e w' => e = .returned (.bool (baF s)) ∧ w' = w := by
  go_enter Try.func33, Try.ntmps33
  by_cases h40 : 40 < s.size
  · have HF := Lib.hid (ba_1 (s := s) (by omega))
    go_wp2
    go_ret
    exact ⟨ret_bool HF.out.symm, rfl⟩
  go_wp2
  go_loop [3] (fun i => ∃ k : Nat, k ≤ s.size ∧ i = .int .i64 k ∧ Hid (∀ j (h : j < s.size), j < k → s[j] = 114 ∨ s[j] = 117)) (fun i => s.size - (intOf i).toNat)
  case atStart => exact ⟨0, Nat.zero_le _, rfl, Lib.hid (fun j _ h => by omega)⟩
  case round =>
    obtain ⟨k, hk, rfl, HA⟩ := hrel
    by_cases hlt : k < s.size
    · by_cases h1 : s[k].toNat = 114
      · have NX : Hid (∀ j (h : j < s.size), j < k + 1 → s[j] = 114 ∨ s[j] = 117) := Lib.hid (fun j h hj => by
          by_cases e : j = k
          · subst e; exact .inl (UInt8.toNat_inj.1 h1)
          · exact HA.out j h (by omega))
        go_wp2
        go_round
        case rel => exact ⟨k + 1, by omega, by go_num, NX⟩
        case measure => first | (simp [intOf]; done) | (simp [intOf]; omega)
      · by_cases h2 : s[k].toNat = 117
        · have NX : Hid (∀ j (h : j < s.size), j < k + 1 → s[j] = 114 ∨ s[j] = 117) := Lib.hid (fun j h hj => by
            by_cases e : j = k
            · subst e; exact .inr (UInt8.toNat_inj.1 h2)
            · exact HA.out j h (by omega))
          have h1' : (((s[k].toNat : Nat) : Int) != 114) = true := by simp; omega
          have h2' : (((s[k].toNat : Nat) : Int) != 117) = false := by simp [h2]
          clear HA h2 h1
          go_wp2
          all_goals
            go_round
            case rel => exact ⟨k + 1, by omega, by go_num, NX⟩
            case measure => first | (simp [intOf]; done) | (simp [intOf]; omega)
        · have HF := Lib.hid (ba_2 hlt (fun e => h1 (by rw [e]; rfl)) (fun e => h2 (by rw [e]; rfl)))
          have h1' : (((s[k].toNat : Nat) : Int) != 114) = true := by simp; omega
          have h2' : (((s[k].toNat : Nat) : Int) != 117) = true := by simp; omega
          go_wp2
          all_goals
            first
              | (go_ret; exact ⟨ret_bool HF.out.symm, rfl⟩)
              | (exfalso; rename_i hx; rcases hx with q | q <;> simp_all)
    · have HR : Hid (∀ j (h : j < s.size), s[j] = 114 ∨ s[j] = 117) := Lib.hid (fun j h => HA.out j h (by omega))
      clear HA
      go_wp2
      go_loopw [4] (fun cv wr => ∃ c : Nat, 1 ≤ c ∧ (c ≤ s.size ∨ c = 1) ∧ cv = .int .i64 c ∧ Hid (∀ x, x < c → x < s.size → okC s x) ∧ wr = w) (fun cv _ => s.size + 1 - (intOf cv).toNat)
      case atStart =>
        refine ⟨1, Nat.le_refl _, .inr rfl, rfl, Lib.hid (fun x hx _ => ?_), rfl⟩
        obtain rfl : x = 0 := by omega
        intro f _ g _
        simp [ctW]
      case round =>
        obtain ⟨c, c1, c2, rfl, HC, rfl⟩ := hrel
        by_cases hcl : c < s.size
        · have hpos : 0 < s.size := by omega
          go_wp2_with fail
          refine (ct_spec s 0 c wr hpos (by omega) (by omega) (by omega)).mono ?_
          rintro e w1 ⟨rfl, rfl⟩
          have cl := ctW_le s 0 c
          have ST := Lib.hid (Lh.start (c := c) hpos)
          generalize ctW s 0 c = z at *
          go_wp2_with fail
          go_loopw [5, 6, 7] (fun lv hv fv wr' => ∃ lo hi f : Nat, f ≤ s.size ∧ lo ≤ 40 ∧ hi ≤ 40 ∧ lv = .int .i64 lo ∧ hv = .int .i64 hi ∧ fv = .int .i64 f ∧ Hid (Lh s c f lo hi) ∧ wr' = w1) (fun _ _ fv _ => s.size - (intOf fv).toNat)
          case atStart => exact ⟨z, z, 0, Nat.zero_le _, by omega, by omega, rfl, rfl, rfl, ST, rfl⟩
          case round =>
            clear ST
            obtain ⟨lo, hi, f, hf, l1, h1_, rfl, rfl, rfl, HL, rfl⟩ := hrel
            by_cases hfl : f < s.size
            · go_wp2_with fail
              refine (ct_spec s f c _ hpos (by omega) (by omega) (by omega)).mono ?_
              rintro e w2 ⟨rfl, rfl⟩
              have cl := ctW_le s f c
              have NX := Lib.hid (HL.out.step hfl)
              generalize ctW s f c = y at *
              have m1 : (if y < lo then (y : Int) else (lo : Int)) = ((min lo y : Nat) : Int) := by split <;> omega
              have m2 : (if hi < y then (y : Int) else (hi : Int)) = ((max hi y : Nat) : Int) := by split <;> omega
              go_wp2_with fail
              go_roundw
              case rel => exact ⟨min lo y, max hi y, f + 1, by omega, by omega, by omega, by rw [← m1], by rw [← m2], by go_num, NX, by first | rfl | trivial⟩
              case measure => first | (simp [intOf]; done) | (simp [intOf]; omega)
            · obtain rfl : f = s.size := by omega
              have hw5 : IntKind.i64.wrap ((lo : Int) + 1) = (lo : Int) + 1 := IntWalk.i64_in _ (by omega)
              by_cases hb : lo + 1 < hi
              · have HF := Lib.hid (ba_3 hcl (HL.out.bad hb))
                have d0 : decide ((lo : Int) + 1 < (hi : Int)) = true := decide_eq_true (by omega)
                clear HL HC HR
                go_wp2
                go_ret
                exact ⟨ret_bool HF.out.symm, rfl⟩
              · have d0 : decide ((lo : Int) + 1 < (hi : Int)) = false := decide_eq_false (by omega)
                have NX : Hid (∀ x, x < c + 1 → x < s.size → okC s x) := Lib.hid (fun x hx hs => by
                  by_cases e : x = c
                  · subst e; exact HL.out.good hb
                  · exact HC.out x (by omega) hs)
                clear HL HC
                go_wp2
                go_roundw
                case rel => exact ⟨c + 1, by omega, by omega, by go_num, NX, by first | rfl | trivial⟩
                case measure => first | (simp [intOf]; done) | (simp [intOf]; omega)
        · have HF : Hid (baF s = true) := Lib.hid (ba_4 (by omega) HR.out (fun x hx => HC.out x (by omega) hx))
          clear HR HC
          go_wp2
          go_ret
          exact ⟨ret_bool HF.out.symm, rfl⟩
end Go.Proofs.Ytkkklpchkkdhfaa.pth

/-
  SlopeFrom: what it answers; the specification's.
-/
namespace Go.Proofs.Ytkkklpchkkdhfaa.pth
open Go.ChangeShapes Go.WideShapes Go.ChangeAt Go.RowKit
open Go.Proofs.Ytkkklpchkkdhfaa.mem Go.Proofs.Ytkkklpchkkdhfaa.ints Go.Proofs.Ytkkklpchkkdhfaa.arr Go.Proofs.Ytkkklpchkkdhfaa.pm Go.Proofs.Ytkkklpchkkdhfaa.dr
set_option linter.unusedVariables false
set_option maxRecDepth 100000
set_option linter.unusedSimpArgs false

/-- How many r there are in the first letters. -/
def cnR (s : ByteArray) (k : Nat) : Nat := ((s.data.toList.take k).filter fun c => c == 114).length
def sfP (s : ByteArray) : Nat := cnR s s.size
def sfB (s : ByteArray) : Bool := slB (sfP s : Int) ((s.size - sfP s : Nat) : Int) && decide (swF (sfP s : Int) ((s.size - sfP s : Nat) : Int) = s)
def sfX (s : ByteArray) : Int := if sfB s then (sfP s : Int) else 0
def sfY (s : ByteArray) : Int := if sfB s then ((s.size - sfP s : Nat) : Int) else 0
theorem cnR_succ {s : ByteArray} {k : Nat} (h : k < s.size) : cnR s (k + 1) = cnR s k + (if s[k] = 114 then 1 else 0) := by
  unfold cnR
  rw [List.take_add_one, at_get h, List.filter_append, List.length_append]
  congr 1
  by_cases e : s[k] = 114
  · simp [e]
  · simp [e]
theorem cnR_le (s : ByteArray) (k : Nat) : cnR s k ≤ k := by
  unfold cnR
  exact Nat.le_trans (List.length_filter_le _ _) (by rw [List.length_take]; omega)
theorem ba_specB (s : ByteArray) (w : World) (hs : s.size ≤ 1048576) :
    Calls Try.prog 33 #[.string s] w fun e w' => e = .returned (.bool (baF s)) ∧ Below w.heap.size w w' :=
  (ba_spec s w hs).mono fun e w' h => ⟨h.1, by rw [h.2]; exact Below.refl _ _⟩
set_option maxHeartbeats 2000000 in
theorem sf_spec (s : ByteArray) (w : World) (hs : s.size ≤ 1048576) :
    Calls Try.prog 34 #[.string s] w fun e w' => e = .returned (.tuple #[.int .i64 (sfX s), .int .i64 (sfY s), .bool (sfB s)]) ∧ Below w.heap.size w w' := by
  go_enter Try.func34, Try.ntmps34
  go_wp2
  go_loopw [5, 6] (fun pv iv wr => ∃ k : Nat, k ≤ s.size ∧ iv = .int .i64 k ∧ pv = .int .i64 (cnR s k) ∧ wr = w) (fun _ iv _ => s.size - (intOf iv).toNat)
  case atStart => exact ⟨0, Nat.zero_le _, rfl, rfl, rfl⟩
  case round =>
    obtain ⟨k, hk, rfl, rfl, rfl⟩ := hrel
    have hle := cnR_le s k
    by_cases hlt : k < s.size
    · have CE := Lib.hid (cnR_succ hlt)
      by_cases h1 : s[k].toNat = 114
      · have C1 : Hid (cnR s (k + 1) = cnR s k + 1) := Lib.hid (by rw [CE.out, if_pos (UInt8.toNat_inj.1 h1)])
        generalize cnR s k = cv at *
        go_wp2
        go_roundw
        case rel => exact ⟨k + 1, by omega, by go_num, by rw [C1.out]; go_num, by first | rfl | trivial⟩
        case measure => first | (simp [intOf]; done) | (simp [intOf]; omega)
      · have C1 : Hid (cnR s (k + 1) = cnR s k) := Lib.hid (by rw [CE.out, if_neg (fun e => h1 (by rw [e]; rfl))]; rfl)
        generalize cnR s k = cv at *
        go_wp2
        go_roundw
        case rel => exact ⟨k + 1, by omega, by go_num, by rw [C1.out], by first | rfl | trivial⟩
        case measure => first | (simp [intOf]; done) | (simp [intOf]; omega)
    · obtain rfl : k = s.size := by omega
      have B_ : Hid (sfB s = (slB (cnR s s.size : Int) ((s.size - cnR s s.size : Nat) : Int) && decide (swF (cnR s s.size : Int) ((s.size - cnR s s.size : Nat) : Int) = s))) := Lib.hid rfl
      have X_ : Hid (sfX s = if sfB s then (cnR s s.size : Int) else 0) := Lib.hid rfl
      have Y_ : Hid (sfY s = if sfB s then ((s.size - cnR s s.size : Nat) : Int) else 0) := Lib.hid rfl
      generalize cnR s s.size = a at *
      obtain ⟨b, hb⟩ : ∃ b, s.size - a = b := ⟨_, rfl⟩
      rw [hb] at B_ Y_
      have hsub : ((s.size : Int) - (a : Int)) = (b : Int) := by omega
      have hw : IntKind.i64.wrap ((s.size : Int) - (a : Int)) = (b : Int) := by rw [hsub]; exact IntWalk.i64_in _ (by omega)
      have hw2 : IntKind.i64.wrap (b : Int) = (b : Int) := IntWalk.i64_in _ (by omega)
      go_wp2_with fail
      refine (so_spec (a : Int) (b : Int) _ (by omega) (by omega) (by omega) (by omega)).mono ?_
      rintro e w1 ⟨rfl, b1⟩
      have B1 := Lib.hid b1; clear b1
      cases hq : slB (a : Int) (b : Int)
      · have HB : Hid (sfB s = false) := Lib.hid (by rw [B_.out, hq]; rfl)
        have HX : Hid (sfX s = 0) := Lib.hid (by rw [X_.out, HB.out]; rfl)
        have HY : Hid (sfY s = 0) := Lib.hid (by rw [Y_.out, HB.out]; rfl)
        clear hq B_ X_ Y_
        go_wp2_with fail
        go_ret3
        exact ⟨by rw [HX.out, HY.out, HB.out]; rfl, B1.out⟩
      · go_wp2_with fail
        refine (sw_spec (a : Int) (b : Int) _ (by omega) (by omega) (by omega) (by omega)).mono ?_
        rintro e w2 ⟨rfl, b1⟩
        replace B1 := Lib.hid (B1.out.trans (b1.mono B1.out.size)); clear b1
        obtain ⟨W, hW⟩ : ∃ W, swF (a : Int) (b : Int) = W := ⟨_, rfl⟩
        rw [hW] at B_ ⊢
        rw [hq] at B_
        clear hW hq
        by_cases he : W = s
        · have HB : Hid (sfB s = true) := Lib.hid (by rw [B_.out, decide_eq_true he]; rfl)
          have HX : Hid (sfX s = (a : Int)) := Lib.hid (by rw [X_.out, HB.out]; rfl)
          have HY : Hid (sfY s = (b : Int)) := Lib.hid (by rw [Y_.out, HB.out]; rfl)
          clear B_ X_ Y_
          subst he
          go_wp2_with fail
          go_ret3
          exact ⟨by rw [HX.out, HY.out, HB.out]; rfl, B1.out⟩
        · have HB : Hid (sfB s = false) := Lib.hid (by rw [B_.out, decide_eq_false he]; rfl)
          have HX : Hid (sfX s = 0) := Lib.hid (by rw [X_.out, HB.out]; rfl)
          have HY : Hid (sfY s = 0) := Lib.hid (by rw [Y_.out, HB.out]; rfl)
          have hne : (W.toList == s.toList) = false := by
            rw [beq_eq_false_iff_ne]
            intro e
            rw [ByteArray.toList_eq, ByteArray.toList_eq] at e
            exact he (bytes_inj e)
          clear B_ X_ Y_
          go_wp2_with fail
          go_ret3
          exact ⟨by rw [HX.out, HY.out, HB.out]; rfl, B1.out⟩
end Go.Proofs.Ytkkklpchkkdhfaa.pth
