import Derived.Test.YtpbbfbpggedgpaaY07
import Derived.Test.YtpbbfbpggedgpaaY10
import Derived.Test.YtpbbfbpggedgpaaY09
import Derived.Test.YtpbbfbpggedgpaaY02
/-
  PathPerm of the specification and of the program.
-/
namespace Go.Proofs.Ytpbbfbpggedgpaa.dr
open Go.ChangeShapes Go.WideShapes Go.ChangeAt Go.RowKit
open Go.Proofs.Ytpbbfbpggedgpaa.mem Go.Proofs.Ytpbbfbpggedgpaa.ints Go.Proofs.Ytpbbfbpggedgpaa.arr Go.Proofs.Ytpbbfbpggedgpaa.pm Go.Proofs.Ytpbbfbpggedgpaa.permOk Go.Proofs.Ytpbbfbpggedgpaa.permOf Go.Proofs.Ytpbbfbpggedgpaa.inv Go.Proofs.Ytpbbfbpggedgpaa.fns Go.Proofs.Ytpbbfbpggedgpaa.sf Go.Proofs.Ytpbbfbpggedgpaa.gl
set_option linter.unusedVariables false
set_option maxRecDepth 100000

/-- What PathPerm gives. -/
def ppB (r u : List Int) (p q : Int) : Bool := transB r u && slB p q
def ppF (r u : List Int) (p q : Int) : List Int := if ppB r u p q then ev r.length r u (swL p.toNat q.toNat) else []
theorem ppB_1 {r u : List Int} {p q : Int} (h : transB r u = false) : ppB r u p q = false := by simp [ppB, h]
theorem ppB_2 {r u : List Int} {p q : Int} (h : slB p q = false) : ppB r u p q = false := by simp [ppB, h]
theorem ppF_no {r u : List Int} {p q : Int} (h : ppB r u p q = false) : ppF r u p q = [] := by simp [ppF, h]
theorem ppB_yes {r u : List Int} {p q : Int} (h : transB r u = true) (h2 : slB p q = true) : ppB r u p q = true := by simp [ppB, h, h2]
theorem ppF_yes {r u : List Int} {a b : Nat} (h : transB r u = true) (h2 : slB a b = true) : ppF r u a b = ev r.length r u (swL a b) := by simp [ppF, ppB_yes h h2]
theorem ppF_24 (r u : List Int) (p q : Int) : (ppF r u p q).length ≤ 24 := by
  unfold ppF
  split
  · rename_i h
    have s := transB_iff.1 (by unfold ppB at h; rw [Bool.and_eq_true] at h; exact h.1)
    rw [(ev_ok s _).2]; exact s.small
  · simp
theorem ppF_len (r u : List Int) (p q : Int) : (ppF r u p q).length ≤ 1048576 := by have := ppF_24 r u p q; omega
def PPost (r u : List Int) (p q : Int) (w : World) (e : Ending) (w' : World) : Prop :=
  ∃ A c, e = .returned (.tuple #[.slice A (ppF r u p q).length c, .bool (ppB r u p q)]) ∧ Row w' w.heap.size w'.heap.size A (ppF r u p q).length (V (ppF r u p q)) ∧ (ppF r u p q).length ≤ c ∧ Below w.heap.size w w'
theorem pp_no {r u : List Int} {p q : Int} {w w' : World} (h : ppB r u p q = false) (hb : Below w.heap.size w w') : PPost r u p q w (.returned (.tuple #[.slice none 0 0, .bool false])) w' := by
  have e := ppF_no h
  refine ⟨none, 0, by rw [e, h]; rfl, ?_, by rw [e]; simp, hb⟩
  rw [e]
  exact ⟨rfl, Nat.le_refl _, fun q => absurd q (by simp)⟩
theorem pp_yes {r u : List Int} {p q : Int} {w w' : World} {A : Option Addr} {l c : Nat} {E : List Int} (hF : ppF r u p q = E) (hB : ppB r u p q = true) (ho : w'.ownsRow w.heap.size 3 1 (.slice A l c) E.length (V E)) (hc : l ≤ c) (hb : Below w.heap.size w w') :
    PPost r u p q w (.returned (.tuple #[.slice A l c, .bool true])) w' := by
  subst hF
  have hl : l = (ppF r u p q).length := by
    rcases ho.2 with ⟨h0, h1⟩ | ⟨g, cap, cur, h1, h2, h3⟩
    · injection h0 with _ h0 _; omega
    · injection h1 with _ h1 _
  subst hl
  refine ⟨A, c, by rw [hB], Row.of_own ho, hc, hb⟩
theorem ix_at {P : Program} {L : List UInt8} {k : Nat} {c : UInt8} (h : L[k]? = some c) (t : TypeId) (ht : P.underlying t = some .string) (w : World) : (Instr.index t (.string (wd L)) (.int .i64 (k : Int))).run P w = .ok (.int .u8 (c.toNat : Int)) w := by
  have hk : k < L.length := (List.getElem?_eq_some_iff.1 h).1
  have hks : k < (wd L).size := by rw [wd_size]; exact hk
  rw [run_index_string _ _ _ _ _ ht, dif_pos (by omega)]
  have : (wd L)[((k : Int)).toNat]'(by omega) = c := by
    have e : (wd L)[k]'hks = c := by rw [wd_at hk]; rw [List.getElem?_eq_getElem hk] at h; exact Option.some.inj h
    simpa using e
  rw [this]
theorem ev_step {n : Nat} {R U : List Int} {L : List UInt8} {k : Nat} {c : UInt8} (h : L[k]? = some c) : ev n R U (L.take (k + 1)) = thn (ev n R U (L.take k)) (stP R U c) := by
  rw [List.take_add_one, h]
  exact ev_snoc n R U (L.take k) c
theorem own_low {w : World} {base base' : Nat} {e : TypeId} {size n : Nat} {v : Value} {xs : List Value} (h : w.ownsRow base e size v n xs) (hb : base' ≤ base) : w.ownsRow base' e size v n xs := by
  refine ⟨h.1, ?_⟩
  rcases h.2 with h0 | ⟨g, cap, cur, h1, h2, h3⟩
  · exact .inl h0
  · exact .inr ⟨g, cap, cur, h1, Nat.le_trans hb h2, h3⟩
/-- Amid the specification's way. -/
structure Pq (r u : List Int) (n : Nat) (L : List UInt8) (w wr : World) (P Q : Option Addr) (c d : Nat) (v : Value) (k : Nat) : Prop where
  own : wr.ownsRow w.heap.size 3 1 v (ev n r u (L.take k)).length (V (ev n r u (L.take k)))
  bel : Below w.heap.size w wr
  box : Arr wr w.heap.size [.slice P n c, .slice Q n d] 30

set_option maxHeartbeats 2000000 in
theorem path_spec (v : Value) (r u : List Int) (n hi : Nat) (L : List UInt8) (w : World) (hx : Srd w hi v r u) (hs : Sf n r u) (hl : L.length ≤ 12) (hc : ∀ c ∈ L, c = 114 ∨ c = 117) :
    Calls Try.prog 36 #[v, .string (wd L)] w (Gives (ev n r u L) w) := by
  have HX := Lib.hid hx; have HS := Lib.hid hs; have HC := Lib.hid hc; clear hx hc
  obtain ⟨P, n', c, Q, m', d, rfl, q1, q2, e1, e2, ht, HR⟩ := HX.out.open
  obtain rfl : n' = n := by rw [← q1]; exact hs.lr
  obtain rfl : m' = n' := by rw [← q2]; exact hs.lu
  have n24 := hs.small
  have hsz := wd_size L
  clear hs q1 q2
  go_enter Try.func36, Try.ntmps36
  go_wp2_with fail
  refine (l02id_any m' _ n24).mono ?_
  rintro e w1 ⟨v1, rfl, o1, b1⟩
  have A0 := Lib.hid ((Arr.new w [.slice P m' c, .slice Q m' d] 30 rfl).keep b1 (by simp))
  have B1 := Lib.hid (below1 _ _ b1)
  have hs1 : w.heap.size + 1 ≤ w1.heap.size := by have := b1.size; simpa using this
  have O1 : Hid (w1.ownsRow (w.heap.size + 1) 3 1 v1 (rng m').length (V (rng m'))) := Lib.hid (by have := o1; simp at this; rw [rng_len]; exact this)
  clear o1 b1
  go_wp2
  go_loopw [5, 6] (fun v i wr => ∃ k : Nat, k ≤ L.length ∧ i = .int .i64 k ∧ Pq r u m' L w wr P Q c d v k) (fun _ i _ => L.length - (intOf i).toNat)
  case atStart => exact ⟨0, Nat.zero_le _, rfl, own_low O1.out (by omega), B1.out, A0.out⟩
  case round =>
    obtain ⟨k, hk, rfl, hp⟩ := hrel
    have HP := Lib.hid hp; clear hp
    by_cases hlt : k < L.length
    · obtain ⟨ch, hLc⟩ : ∃ ch, L[k]? = some ch := ⟨L[k], List.getElem?_eq_getElem hlt⟩
      have hcc := HC.out ch (List.mem_of_getElem? hLc)
      have hix := fun w => ix_at (P := Try.prog) hLc 9 Try.underlying9 w
      have EV := Lib.hid (ev_step (n := m') (R := r) (U := u) hLc)
      have OE := Lib.hid (ev_ok HS.out (L.take k))
      obtain ⟨P5, c5, e5⟩ := own_form HP.out.own
      subst e5
      have R5 := Lib.hid (Row.of_own HP.out.own)
      have BX := Lib.hid HP.out.box
      have BB := Lib.hid HP.out.bel
      have cc0 := BX.out.cell (k := 0) rfl
      have cc1 := BX.out.cell (k := 1) rfl
      have hsz5 := BB.out.size
      have RX : Hid (Rd wr hi P m' (V r) ∧ Rd wr hi Q m' (V u)) := Lib.hid ⟨Srd.fst (HX.out.keep (BB.out.mono ht) (Nat.le_refl _)), Srd.snd (HX.out.keep (BB.out.mono ht) (Nat.le_refl _))⟩
      clear HP hLc
      generalize ev m' r u (L.take k) = E at *
      rcases hcc with hcc | hcc
      · subst hcc
        rw [show stP r u 114 = r from rfl] at EV
        go_wp2_with fail
        refine (l02then_any P5 _ c5 P m' c E r _ _ _ R5.out.rd RX.out.1 OE.out.1 OE.out.2).mono ?_
        rintro e w2 hg
        have KB : Hid (Arr w2 w.heap.size [.slice P m' c, .slice Q m' d] 30) := Lib.hid (by obtain ⟨_, _, _, hb⟩ := hg; exact BX.out.keep hb BX.out.lt)
        obtain ⟨v', rfl, o', b'⟩ := gives_later BB.out hg
        have OO := Lib.hid o'; have BN := Lib.hid b'; clear o' b' hg
        go_wp2
        go_roundw
        case rel => exact ⟨k + 1, by omega, by first | rfl | go_num, by rw [EV.out]; exact OO.out, BN.out, KB.out⟩
        case measure => simp [intOf]; omega
      · subst hcc
        rw [show stP r u 117 = u from rfl] at EV
        go_wp2_with fail
        refine (l02then_any P5 _ c5 Q m' d E u _ _ _ R5.out.rd RX.out.2 OE.out.1 OE.out.2).mono ?_
        rintro e w2 hg
        have KB : Hid (Arr w2 w.heap.size [.slice P m' c, .slice Q m' d] 30) := Lib.hid (by obtain ⟨_, _, _, hb⟩ := hg; exact BX.out.keep hb BX.out.lt)
        obtain ⟨v', rfl, o', b'⟩ := gives_later BB.out hg
        have OO := Lib.hid o'; have BN := Lib.hid b'; clear o' b' hg
        go_wp2
        go_roundw
        case rel => exact ⟨k + 1, by omega, by first | rfl | go_num, by rw [EV.out]; exact OO.out, BN.out, KB.out⟩
        case measure => simp [intOf]; omega
    · have HE : Hid (L.take k = L) := Lib.hid (List.take_of_length_le (by omega))
      go_wp2
      go_ret
      exact ⟨_, rfl, by have := HP.out.own; rwa [HE.out] at this, HP.out.bel⟩

set_option maxHeartbeats 4000000 in
theorem pp_spec (v : Value) (r u : List Int) (p q : Int) (hi : Nat) (w : World) (hx : Srd w hi v r u) (hn : r.length ≤ 1048576) (hm : u.length ≤ 1048576) (p0 : -9223372036854775808 ≤ p) (p1 : p ≤ 9223372036854775807) (q0 : -9223372036854775808 ≤ q) (q1' : q ≤ 9223372036854775807) :
    Calls Try.prog 16 #[v, .int .i64 p, .int .i64 q] w (PPost r u p q w) := by
  have HX := Lib.hid hx; clear hx
  obtain ⟨P, n, c, Q, m, d, rfl, q1, q2, e1, e2, ht, HR⟩ := HX.out.open
  have L1 := Lib.hid q1
  clear HR q1 q2
  go_enter Try.func16, Try.ntmps16
  go_wp2_with fail
  refine (ok_spec _ r u hi _ (HX.out.keep ((Below.refl hi w).alloc ht _) (Nat.le_refl _)) hn hm).mono ?_
  rintro e w1 ⟨rfl, b1⟩
  have A0 := Lib.hid ((Arr.new w [.slice P n c, .slice Q m d] 30 rfl).keep b1 (by simp))
  have B1 := Lib.hid (below1 _ _ b1)
  have hs1 : w.heap.size + 1 ≤ w1.heap.size := by have := b1.size; simpa using this
  clear b1
  cases hq : transB r u
  · have HF := Lib.hid (ppB_1 (p := p) (q := q) hq); clear hq
    go_wp2_with fail
    go_ret2
    exact pp_no HF.out B1.out
  · have HT := Lib.hid hq; clear hq
    have HS : Hid (Sf n r u) := Lib.hid (by have := transB_iff.1 HT.out; rwa [L1.out] at this)
    go_wp2_with fail
    refine (so_spec p q _ p0 p1 q0 q1').mono ?_
    rintro e w2 ⟨rfl, b1⟩
    replace A0 := Lib.hid (A0.out.keep b1 A0.out.lt)
    replace B1 := Lib.hid (B1.out.trans (b1.mono B1.out.size))
    have hs2 := b1.size
    clear b1
    cases hq : slB p q
    · have HF := Lib.hid (ppB_2 (r := r) (u := u) hq); clear hq
      go_wp2_with fail
      go_ret2
      exact pp_no HF.out B1.out
    · obtain ⟨a, b, rfl, rfl, hab, hg, h1⟩ := slB_nat hq
      have HF : Hid (ppF r u a b = ev n r u (swL a b)) := Lib.hid (by rw [ppF_yes HT.out hq, L1.out])
      have HB := Lib.hid (ppB_yes HT.out hq)
      have HW := Lib.hid (swF_yes hq)
      clear hq hg
      have X1 : Hid (Srd w2 hi (.agg #[.slice P n c, .slice Q m d]) r u) := Lib.hid (HX.out.keep (B1.out.mono ht) (Nat.le_refl _))
      have ht2 := Nat.le_trans ht B1.out.size
      go_wp2_with fail
      refine wp_region_held_drew (S := Hld w2.heap.size w2.heap.size w2 [(w.heap.size, [.slice P n c, .slice Q m d])]) (by kernel_rfl) (Hld.start1 A0.out) (fun hHeld => ?_)
      have b1 : Below w2.heap.size w2 w2.drew := ⟨rfl, rfl, rfl, Nat.le_refl _, fun _ _ => rfl⟩
      generalize w2.drew = w3 at *
      replace B1 := Lib.hid (B1.out.trans (b1.mono B1.out.size)); replace X1 := Lib.hid (X1.out.keep b1 ht2)
      have hs3 := b1.size
      clear b1
      refine wpAnyH_take (i := 0) (v := .agg #[.slice P n c, .slice Q m d]) rfl (by kernel_rfl) (by kernel_rfl) (by kernel_rfl) (fun _ _ _ h => h) (yieldsIf_load_mid (by rfl) _ _ rfl (w.heap.size) 0 rfl [.slice P n c, .slice Q m d] _ (fun w h => h.fst) Try.underlying30 rfl (sizeS _ _)) hHeld ?_
      refine wpAnyH_take (i := 1) (v := .int .i64 (a : Int)) rfl (by kernel_rfl) (by kernel_rfl) (by kernel_rfl) (fun _ _ _ h => h) (Or.inl ⟨by rfl, fun w hSw => by go_simp⟩) hHeld ?_
      refine wpAnyH_take (i := 2) (v := .int .i64 (b : Int)) rfl (by kernel_rfl) (by kernel_rfl) (by kernel_rfl) (fun _ _ _ h => h) (Or.inl ⟨by rfl, fun w hSw => by go_simp⟩) hHeld ?_
      refine wpAnyH_ready (rs := [3]) (by kernel_rfl) (by simp) (AllReadyH.cons rfl (fun K hK => ?_) AllReadyH.nil)
      go_simp
      refine (sw_spec a b _ (by omega) (by omega) (by omega) (by omega)).mono ?_
      rintro e w4 ⟨rfl, b1⟩
      rw [HW.out]
      replace B1 := Lib.hid (B1.out.trans (b1.mono B1.out.size)); replace X1 := Lib.hid (X1.out.keep b1 (by omega))
      have hs4 := b1.size
      go_wp2_with fail
      have hHeld2 := hHeld.later b1 (by omega); clear b1 hHeld
      refine hK.out _ _ hHeld2 (fun hHeld => ?_)
      clear hK K hHeld2
      refine wpAnyH_ready (rs := [4]) (by kernel_rfl) (by simp) (AllReadyH.cons rfl (fun K hK => ?_) AllReadyH.nil)
      go_simp
      refine (path_spec _ r u n hi (swL a b) _ X1.out HS.out (by rw [swL_len]; exact hab) (fun _ h => swL_or h)).mono ?_
      rintro e w5 ⟨v5, rfl, o5, b1⟩
      obtain ⟨P5, c5, rfl⟩ := own_form o5
      have hc5 := (own_cap o5).2
      have O5 : Hid (w5.ownsRow w.heap.size 3 1 (.slice P5 (ev n r u (swL a b)).length c5) (ev n r u (swL a b)).length (V (ev n r u (swL a b)))) := Lib.hid (own_low o5 (by omega)); clear o5
      replace B1 := Lib.hid (B1.out.trans (b1.mono B1.out.size))
      have hs5 := b1.size
      go_wp2_with fail
      have hHeld2 := hHeld.later b1 (by omega); clear b1 hHeld
      refine hK.out _ _ hHeld2 (fun hHeld => ?_)
      clear hK K hHeld2
      refine wpAnyH_take (i := 5) (v := .slice P5 (ev n r u (swL a b)).length c5) rfl (by kernel_rfl) (by kernel_rfl) (by kernel_rfl) (fun _ _ _ h => h) (Or.inl ⟨by rfl, fun w hSw => by go_simp⟩) hHeld ?_
      refine wpAnyH_take (i := 6) (v := .bool true) rfl (by kernel_rfl) (by kernel_rfl) (by kernel_rfl) (fun _ _ _ h => h) (Or.inl ⟨by rfl, fun w hSw => by go_simp⟩) hHeld ?_
      refine wpAnyH_done (by kernel_rfl) ?_ _
      go_wp2_with fail
      go_ret2
      exact pp_yes HF.out HB.out O5.out hc5 B1.out

set_option maxHeartbeats 4000000 in
theorem pp_impl (v : Value) (r u : List Int) (p q : Int) (hi : Nat) (w : World) (hx : Srd w hi v r u) (hn : r.length ≤ 1048576) (hm : u.length ≤ 1048576) (p0 : -9223372036854775808 ≤ p) (p1 : p ≤ 9223372036854775807) (q0 : -9223372036854775808 ≤ q) (q1' : q ≤ 9223372036854775807) :
    Calls Try.prog 18 #[v, .int .i64 p, .int .i64 q] w (PPost r u p q w) := by
  have HX := Lib.hid hx; clear hx
  obtain ⟨P, n, c, Q, m, d, rfl, q1, q2, e1, e2, ht, HR⟩ := HX.out.open
  have L1 := Lib.hid q1
  clear HR q1 q2
  go_enter Try.func18, Try.ntmps18
  go_wp2_with fail
  refine (gluingOf_any _ r u hi _ (HX.out.keep ((Below.refl hi w).alloc ht _) (Nat.le_refl _)) hn hm).mono ?_
  rintro e w1 ⟨rfl, b1⟩
  have B1 := Lib.hid (below1 _ _ b1)
  have hs1 : w.heap.size + 1 ≤ w1.heap.size := by have := b1.size; simpa using this
  clear b1
  cases hq : transB r u
  · have HF := Lib.hid (ppB_1 (p := p) (q := q) hq); clear hq
    go_wp2_with (refine wpList_store_row rfl 52 _ _ rfl w1.heap.size (V (glv r u)).toArray rfl rfl 52 (V zero49).toArray (Arr.new w1 (V zero49) _ rfl) (size49 (glv_len _ _)) (by simp [V_len, glv_len, zero49]) (one_V _) ?_; generalize hw_ : (w1.alloc (.cells #[.int .i64 0, .int .i64 0, .int .i64 0, .int .i64 0, .int .i64 0, .int .i64 0, .int .i64 0, .int .i64 0, .int .i64 0, .int .i64 0, .int .i64 0, .int .i64 0, .int .i64 0, .int .i64 0, .int .i64 0, .int .i64 0, .int .i64 0, .int .i64 0, .int .i64 0, .int .i64 0, .int .i64 0, .int .i64 0, .int .i64 0, .int .i64 0, .int .i64 0, .int .i64 0, .int .i64 0, .int .i64 0, .int .i64 0, .int .i64 0, .int .i64 0, .int .i64 0, .int .i64 0, .int .i64 0, .int .i64 0, .int .i64 0, .int .i64 0, .int .i64 0, .int .i64 0, .int .i64 0, .int .i64 0, .int .i64 0, .int .i64 0, .int .i64 0, .int .i64 0, .int .i64 0, .int .i64 0, .int .i64 0, .int .i64 0] 52)).setRow w1.heap.size (V (glv r u)).toArray = w2; have A2 : Hid (Arr w2 w1.heap.size (V (glv r u)) 52) := Lib.hid (by rw [← hw_]; exact (Arr.new w1 (V zero49) _ rfl).row); have b1 : Below w1.heap.size w1 w2 := (by rw [← hw_]; exact arr.below_setRow ((Below.refl _ _).alloc (Nat.le_refl _) _) (Nat.le_refl _) _); have t_ : w1.heap.size + 1 ≤ w2.heap.size := (by rw [← hw_]; simp); clear hw_; replace B1 := Lib.hid (B1.out.trans (b1.mono B1.out.size)); clear b1)
    go_ret2
    exact pp_no HF.out B1.out
  · have HT := Lib.hid hq
    have HS : Hid (Sf n r u) := Lib.hid (by have := transB_iff.1 HT.out; rwa [L1.out] at this)
    have HG : Hid (glv r u = gl (ext r) (ext u) n) := Lib.hid (by rw [glv_yes hq, L1.out])
    have hn24 : n ≤ 24 := HS.out.small
    clear hq
    rw [HG.out]
    go_wp2_with (refine wpList_store_row rfl 52 _ _ rfl w1.heap.size (V (gl (ext r) (ext u) n)).toArray rfl rfl 52 (V zero49).toArray (Arr.new w1 (V zero49) _ rfl) (size49 (gl_len (ext_len _) (ext_len _) n)) (by simp [V_len, gl_len, ext_len, zero49]) (one_V _) ?_; generalize hw_ : (w1.alloc (.cells #[.int .i64 0, .int .i64 0, .int .i64 0, .int .i64 0, .int .i64 0, .int .i64 0, .int .i64 0, .int .i64 0, .int .i64 0, .int .i64 0, .int .i64 0, .int .i64 0, .int .i64 0, .int .i64 0, .int .i64 0, .int .i64 0, .int .i64 0, .int .i64 0, .int .i64 0, .int .i64 0, .int .i64 0, .int .i64 0, .int .i64 0, .int .i64 0, .int .i64 0, .int .i64 0, .int .i64 0, .int .i64 0, .int .i64 0, .int .i64 0, .int .i64 0, .int .i64 0, .int .i64 0, .int .i64 0, .int .i64 0, .int .i64 0, .int .i64 0, .int .i64 0, .int .i64 0, .int .i64 0, .int .i64 0, .int .i64 0, .int .i64 0, .int .i64 0, .int .i64 0, .int .i64 0, .int .i64 0, .int .i64 0, .int .i64 0] 52)).setRow w1.heap.size (V (gl (ext r) (ext u) n)).toArray = w2; have A2 : Hid (Arr w2 w1.heap.size (V (gl (ext r) (ext u) n)) 52) := Lib.hid (by rw [← hw_]; exact (Arr.new w1 (V zero49) _ rfl).row); have b1 : Below w1.heap.size w1 w2 := (by rw [← hw_]; exact arr.below_setRow ((Below.refl _ _).alloc (Nat.le_refl _) _) (Nat.le_refl _) _); have t_ : w1.heap.size + 1 ≤ w2.heap.size := (by rw [← hw_]; simp); clear hw_; replace B1 := Lib.hid (B1.out.trans (b1.mono B1.out.size)); clear b1)
    refine (so_impl p q _ p0 p1 q0 q1').mono ?_
    rintro e w3 ⟨rfl, b1⟩
    replace A2 := Lib.hid (A2.out.keep b1 A2.out.lt)
    replace B1 := Lib.hid (B1.out.trans (b1.mono B1.out.size))
    have hs3 := b1.size
    clear b1
    cases hq : slB p q
    · have HF := Lib.hid (ppB_2 (r := r) (u := u) hq); clear hq
      go_wp2_with fail
      go_ret2
      exact pp_no HF.out B1.out
    · obtain ⟨a, b, rfl, rfl, hab, hg, h1⟩ := slB_nat hq
      have HF : Hid (ppF r u a b = ev n r u (swL a b)) := Lib.hid (by rw [ppF_yes HT.out hq, L1.out])
      have HB := Lib.hid (ppB_yes HT.out hq)
      have HW := Lib.hid (swF_yes hq)
      clear hq hg
      go_wp2_with fail
      refine wp_region_held_drew (S := Hld w3.heap.size w3.heap.size w3 [(w1.heap.size, V (gl (ext r) (ext u) n))]) (by kernel_rfl) (Hld.start1 A2.out) (fun hHeld => ?_)
      have b1 : Below w3.heap.size w3 w3.drew := ⟨rfl, rfl, rfl, Nat.le_refl _, fun _ _ => rfl⟩
      generalize w3.drew = w4 at *
      replace B1 := Lib.hid (B1.out.trans (b1.mono B1.out.size))
      have hs4 := b1.size
      clear b1
      refine wpAnyH_take (i := 0) (v := .agg (V (gl (ext r) (ext u) n)).toArray) rfl (by kernel_rfl) (by kernel_rfl) (by kernel_rfl) (fun _ _ _ h => h) (yieldsIf_load_mid (by rfl) _ _ rfl (w1.heap.size) 0 rfl (V (gl (ext r) (ext u) n)) _ (fun w h => h.fst) Try.underlying52 rfl (hi49 (gl_len (ext_len _) (ext_len _) _))) hHeld ?_
      refine wpAnyH_take (i := 1) (v := .int .i64 (a : Int)) rfl (by kernel_rfl) (by kernel_rfl) (by kernel_rfl) (fun _ _ _ h => h) (Or.inl ⟨by rfl, fun w hSw => by go_simp⟩) hHeld ?_
      refine wpAnyH_take (i := 2) (v := .int .i64 (b : Int)) rfl (by kernel_rfl) (by kernel_rfl) (by kernel_rfl) (fun _ _ _ h => h) (Or.inl ⟨by rfl, fun w hSw => by go_simp⟩) hHeld ?_
      refine wpAnyH_take (i := 5) (v := .pointer (some ⟨w1.heap.size, 48, none⟩)) rfl (by kernel_rfl) (by kernel_rfl) (by kernel_rfl) (fun _ _ _ h => h) (Or.inl ⟨by rfl, fun w hSw => by go_simp⟩) hHeld ?_
      refine wpAnyH_take (i := 6) (v := .int .i64 n) rfl (by kernel_rfl) (by kernel_rfl) (by kernel_rfl) (fun _ _ _ h => h) (Or.inl ⟨by rfl, fun w hSw => by have := rg_count (ext_len r) (ext_len u) hSw.fst; go_simp⟩) hHeld ?_
      refine wpAnyH_ready (rs := [3]) (by kernel_rfl) (by simp) (AllReadyH.cons rfl (fun K hK => ?_) AllReadyH.nil)
      go_simp
      refine (sw_impl a b _ (by omega) (by omega) (by omega) (by omega)).mono ?_
      rintro e w5 ⟨rfl, b1⟩
      rw [HW.out]
      replace B1 := Lib.hid (B1.out.trans (b1.mono B1.out.size))
      have hs5 := b1.size
      go_wp2_with fail
      have hHeld2 := hHeld.later b1 (by omega); clear b1 hHeld
      refine hK.out _ _ hHeld2 (fun hHeld => ?_)
      clear hK K hHeld2
      refine wpAnyH_ready (rs := [4]) (by kernel_rfl) (by simp) (AllReadyH.cons rfl (fun K hK => ?_) AllReadyH.nil)
      go_simp
      refine (along_any r u n (swL a b) _ HS.out (by rw [swL_len]; exact hab) (fun _ h => swL_or h)).mono ?_
      rintro e w6 ⟨rfl, b1⟩
      replace B1 := Lib.hid (B1.out.trans (b1.mono B1.out.size))
      have hs6 := b1.size
      go_wp2_with fail
      have hHeld2 := hHeld.later b1 (by omega); clear b1 hHeld
      refine hK.out _ _ hHeld2 (fun hHeld => ?_)
      clear hK K hHeld2
      refine wpAnyH_ready (rs := [7]) (by kernel_rfl) (by simp) (AllReadyH.cons rfl (fun K hK => ?_) AllReadyH.nil)
      go_simp
      refine (list_gives (ext (ev n r u (swL a b))) n _ (ext_len _) hn24).mono ?_
      rintro e w7 ⟨v7, rfl, o7, b1⟩
      have hE : (ext (ev n r u (swL a b))).take n = ev n r u (swL a b) := by have hl := (ev_ok HS.out (swL a b)).2; have := ext_take (ev n r u (swL a b)) (by rw [hl]; exact hn24); rwa [hl] at this
      rw [hE] at o7
      obtain ⟨P7, c7, rfl⟩ := own_form o7
      have hc7 := (own_cap o7).2
      have O7 : Hid (w7.ownsRow w.heap.size 3 1 (.slice P7 (ev n r u (swL a b)).length c7) (ev n r u (swL a b)).length (V (ev n r u (swL a b)))) := Lib.hid (own_low o7 (by omega)); clear o7 hE
      replace B1 := Lib.hid (B1.out.trans (b1.mono B1.out.size))
      have hs7 := b1.size
      go_wp2_with fail
      have hHeld2 := hHeld.later b1 (by omega); clear b1 hHeld
      refine hK.out _ _ hHeld2 (fun hHeld => ?_)
      clear hK K hHeld2
      refine wpAnyH_take (i := 8) (v := .slice P7 (ev n r u (swL a b)).length c7) rfl (by kernel_rfl) (by kernel_rfl) (by kernel_rfl) (fun _ _ _ h => h) (Or.inl ⟨by rfl, fun w hSw => by go_simp⟩) hHeld ?_
      refine wpAnyH_take (i := 9) (v := .bool true) rfl (by kernel_rfl) (by kernel_rfl) (by kernel_rfl) (fun _ _ _ h => h) (Or.inl ⟨by rfl, fun w hSw => by go_simp⟩) hHeld ?_
      refine wpAnyH_done (by kernel_rfl) ?_ _
      go_wp2_with fail
      go_ret2
      exact pp_yes HF.out HB.out O7.out hc7 B1.out
end Go.Proofs.Ytpbbfbpggedgpaa.dr

/-
  RenameSurface, of the model and of the program.
-/
namespace Go.Proofs.Ytpbbfbpggedgpaa.gl
open Go.ChangeShapes Go.WideShapes Go.ChangeAt Go.RowKit
open Go.Proofs.Ytpbbfbpggedgpaa.mem Go.Proofs.Ytpbbfbpggedgpaa.ints Go.Proofs.Ytpbbfbpggedgpaa.arr Go.Proofs.Ytpbbfbpggedgpaa.pm Go.Proofs.Ytpbbfbpggedgpaa.permOk Go.Proofs.Ytpbbfbpggedgpaa.permOf Go.Proofs.Ytpbbfbpggedgpaa.inv Go.Proofs.Ytpbbfbpggedgpaa.fns Go.Proofs.Ytpbbfbpggedgpaa.sf
set_option linter.unusedVariables false
set_option maxRecDepth 100000

/-- A surface and a bool. -/
def SB (r u : List Int) (b : Bool) (w : World) (e : Ending) (w' : World) : Prop := ∃ g, e = .returned (.tuple #[g, .bool b]) ∧ Svl w' w.heap.size w'.heap.size g r u ∧ Below w.heap.size w w'
theorem built2 : Try.prog.built 30 [] = some #[.slice none 0 0, .slice none 0 0] := by kernel_rfl
theorem sb_nil {w w1 : World} {b : Bool} {r u : List Int} (hr : r = []) (hu : u = []) (hb : b = false) (h : Below w.heap.size w w1) : SB r u b w (.returned (.tuple #[.agg #[.slice none 0 0, .slice none 0 0], .bool false])) w1 := by
  subst hr; subst hu; subst hb
  exact ⟨_, rfl, Svl.nil _ _ _ (Nat.le_refl _) h.size, h⟩
theorem Svl.row {w : World} {lo hi g : Nat} {v : Value} {r u : List Int} (h : Svl w lo hi v r u) (hg : g < lo) (cs : Array Value) : Svl (w.setRow g cs) lo hi v r u :=
  h.out ((Out.refl 0 (g + 1) w).row_ (Nat.zero_le _) (Nat.lt_succ_self _) cs) (.inr (by omega))
def rsB (r u ns : List Int) : Bool := transB r u && okB ns && decide (ns.length = r.length)
def rsR (r u ns : List Int) : List Int := if rsB r u ns then renTo r.length r ns r.length else []
def rsU (r u ns : List Int) : List Int := if rsB r u ns then renTo r.length u ns r.length else []
theorem rsB_iff {r u ns : List Int} : rsB r u ns = true ↔ transB r u = true ∧ okB ns = true ∧ ns.length = r.length := by simp [rsB, and_assoc]
theorem rs_no {r u ns : List Int} (h : ¬ (transB r u = true ∧ okB ns = true ∧ ns.length = r.length)) : rsR r u ns = [] ∧ rsU r u ns = [] ∧ rsB r u ns = false := by
  have : rsB r u ns = false := by rw [← Bool.not_eq_true, rsB_iff]; exact h
  simp [rsR, rsU, this]
theorem rs_yes {r u ns : List Int} (h : transB r u = true) (h2 : okB ns = true) (h3 : ns.length = r.length) : rsR r u ns = renTo r.length r ns r.length ∧ rsU r u ns = renTo r.length u ns r.length ∧ rsB r u ns = true := by
  have : rsB r u ns = true := rsB_iff.2 ⟨h, h2, h3⟩
  simp [rsR, rsU, this]
theorem rsR_len (r u ns : List Int) : (rsR r u ns).length ≤ 1048576 := by
  unfold rsR; split
  · rename_i h; have := (transB_iff.1 (rsB_iff.1 h).1).r.len; rw [renTo_len]; omega
  · simp
theorem rsU_len (r u ns : List Int) : (rsU r u ns).length ≤ 1048576 := by
  unfold rsU; split
  · rename_i h; have := (transB_iff.1 (rsB_iff.1 h).1).r.len; rw [renTo_len]; omega
  · simp

end Go.Proofs.Ytpbbfbpggedgpaa.gl
