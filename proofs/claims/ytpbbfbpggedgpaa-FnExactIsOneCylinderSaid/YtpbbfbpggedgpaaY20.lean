import Derived.Test.YtpbbfbpggedgpaaY19
import Derived.Test.YtpbbfbpggedgpaaY05
import Derived.Test.YtpbbfbpggedgpaaY12
/-
  RunWord of the model and of the program.
-/
namespace Go.Proofs.Ytpbbfbpggedgpaa.rw
open Go.ChangeShapes Go.WideShapes Go.ChangeAt Go.RowKit
open Go.Proofs.Ytpbbfbpggedgpaa.mem Go.Proofs.Ytpbbfbpggedgpaa.ints Go.Proofs.Ytpbbfbpggedgpaa.arr Go.Proofs.Ytpbbfbpggedgpaa.pm Go.Proofs.Ytpbbfbpggedgpaa.permOk Go.Proofs.Ytpbbfbpggedgpaa.permOf Go.Proofs.Ytpbbfbpggedgpaa.inv Go.Proofs.Ytpbbfbpggedgpaa.fns Go.Proofs.Ytpbbfbpggedgpaa.sf Go.Proofs.Ytpbbfbpggedgpaa.gl Go.Proofs.Ytpbbfbpggedgpaa.mk Go.Proofs.Ytpbbfbpggedgpaa.lw Go.Proofs.Ytpbbfbpggedgpaa.la Go.Proofs.Ytpbbfbpggedgpaa.wd
set_option linter.unusedVariables false
set_option maxRecDepth 100000
/-- What RunWord gives. -/
def rwB (r u : List Int) (s : ByteArray) : Bool := transB r u && wok s
def rwR (r u : List Int) (s : ByteArray) : List Int := if rwB r u s then (runS s.data.toList (r, u)).1 else []
def rwU (r u : List Int) (s : ByteArray) : List Int := if rwB r u s then (runS s.data.toList (r, u)).2 else []
theorem rw_no {r u : List Int} {s : ByteArray} (h : rwB r u s = false) : rwR r u s = [] ∧ rwU r u s = [] := by simp [rwR, rwU, h]
theorem rw_yes {r u : List Int} {s : ByteArray} (h : rwB r u s = true) : rwR r u s = (runS s.data.toList (r, u)).1 ∧ rwU r u s = (runS s.data.toList (r, u)).2 := by simp [rwR, rwU, h]
theorem rwB_no1 {r u : List Int} {s : ByteArray} (h : transB r u = false) : rwB r u s = false := by simp [rwB, h]
theorem rwB_no2 {r u : List Int} {s : ByteArray} (h : wok s = false) : rwB r u s = false := by simp [rwB, h]
theorem rwB_yes {r u : List Int} {s : ByteArray} (h : transB r u = true) (h' : wok s = true) : rwB r u s = true := by simp [rwB, h, h']
theorem rwB_wok {r u : List Int} {s : ByteArray} (h' : wok s = true) : rwB r u s = transB r u := by simp [rwB, h']
theorem rwR_len (r u : List Int) (s : ByteArray) : (rwR r u s).length ≤ 1048576 := by
  unfold rwR; split
  · rename_i h; have s1 := runS_sf s.data.toList (r, u) (transB_iff.1 (by unfold rwB at h; rw [Bool.and_eq_true] at h; exact h.1)); have := s1.r.len; omega
  · simp
theorem rwU_len (r u : List Int) (s : ByteArray) : (rwU r u s).length ≤ 1048576 := by
  unfold rwU; split
  · rename_i h; have s1 := runS_sf s.data.toList (r, u) (transB_iff.1 (by unfold rwB at h; rw [Bool.and_eq_true] at h; exact h.1)); have := s1.u.len; omega
  · simp
theorem rw_ac {r u : List Int} {s : ByteArray} (h : wok s = true) : acR (la.runN (nums s)) r u = rwR r u s ∧ acU (la.runN (nums s)) r u = rwU r u s := by
  have e : la.runN (nums s) = runS s.data.toList := funext fun q => runN_nums s.data.toList q (wok_all h)
  rw [e]; unfold acR acU rwR rwU; rw [rwB_wok h]; exact ⟨rfl, rfl⟩
set_option maxHeartbeats 1000000 in
theorem rw_impl (v : Value) (r u : List Int) (s : ByteArray) (hi : Nat) (w : World) (hx : Srd w hi v r u) (hn : r.length ≤ 1048576) (hm : u.length ≤ 1048576) (hs : s.size ≤ 1048576) :
    Calls Try.prog 43 #[v, .string s] w fun e w' => ∃ g, e = .returned (.tuple #[g, .bool (rwB r u s)]) ∧ Svl w' w.heap.size w'.heap.size g (rwR r u s) (rwU r u s) ∧ Below w.heap.size w w' := by
  have HX := Lib.hid hx
  obtain ⟨P, n, c, Q, m, d, rfl, q1, q2, e1, e2, ht, HR⟩ := hx.open
  clear hx
  go_enter Try.func43, Try.ntmps43
  go_wp2_with fail
  refine (lets_any s _ hs).mono ?_
  rintro e w1 ⟨v1, L, rfl, ho, hL, b1⟩
  obtain ⟨A, lc, rfl⟩ := own_form ho
  have A0 := Lib.hid (((Arr.new w [.slice P n c, .slice Q m d] 30 rfl).alloc _).keep b1 (by simp <;> omega))
  have A1 := Lib.hid ((Arr.new _ [.slice none 0 0, .slice none 0 0] 30 (g := w.heap.size + 1) (by simp)).keep b1 (by simp))
  have hs1 : w.heap.size + 2 ≤ w1.heap.size := by have := b1.size; simpa using this
  have c0 := A0.out.cell (k := 0) rfl
  have c1 := A0.out.cell (k := 1) rfl
  have B1 : Hid (Below w.heap.size w w1) := Lib.hid ((((Below.refl _ _).alloc (Nat.le_refl _) _).alloc (by simp) _).trans (b1.mono (by simp <;> omega))); clear b1
  have RL := Lib.hid (Row.of_own ho).rd; have HL := Lib.hid hL; clear ho hL
  cases hq : wok s
  · have HQ := Lib.hid (rwB_no2 (r := r) (u := u) hq)
    obtain ⟨z1, z2⟩ := rw_no HQ.out
    have Z1 := Lib.hid z1; have Z2 := Lib.hid z2; clear z1 z2
    go_wp2_with (first | (refine wpList_build rfl 30 _ rfl [] rfl _ built2 ?_) | (refine wpList_store_row rfl 30 _ _ rfl (w.heap.size + 1) #[.slice none 0 0, .slice none 0 0] rfl rfl 30 #[.slice none 0 0, .slice none 0 0] A1.out size2 rfl (by simp [Value.oneCell']) ?_))
    exact bodyPost_ret (v := .tuple #[.agg #[.slice none 0 0, .slice none 0 0], .bool false]) (permOf.results_cell_tmp rfl _ _ (w.heap.size + 1) 30 #[.slice none 0 0, .slice none 0 0] (0, 0) _ _ rfl rfl A1.out.row Try.underlying30 rfl size2) rfl (sb_nil Z1.out Z2.out HQ.out (below_setRow B1.out (by omega) _))
  · have HW := Lib.hid hq
    have hLn : L = nums s := by rw [HL.out, hq]; rfl
    subst hLn
    have h40 : (nums s).length ≤ 40 := by rw [nums_len]; exact wok_len hq
    have H3 : Hid (∀ l ∈ nums s, 0 ≤ l ∧ l ≤ 3) := Lib.hid (fun l hl => by
      obtain ⟨ch, hch, rfl⟩ := List.mem_map.1 hl
      rcases num_cases (List.all_eq_true.1 (wok_all hq) ch hch) with h | h | h | h <;> rw [h.2] <;> omega)
    obtain ⟨z1, z2⟩ := rw_ac (r := r) (u := u) hq
    have Z1 := Lib.hid z1; have Z2 := Lib.hid z2; have ZB := Lib.hid (rwB_wok (r := r) (u := u) hq); clear z1 z2
    clear hq HL
    generalize nums s = L at *
    go_wp2_with fail
    refine (sa_any _ r u A L.length lc L hi _ _ (HX.out.keep (B1.out.mono ht) (Nat.le_refl _)) hn hm RL.out (Nat.le_refl _) H3.out h40).mono ?_
    rintro e w2 ⟨g, rfl, sg, b1⟩
    rw [Z1.out, Z2.out] at sg
    rw [← ZB.out]
    obtain ⟨P3, c3, Q3, d3, rfl⟩ := sg.len
    have SG := Lib.hid sg; clear sg
    have s2 := b1.size
    replace A1 := Lib.hid (A1.out.keep b1 A1.out.lt)
    replace B1 := Lib.hid (B1.out.trans (b1.mono B1.out.size))
    clear b1 c0 c1 A0
    go_wp2_with (refine wpList_store_row rfl 30 _ _ rfl (w.heap.size + 1) #[.slice P3 (rwR r u s).length c3, .slice Q3 (rwU r u s).length d3] rfl rfl 30 #[.slice none 0 0, .slice none 0 0] A1.out size2 rfl (by simp [Value.oneCell']) ?_)
    exact bodyPost_ret (v := .tuple #[.agg #[.slice P3 (rwR r u s).length c3, .slice Q3 (rwU r u s).length d3], .bool (rwB r u s)]) (permOf.results_cell_tmp rfl _ _ (w.heap.size + 1) 30 #[.slice P3 (rwR r u s).length c3, .slice Q3 (rwU r u s).length d3] (0, 0) _ _ rfl rfl A1.out.row Try.underlying30 rfl size2) rfl (by
      have := Svl.row SG.out (g := w.heap.size + 1) (by omega) #[.slice P3 (rwR r u s).length c3, .slice Q3 (rwU r u s).length d3]
      exact ⟨_, rfl, (by simpa using this.later (by omega)), below_setRow B1.out (by omega) _⟩)
end Go.Proofs.Ytpbbfbpggedgpaa.rw

/-
  Rows above rows: a partial injection on places, the least closed set about a place, and the two walks that mark it; mathematics alone.
-/
namespace Go.Proofs.Ytpbbfbpggedgpaa.cy
set_option linter.unusedVariables false
set_option maxRecDepth 100000

/-- The place above, or -1. -/
def at_ (ab : List Int) (i : Nat) : Int := ab.getD i (-1)
structure Inj (N : Nat) (ab : List Int) : Prop where
  len : ab.length = N
  rng : ∀ i, i < N → at_ ab i < N
  low : ∀ i, i < N → -1 ≤ at_ ab i
  inj : ∀ i j x : Nat, i < N → j < N → at_ ab i = x → at_ ab j = x → i = j
def Closed (N : Nat) (ab : List Int) (T : Nat → Prop) : Prop := ∀ i x : Nat, i < N → at_ ab i = x → (T i ↔ T x)
def on (M : List Bool) (i : Nat) : Prop := M[i]? = some true
theorem on_lt {M : List Bool} {i : Nat} (h : on M i) : i < M.length := (List.getElem?_eq_some_iff.1 h).1
theorem on_not {M : List Bool} {i : Nat} (h : M[i]? = some false) : ¬ on M i := fun k => by rw [on, h] at k; cases k
theorem not_on {M : List Bool} {i : Nat} (hi : i < M.length) (h : ¬ on M i) : M[i]? = some false := by
  have e := List.getElem?_eq_getElem hi
  cases hb : M[i] with
  | true => rw [hb] at e; exact absurd e h
  | false => rw [hb] at e; exact e
theorem on_set {M : List Bool} {k i : Nat} (hk : k < M.length) : on (M.set k true) i ↔ i = k ∨ on M i := by
  unfold on
  by_cases e : i = k
  · subst e; simp [hk]
  · rw [List.getElem?_set_ne (Ne.symm e)]; simp [e]
def cnt (M : List Bool) : Nat := M.count true
theorem cnt_le (M : List Bool) : cnt M ≤ M.length := List.count_le_length
theorem cnt_set {M : List Bool} {k : Nat} (h : M[k]? = some false) : cnt (M.set k true) = cnt M + 1 := by
  induction M generalizing k with
  | nil => simp at h
  | cons b t ih =>
    cases k with
    | zero =>
      have : b = false := by simpa using h
      subst this
      simp [cnt]
    | succ k =>
      have := ih (k := k) (by simpa using h)
      unfold cnt at this ⊢
      rw [List.set_cons_succ, List.count_cons, List.count_cons, this]
      omega

open Classical in
/-- The least closed set that holds M and r, as marks. -/
noncomputable def clos (N : Nat) (ab : List Int) (M : List Bool) (r : Nat) : List Bool :=
  (List.range N).map fun i => decide (∀ T : Nat → Prop, Closed N ab T → (∀ j, on M j → T j) → T r → T i)
theorem clos_len (N : Nat) (ab : List Int) (M : List Bool) (r : Nat) : (clos N ab M r).length = N := by simp [clos]
theorem clos_on {N : Nat} {ab : List Int} {M : List Bool} {r i : Nat} (hi : i < N) : on (clos N ab M r) i ↔ ∀ T : Nat → Prop, Closed N ab T → (∀ j, on M j → T j) → T r → T i := by
  show (clos N ab M r)[i]? = some true ↔ _
  unfold clos
  simp [hi]
theorem clos_closed {N : Nat} {ab : List Int} (h : Inj N ab) (M : List Bool) (r : Nat) : Closed N ab (on (clos N ab M r)) := by
  intro i x hi hx
  have hxN : x < N := by have := h.rng i hi; omega
  rw [clos_on hi, clos_on hxN]
  exact ⟨fun q T a b c => (a i x hi hx).1 (q T a b c), fun q T a b c => (a i x hi hx).2 (q T a b c)⟩
theorem clos_sub {N : Nat} {ab : List Int} {M : List Bool} {r : Nat} (hl : M.length = N) {j : Nat} (hj : on M j) : on (clos N ab M r) j :=
  (clos_on (by have := on_lt hj; omega)).2 fun T a b c => b j hj
theorem clos_self {N : Nat} {ab : List Int} {M : List Bool} {r : Nat} (hr : r < N) : on (clos N ab M r) r := (clos_on hr).2 fun T a b c => c
theorem clos_eq {N : Nat} {ab : List Int} {M M' : List Bool} {r : Nat} (hl : M'.length = N) (hc : Closed N ab (on M')) (hs : ∀ j, on M j → on M' j) (hr : on M' r)
    (hm : ∀ T : Nat → Prop, Closed N ab T → (∀ j, on M j → T j) → T r → ∀ i, on M' i → T i) : M' = clos N ab M r := by
  refine List.ext_getElem? fun i => ?_
  by_cases hi : i < N
  · have e1 := List.getElem?_eq_getElem (l := M') (i := i) (by omega)
    have e2 := List.getElem?_eq_getElem (l := clos N ab M r) (i := i) (by rw [clos_len]; exact hi)
    have e3 : on M' i ↔ on (clos N ab M r) i := by
      rw [clos_on hi]
      exact ⟨fun q T a b c => hm T a b c i q, fun q => q (on M') hc hs hr⟩
    unfold on at e3
    rw [e1, e2] at e3
    rw [e1, e2]
    congr 1
    have e4 : M'[i] = true ↔ (clos N ab M r)[i]'(by rw [clos_len]; exact hi) = true := by simpa using e3
    exact Bool.eq_iff_iff.2 e4
  · rw [List.getElem?_eq_none (by omega), List.getElem?_eq_none (by rw [clos_len]; omega)]

/-- On the way up from r: S was marked, M is, cur comes next. -/
structure Up (N : Nat) (ab : List Int) (S : List Bool) (r : Nat) (M : List Bool) (cur : Int) : Prop where
  len : M.length = N
  sub : ∀ j, on S j → on M j
  min : ∀ T : Nat → Prop, Closed N ab T → (∀ j, on S j → T j) → T r → (∀ i, on M i → T i) ∧ ∀ c : Nat, cur = c → T c
  up : ∀ i, on M i → ∀ x : Nat, at_ ab i = x → on M x ∨ cur = x
  pre : ∀ x, on M x → on S x ∨ x = r ∨ ∃ i, on M i ∧ at_ ab i = x
  cpre : ∀ c : Nat, cur = c → c = r ∨ ∃ i, on M i ∧ at_ ab i = c
  hi : cur < N
  lo : -1 ≤ cur
  row : on M r ∨ cur = r
theorem Up.start {N : Nat} {ab : List Int} {S : List Bool} {r : Nat} (hl : S.length = N) (hr : r < N) (hS : Closed N ab (on S)) : Up N ab S r S r :=
  ⟨hl, fun j h => h, fun T a b c => ⟨b, fun c' e => by have : c' = r := by omega
                                                       subst this; exact c⟩, fun i hi x hx => .inl ((hS i x (by have := on_lt hi; omega) hx).1 hi), fun x h => .inl h, fun c e => .inl (by omega), by omega, by omega, .inr rfl⟩
theorem Up.step {N : Nat} {ab : List Int} {S M : List Bool} {r c : Nat} (h : Up N ab S r M (c : Int)) (hi : Inj N ab) (hc : M[c]? = some false) : Up N ab S r (M.set c true) (at_ ab c) := by
  have hcl : c < M.length := (List.getElem?_eq_some_iff.1 hc).1
  have hcN : c < N := by have := h.len; omega
  refine ⟨by rw [List.length_set]; exact h.len, fun j hj => (on_set hcl).2 (.inr (h.sub j hj)), fun T a b d => ?_, fun i hi' x hx => ?_, fun x hx => ?_, fun c' e => ?_, hi.rng c hcN, hi.low c hcN, .inl ?_⟩
  · obtain ⟨q1, q2⟩ := h.min T a b d
    have tc := q2 c rfl
    refine ⟨fun i hi' => ?_, fun c' e => (a c c' hcN e).1 tc⟩
    rcases (on_set hcl).1 hi' with rfl | q
    · exact tc
    · exact q1 i q
  · rcases (on_set hcl).1 hi' with rfl | q
    · exact .inr hx
    · rcases h.up i q x hx with z | z
      · exact .inl ((on_set hcl).2 (.inr z))
      · exact .inl ((on_set hcl).2 (.inl (by omega)))
  · rcases (on_set hcl).1 hx with rfl | q
    · rcases h.cpre x rfl with z | ⟨i, z1, z2⟩
      · exact .inr (.inl z)
      · exact .inr (.inr ⟨i, (on_set hcl).2 (.inr z1), z2⟩)
    · rcases h.pre x q with z | z | ⟨i, z1, z2⟩
      · exact .inl z
      · exact .inr (.inl z)
      · exact .inr (.inr ⟨i, (on_set hcl).2 (.inr z1), z2⟩)
  · exact .inr ⟨c, (on_set hcl).2 (.inl rfl), e⟩
  · rcases h.row with z | z
    · exact (on_set hcl).2 (.inr z)
    · exact (on_set hcl).2 (.inl (by omega))
/-- The way up is done. -/
structure Ud (N : Nat) (ab : List Int) (S : List Bool) (r : Nat) (M : List Bool) : Prop where
  len : M.length = N
  sub : ∀ j, on S j → on M j
  min : ∀ T : Nat → Prop, Closed N ab T → (∀ j, on S j → T j) → T r → ∀ i, on M i → T i
  up : ∀ i, on M i → ∀ x : Nat, at_ ab i = x → on M x
  pre : ∀ x, on M x → on S x ∨ x = r ∨ ∃ i, on M i ∧ at_ ab i = x
  row : on M r
theorem Up.done {N : Nat} {ab : List Int} {S M : List Bool} {r : Nat} {cur : Int} (h : Up N ab S r M cur) (hd : cur < 0 ∨ ∃ c : Nat, cur = c ∧ on M c) : Ud N ab S r M := by
  refine ⟨h.len, h.sub, fun T a b c => (h.min T a b c).1, fun i hi x hx => ?_, h.pre, ?_⟩
  · rcases h.up i hi x hx with z | z
    · exact z
    · rcases hd with q | ⟨c, q1, q2⟩
      · omega
      · have : c = x := by omega
        subst this; exact q2
  · rcases h.row with z | z
    · exact z
    · rcases hd with q | ⟨c, q1, q2⟩
      · omega
      · have : c = r := by omega
        subst this; exact q2

/-- Is 'to' reached from k by going up, with fuel? -/
def jn (ab : List Int) (tz : Int) : Nat → Int → Bool
  | 0, _ => false
  | f + 1, k => if k < 0 then false else if k = tz then true else jn ab tz f (at_ ab k.toNat)
theorem jn_more {ab : List Int} {tz : Int} : ∀ {f : Nat} {k : Int}, jn ab tz f k = true → jn ab tz (f + 1) k = true
  | 0, k, h => by simp [jn] at h
  | f + 1, k, h => by
    rw [jn] at h ⊢
    split
    · rename_i q; rw [if_pos q] at h; cases h
    · rename_i q
      rw [if_neg q] at h
      split
      · rfl
      · rename_i q2
        rw [if_neg q2] at h
        exact jn_more h
theorem jn_le {ab : List Int} {tz : Int} {f g : Nat} {k : Int} (h : jn ab tz f k = true) (hg : f ≤ g) : jn ab tz g k = true := by
  induction hg with
  | refl => exact h
  | step _ ih => exact jn_more ih
theorem jn_step {ab : List Int} {tz : Int} {f k x : Nat} (hx : at_ ab k = x) (h : jn ab tz f (x : Int) = true) : jn ab tz (f + 1) (k : Int) = true := by
  rw [jn, if_neg (by omega)]
  split
  · rfl
  · rw [Int.toNat_natCast, hx]; exact h
/-- The specification's second phase: n new marks. -/
structure Sd (N : Nat) (ab : List Int) (S : List Bool) (r : Nat) (M : List Bool) (n : Nat) : Prop where
  len : M.length = N
  sub : ∀ j, on S j → on M j
  min : ∀ T : Nat → Prop, Closed N ab T → (∀ j, on S j → T j) → T r → ∀ i, on M i → T i
  up : ∀ i, on M i → ∀ x : Nat, at_ ab i = x → on M x
  tag : ∀ x, on M x → on S x ∨ (∃ i, on M i ∧ at_ ab i = x) ∨ jn ab r n (x : Int) = true
  row : on M r
  cnt : n + cnt S = cnt M
theorem Ud.sd {N : Nat} {ab : List Int} {S M : List Bool} {r n : Nat} (h : Ud N ab S r M) (hc : n + cnt S = cnt M) (hn : 0 < n) : Sd N ab S r M n := by
  refine ⟨h.len, h.sub, h.min, h.up, fun x hx => ?_, h.row, hc⟩
  rcases h.pre x hx with z | z | z
  · exact .inl z
  · subst z
    obtain ⟨m, rfl⟩ : ∃ m, n = m + 1 := ⟨n - 1, by omega⟩
    refine .inr (.inr ?_)
    rw [jn, if_neg (by omega), if_pos rfl]
  · exact .inr (.inl z)
theorem Sd.le {N : Nat} {ab : List Int} {S M : List Bool} {r n : Nat} (h : Sd N ab S r M n) : n ≤ N := by
  have := cnt_le M; have := h.cnt; have := h.len; omega
theorem Sd.join {N : Nat} {ab : List Int} {S M : List Bool} {r n k x : Nat} (h : Sd N ab S r M n) (hi : Inj N ab) (hS : Closed N ab (on S)) (hk : k < N) (hx : at_ ab k = x) (hox : on M x) (hno : ¬ on M k) : jn ab r (n + 1) (k : Int) = true := by
  rcases h.tag x hox with z | ⟨i, z1, z2⟩ | z
  · exact absurd (h.sub k ((hS k x hk hx).2 z)) hno
  · have : i = k := hi.inj i k x (by have := on_lt z1; have := h.len; omega) hk z2 hx
    subst this
    exact absurd z1 hno
  · exact jn_step hx z
theorem Sd.step {N : Nat} {ab : List Int} {S M : List Bool} {r n k x : Nat} (h : Sd N ab S r M n) (hi : Inj N ab) (hS : Closed N ab (on S)) (hk : M[k]? = some false) (hx : at_ ab k = x) (hox : on M x) : Sd N ab S r (M.set k true) (n + 1) := by
  have hkl : k < M.length := (List.getElem?_eq_some_iff.1 hk).1
  have hkN : k < N := by have := h.len; omega
  have hj := h.join hi hS hkN hx hox (on_not hk)
  refine ⟨by rw [List.length_set]; exact h.len, fun j hj => (on_set hkl).2 (.inr (h.sub j hj)), fun T a b c i hi' => ?_, fun i hi' y hy => ?_, fun y hy => ?_, (on_set hkl).2 (.inr h.row), by rw [cnt_set hk]; have := h.cnt; omega⟩
  · rcases (on_set hkl).1 hi' with rfl | q
    · exact (a i x hkN hx).2 (h.min T a b c x hox)
    · exact h.min T a b c i q
  · rcases (on_set hkl).1 hi' with rfl | q
    · have : y = x := by omega
      subst this; exact (on_set hkl).2 (.inr hox)
    · exact (on_set hkl).2 (.inr (h.up i q y hy))
  · rcases (on_set hkl).1 hy with rfl | q
    · exact .inr (.inr hj)
    · rcases h.tag y q with z | ⟨i, z1, z2⟩ | z
      · exact .inl z
      · exact .inr (.inl ⟨i, (on_set hkl).2 (.inr z1), z2⟩)
      · exact .inr (.inr (jn_more z))
theorem Sd.done {N : Nat} {ab : List Int} {S M : List Bool} {r n : Nat} (h : Sd N ab S r M n) (hf : ∀ k x : Nat, k < N → at_ ab k = x → on M x → on M k) : M = clos N ab S r :=
  clos_eq h.len (fun i x hi hx => ⟨fun q => h.up i q x hx, fun q => hf i x hi hx q⟩) h.sub h.row h.min

/-- The program's way down. -/
structure Dw (N : Nat) (ab : List Int) (S : List Bool) (r : Nat) (M : List Bool) (cur : Int) : Prop where
  len : M.length = N
  sub : ∀ j, on S j → on M j
  min : ∀ T : Nat → Prop, Closed N ab T → (∀ j, on S j → T j) → T r → (∀ i, on M i → T i) ∧ ∀ c : Nat, cur = c → T c
  up : ∀ i, on M i → ∀ x : Nat, at_ ab i = x → on M x
  dn : ∀ x, on M x → ∀ k, k < N → at_ ab k = x → on M k ∨ cur = k
  cab : ∀ c : Nat, cur = c → ∃ x : Nat, at_ ab c = x ∧ on M x
  hi : cur < N
  lo : -1 ≤ cur
  row : on M r
/-- bl is the way back. -/
structure Back (N : Nat) (ab bl : List Int) : Prop where
  len : bl.length = N
  rng : ∀ i, i < N → at_ bl i < N
  low : ∀ i, i < N → -1 ≤ at_ bl i
  iff : ∀ x k : Nat, x < N → k < N → (at_ bl x = k ↔ at_ ab k = x)
theorem Ud.dw {N : Nat} {ab bl : List Int} {S M : List Bool} {r : Nat} (h : Ud N ab S r M) (hi : Inj N ab) (hb : Back N ab bl) (hS : Closed N ab (on S)) (hr : r < N) : Dw N ab S r M (at_ bl r) := by
  refine ⟨h.len, h.sub, fun T a b c => ⟨h.min T a b c, fun k e => ?_⟩, h.up, fun x hx k hk e => ?_, fun c e => ?_, hb.rng r hr, hb.low r hr, h.row⟩
  · have hk : k < N := by have := hb.rng r hr; omega
    exact (a k r hk ((hb.iff r k hr hk).1 e)).2 c
  · rcases h.pre x hx with z | z | ⟨i, z1, z2⟩
    · exact .inl (h.sub k ((hS k x hk e).2 z))
    · subst z; exact .inr ((hb.iff x k hr hk).2 e)
    · have : i = k := hi.inj i k x (by have := on_lt z1; have := h.len; omega) hk z2 e
      subst this; exact .inl z1
  · have hc : c < N := by have := hb.rng r hr; omega
    exact ⟨r, (hb.iff r c hr hc).1 e, h.row⟩
theorem Dw.step {N : Nat} {ab bl : List Int} {S M : List Bool} {r c : Nat} (h : Dw N ab S r M (c : Int)) (hb : Back N ab bl) (hc : M[c]? = some false) : Dw N ab S r (M.set c true) (at_ bl c) := by
  have hcl : c < M.length := (List.getElem?_eq_some_iff.1 hc).1
  have hcN : c < N := by have := h.len; omega
  refine ⟨by rw [List.length_set]; exact h.len, fun j hj => (on_set hcl).2 (.inr (h.sub j hj)), fun T a b d => ?_, fun i hi' x hx => ?_, fun x hx k hk e => ?_, fun c' e => ?_, hb.rng c hcN, hb.low c hcN, (on_set hcl).2 (.inr h.row)⟩
  · obtain ⟨q1, q2⟩ := h.min T a b d
    have tc := q2 c rfl
    refine ⟨fun i hi' => ?_, fun k e => ?_⟩
    · rcases (on_set hcl).1 hi' with rfl | q
      · exact tc
      · exact q1 i q
    · have hk : k < N := by have := hb.rng c hcN; omega
      exact (a k c hk ((hb.iff c k hcN hk).1 e)).2 tc
  · rcases (on_set hcl).1 hi' with rfl | q
    · obtain ⟨y, y1, y2⟩ := h.cab i rfl
      have : y = x := by omega
      subst this; exact (on_set hcl).2 (.inr y2)
    · exact (on_set hcl).2 (.inr (h.up i q x hx))
  · rcases (on_set hcl).1 hx with rfl | q
    · exact .inr ((hb.iff x k hcN hk).2 e)
    · rcases h.dn x q k hk e with z | z
      · exact .inl ((on_set hcl).2 (.inr z))
      · exact .inl ((on_set hcl).2 (.inl (by omega)))
  · have hc' : c' < N := by have := hb.rng c hcN; omega
    exact ⟨c, (hb.iff c c' hcN hc').1 e, (on_set hcl).2 (.inl rfl)⟩
theorem Dw.done {N : Nat} {ab : List Int} {S M : List Bool} {r : Nat} {cur : Int} (h : Dw N ab S r M cur) (hd : cur < 0 ∨ ∃ c : Nat, cur = c ∧ on M c) : M = clos N ab S r := by
  refine clos_eq h.len (fun i x hi hx => ⟨fun q => h.up i q x hx, fun q => ?_⟩) h.sub h.row fun T a b c => (h.min T a b c).1
  rcases h.dn x q i hi hx with z | z
  · exact z
  · rcases hd with w | ⟨c, w1, w2⟩
    · omega
    · have : c = i := by omega
      subst this; exact w2

/-- Marks and cylinders behind the first i rows. -/
noncomputable def cyS (ab : List Int) (rr : List (List Int)) : Nat → List Bool × List (Int × Int)
  | 0 => (List.replicate rr.length false, [])
  | i + 1 => if (cyS ab rr i).1[i]? = some true then cyS ab rr i else
      (clos rr.length ab (cyS ab rr i).1 i, (cyS ab rr i).2 ++ [(((rr.getD i []).length : Int), ((cnt (clos rr.length ab (cyS ab rr i).1 i) - cnt (cyS ab rr i).1 : Nat) : Int))])
noncomputable def cyL (ab : List Int) (rr : List (List Int)) : List (Int × Int) := (cyS ab rr rr.length).2
theorem cyS_yes {ab : List Int} {rr : List (List Int)} {i : Nat} (h : (cyS ab rr i).1[i]? = some true) : cyS ab rr (i + 1) = cyS ab rr i := by rw [cyS, if_pos h]
theorem cyS_no {ab : List Int} {rr : List (List Int)} {i : Nat} (h : (cyS ab rr i).1[i]? = some false) : cyS ab rr (i + 1) = (clos rr.length ab (cyS ab rr i).1 i, (cyS ab rr i).2 ++ [(((rr.getD i []).length : Int), ((cnt (clos rr.length ab (cyS ab rr i).1 i) - cnt (cyS ab rr i).1 : Nat) : Int))]) := by
  rw [cyS, if_neg (by rw [h]; simp)]
theorem cyS_ok {ab : List Int} {rr : List (List Int)} (h : Inj rr.length ab) : ∀ i, i ≤ rr.length → (cyS ab rr i).1.length = rr.length ∧ Closed rr.length ab (on (cyS ab rr i).1) ∧ (cyS ab rr i).2.length ≤ i
  | 0, _ => by
    refine ⟨by simp [cyS], fun i x hi hx => ?_, by simp [cyS]⟩
    have hn : ∀ j, ¬ on (cyS ab rr 0).1 j := fun j q => by
      unfold on at q
      simp only [cyS, List.getElem?_replicate] at q
      split at q <;> simp at q
    exact ⟨fun q => absurd q (hn _), fun q => absurd q (hn _)⟩
  | i + 1, hi => by
    obtain ⟨a, b, c⟩ := cyS_ok h i (by omega)
    by_cases q : (cyS ab rr i).1[i]? = some true
    · rw [cyS_yes q]; exact ⟨a, b, by omega⟩
    · rw [cyS_no (not_on (by omega) q)]
      exact ⟨clos_len _ _ _ _, clos_closed h _ _, by simp; omega⟩
end Go.Proofs.Ytpbbfbpggedgpaa.cy

/-
  The rows of a surface and the rows above them: mathematics alone.
-/
namespace Go.Proofs.Ytpbbfbpggedgpaa.cy
open Go.Proofs.Ytpbbfbpggedgpaa.pm Go.Proofs.Ytpbbfbpggedgpaa.arr Go.Proofs.Ytpbbfbpggedgpaa.inv Go.Proofs.Ytpbbfbpggedgpaa.permOf
set_option linter.unusedVariables false
set_option maxRecDepth 100000

structure Rws (n : Nat) (ps : List Int) (rr : List (List Int)) : Prop where
  bij : Bij n ps
  inn : In n rr.flatten
  all : ∀ y : Nat, y < n → (y : Int) ∈ rr.flatten
  row : ∀ (i : Nat) (xs : List Int), rr[i]? = some xs → ∃ f : Nat, f < n ∧ xs = cyc ps n (f : Int)
  len : rr.length ≤ n
theorem Rws.of {n : Nat} {ps : List Int} (hb : Bij n ps) : Rws n ps (cso ps n n) :=
  have h := cso_cs hb n (Nat.le_refl _)
  ⟨hb, h.inn, h.all, fun i xs hx => cso_cyc n (Nat.le_refl _) xs (List.mem_of_getElem? hx), h.len⟩
theorem flat_same : ∀ {rr : List (List Int)} {i j : Nat} {xs ys : List Int} {y : Int}, rr.flatten.Nodup → rr[i]? = some xs → rr[j]? = some ys → y ∈ xs → y ∈ ys → i = j
  | [], i, j, xs, ys, y, h, hi, hj, h1, h2 => by simp at hi
  | z :: t, 0, 0, xs, ys, y, h, hi, hj, h1, h2 => rfl
  | z :: t, 0, j + 1, xs, ys, y, h, hi, hj, h1, h2 => by
    rw [List.flatten_cons, List.nodup_append] at h
    obtain rfl : z = xs := by simpa using hi
    exact absurd rfl (h.2.2 y h1 y (List.mem_flatten.2 ⟨ys, List.mem_of_getElem? (by simpa using hj), h2⟩))
  | z :: t, i + 1, 0, xs, ys, y, h, hi, hj, h1, h2 => by
    rw [List.flatten_cons, List.nodup_append] at h
    obtain rfl : z = ys := by simpa using hj
    exact absurd rfl (h.2.2 y h2 y (List.mem_flatten.2 ⟨xs, List.mem_of_getElem? (by simpa using hi), h1⟩))
  | z :: t, i + 1, j + 1, xs, ys, y, h, hi, hj, h1, h2 => by
    rw [List.flatten_cons, List.nodup_append] at h
    rw [flat_same (i := i) (j := j) h.2.1 (by simpa using hi) (by simpa using hj) h1 h2]
section
variable {n : Nat} {ps : List Int} {rr : List (List Int)} (h : Rws n ps rr)
include h
theorem Rws.same {i j : Nat} {xs ys : List Int} {y : Int} (hi : rr[i]? = some xs) (hj : rr[j]? = some ys) (h1 : y ∈ xs) (h2 : y ∈ ys) : i = j := flat_same h.inn.nd hi hj h1 h2
theorem Rws.has {y : Int} (y0 : 0 ≤ y) (y1 : y < n) : ∃ (i : Nat) (xs : List Int), rr[i]? = some xs ∧ y ∈ xs := by
  have := h.all y.toNat (by omega)
  rw [Int.toNat_of_nonneg y0] at this
  obtain ⟨xs, h1, h2⟩ := List.mem_flatten.1 this
  obtain ⟨i, hi, e⟩ := List.getElem_of_mem h1
  exact ⟨i, xs, by rw [List.getElem?_eq_getElem hi, e], h2⟩
theorem Rws.rng {i : Nat} {xs : List Int} {y : Int} (hx : rr[i]? = some xs) (hy : y ∈ xs) : 0 ≤ y ∧ y < n := by
  have : y ∈ rr.flatten := List.mem_flatten.2 ⟨xs, List.mem_of_getElem? hx, hy⟩
  exact ⟨h.inn.lo y this, h.inn.hi y this⟩
theorem Rws.way {i : Nat} {xs : List Int} (hx : rr[i]? = some xs) : ∃ f : Nat, f < n ∧ xs = cyc ps n (f : Int) ∧ pm.Way n ps f f xs := by
  obtain ⟨f, h1, h2⟩ := h.row i xs hx
  exact ⟨f, h1, h2, by rw [h2]; exact cyc_way h.bij (by omega) (by omega)⟩
theorem Rws.head {i : Nat} {xs : List Int} (hx : rr[i]? = some xs) : 0 < xs.length ∧ xs.getD 0 0 ∈ xs := by
  obtain ⟨f, h1, h2, w⟩ := h.way hx
  exact ⟨w.pos, getD_mem w.pos⟩
theorem Rws.reach {i : Nat} {xs : List Int} {y z : Int} (hx : rr[i]? = some xs) (hy : y ∈ xs) (hz : z ∈ xs) : ∃ m, it ps y m = z := by
  obtain ⟨f, h1, h2, w⟩ := h.way hx
  obtain ⟨a, a1, a2⟩ := mem_getD hy
  obtain ⟨b, b1, b2⟩ := mem_getD hz
  rw [way_it w a a1] at a2
  rw [way_it w b b1] at b2
  refine ⟨xs.length - a + b, ?_⟩
  rw [← a2, it_add, show a + (xs.length - a + b) = xs.length + b by omega, ← it_add, ← way_last w, b2]
theorem Rws.next {i : Nat} {xs : List Int} {y : Int} (hx : rr[i]? = some xs) (hy : y ∈ xs) : ps.getD y.toNat 0 ∈ xs := by
  obtain ⟨f, h1, h2, w⟩ := h.way hx
  obtain ⟨a, a1, a2⟩ := mem_getD hy
  by_cases q : a + 1 < xs.length
  · have := w.step a q
    rw [a2] at this
    rw [← this]
    exact getD_mem q
  · have e : a = xs.length - 1 := by omega
    have := w.last
    rw [← e, a2] at this
    rw [← this, ← w.head]
    exact getD_mem w.pos
theorem Rws.it_in {i : Nat} {xs : List Int} {y : Int} (hx : rr[i]? = some xs) (hy : y ∈ xs) : ∀ m, it ps y m ∈ xs
  | 0 => hy
  | m + 1 => h.next hx (Rws.it_in hx hy m)
end

def rix : List (List Int) → Int → Int
  | [], _ => -1
  | xs :: t, y => if y ∈ xs then 0 else if rix t y < 0 then -1 else rix t y + 1
theorem rix_low : ∀ (rr : List (List Int)) (y : Int), -1 ≤ rix rr y ∧ rix rr y < rr.length
  | [], y => by simp [rix]
  | xs :: t, y => by
    have := rix_low t y
    rw [rix]
    simp only [List.length_cons]
    split
    · omega
    · split <;> omega
theorem rix_at : ∀ {rr : List (List Int)} {y : Int} {k : Nat} {xs : List Int}, rr[k]? = some xs → y ∈ xs → (∀ j : Nat, j < k → ∀ zs : List Int, rr[j]? = some zs → ¬ y ∈ zs) → rix rr y = k
  | [], y, k, xs, h, _, _ => by simp at h
  | z :: t, y, 0, xs, h, hy, _ => by
    obtain rfl : z = xs := by simpa using h
    rw [rix, if_pos hy]; rfl
  | z :: t, y, k + 1, xs, h, hy, hn => by
    have := rix_at (rr := t) (y := y) (k := k) (by simpa using h) hy (fun j hj zs hz => hn (j + 1) (by omega) zs (by simpa using hz))
    rw [rix, if_neg (hn 0 (by omega) z rfl), this, if_neg (by omega)]
    omega
theorem rix_none : ∀ {rr : List (List Int)} {y : Int}, (∀ (j : Nat) (zs : List Int), rr[j]? = some zs → ¬ y ∈ zs) → rix rr y = -1
  | [], y, _ => rfl
  | z :: t, y, hn => by
    have := rix_none (rr := t) (y := y) (fun j zs hz => hn (j + 1) zs (by simpa using hz))
    rw [rix, if_neg (hn 0 z rfl), this, if_pos (by omega)]
theorem rix_mem : ∀ {rr : List (List Int)} {y : Int} {k : Nat}, rix rr y = k → ∃ xs, rr[k]? = some xs ∧ y ∈ xs
  | [], y, k, h => by simp [rix] at h
  | z :: t, y, k, h => by
    rw [rix] at h
    split at h
    · rename_i q
      have : k = 0 := by omega
      subst this
      exact ⟨z, rfl, q⟩
    · split at h
      · omega
      · obtain ⟨xs, h1, h2⟩ := rix_mem (rr := t) (y := y) (k := k - 1) (by omega)
        obtain ⟨m, rfl⟩ : ∃ m, k = m + 1 := ⟨k - 1, by omega⟩
        exact ⟨xs, by simpa using h1, h2⟩
theorem Rws.rix {n : Nat} {ps : List Int} {rr : List (List Int)} (h : Rws n ps rr) {i : Nat} {xs : List Int} {y : Int} (hx : rr[i]? = some xs) (hy : y ∈ xs) : rix rr y = i :=
  rix_at hx hy fun j hj zs hz q => by have := h.same hx hz hy q; omega

def regB (c xs : List Int) : Bool := xs.all fun x => decide (c.getD x.toNat 0 = x)
def abF (c u : List Int) (rr : List (List Int)) : List Int := rr.map fun xs => if regB c xs then rix rr (u.getD (xs.getD 0 0).toNat 0) else -1
theorem abF_len (c u : List Int) (rr : List (List Int)) : (abF c u rr).length = rr.length := by simp [abF]
theorem abF_at {c u : List Int} {rr : List (List Int)} {i : Nat} {xs : List Int} (h : rr[i]? = some xs) : at_ (abF c u rr) i = if regB c xs then rix rr (u.getD (xs.getD 0 0).toNat 0) else -1 := by
  simp [at_, abF, h]
theorem comm_fix {n : Nat} {r u : List Int} (s : Sf n r u) {x : Int} (x0 : 0 ≤ x) (x1 : x < n) : (comm r u).getD x.toNat 0 = x ↔ u.getD (r.getD x.toNat 0).toNat 0 = r.getD (u.getD x.toNat 0).toNat 0 := by
  have hr := s.br.maps x.toNat (by omega)
  have hu := s.bu.maps x.toNat (by omega)
  have hur := s.bu.maps (r.getD x.toNat 0).toNat (by omega)
  have lI : (Inv r).length = n := by rw [Inv_len, s.lr]
  have e : (comm r u).getD x.toNat 0 = (Inv u).getD ((Inv r).getD (u.getD (r.getD x.toNat 0).toNat 0).toNat 0).toNat 0 := by
    unfold comm
    have e1 : (thn r u).getD x.toNat 0 = u.getD (r.getD x.toNat 0).toNat 0 := thn_at (by rw [s.lr]; omega)
    rw [thn_at (by rw [thn_len, s.lr]; omega), e1, thn_at (by omega)]
  rw [e]
  constructor
  · intro q
    have iR := (Inv_ok s.r).maps (u.getD (r.getD x.toNat 0).toNat 0).toNat (by omega)
    rw [lI] at iR
    have := Inv_right s.u (x := (Inv r).getD (u.getD (r.getD x.toNat 0).toNat 0).toNat 0) iR.1 (by rw [s.lu]; exact iR.2)
    rw [q] at this
    rw [this]
    exact (Inv_right s.r hur.1 (by rw [s.lr]; exact hur.2)).symm
  · intro q
    rw [q, Inv_left s.r hu.1 (by rw [s.lr]; exact hu.2), Inv_left s.u x0 (by rw [s.lu]; exact x1)]
theorem ab_row {r u : List Int} {rr : List (List Int)} {i x : Nat} (hi : i < rr.length) (hx : at_ (abF (comm r u) u rr) i = x) : ∃ xs ys, rr[i]? = some xs ∧ rr[x]? = some ys ∧ regB (comm r u) xs = true ∧ u.getD (xs.getD 0 0).toNat 0 ∈ ys := by
  have e := List.getElem?_eq_getElem hi
  rw [abF_at e] at hx
  split at hx
  · rename_i q
    obtain ⟨ys, h1, h2⟩ := rix_mem hx
    exact ⟨_, ys, e, h1, q, h2⟩
  · omega
section
variable {n : Nat} {r u : List Int} (s : Sf n r u) {rr : List (List Int)} (h : Rws n r rr)
include s h
theorem up_it {i : Nat} {xs : List Int} (hx : rr[i]? = some xs) (hreg : regB (comm r u) xs = true) {y : Int} (hy : y ∈ xs) : ∀ m, u.getD (it r y m).toNat 0 = it r (u.getD y.toNat 0) m
  | 0 => rfl
  | m + 1 => by
    have hm := h.it_in hx hy m
    obtain ⟨a, b⟩ := h.rng hx hm
    have q : (comm r u).getD (it r y m).toNat 0 = it r y m := by
      have := List.all_eq_true.1 hreg _ hm
      simpa using this
    show u.getD (r.getD (it r y m).toNat 0).toNat 0 = r.getD (it r (u.getD y.toNat 0) m).toNat 0
    rw [← up_it hx hreg hy m]
    exact (comm_fix s a b).1 q
theorem ab_inj : Inj rr.length (abF (comm r u) u rr) := by
  refine ⟨abF_len _ _ _, fun i hi => ?_, fun i hi => ?_, fun i j x hi hj ei ej => ?_⟩
  · rw [abF_at (List.getElem?_eq_getElem hi)]
    split
    · exact (rix_low _ _).2
    · omega
  · rw [abF_at (List.getElem?_eq_getElem hi)]
    split
    · exact (rix_low _ _).1
    · omega
  · obtain ⟨xs, zs, x1, x2, x3, x4⟩ := ab_row hi ei
    obtain ⟨ys, zs', y1, y2, y3, y4⟩ := ab_row hj ej
    have e : zs' = zs := by rw [x2] at y2; exact (Option.some.inj y2).symm
    subst e
    obtain ⟨m, hm⟩ := h.reach x2 x4 y4
    rw [← up_it s h x1 x3 (h.head x1).2] at hm
    have a1 := h.it_in x1 (h.head x1).2 m
    have a2 := h.rng x1 a1
    have b1 := (h.head y1).2
    have b2 := h.rng y1 b1
    have := s.bu.inj _ _ (by omega) (by omega) hm
    have e2 : it r (xs.getD 0 0) m = ys.getD 0 0 := by omega
    rw [e2] at a1
    exact h.same x1 y1 a1 b1
/-- Rws of one cylinder have the same length. -/
theorem ab_len {i x : Nat} (hi : i < rr.length) (hx : at_ (abF (comm r u) u rr) i = x) {xs ys : List Int} (h1 : rr[i]? = some xs) (h2 : rr[x]? = some ys) : ys.length = xs.length := by
  obtain ⟨xs', ys', x1, x2, x3, x4⟩ := ab_row hi hx
  have e1 : xs' = xs := by rw [h1] at x1; exact (Option.some.inj x1).symm
  have e2 : ys' = ys := by rw [h2] at x2; exact (Option.some.inj x2).symm
  subst e1; subst e2
  have hf := (h.head h1).2
  obtain ⟨f0, f1⟩ := h.rng h1 hf
  obtain ⟨g0, g1⟩ := h.rng h2 x4
  obtain ⟨a, a1, a2, _⟩ := h.way h1
  obtain ⟨b, b1, b2, _⟩ := h.way h2
  have wf := cyc_way h.bij f0 f1
  have wg := cyc_way h.bij g0 g1
  have p1 : (cyc r n (xs'.getD 0 0)).length = xs'.length := by
    rw [a2] at hf
    have := per_same h.bij (f := (a : Int)) (by omega) (by omega) hf
    rw [← a2] at this hf
    exact this
  have p2 : (cyc r n (u.getD (xs'.getD 0 0).toNat 0)).length = ys'.length := by
    rw [b2] at x4
    have := per_same h.bij (f := (b : Int)) (by omega) (by omega) x4
    rw [← b2] at this
    exact this
  rw [← p1, ← p2]
  generalize hfe : xs'.getD 0 0 = f at *
  have ui := fun m => up_it s h h1 x3 (y := f) (by rw [← hfe]; exact (h.head h1).2) m
  generalize hge : u.getD f.toNat 0 = g at *
  have lf := way_last wf
  have lg := way_last wg
  have pf := wf.pos
  have pg := wg.pos
  rcases Nat.lt_trichotomy (cyc r n g).length (cyc r n f).length with q | q | q
  · have e : it r f (cyc r n g).length = f := by
      have e0 : u.getD (it r f (cyc r n g).length).toNat 0 = u.getD f.toNat 0 := by rw [ui, ← lg, hge]
      have hin := Go.Proofs.Ytpbbfbpggedgpaa.pm.it_in h.bij f0 f1 (cyc r n g).length
      have := s.bu.inj _ _ (by omega) (by omega) e0
      omega
    have := nodup_getD wf.inn.nd (i := (cyc r n g).length) (j := 0) q pf (by rw [way_it wf _ q, e, wf.head])
    omega
  · exact q
  · have e : it r g (cyc r n f).length = g := by rw [← ui, ← lf, hge]
    have := nodup_getD wg.inn.nd (i := (cyc r n f).length) (j := 0) q pg (by rw [way_it wg _ q, e, wg.head])
    omega
end
end Go.Proofs.Ytpbbfbpggedgpaa.cy

/-
  Contracts of the laws' same, sorted, lengths.
-/
namespace Go.Proofs.Ytpbbfbpggedgpaa.fns
open Go.ChangeShapes Go.WideShapes Go.ChangeAt Go.RowKit
open Go.Proofs.Ytpbbfbpggedgpaa.mem Go.Proofs.Ytpbbfbpggedgpaa.ints Go.Proofs.Ytpbbfbpggedgpaa.arr Go.Proofs.Ytpbbfbpggedgpaa.pm Go.Proofs.Ytpbbfbpggedgpaa.mat
set_option linter.unusedVariables false
set_option maxRecDepth 100000

theorem Grows.set_ {w wr : World} {b cc : Nat} {l : List Int} (h : Grows w wr (.slice (some ⟨b, 0, none⟩) l.length cc) l) (k : Nat) (z : Int) : Grows w (wr.setCell ⟨b, k, none⟩ (.int .i64 z)) (.slice (some ⟨b, 0, none⟩) (l.set k z).length cc) (l.set k z) := by
  have hb := h.own.lt b rfl
  have := (h.own.stored k (.int .i64 z)).1
  rw [V_set] at this
  exact ⟨by simpa using this, h.below.setCell hb.1 _⟩

def lensF (xss : List (List Int)) : List Int := xss.map fun xs => (xs.length : Int)
end Go.Proofs.Ytpbbfbpggedgpaa.fns

/-
  The model's descending order (as the laws' own): contracts of l04Down and l04Lengths.
-/
namespace Go.Proofs.Ytpbbfbpggedgpaa.fns
open Go.ChangeShapes Go.WideShapes Go.ChangeAt Go.RowKit
open Go.Proofs.Ytpbbfbpggedgpaa.mem Go.Proofs.Ytpbbfbpggedgpaa.ints Go.Proofs.Ytpbbfbpggedgpaa.arr Go.Proofs.Ytpbbfbpggedgpaa.pm Go.Proofs.Ytpbbfbpggedgpaa.mat
set_option linter.unusedVariables false
set_option maxRecDepth 100000

end Go.Proofs.Ytpbbfbpggedgpaa.fns
