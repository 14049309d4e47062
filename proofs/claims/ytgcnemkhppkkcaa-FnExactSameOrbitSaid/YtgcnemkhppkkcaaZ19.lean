import Derived.Test.YtgcnemkhppkkcaaZ04
import Derived.Test.YtgcnemkhppkkcaaZ14
import Derived.Test.YtgcnemkhppkkcaaZ18
import Derived.Test.YtgcnemkhppkkcaaZ09
import Derived.OwnWalk
import Derived.Deep.MidRow
import Derived.Deep.RegionHeld3
import Derived.Test.YtgcnemkhppkkcaaZ17
import Derived.Test.YtgcnemkhppkkcaaZ15
import Derived.Test.YtgcnemkhppkkcaaZ10
namespace Go.Proofs.Ytgcnemkhppkkcaa.orb
open Go.ChangeShapes Go.WideShapes Go.ChangeAt Go.RowKit
open mem ints arr pm sf
set_option linter.unusedVariables false
set_option maxRecDepth 100000
theorem stp_cn {n : Nat} {c : UInt8} {s : Sur} (h : Sf n s.1 s.2) : stp c s = can (letS c s).1 (letS c s).2 n := by
  have := (letS_sf h c).lr
  unfold stp cn
  rw [this]
theorem orun_step {f k : Nat} {q : LW} (hk : k < q.1.length) (h : ¬ 120 < (two k q).1.length) : orun (f + 1) k q = orun f (k + 1) (two k q) := by
  rw [orun, if_pos hk, if_neg h]
theorem orun_big {f k : Nat} {q : LW} (hk : k < q.1.length) (h : 120 < (two k q).1.length) : orun (f + 1) k q = none := by
  rw [orun, if_pos hk, if_pos h]
theorem orun_done {f k : Nat} {q : LW} (hk : ¬ k < q.1.length) : orun (f + 1) k q = some q := by
  rw [orun, if_neg hk]
def OPost (s : Sur) (w : World) (e : Ending) (w' : World) : Prop :=
  match orb s with
  | some q => ∃ v u, e = .returned (.tuple #[v, u, .bool true]) ∧ Os w w' w.heap.size w'.heap.size v u q
  | none => e = .returned (.tuple #[.slice none 0 0, .slice none 0 0, .bool false]) ∧ Below w.heap.size w w'
structure Og (s : Sur) (N : Nat) (w wr : World) (v u : Value) (k : Nat) (q : LW) : Prop where
  os : Os w wr w.heap.size wr.heap.size v u q
  oi : Oi N q
  run : orun (122 - k) k q = orb s
  le : k ≤ q.1.length
  small : q.1.length ≤ 120
structure Oh (w : World) (hi : Nat) (wr : World) (b : Nat) (v u : Value) (q : LW) : Prop where
  os : Os w wr w.heap.size hi v u q
  box : Arr wr b [.int .u8 84, .int .u8 83] 5
  nv : ¬ v.ownBlock = some b
  nu : ¬ u.ownBlock = some b
theorem Oh.keep {w wr w' : World} {hi b : Nat} {v u : Value} {q : LW} (h : Oh w hi wr b v u q) (hb : Below wr.heap.size wr w') : Oh w hi w' b v u q :=
  ⟨h.os.keep hb h.os.top, h.box.keep hb h.box.lt, h.nv, h.nu⟩
theorem infoSf : (sqp.prog.info? 25).map (fun i => (i.zero, i.size, i.bytes)) = some (some (.agg #[.slice none 0 0, .slice none 0 0]), 2, 48) := by kernel_rfl
theorem infoSt : (sqp.prog.info? 9).map (fun i => (i.zero, i.size, i.bytes)) = some (some (.string ⟨#[]⟩), 1, 16) := by kernel_rfl
theorem addL_in {k : Nat} {c : UInt8} {q : LW} {x : Sur} (hx : q.1.getD k ([], []) = x) (h : stp c x ∈ q.1) : addL k c q = q := by unfold addL; rw [hx, if_pos h]
theorem addL_new {k : Nat} {c : UInt8} {q : LW} {x : Sur} {w : List UInt8} (hx : q.1.getD k ([], []) = x) (hw : q.2.getD k [] = w) (h : stp c x ∉ q.1) : addL k c q = (q.1 ++ [stp c x], q.2 ++ [w ++ [c]]) := by unfold addL; rw [hx, hw, if_neg h]
theorem Os.start {w0 w : World} {base lo : Nat} {s : Sur} {P Q : Option Addr} {n c m d : Nat} (hx : Svl w lo w.heap.size (.agg #[.slice P n c, .slice Q m d]) s.1 s.2) (hn : 0 < n) (hm : 0 < m) (hlo : base ≤ lo) (hl : lo ≤ w.heap.size) (hb : Below base w0 w) :
    Os w0 ((w.alloc (.cells #[.slice P n c, .slice Q m d] 25)).alloc (.cells #[.string ⟨#[]⟩] 9)) base ((w.alloc (.cells #[.slice P n c, .slice Q m d] 25)).alloc (.cells #[.string ⟨#[]⟩] 9)).heap.size
      (.slice (some ⟨w.heap.size, 0, none⟩) 1 1) (.slice (some ⟨w.heap.size + 1, 0, none⟩) 1 1) ([s], [[]]) := by
  have B1 : Below w.heap.size w ((w.alloc (.cells #[.slice P n c, .slice Q m d] 25)).alloc (.cells #[.string ⟨#[]⟩] 9)) := ((Below.refl _ _).alloc (Nat.le_refl _) _).alloc (by simp) _
  have A1 : Arr ((w.alloc (.cells #[.slice P n c, .slice Q m d] 25)).alloc (.cells #[.string ⟨#[]⟩] 9)) w.heap.size [.slice P n c, .slice Q m d] 25 := (Arr.new w _ _ rfl).alloc _
  have A2 : Arr ((w.alloc (.cells #[.slice P n c, .slice Q m d] 25)).alloc (.cells #[.string ⟨#[]⟩] 9)) (w.heap.size + 1) [.string ⟨#[]⟩] 9 := Arr.new _ _ _ (by simp)
  have es : ((w.alloc (.cells #[.slice P n c, .slice Q m d] 25)).alloc (.cells #[.string ⟨#[]⟩] 9)).heap.size = w.heap.size + 2 := by simp
  generalize (w.alloc (.cells #[.slice P n c, .slice Q m d] 25)).alloc (.cells #[.string ⟨#[]⟩] 9) = W at *
  obtain ⟨g1, g2, r1, r2, hne⟩ := Svl.two hx hn hm (fun b => b = w.heap.size ∨ b = w.heap.size + 1) (fun b b1 b2 e => by omega)
  have R1 := r1.keep (B1.block _ r1.hi_) B1.size
  have R2 := r2.keep (B1.block _ r2.hi_) B1.size
  have L := (Ls.nil W lo lo (fun b => b = w.heap.size ∨ b = w.heap.size + 1) (fun _ => (0, 0)) (by omega)).snoc R1 R2 hne (Nat.le_refl _) hl (by omega)
  refine ⟨⟨_, _, ⟨rfl, .inr ⟨w.heap.size, 1, _, rfl, by omega, A1, Nat.le_refl _, by unfold maxLen; omega, rfl, rfl⟩⟩, L.to hlo (by omega) (Nat.le_refl _) (fun b b1 b2 e e' => ?_)⟩, ⟨rfl, .inr ⟨w.heap.size + 1, 1, _, rfl, by omega, A2, Nat.le_refl _, by unfold maxLen; omega, rfl, rfl⟩⟩, fun b e e' => ?_, fun b e => ?_, fun b e => ?_, hb.trans (B1.mono (by omega)), by omega, Nat.le_refl _⟩
  · rcases e' with e' | e'
    · have : w.heap.size = b := by simpa [Value.ownBlock] using e'
      omega
    · have : w.heap.size + 1 = b := by simpa [Value.ownBlock] using e'
      omega
  · have h1 : w.heap.size = b := by simpa [Value.ownBlock] using e
    have h2 : w.heap.size + 1 = b := by simpa [Value.ownBlock] using e'
    omega
  · have h1 : w.heap.size = b := by simpa [Value.ownBlock] using e
    omega
  · have h1 : w.heap.size + 1 = b := by simpa [Value.ownBlock] using e
    omega
def mid (k i : Nat) (q : LW) : LW := if i = 0 then q else if i = 1 then addL k 84 q else two k q
def ltr (i : Nat) : UInt8 := if i = 0 then 84 else 83
theorem mid_succ {k i : Nat} {q : LW} (h : i < 2) : mid k (i + 1) q = addL k (ltr i) (mid k i q) := by
  match i, h with
  | 0, _ => rfl
  | 1, _ => rfl
theorem ltr_is {i : Nat} : isL (ltr i) = true := by unfold ltr; split <;> decide
theorem mid_sub (k i : Nat) (q : LW) : ∃ r, (mid k i q).1 = q.1 ++ r ∧ r.length ≤ 2 := by
  unfold mid
  obtain ⟨r1, e1, l1⟩ := addL_sub k 84 q
  obtain ⟨r2, e2, l2⟩ := addL_sub k 83 (addL k 84 q)
  split
  · exact ⟨[], by simp⟩
  · split
    · exact ⟨r1, e1, by omega⟩
    · exact ⟨r1 ++ r2, by unfold two; rw [e2, e1, List.append_assoc], by simp; omega⟩
theorem mid_oi {N k i : Nat} {q : LW} (h : Oi N q) (hk : k < q.1.length) : Oi N (mid k i q) := by
  have h1 := h.add hk 84
  have h2 := h1.add (k := k) (by obtain ⟨r, e, _⟩ := addL_sub k 84 q; rw [e]; simp; omega) 83
  unfold mid two
  split
  · exact h
  · split
    · exact h1
    · exact h2
theorem run_byte_drew {P : Program} (W : World) (src dst e t : TypeId) (n : Int)
    (hs : P.underlying src = some (.slice e)) (he : P.underlying e = some (.int .u8)) (hd : P.underlying dst = some .string) :
    (convert src dst (.slice (some ⟨W.heap.size, 0, none⟩) 1 1)).run P (W.alloc (.cells #[.int .u8 n] t)).drew = .ok (.string ⟨#[UInt8.ofNat n.toNat]⟩) (W.alloc (.cells #[.int .u8 n] t)).drew :=
  run_byte_cell _ _ _ _ _ _ hs he hd (by show (W.alloc (.cells #[.int .u8 n] t)).cell? _ = _; simp)
set_option maxHeartbeats 4000000 in
theorem orbit_spec (v : Value) (r u : List Int) (N hi : Nat) (w : World) (hx : Srd w hi v r u) (hs : Sf N r u) :
    Calls sqp.prog 51 #[v] w (OPost (r, u) w) := by
  have HX := Lib.hid hx; have HS := Lib.hid hs; clear hx hs
  obtain ⟨P, n, c, Q, m, d, rfl, q1, q2, e1, e2, ht, HR⟩ := HX.out.open
  clear HR q1 q2
  go_enter sqp.func51, sqp.ntmps51
  go_wp2_with fail
  refine (gl.canon_spec _ r u N hi _ (HX.out.keep ((Below.refl hi w).alloc ht _) (Nat.le_refl _)) HS.out).mono ?_
  rintro e w1 ⟨g, rfl, sg, b1⟩
  have N24 : N ≤ 24 := by have := HS.out.r.len; rw [HS.out.lr] at this; exact this
  have hpos := HS.out.pos
  have CS : Hid (Sf N (can r u N).1 (can r u N).2) := Lib.hid (by have h := cn_sf (s := (r, u)) HS.out; unfold cn at h; rwa [HS.out.lr] at h)
  obtain ⟨P1, c1, Q1, d1, rfl⟩ := sg.lens CS.out.lr CS.out.lu
  have hs1 : w.heap.size < w1.heap.size := by have := b1.size; simp at this; omega
  have B1 : Hid (Below w.heap.size w w1) := Lib.hid (((Below.refl _ _).alloc (Nat.le_refl _) _).trans (b1.mono (by simp)))
  have SG := Lib.hid (sg.later (lo' := w.heap.size) (by simp)); clear sg b1
  have ST : Hid (∃ W, W = ((w1.alloc (.cells #[.slice P1 N c1, .slice Q1 N d1] 25)).alloc (.cells #[.string ⟨#[]⟩] 9)) ∧ Os w W w.heap.size W.heap.size (.slice (some ⟨w1.heap.size, 0, none⟩) 1 1) (.slice (some ⟨w1.heap.size + 1, 0, none⟩) 1 1) ([cn (r, u)], [[]])) :=
    Lib.hid ⟨_, rfl, Os.start (s := cn (r, u)) (by unfold cn; rw [HS.out.lr]; exact SG.out) hpos hpos (Nat.le_refl _) (by omega) B1.out⟩
  have OI := Lib.hid (Oi.start (s := (r, u)) HS.out)
  go_wp2_with fail
  obtain ⟨W, eW, hos⟩ := ST.out
  rw [← eW]
  have OS := Lib.hid hos; clear hos eW ST SG B1
  go_loopw [5, 6, 7] (fun va vb i wr => ∃ (k : Nat) (q : LW), i = .int .i64 k ∧ Og (r, u) N w wr va vb k q) (fun _ _ i _ => 122 - (intOf i).toNat)
  case atStart => exact ⟨0, _, rfl, OS.out, OI.out, rfl, by simp, by simp⟩
  case round =>
    obtain ⟨k, q, rfl, hg⟩ := hrel
    obtain ⟨A, ca, B, db, rfl, rfl⟩ := hg.os.forms
    have HG := Lib.hid hg; clear hg OS OI
    have hq120 := HG.out.small
    have hkq := HG.out.le
    have hl2 := HG.out.oi.len
    by_cases hlt : k < q.1.length
    · have hk120 : k < 120 := by omega
      have hsub : ∀ j, k < (mid k j q).1.length ∧ (mid k j q).1.length ≤ 122 := fun j => by obtain ⟨r, e, l⟩ := mid_sub k j q; rw [e]; simp; omega
      have MO := Lib.hid (fun j => mid_oi (i := j) HG.out.oi hlt)
      have ST2 : Hid (∃ W, W = (wr.alloc (.cells #[.int .u8 84, .int .u8 83] 5)) ∧ Oh w wr.heap.size W wr.heap.size (.slice A q.1.length ca) (.slice B q.2.length db) (mid k 0 q)) :=
        Lib.hid ⟨_, rfl, HG.out.os.keep ((Below.refl wr.heap.size wr).alloc (Nat.le_refl _) _) (Nat.le_refl _), Arr.new wr _ _ rfl, fun e => by have := HG.out.os.vlt _ e; omega, fun e => by have := HG.out.os.ult _ e; omega⟩
      go_wp2_with fail
      obtain ⟨W2, eW, hoh⟩ := ST2.out
      rw [← eW]
      have OH := Lib.hid hoh; clear hoh eW ST2
      obtain ⟨wo, rfl⟩ : ∃ wo : World, wo = wr := ⟨_, rfl⟩
      have hws : w.heap.size ≤ wo.heap.size := HG.out.os.low
      go_loopw [5, 6, 23] (fun va vb i wr => ∃ j : Nat, j ≤ 2 ∧ i = .int .i64 j ∧ ∃ hi2, Oh w hi2 wr wo.heap.size va vb (mid k j q)) (fun _ _ i _ => 2 - (intOf i).toNat)
      case atStart => exact ⟨0, by omega, rfl, _, OH.out⟩
      case round =>
        obtain ⟨j, hj, rfl, hi2, hoh⟩ := hrel
        have OJ := Lib.hid hoh; clear hoh OH
        by_cases hj2 : j < 2
        · obtain ⟨hk1, hk2⟩ := hsub j
          have MQ := Lib.hid (mid_succ (k := k) (q := q) hj2)
          have OJ2 := Lib.hid (MO.out j)
          generalize mid k j q = q' at *
          obtain ⟨A', ca', B', db', rfl, rfl⟩ := OJ.out.os.forms
          obtain ⟨gx, off, x, P', p', cp', Q', q2', cq', eA, hgx, hxk, c0, c1, xs⟩ := (Os.lrd OJ.out.os).at_ hk1
          subst eA
          obtain ⟨x', wd, h1, h2, h3, h4, h5, h6⟩ := OJ2.out.at hk1
          obtain rfl : x = x' := by rw [hxk] at h1; exact Option.some.inj h1
          have XS := Lib.hid xs; have OX := Lib.hid h3; have EX := Lib.hid h2; have HW := Lib.hid h4; have EW := Lib.hid h5
          clear xs h1 h2 h3 h4 h5 hxk
          have hcl : wr.cell? ⟨wo.heap.size, j, none⟩ = some (.int .u8 ((ltr j).toNat : Int)) := OJ.out.box.cell (by
            match j, hj2 with
            | 0, _ => rfl
            | 1, _ => rfl)
          have hisL := ltr_is (i := j)
          have ltb := (ltr j).toNat_lt
          have HL := Lib.hid hisL; clear hisL
          generalize ltr j = lt at *
          go_wp2_with fail
          refine (rw.letter_spec _ x.1 x.2 N _ _ XS.out OX.out lt HL.out).mono ?_
          rintro e w3 ⟨g3, rfl, sg3, b3⟩
          have LS := Lib.hid (letS_sf OX.out lt)
          obtain ⟨P3, c3, Q3, d3, rfl⟩ := sg3.lens LS.out.lr LS.out.lu
          have SG3 := Lib.hid sg3; clear sg3
          have s3 := b3.size
          have OH3 := Lib.hid (OJ.out.keep b3); clear b3 c0 c1 hcl XS
          go_wp2_with fail
          refine (gl.canon_spec _ _ _ N _ _ SG3.out.rd LS.out).mono ?_
          rintro e w4 ⟨g4, rfl, sg4, b4⟩
          have CS4 : Hid (Sf N (stp lt x).1 (stp lt x).2) := Lib.hid (cn_sf (s := letS lt x) LS.out)
          rw [← stp_cn OX.out] at sg4
          obtain ⟨P4, c4, Q4, d4, rfl⟩ := sg4.lens CS4.out.lr CS4.out.lu
          have s4 := b4.size
          have OH4 := Lib.hid (OH3.out.keep b4)
          have SG4 := Lib.hid (sg4.later (lo' := wr.heap.size) (by omega)); clear sg4 b4 SG3 OH3
          go_wp2_with (refine wpList_store_row rfl 25 _ _ rfl w4.heap.size #[.slice P4 N c4, .slice Q4 N d4] rfl rfl 25 #[.slice none 0 0, .slice none 0 0] (Arr.new w4 [.slice none 0 0, .slice none 0 0] _ rfl) size2 rfl (by simp [Value.oneCell']) ?_; generalize hw : (w4.alloc (.cells #[.slice none 0 0, .slice none 0 0] 25)).setRow w4.heap.size #[.slice P4 N c4, .slice Q4 N d4] = w5; have NB : Hid (Arr w5 w4.heap.size [.slice P4 N c4, .slice Q4 N d4] 25) := Lib.hid (by rw [← hw]; exact (Arr.new w4 [.slice none 0 0, .slice none 0 0] _ rfl).row); have b5 : Below w4.heap.size w4 w5 := (by rw [← hw]; exact below_setRow ((Below.refl _ _).alloc (Nat.le_refl _) _) (Nat.le_refl _) _); have s5 : w4.heap.size + 1 ≤ w5.heap.size := (by rw [← hw]; simp); clear hw; have OH5 := Lib.hid (OH4.out.keep b5); have SG5 := Lib.hid (SG4.out.keep b5 (Nat.le_refl _)); clear b5 OH4 SG4; have n0 := NB.out.cell (k := 0) rfl; have n1 := NB.out.cell (k := 1) rfl)
          have HB := Lib.hid (fun y hy => by have := OJ2.out.sf y hy; have h1 := this.lr; have h2 := this.lu; exact (⟨by omega, by omega⟩ : y.1.length ≤ 1048576 ∧ y.2.length ≤ 1048576))
          have l1 : (stp lt x).1.length ≤ 1048576 := by rw [CS4.out.lr]; omega
          have l2 : (stp lt x).2.length ≤ 1048576 := by rw [CS4.out.lu]; omega
          refine (find_spec (some ⟨gx, off, none⟩) q'.1.length ca' q'.1 _ (stp lt x) _ _ _ (Os.lrd OH5.out.os) SG5.out.rd (by omega) HB.out l1 l2).mono ?_
          rintro e w6 ⟨rfl, b6⟩
          have OH6 := Lib.hid (OH5.out.keep b6)
          have SG6 := Lib.hid (SG5.out.keep b6 SG5.out.top)
          replace NB := Lib.hid (NB.out.keep b6 NB.out.lt)
          have s6 := b6.size
          clear b6 OH5 SG5 n0 n1
          have n0 := NB.out.cell (k := 0) rfl
          have n1 := NB.out.cell (k := 1) rfl
          by_cases hm : stp lt x ∈ q'.1
          · have EQ := Lib.hid (addL_in (k := k) EX.out hm)
            have hF : ¬ fnd q'.1 (stp lt x) < 0 := fun h => (fnd_neg.1 h) hm
            clear hm
            generalize fnd q'.1 (stp lt x) = F at *
            go_wp2_with fail
            go_roundw
            case rel => exact ⟨j + 1, by omega, by go_num, _, by rw [MQ.out, EQ.out]; exact OH6.out⟩
            case measure => simp [intOf]; omega
          · have EQ := Lib.hid (addL_new (k := k) EX.out EW.out hm)
            have hF : fnd q'.1 (stp lt x) = -1 := fnd_no.2 hm
            rw [hF]
            clear hF hm
            obtain ⟨hs, bl, o1, r1⟩ := OH6.out.os.ex
            have O1 := Lib.hid o1; have R1 := Lib.hid r1; clear o1 r1
            obtain ⟨i0, hi0, hz0, hz1, hz2⟩ := info_parts infoSf
            have hbase : w.heap.size ≤ w6.heap.size := Nat.le_trans OH6.out.os.low OH6.out.os.top
            go_wp2_with (at_builtin; refine wpList_append_lies (w6.alloc (.cells #[.slice P4 N c4, .slice Q4 N d4] 25)) rfl _ _ 27 rfl w.heap.size 25 i0 _ 2 48 sqp.underlying27 hi0 hz0 hz1 hz2 rfl (by decide) _ q'.1.length hs rfl (O1.out.alloc _) ⟨w6.heap.size, 0, none⟩ 1 1 [.slice P4 N c4, .slice Q4 N d4] rfl rfl ?hn ?h1 (by decide) ?c4 ?c5 ?c6 _ rfl ?_)
            case hn => exact World.news_of_block (Arr.new w6 _ _ rfl)
            case h1 => intro q hq; simp at hq; rcases hq with rfl | rfl <;> rfl
            case c4 => unfold maxLen; omega
            case c5 => omega
            case c6 => simp; omega
            intro g7 cap7 w7 ho hg hb hlt7
            have OS7 := Lib.hid (Os.push OH6.out.os R1.out SG6.out.wide hpos hpos OJ.out.os.top ((Below.refl w6.heap.size w6).alloc (Nat.le_refl _) _) rfl ho hg (by simpa using hb) hlt7)
            have hwo : wo.heap.size < w6.heap.size := OH6.out.box.lt
            have BX7 : Hid (Arr w7 wo.heap.size [.int .u8 84, .int .u8 83] 5) := Lib.hid ((hg.block _ (by simp; omega) (fun e => OH6.out.nv e.symm)).trans (OH6.out.box.alloc _))
            have NV7 : Hid (¬ g7 = wo.heap.size) := Lib.hid (fun e => by
              rcases hb with q | q
              · exact OH6.out.nv (by rw [q, e])
              · omega)
            have NU7 := Lib.hid OH6.out.nu
            obtain ⟨gb, eB, hcw, hgb⟩ := Os.word (k := k) OS7.out HW.out
            subst eB
            have hk2 : k < q'.2.length := (List.getElem?_eq_some_iff.1 HW.out).1
            have hl7 := OJ2.out.len
            have hwl : wd.length ≤ 122 := by omega
            have hwz : (⟨wd.toArray⟩ : ByteArray).size ≤ 122 := by show wd.toArray.size ≤ 122; simpa using hwl
            have hca : ∀ o, (w7.alloc o).cell? ⟨gb, 0 + k, none⟩ = some (.string ⟨wd.toArray⟩) := fun o => by rw [World.cell?_alloc_lt _ _ _ hgb]; exact hcw
            rw [Nat.zero_add] at hcw
            simp only [Nat.zero_add] at hca
            clear ho hg hb O1 R1 OH6 SG6 NB n0 n1
            obtain ⟨j0, hj0, hy0, hy1, hy2⟩ := info_parts infoSt
            have hbase7 : w.heap.size ≤ w7.heap.size := OS7.out.low
            have O7 : Hid (w7.ownsRow w.heap.size 9 1 (.slice (some ⟨gb, 0, none⟩) q'.2.length db') q'.2.length (q'.2.map fun x => Value.string ⟨x.toArray⟩)) := Lib.hid OS7.out.own
            have hk22 : q'.2.length ≤ 122 := by omega
            have EWD : Hid ((⟨wd.toArray⟩ : ByteArray) ++ ⟨#[lt]⟩ = ⟨(wd ++ [lt]).toArray⟩) := Lib.hid (ByteArray.mk_append_mk wd [lt])
            have WB : Hid (Below w7.heap.size w7 ((w7.alloc (.cells #[.int .u8 (lt.toNat : Int)] 5)).alloc (.cells #[.string (⟨wd.toArray⟩ ++ ⟨#[lt]⟩)] 9)).drew) := Lib.hid (((Below.refl _ _).alloc (Nat.le_refl _) _).alloc (by simp) _).drew
            have O8 : Hid (((w7.alloc (.cells #[.int .u8 (lt.toNat : Int)] 5)).alloc (.cells #[.string (⟨wd.toArray⟩ ++ ⟨#[lt]⟩)] 9)).drew.ownsRow w.heap.size 9 1 (.slice (some ⟨gb, 0, none⟩) q'.2.length db') q'.2.length (q'.2.map fun x => Value.string ⟨x.toArray⟩)) := Lib.hid ((O7.out.alloc _).alloc _)
            have N8 : Hid (∀ (j : Nat) (u : Value), [Value.string ((⟨wd.toArray⟩ : ByteArray) ++ ⟨#[lt]⟩)][j]? = some u → ((w7.alloc (.cells #[.int .u8 (lt.toNat : Int)] 5)).alloc (.cells #[.string (⟨wd.toArray⟩ ++ ⟨#[lt]⟩)] 9)).drew.cell? ((⟨w7.heap.size + 1, 0, none⟩ : Addr).add j) = some u) := Lib.hid (by
              have := World.news_of_block (Arr.new (w7.alloc (.cells #[.int .u8 (lt.toNat : Int)] 5)) [.string ((⟨wd.toArray⟩ : ByteArray) ++ ⟨#[lt]⟩)] 9 (g := w7.heap.size + 1) (by simp))
              exact this)
            have T8 : Hid (w.heap.size ≤ ((w7.alloc (.cells #[.int .u8 (lt.toNat : Int)] 5)).alloc (.cells #[.string (⟨wd.toArray⟩ ++ ⟨#[lt]⟩)] 9)).drew.heap.size) := Lib.hid (Nat.le_trans hbase7 WB.out.size)
            have Z8 : Hid (((w7.alloc (.cells #[.int .u8 (lt.toNat : Int)] 5)).alloc (.cells #[.string (⟨wd.toArray⟩ ++ ⟨#[lt]⟩)] 9)).drew.heap.size = w7.heap.size + 2) := Lib.hid (by show ((w7.alloc _).alloc _).heap.size = _; simp)
            have U8 : Hid (∀ q ∈ [Value.string ((⟨wd.toArray⟩ : ByteArray) ++ ⟨#[lt]⟩)], q.oneCell' = true) := Lib.hid (by intro q hq; simp at hq; subst hq; rfl)
            have m8 : q'.2.length + 1 ≤ maxLen := by unfold maxLen; omega
            have HL7 := Lib.hid hl7; clear hl7
            have kc := fun (W : World) (n : Int) => run_byte_string (P := sqp.prog) W 22 9 5 5 n sqp.underlying22 sqp.underlying5 sqp.underlying9
            have kd := fun (W : World) (n : Int) => run_byte_drew (P := sqp.prog) W 22 9 5 5 n sqp.underlying22 sqp.underlying5 sqp.underlying9
            have hwn : ¬ 9223372036854775807 < wd.length + 1 := by omega
            go_wp2_with fail
            go_region_law (refine step_append_lies ((w7.alloc (.cells #[.int .u8 (lt.toNat : Int)] 5)).alloc (.cells #[.string (⟨wd.toArray⟩ ++ ⟨#[lt]⟩)] 9)).drew rfl _ _ 81 rfl w.heap.size 9 j0 (.string ⟨#[]⟩) 1 16 sqp.underlying81 hj0 hy0 hy1 hy2 rfl (by decide) (.slice (some ⟨gb, 0, none⟩) q'.2.length db') q'.2.length (q'.2.map fun x => Value.string ⟨x.toArray⟩) rfl O8.out ⟨w7.heap.size + 1, 0, none⟩ 1 1 [.string (⟨wd.toArray⟩ ++ ⟨#[lt]⟩)] rfl rfl N8.out U8.out (by decide) m8 (by omega) T8.out (w7.heap.size + 2) Z8.out ?_; intro g8 cap8 w8 ho hg hb hlt8)
            all_goals
              have OH8 : Hid (Oh w w8.heap.size w8 wo.heap.size (.slice (some ⟨g7, 0, none⟩) (q'.1.length + 1) cap7) (.slice (some ⟨g8, 0, none⟩) (q'.2.length + 1) cap8) (addL k lt q')) := Lib.hid (by
                rw [EQ.out]
                rw [EWD.out] at ho
                have hw7 : wo.heap.size < w7.heap.size := BX7.out.lt
                refine ⟨Os.pushW OS7.out WB.out rfl ho hg (by rw [Z8.out]; exact hb) hlt8, (hg.block _ (Nat.lt_of_lt_of_le hw7 WB.out.size) (fun e => NU7.out e.symm)).trans (BX7.out.keep WB.out hw7), fun e => NV7.out (by simpa [Value.ownBlock] using e), fun e => ?_⟩
                have e2 : g8 = wo.heap.size := by simpa [Value.ownBlock] using e
                rcases hb with q9 | q9
                · exact NU7.out (by rw [q9, e2])
                · omega)
              clear ho hg hb OS7 BX7 NV7 NU7 WB O8 N8 T8 Z8 U8 O7
              go_wp2_with fail
              go_roundw
              case rel => exact ⟨j + 1, by omega, by go_num, _, by rw [MQ.out]; exact OH8.out⟩
              case measure => simp [intOf]; omega
        · obtain rfl : j = 2 := by omega
          obtain ⟨hk1, hk2⟩ := hsub 2
          have OI2 := Lib.hid (MO.out 2)
          have e2 : mid k 2 q = two k q := rfl
          rw [e2] at OJ hk1 hk2 OI2
          obtain ⟨A', ca', B', db', rfl, rfl⟩ := OJ.out.os.forms
          clear e2 MO hsub
          by_cases hbig : 120 < (two k q).1.length
          · have HR : Hid (orb (r, u) = none) := Lib.hid (by rw [← HG.out.run, show 122 - k = (121 - k) + 1 by omega, orun_big hlt hbig])
            generalize two k q = q' at *
            go_wp2_with fail
            go_ret3
            unfold OPost
            rw [HR.out]
            exact ⟨rfl, OJ.out.os.bel⟩
          · have HN : Hid (Og (r, u) N w wr (.slice A' (two k q).1.length ca') (.slice B' (two k q).2.length db') (k + 1) (two k q)) :=
              Lib.hid ⟨OJ.out.os.up, OI2.out, by rw [← HG.out.run, show 122 - k = (122 - (k + 1)) + 1 by omega, orun_step hlt hbig], hk1, by omega⟩
            clear OJ OI2
            generalize two k q = q' at *
            go_wp2_with fail
            go_roundw
            case rel => exact ⟨k + 1, q', by go_num, HN.out⟩
            case measure => simp [intOf]; omega
    · obtain rfl : k = q.1.length := by omega
      have HR : Hid (orb (r, u) = some q) := Lib.hid (by rw [← HG.out.run, show 122 - q.1.length = (121 - q.1.length) + 1 by omega, orun_done hlt])
      go_wp2_with fail
      go_ret3
      unfold OPost
      rw [HR.out]
      exact ⟨_, _, rfl, HG.out.os⟩
end Go.Proofs.Ytgcnemkhppkkcaa.orb

namespace Go.Proofs.Ytgcnemkhppkkcaa.orb
open Go.ChangeShapes Go.WideShapes Go.ChangeAt Go.RowKit Go.Joins Go.Deep
open mem ints arr pm sf mat
set_option linter.unusedVariables false
set_option maxRecDepth 100000
def Lo (w : World) (base hi : Nat) (v : Value) (L : List Sur) : Prop :=
  ∃ hs bl, w.ownsRow base 25 2 v L.length hs ∧ Ls w base hi (fun b => v.ownBlock = some b) bl hs L ∧ (∀ b, v.ownBlock = some b → b < hi)
theorem Os.lo {w0 w : World} {base hi : Nat} {v u : Value} {q : LW} (h : Os w0 w base hi v u q) : Lo w base hi v q.1 := by
  obtain ⟨hs, bl, o1, r⟩ := h.ex
  exact ⟨hs, bl, o1, r.to (Nat.le_refl _) (Nat.le_refl _) r.top (fun b _ _ e e' => e (.inl e')), h.vlt⟩
theorem Lo.nil (w : World) (base hi : Nat) (h : hi ≤ w.heap.size) : Lo w base hi (.slice none 0 0) [] :=
  ⟨[], fun _ => (0, 0), ⟨rfl, .inl ⟨rfl, rfl⟩⟩, Ls.nil _ _ _ _ _ h, fun b e => by simp [Value.ownBlock] at e⟩
theorem Lo.top {w : World} {base hi : Nat} {v : Value} {L : List Sur} (h : Lo w base hi v L) : hi ≤ w.heap.size := by
  obtain ⟨hs, bl, o1, r, _⟩ := h
  exact r.top
theorem Lo.keep {w w' : World} {base hi B : Nat} {v : Value} {L : List Sur} (h : Lo w base hi v L) (hb : Below B w w') (hB : hi ≤ B) : Lo w' base hi v L := by
  obtain ⟨hs, bl, o1, r, vl⟩ := h
  exact ⟨hs, bl, own_block_keep o1 (fun b e => hb.block b (Nat.lt_of_lt_of_le (vl b e) hB)), r.keep hb.size (fun b _ q2 _ => hb.block b (by omega)), vl⟩
theorem Lo.lrd {w : World} {base hi c : Nat} {A : Option Addr} {L : List Sur} (h : Lo w base hi (.slice A L.length c) L) : Lrd w w.heap.size (.slice A L.length c) L := by
  obtain ⟨hs, bl, o1, r, _⟩ := h
  exact (r.to (Nat.le_refl _) r.top (Nat.le_refl _) (fun _ _ _ q => q)).lrd o1
end Go.Proofs.Ytgcnemkhppkkcaa.orb

namespace Go.Proofs.Ytgcnemkhppkkcaa.orb
open Go.ChangeShapes Go.WideShapes Go.ChangeAt Go.RowKit
open mem ints arr pm sf
set_option linter.unusedVariables false
set_option maxRecDepth 100000
def orbF (r u : List Int) : Option LW := if transB r u then orb (r, u) else none
def orbL (r u : List Int) : List Sur := match orbF r u with | some q => q.1 | none => []
def orbB (r u : List Int) : Bool := (orbF r u).isSome
theorem orbL_some {r u : List Int} {q : LW} (h : orbF r u = some q) : orbL r u = q.1 ∧ orbB r u = true := by simp [orbL, orbB, h]
theorem orbL_none {r u : List Int} (h : orbF r u = none) : orbL r u = [] ∧ orbB r u = false := by simp [orbL, orbB, h]
theorem orbF_no {r u : List Int} (h : transB r u = false) : orbF r u = none := by simp [orbF, h]
theorem orbF_yes {r u : List Int} (h : transB r u = true) : orbF r u = orb (r, u) := by simp [orbF, h]
theorem orun_inv {N : Nat} : ∀ (f k : Nat) (q q' : LW), Oi N q → q.1.length ≤ 120 → orun f k q = some q' → Oi N q' ∧ q'.1.length ≤ 120
  | 0, k, q, q', _, _, h => by simp [orun] at h
  | f + 1, k, q, q', hq, hl, h => by
    unfold orun at h
    split at h
    · rename_i hk
      split at h
      · cases h
      · rename_i hs
        exact orun_inv f (k + 1) _ q' (by have := mid_oi (i := 2) hq hk; exact this) (by omega) h
    · injection h with h
      subst h
      exact ⟨hq, hl⟩
theorem orbF_inv {r u : List Int} {q : LW} (h : orbF r u = some q) : Sf r.length r u ∧ Oi r.length q ∧ q.1.length ≤ 120 := by
  unfold orbF at h
  split at h
  · rename_i ht
    have s := transB_iff.1 ht
    exact ⟨s, orun_inv 122 0 _ q (Oi.start s) (by simp) h⟩
  · cases h
theorem Lo.low {w : World} {base base' hi : Nat} {v : Value} {L : List Sur} (h : Lo w base hi v L) (hb : base' ≤ base) : Lo w base' hi v L := by
  obtain ⟨hs, bl, o1, r, vl⟩ := h
  refine ⟨hs, bl, ⟨o1.1, ?_⟩, r.to hb (Nat.le_refl _) r.top (fun _ _ _ q => q), vl⟩
  rcases o1.2 with q | ⟨g, cap, cur, q1, q2, q3⟩
  · exact .inl q
  · exact .inr ⟨g, cap, cur, q1, Nat.le_trans hb q2, q3⟩
theorem Lo.up {w : World} {base hi : Nat} {v : Value} {L : List Sur} (h : Lo w base hi v L) : Lo w base w.heap.size v L := by
  obtain ⟨hs, bl, o1, r, vl⟩ := h
  exact ⟨hs, bl, o1, r.to (Nat.le_refl _) r.top (Nat.le_refl _) (fun _ _ _ q => q), fun b e => Nat.lt_of_lt_of_le (vl b e) r.top⟩
def OOPost (r u : List Int) (w : World) (e : Ending) (w' : World) : Prop :=
  ∃ A c, e = .returned (.tuple #[.slice A (orbL r u).length c, .bool (orbB r u)]) ∧ Lo w' w.heap.size w'.heap.size (.slice A (orbL r u).length c) (orbL r u) ∧ Below w.heap.size w w'
theorem oo_no {r u : List Int} {w w' : World} (h : orbF r u = none) (hb : Below w.heap.size w w') : OOPost r u w (.returned (.tuple #[.slice none 0 0, .bool false])) w' := by
  obtain ⟨e1, e2⟩ := orbL_none h
  refine ⟨none, 0, by rw [e1, e2]; rfl, ?_, hb⟩
  rw [e1]
  exact Lo.nil _ _ _ (Nat.le_refl _)
set_option maxHeartbeats 1000000 in
theorem oo_spec (v : Value) (r u : List Int) (hi : Nat) (w : World) (hx : Srd w hi v r u) (hn : r.length ≤ 1048576) (hm : u.length ≤ 1048576) :
    Calls sqp.prog 55 #[v] w (OOPost r u w) := by
  have HX := Lib.hid hx; clear hx
  obtain ⟨P, n, c, Q, m, d, rfl, q1, q2, e1, e2, ht, HR⟩ := HX.out.open
  clear HR q1 q2
  go_enter sqp.func55, sqp.ntmps55
  go_wp2_with fail
  refine (ok_spec _ r u hi _ (HX.out.keep ((Below.refl hi w).alloc ht _) (Nat.le_refl _)) hn hm).mono ?_
  rintro e w1 ⟨rfl, b1⟩
  have A0 := Lib.hid ((Arr.new w [.slice P n c, .slice Q m d] 25 rfl).keep b1 (by simp))
  have c0 := A0.out.cell (k := 0) rfl; have c1 := A0.out.cell (k := 1) rfl
  have B1 := Lib.hid (below1 _ _ b1); clear b1
  have X1 := Lib.hid (HX.out.keep (B1.out.mono ht) (Nat.le_refl _))
  have hs1 := B1.out.size
  cases hq : transB r u
  · have HF := Lib.hid (orbF_no hq); clear hq
    go_wp2_with fail
    go_ret2
    exact oo_no HF.out B1.out
  · have HS := Lib.hid (transB_iff.1 hq)
    have HF := Lib.hid (orbF_yes hq); clear hq
    go_wp2_with fail
    refine (orbit_spec _ r u _ hi _ X1.out HS.out).mono ?_
    intro e w2 hp
    unfold OPost at hp
    cases ho : orb (r, u) with
    | none =>
      rw [ho] at hp
      obtain ⟨rfl, b2⟩ := hp
      have HF2 : Hid (orbF r u = none) := Lib.hid (by rw [HF.out, ho])
      have B2 := Lib.hid (B1.out.trans (b2.mono hs1))
      clear ho b2 c0 c1 A0
      go_wp2_with fail
      go_ret2
      exact oo_no HF2.out B2.out
    | some q =>
      rw [ho] at hp
      obtain ⟨v', u', rfl, os⟩ := hp
      have HF2 : Hid (orbF r u = some q) := Lib.hid (by rw [HF.out, ho])
      obtain ⟨A', ca, B', db, rfl, rfl⟩ := os.forms
      have LO := Lib.hid ((os.lo).low hs1)
      have B2 := Lib.hid (B1.out.trans (os.bel.mono hs1))
      clear ho os c0 c1 A0
      go_wp2_with fail
      go_ret2
      obtain ⟨x1, x2⟩ := orbL_some HF2.out
      refine ⟨A', ca, by rw [x1, x2]; rfl, ?_, B2.out⟩
      rw [x1]
      exact LO.out
end Go.Proofs.Ytgcnemkhppkkcaa.orb

namespace Go.Proofs.Ytgcnemkhppkkcaa.orb
open Go.ChangeShapes Go.WideShapes Go.ChangeAt Go.RowKit
open mem ints arr pm sf gl
set_option linter.unusedVariables false
set_option maxRecDepth 100000
end Go.Proofs.Ytgcnemkhppkkcaa.orb

namespace Go.Proofs.Ytgcnemkhppkkcaa.orb
open Go.ChangeShapes Go.WideShapes Go.ChangeAt Go.RowKit Go.Maps
open mem ints arr pm sf gl
set_option linter.unusedVariables false
set_option maxRecDepth 100000
theorem fdsV_at {n : Nat} {xs : List Fd} {k : Nat} {x : Fd} (hx : xs[k]? = some x) : ∀ (j : Nat) v, (V (fdL x.1 n x.2.1 x.2.2))[j]? = some v → (fdsV n xs)[k * 51 + j]? = some v := by
  induction xs generalizing k with
  | nil => simp at hx
  | cons y ys ih =>
    intro j v hj
    have hl : j < 51 := by have := (List.getElem?_eq_some_iff.1 hj).1; rwa [V_len, fdL_len] at this
    have e : fdsV n (y :: ys) = V (fdL y.1 n y.2.1 y.2.2) ++ fdsV n ys := rfl
    have ly : (V (fdL y.1 n y.2.1 y.2.2)).length = 51 := by rw [V_len, fdL_len]
    rw [e]
    cases k with
    | zero =>
      obtain rfl : y = x := by simpa using hx
      rw [List.getElem?_append_left (by omega), Nat.zero_mul, Nat.zero_add]
      exact hj
    | succ k =>
      rw [List.getElem?_append_right (by rw [ly]; omega), ly, show (k + 1) * 51 + j - 51 = k * 51 + j by omega]
      exact ih (by simpa using hx) j v hj
theorem fds_mem {w : World} {B n : Nat} {xs : List Fd} {A : Option Addr} {cp m : Nat} (h : w.ownsRow B 65 51 (.slice A m cp) m (fdsV n xs)) (hm : m = xs.length) (h0 : 0 < m) :
    ∃ g, A = some ⟨g, 0, none⟩ ∧ g < w.heap.size ∧ ∀ (k : Nat) x, xs[k]? = some x → ∀ (j : Nat) v, (V (fdL x.1 n x.2.1 x.2.2))[j]? = some v → w.cell? ⟨g, k * 51 + j, none⟩ = some v := by
  subst hm
  rcases h.2 with ⟨_, q⟩ | ⟨g, cap, cur, q1, q2, q3, q4, q5, q6, q7⟩
  · omega
  · injection q1 with e1 e2 e3
    refine ⟨g, e1, ?_, fun k x hx j v hj => ?_⟩
    · rcases Nat.lt_or_ge g w.heap.size with hlt | hge
      · exact hlt
      · rw [Array.getElem?_eq_none hge] at q3; cases q3
    have h1 := fdsV_at (n := n) hx j v hj
    rw [cell_of_row w g _ cur _ _ q3]
    have h2 : (List.take (xs.length * 51) cur.toList)[k * 51 + j]? = some v := by rw [q7]; exact h1
    rw [List.getElem?_take] at h2
    split at h2
    · simpa using h2
    · cases h2
theorem fin_open {r u : List Int} (h : transB r u = true) (hl : (finds (r, u)).length ≤ 120) :
    ∃ q, orbF r u = some q ∧ Fq (finds (r, u)) q ∧ orbL r u = (finds (r, u)).map Prod.fst ∧ orbB r u = true ∧ Oi r.length q ∧ ∀ x ∈ finds (r, u), Sf r.length x.1.1 x.1.2 := by
  rcases finds_orb (r, u) with ⟨a, b⟩ | ⟨a, q, b, c⟩
  · omega
  · have e : orbF r u = some q := by rw [orbF_yes h]; exact b
    obtain ⟨x, y⟩ := orbL_some e
    obtain ⟨z1, z2, z3⟩ := orbF_inv e
    refine ⟨q, e, c, by rw [x, c.fst], y, z2, fun f hf => z2.sf f.1 (by rw [c.fst]; exact List.mem_map_of_mem hf)⟩
theorem fin_shut {r u : List Int} (h : transB r u = false ∨ 120 < (finds (r, u)).length) : orbF r u = none := by
  rcases h with h | h
  · exact orbF_no h
  · rcases finds_orb (r, u) with ⟨a, b⟩ | ⟨a, q, b, c⟩
    · cases ht : transB r u
      · exact orbF_no ht
      · rw [orbF_yes ht]; exact b
    · omega
theorem frun_ge : ∀ (f k : Nat) (xs : List Fd), xs.length ≤ (frun f k xs).length
  | 0, _, xs => Nat.le_refl _
  | f + 1, k, xs => by
    rw [frun]
    split
    · exact Nat.le_trans (twoF_len k xs).1 (frun_ge f (k + 1) (twoF k xs))
    · exact Nat.le_refl _
theorem finds_pos (s : Sur) : 0 < (finds s).length := Nat.lt_of_lt_of_le (by simp) (frun_ge 122 0 [(cn s, 0, 0)])
end Go.Proofs.Ytgcnemkhppkkcaa.orb

namespace Go.Proofs.Ytgcnemkhppkkcaa.orb
open Go.ChangeShapes Go.WideShapes Go.ChangeAt Go.RowKit Go.Maps
open mem ints arr pm sf gl
set_option linter.unusedVariables false
set_option maxRecDepth 100000
theorem ext_eq {xs ys : List Int} {n : Nat} (hx : xs.length = n) (hy : ys.length = n) (hn : n ≤ 24) (h : ext xs = ext ys) : xs = ys := by
  have h1 := take_ext xs (by omega)
  have h2 := take_ext ys (by omega)
  calc xs = (ext xs).take xs.length := h1.symm
    _ = (ext ys).take ys.length := by rw [h, hx, hy]
    _ = ys := h2
theorem gS_eq {s x : Sur} {n n' : Nat} (hs : Sf n s.1 s.2) (hx : Sf n' x.1 x.2) : (ext s.1 = ext x.1 ∧ ext s.2 = ext x.2 ∧ n = n') ↔ s = x := by
  constructor
  · rintro ⟨h1, h2, rfl⟩
    have n24 : n ≤ 24 := hs.small
    exact Prod.ext (ext_eq hs.lr hx.lr n24 h1) (ext_eq hs.lu hx.lu n24 h2)
  · rintro rfl
    exact ⟨rfl, rfl, by rw [← hs.lr, ← hx.lr]⟩
theorem eqv_gl {s x : Sur} {n n' : Nat} (hs : Sf n s.1 s.2) (hx : Sf n' x.1 x.2) (w : World) :
    (Op.equalIn 10000 62 (.agg (V (gS s n)).toArray) (.agg (V (gS x n')).toArray)).run sqp.prog w = .ok (decide (s = x)) w := by
  have h := eq_gl2 (ext_len s.1) (ext_len s.2) (ext_len x.1) (ext_len x.2) n n' w
  have e : decide (ext s.1 = ext x.1 ∧ ext s.2 = ext x.2 ∧ n = n') = decide (s = x) := by rw [decide_eq_decide]; exact gS_eq hs hx
  rw [e] at h
  exact h
set_option maxHeartbeats 1000000 in
theorem clo_any (s : Sur) (n p l : Nat) (x : Sur) (n' fb : Nat) (w : World) (hs : Sf n s.1 s.2) (hx : Sf n' x.1 x.2) (hb : Arr w fb (V (gS x n')) 62) :
    Calls sqp.prog 70 #[.agg (V (fdL s n p l)).toArray, .pointer (some ⟨fb, 0, none⟩)] w fun e w' => e = .returned (.bool (decide (s = x))) ∧ Below w.heap.size w w' := by
  have EQ := Lib.hid (eqv_gl hs hx)
  have FB := Lib.hid (hb.alloc (.cells (V (fdL s n p l)).toArray 65))
  have L49 := gS_len s n
  have M49 := gS_len x n'
  have L51 := fdL_len s n p l
  have PX : Hid (∀ (j : Nat) v, (V (gS s n))[j]? = some v → (w.alloc (.cells (V (fdL s n p l)).toArray 65)).cell? ⟨w.heap.size, 0 + j, none⟩ = some v) := Lib.hid (fun j v h => by rw [Nat.zero_add]; exact (Arr.new w _ _ rfl).cell (part_find s n p l j v h))
  have B1 : Hid (Below w.heap.size w (w.alloc (.cells (V (fdL s n p l)).toArray 65))) := Lib.hid ((Below.refl _ _).alloc (Nat.le_refl _) _)
  clear hs hx hb
  generalize hd : decide (s = x) = d at *
  clear hd
  generalize fdL s n p l = LX at *
  generalize gS s n = GS at *
  generalize gS x n' = GX at *
  go_enter sqp.func70, sqp.ntmps70
  go_wp2_with (first | (refine wpList_load_part rfl 62 _ rfl w.heap.size 0 rfl (V GS) _ PX.out sqp.underlying62 rfl (size49 L49) ?_) | (refine wpList_load_row rfl 62 _ rfl fb rfl 62 (V GX).toArray (0, 0) _ FB.out sqp.underlying62 rfl (size49 M49) ?_) | (refine wpList_eql_gl rfl _ _ _ rfl _ _ rfl rfl d (EQ.out _) ?_))
  go_ret
  exact ⟨rfl, B1.out⟩
def Fm (w : World) (A : Option Addr) (n : Nat) (xs : List Fd) : Prop :=
  ∀ (k : Nat) x, xs[k]? = some x → ∃ g, A = some ⟨g, 0, none⟩ ∧ g < w.heap.size ∧ ∀ (j : Nat) v, (V (fdL x.1 n x.2.1 x.2.2))[j]? = some v → w.cell? ⟨g, k * 51 + j, none⟩ = some v
theorem Fm.keep {w w' : World} {A : Option Addr} {n B : Nat} {xs : List Fd} (h : Fm w A n xs) (hb : Below B w w') (hB : w.heap.size ≤ B) : Fm w' A n xs := fun k x hx => by
  obtain ⟨g, e, hg, hc⟩ := h k x hx
  exact ⟨g, e, Nat.lt_of_lt_of_le hg hb.size, fun j v hv => by rw [hb.cell (p := ⟨g, k * 51 + j, none⟩) (Nat.lt_of_lt_of_le hg hB)]; exact hc j v hv⟩
theorem Fm.nil (w : World) (A : Option Addr) (n : Nat) : Fm w A n [] := fun k x hx => by simp at hx
theorem Fm.of {w : World} {B n : Nat} {xs : List Fd} {A : Option Addr} {cp m : Nat} (h : w.ownsRow B 65 51 (.slice A m cp) m (fdsV n xs)) (hm : m = xs.length) (h0 : 0 < m) : Fm w A n xs := fun k x hx => by
  obtain ⟨g, e, hg, hc⟩ := fds_mem h hm h0
  exact ⟨g, e, hg, hc k x hx⟩
set_option maxHeartbeats 2000000 in
theorem ixf_any (xs : List Fd) (n : Nat) (x : Sur) (n' : Nat) (A : Option Addr) (N cp fb : Nat) (w : World) (hN : xs.length = N) (hm : Fm w A n xs) (hb : Arr w fb (V (gS x n')) 62) (hl : N ≤ 1000) (hs : ∀ y ∈ xs, Sf n y.1.1 y.1.2) (hx : Sf n' x.1 x.2) :
    Calls sqp.prog 69 #[.slice A N cp, .func (.func 70) #[] #[.pointer (some ⟨fb, 0, none⟩)]] w
      fun e w' => e = .returned (.int .i64 (fnd (xs.map Prod.fst) x)) ∧ Below w.heap.size w w' := by
  have HM := Lib.hid hm; have HB := Lib.hid hb; have HS := Lib.hid hs; have HX := Lib.hid hx; have LN := Lib.hid hN
  clear hm hb hs hx hN
  go_enter sqp.func69, sqp.ntmps69
  go_wp2
  go_loopw [5, 8] (fun _ i wr => ∃ k : Nat, k ≤ N ∧ i = .int .i64 k ∧ Below w.heap.size w wr ∧ Hid (∀ j, j < k → (xs.map Prod.fst)[j]? ≠ some x)) (fun _ i _ => N - (intOf i).toNat)
  case atStart => exact ⟨0, Nat.zero_le _, rfl, Below.refl _ _, Lib.hid (fun j hj => by omega)⟩
  case round =>
    obtain ⟨k, hk, rfl, hbl, HNO⟩ := hrel
    have BL := Lib.hid hbl; clear hbl
    have hsz := BL.out.size
    by_cases hlt : k < N
    · obtain ⟨y, hyk⟩ : ∃ y, xs[k]? = some y := ⟨_, List.getElem?_eq_getElem (by rw [LN.out]; exact hlt)⟩
      obtain ⟨g, rfl, hg, hc⟩ := HM.out k y hyk
      have PX : Hid (∀ (j : Nat) v, (V (fdL y.1 n y.2.1 y.2.2))[j]? = some v → wr.cell? ⟨g, k * 51 + j, none⟩ = some v) := Lib.hid (fun j v hv => by rw [BL.out.cell (p := ⟨g, k * 51 + j, none⟩) hg]; exact hc j v hv)
      have FY : Hid ((xs.map Prod.fst)[k]? = some y.1) := Lib.hid (by simp [hyk])
      have CL := Lib.hid (clo_any y.1 n y.2.1 y.2.2 x n' fb wr (HS.out y (List.mem_of_getElem? hyk)) HX.out (HB.out.keep BL.out HB.out.lt))
      have L51 := fdL_len y.1 n y.2.1 y.2.2
      clear hc hyk
      generalize hLX : fdL y.1 n y.2.1 y.2.2 = LX at *
      clear hLX
      go_wp2_with (refine wpList_load_part rfl 65 _ rfl g (k * 51) rfl (V LX) _ PX.out sqp.underlying65 rfl (by rw [size51 L51]; simp) ?_)
      refine CL.out.mono ?_
      rintro e w3 ⟨rfl, b1⟩
      have B3 := Lib.hid (BL.out.trans (b1.mono hsz)); clear b1 CL PX
      by_cases hyx : y.1 = x
      · have HF : Hid (fnd (xs.map Prod.fst) x = k) := Lib.hid (fnd_at (by rw [FY.out, hyx]) HNO.out)
        rw [decide_eq_true hyx]
        clear hyx
        go_wp2
        go_ret
        exact ⟨ret_int HF.out.symm, B3.out⟩
      · have NX : Hid (∀ j, j < k + 1 → (xs.map Prod.fst)[j]? ≠ some x) := Lib.hid (fun j hj => by
          by_cases e : j = k
          · subst e; rw [FY.out]; exact fun h => hyx (Option.some.inj h)
          · exact HNO.out j (by omega))
        rw [decide_eq_false hyx]
        clear hyx
        go_wp2
        go_roundw
        case rel => exact ⟨k + 1, by omega, by go_num, B3.out, NX⟩
        case measure => simp [intOf]; omega
    · have HF : Hid (fnd (xs.map Prod.fst) x = -1) := Lib.hid (fnd_none (fun j hj => HNO.out j (by simp at hj; have := LN.out; omega)))
      go_wp2
      go_ret
      exact ⟨ret_int HF.out.symm, BL.out⟩
def poF (L : List Sur) (r u : List Int) : Int := if transB r u then fnd L (cn (r, u)) else -1
theorem poF_no {L : List Sur} {r u : List Int} (h : transB r u = false) : poF L r u = -1 := by simp [poF, h]
theorem poF_yes {L : List Sur} {r u : List Int} (h : transB r u = true) : poF L r u = fnd L (cn (r, u)) := by simp [poF, h]
theorem poF_nil (r u : List Int) : poF [] r u = -1 := by unfold poF; split <;> rfl
set_option maxHeartbeats 4000000 in
theorem po_any (xs : List Fd) (n : Nat) (A : Option Addr) (N cp : Nat) (v : Value) (r u : List Int) (hi : Nat) (w : World) (hN : xs.length = N) (hf : Fm w A n xs) (hl : N ≤ 1000) (hs : ∀ y ∈ xs, Sf n y.1.1 y.1.2) (hx : Srd w hi v r u) (hn : r.length ≤ 1048576) (hm : u.length ≤ 1048576) :
    Calls sqp.prog 41 #[.slice A N cp, v] w fun e w' => e = .returned (.int .i64 (poF (xs.map Prod.fst) r u)) ∧ Below w.heap.size w w' := by
  have HX := Lib.hid hx; have HF := Lib.hid hf; have HS := Lib.hid hs; have LN := Lib.hid hN; clear hf hs hN
  obtain ⟨P, k, c, Q, m, d, rfl, q1, q2, e1, e2, ht, HR⟩ := hx.open
  have L1 := Lib.hid q1
  clear hx q1 q2 HR
  go_enter sqp.func41, sqp.ntmps41
  go_wp2_with fail
  refine (gluingOf_any _ r u hi _ (HX.out.keep ((Below.refl hi w).alloc ht _) (Nat.le_refl _)) hn hm).mono ?_
  rintro e w1 ⟨rfl, b1⟩
  have B1 := Lib.hid (below1 _ _ b1)
  have hs1 : w.heap.size + 1 ≤ w1.heap.size := by have := b1.size; simpa using this
  clear b1
  cases hq : transB r u
  · have HO := Lib.hid (poF_no (L := xs.map Prod.fst) hq); clear hq
    go_wp2_with (refine wpList_store_row rfl 62 _ _ rfl w1.heap.size (V (glv r u)).toArray rfl rfl 62 (V zero49).toArray (Arr.new w1 (V zero49) _ rfl) (size49 (glv_len _ _)) (by simp [V_len, glv_len, zero49]) (one_V _) ?_; generalize hw_ : (w1.alloc (.cells #[.int .i64 0, .int .i64 0, .int .i64 0, .int .i64 0, .int .i64 0, .int .i64 0, .int .i64 0, .int .i64 0, .int .i64 0, .int .i64 0, .int .i64 0, .int .i64 0, .int .i64 0, .int .i64 0, .int .i64 0, .int .i64 0, .int .i64 0, .int .i64 0, .int .i64 0, .int .i64 0, .int .i64 0, .int .i64 0, .int .i64 0, .int .i64 0, .int .i64 0, .int .i64 0, .int .i64 0, .int .i64 0, .int .i64 0, .int .i64 0, .int .i64 0, .int .i64 0, .int .i64 0, .int .i64 0, .int .i64 0, .int .i64 0, .int .i64 0, .int .i64 0, .int .i64 0, .int .i64 0, .int .i64 0, .int .i64 0, .int .i64 0, .int .i64 0, .int .i64 0, .int .i64 0, .int .i64 0, .int .i64 0, .int .i64 0] 62)).setRow w1.heap.size (V (glv r u)).toArray = w2; have A2 : Hid (Arr w2 w1.heap.size (V (glv r u)) 62) := Lib.hid (by rw [← hw_]; exact (Arr.new w1 (V zero49) _ rfl).row); have b1 : Below w1.heap.size w1 w2 := (by rw [← hw_]; exact arr.below_setRow ((Below.refl _ _).alloc (Nat.le_refl _) _) (Nat.le_refl _) _); have t_w2 : w1.heap.size + 1 ≤ w2.heap.size := (by rw [← hw_]; simp); clear hw_; replace B1 := Lib.hid (B1.out.trans (b1.mono B1.out.size)); clear b1)
    go_ret
    exact ⟨ret_int HO.out.symm, B1.out⟩
  · have HO := Lib.hid (poF_yes (L := xs.map Prod.fst) hq)
    have SF : Hid (Sf k r u) := Lib.hid (by have := transB_iff.1 hq; rwa [L1.out] at this)
    have HG : Hid (glv r u = gl (ext r) (ext u) k) := Lib.hid (by rw [glv_yes hq, L1.out])
    have CS := Lib.hid (cn_sf (s := (r, u)) SF.out)
    clear hq
    rw [HG.out]
    go_wp2_with (first | (refine wpList_store_row rfl 62 _ _ rfl w1.heap.size (V (gl (ext r) (ext u) k)).toArray rfl rfl 62 (V zero49).toArray (Arr.new w1 (V zero49) _ rfl) (size49 (gl_len (ext_len _) (ext_len _) k)) (by simp [V_len, gl_len, ext_len, zero49]) (one_V _) ?_; generalize hw_ : (w1.alloc (.cells #[.int .i64 0, .int .i64 0, .int .i64 0, .int .i64 0, .int .i64 0, .int .i64 0, .int .i64 0, .int .i64 0, .int .i64 0, .int .i64 0, .int .i64 0, .int .i64 0, .int .i64 0, .int .i64 0, .int .i64 0, .int .i64 0, .int .i64 0, .int .i64 0, .int .i64 0, .int .i64 0, .int .i64 0, .int .i64 0, .int .i64 0, .int .i64 0, .int .i64 0, .int .i64 0, .int .i64 0, .int .i64 0, .int .i64 0, .int .i64 0, .int .i64 0, .int .i64 0, .int .i64 0, .int .i64 0, .int .i64 0, .int .i64 0, .int .i64 0, .int .i64 0, .int .i64 0, .int .i64 0, .int .i64 0, .int .i64 0, .int .i64 0, .int .i64 0, .int .i64 0, .int .i64 0, .int .i64 0, .int .i64 0, .int .i64 0] 62)).setRow w1.heap.size (V (gl (ext r) (ext u) k)).toArray = w2; have A2 : Hid (Arr w2 w1.heap.size (V (gl (ext r) (ext u) k)) 62) := Lib.hid (by rw [← hw_]; exact (Arr.new w1 (V zero49) _ rfl).row); have b1 : Below w1.heap.size w1 w2 := (by rw [← hw_]; exact arr.below_setRow ((Below.refl _ _).alloc (Nat.le_refl _) _) (Nat.le_refl _) _); have t_w2 : w1.heap.size + 1 ≤ w2.heap.size := (by rw [← hw_]; simp); clear hw_; replace B1 := Lib.hid (B1.out.trans (b1.mono B1.out.size)); clear b1) | (refine wpList_load_row rfl 62 _ rfl w1.heap.size rfl 62 (V (gl (ext r) (ext u) k)).toArray (0, 0) _ A2.out sqp.underlying62 rfl (size49 (gl_len (ext_len _) (ext_len _) k)) ?_))
    refine (form_any r u k _ SF.out).mono ?_
    rintro e w3 ⟨rfl, b1⟩
    replace B1 := Lib.hid (B1.out.trans (b1.mono B1.out.size))
    have s3 := b1.size
    clear b1 A2
    have G49 := gS_len (cn (r, u)) k
    go_wp2_with (refine wpList_store_row rfl 62 _ _ rfl w3.heap.size (V (gS (cn (r, u)) k)).toArray rfl rfl 62 (V zero49).toArray (Arr.new w3 (V zero49) _ rfl) (size49 G49) (by simp [V_len, G49, zero49]) (one_V _) ?_; generalize hw_ : (w3.alloc (.cells #[.int .i64 0, .int .i64 0, .int .i64 0, .int .i64 0, .int .i64 0, .int .i64 0, .int .i64 0, .int .i64 0, .int .i64 0, .int .i64 0, .int .i64 0, .int .i64 0, .int .i64 0, .int .i64 0, .int .i64 0, .int .i64 0, .int .i64 0, .int .i64 0, .int .i64 0, .int .i64 0, .int .i64 0, .int .i64 0, .int .i64 0, .int .i64 0, .int .i64 0, .int .i64 0, .int .i64 0, .int .i64 0, .int .i64 0, .int .i64 0, .int .i64 0, .int .i64 0, .int .i64 0, .int .i64 0, .int .i64 0, .int .i64 0, .int .i64 0, .int .i64 0, .int .i64 0, .int .i64 0, .int .i64 0, .int .i64 0, .int .i64 0, .int .i64 0, .int .i64 0, .int .i64 0, .int .i64 0, .int .i64 0, .int .i64 0] 62)).setRow w3.heap.size (V (gS (cn (r, u)) k)).toArray = w4; have A4 : Hid (Arr w4 w3.heap.size (V (gS (cn (r, u)) k)) 62) := Lib.hid (by rw [← hw_]; exact (Arr.new w3 (V zero49) _ rfl).row); have b1 : Below w3.heap.size w3 w4 := (by rw [← hw_]; exact arr.below_setRow ((Below.refl _ _).alloc (Nat.le_refl _) _) (Nat.le_refl _) _); have t_w4 : w3.heap.size + 1 ≤ w4.heap.size := (by rw [← hw_]; simp); clear hw_; replace B1 := Lib.hid (B1.out.trans (b1.mono B1.out.size)); clear b1)
    refine (ixf_any xs n (cn (r, u)) k A N cp w3.heap.size _ LN.out (HF.out.keep B1.out (Nat.le_refl _)) A4.out hl HS.out CS.out).mono ?_
    rintro e w5 ⟨rfl, b1⟩
    have B5 := Lib.hid (B1.out.trans (b1.mono B1.out.size)); clear b1
    generalize fnd (xs.map Prod.fst) (cn (r, u)) = F at *
    go_wp2_with fail
    go_ret
    exact ⟨ret_int HO.out.symm, B5.out⟩
theorem orbB_no {r u : List Int} (h : orbF r u = none) : orbB r u = false := (orbL_none h).2
end Go.Proofs.Ytgcnemkhppkkcaa.orb
