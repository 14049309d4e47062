/-
  An ascending list of lists in a box: insert, takeAll.
-/
import Derived.Test.YtafpbnjfmieamaaWBu
import Derived.Test.YtafpbnjfmieamaaY19
import Derived.Lib.SliceRun
namespace Go.Proofs.Ytafpbnjfmieamaa.lst
open Go.ChangeShapes Go.WideShapes Go.ChangeAt Go.RowKit
open Go.Proofs.Ytafpbnjfmieamaa.mem Go.Proofs.Ytafpbnjfmieamaa.ints Go.Proofs.Ytafpbnjfmieamaa.arr Go.Proofs.Ytafpbnjfmieamaa.pm Go.Proofs.Ytafpbnjfmieamaa.sf Go.Proofs.Ytafpbnjfmieamaa.gl Go.Proofs.Ytafpbnjfmieamaa.orb
open Go.Proofs.Ytafpbnjfmieamaa.wd
set_option linter.unusedVariables false
set_option maxRecDepth 100000

/-- An ascending list of lists: in box b, its row of headers from base on, the lists in blocks from lo on. -/
structure Ah (w : World) (base lo b : Nat) (v : Value) (Z : List RI) : Prop where
  box : Arr w b [v, (.func (.func 25) #[] #[])] 51
  own : w.ownsRow base 23 1 v Z.length (hdOf Z)
  nb : ¬ v.ownBlock = some b
  asc : (Z.map lOf).Pairwise fun a b => lessX a b = true
  rk : Rk w lo w.heap.size (fun k => v.ownBlock = some k ∨ k = b) Z
theorem Ah.keep {w w' : World} {base lo b : Nat} {v : Value} {Z : List RI} (h : Ah w base lo b v Z) (hb : Below w.heap.size w w') : Ah w' base lo b v Z :=
  ⟨h.box.keep hb h.box.lt, own_block_keep h.own (fun k e => hb.block k (h.own.lt k e).2), h.nb, h.asc, (h.rk.keep hb.size (fun k _ q _ => hb.block k q)).to (Nat.le_refl _) hb.size (Nat.le_refl _) (fun _ _ _ q => q)⟩
theorem hd_put (Z : List RI) (z : RI) (i : Nat) : (hdOf Z).take i ++ [z.2.1] ++ (hdOf Z).drop i = hdOf (Z.take i ++ z :: Z.drop i) := by
  simp [hdOf, List.map_take, List.map_drop]
theorem hd_one {w : World} {lo hi : Nat} {ex : Nat → Prop} {Z : List RI} (h : Rk w lo hi ex Z) : ∀ u ∈ hdOf Z, u.oneCell' = true := by
  intro u hu
  obtain ⟨z, hz, rfl⟩ := List.mem_map.1 hu
  obtain ⟨A, c, e, _⟩ := h.each z hz
  rw [e]; rfl
theorem Rk.sub {w : World} {lo hi : Nat} {ex : Nat → Prop} {Z : List RI} {z : RI} (h : Rk w lo hi ex (z :: Z)) : Rk w lo hi ex Z := ⟨h.top, fun y hy => h.each y (List.mem_cons_of_mem _ hy), (List.pairwise_cons.1 h.ne).2⟩
/-- What stands behind an insert: rows of old blocks are as they were. -/
theorem Rk.fr {w w' : World} {lo b : Nat} {v v' : Value} {Z : List RI} (h : Rk w lo w.heap.size (fun k => v.ownBlock = some k ∨ k = b) Z) (f : Fr w w' b v v') : Rk w' lo w'.heap.size (fun k => v'.ownBlock = some k ∨ k = b) Z :=
  (h.keep f.size (fun k _ q e => f.block k q (fun x => e (.inr x)) (fun x => e (.inl x)))).to (Nat.le_refl _) f.size (Nat.le_refl _) (fun k _ q e e' => by
    rcases e' with x | x
    · rcases f.own k x with y | y
      · exact e (.inl y)
      · omega
    · exact e (.inr x))
set_option maxHeartbeats 1000000 in
theorem insertH (base lo b h1 : Nat) (v : Value) (Z : List RI) (z : RI) (At : Option Addr) (ct : Nat) (t : List Int) (w : World) (ha : Ah w base lo b v Z) (hz : z.2.1 = .slice At t.length ct) (hl : lOf z = t) (hk : Rk w lo w.heap.size (fun k => v.ownBlock = some k ∨ k = b) (z :: Z)) (hrd : Rd w h1 At t.length (V t)) (hbb : base ≤ b) (hn : Z.length ≤ 900) (ht : t.length ≤ 100) :
    Calls Try.prog 26 #[.pointer (some ⟨b, 0, none⟩), .slice At t.length ct] w fun e w' => ∃ v' Z', e = .returned (.tuple #[]) ∧ Ah w' base lo b v' Z' ∧ Z'.map lOf = insT (Z.map lOf) t ∧ Fr w w' b v v' := by
  have AS := Lib.hid ha; have HZ := Lib.hid hz; have HL := Lib.hid hl; have HK := Lib.hid hk; have HR := Lib.hid hrd
  clear ha hz hl hk hrd
  have hb := AS.out.box.lt
  go_enter Try.func26, Try.ntmps26
  go_wp2_with fail
  refine wp_region_held_drew (S := Hld w.heap.size w.heap.size w [(b, [v, (.func (.func 25) #[] #[])])]) (by kernel_rfl) (Hld.start (fun p hp => by
    rcases List.mem_cons.1 hp with rfl | hp
    · exact ⟨hb, fun k u hk => by rw [Nat.zero_add]; exact AS.out.box.cell hk⟩
    · simp at hp)) (fun hHeld => ?_)
  have b1 : Below w.heap.size w w.drew := ⟨rfl, rfl, rfl, Nat.le_refl _, fun _ _ => rfl⟩
  have AS1 := Lib.hid (AS.out.keep b1)
  have HK1 : Hid (Rk w.drew lo w.drew.heap.size (fun k => v.ownBlock = some k ∨ k = b) (z :: Z)) := Lib.hid (HK.out.keep (Nat.le_refl _) (fun k _ q _ => b1.block k q))
  have HR1 := Lib.hid (HR.out.keep (b1.mono HR.out.2.1) (Nat.le_refl _))
  have FR1 := Lib.hid (Fr.of b v b1)
  have s1 := b1.size
  generalize w.drew = w1 at *
  clear b1 AS HK HR
  refine wpAnyH_take (i := 0) (v := .pointer (some ⟨b, 0, none⟩)) rfl (by kernel_rfl) (by kernel_rfl) (by kernel_rfl) (fun _ _ _ h => h) (Or.inl ⟨by kernel_rfl, fun w hSw => by go_simp⟩) hHeld ?_
  refine wpAnyH_take (i := 1) (v := .pointer (some ⟨b, 0, none⟩)) rfl (by kernel_rfl) (by kernel_rfl) (by kernel_rfl) (fun _ _ _ h => h) (Or.inl ⟨by kernel_rfl, fun w hSw => by go_simp⟩) hHeld ?_
  refine wpAnyH_take (i := 2) (v := .pointer (some ⟨b, 0, none⟩)) rfl (by kernel_rfl) (by kernel_rfl) (by kernel_rfl) (fun _ _ _ h => h) (Or.inl ⟨by kernel_rfl, fun w hSw => by go_simp⟩) hHeld ?_
  refine wpAnyH_take (i := 3) (v := v) rfl (by kernel_rfl) (by kernel_rfl) (by kernel_rfl) (fun _ _ _ h => h) (Or.inl ⟨by kernel_rfl, fun w hSw => by have c0 := hSw.fst 0 v rfl; go_simp⟩) hHeld ?_
  refine wpAnyH_take (i := 4) (v := .slice At t.length ct) rfl (by kernel_rfl) (by kernel_rfl) (by kernel_rfl) (fun _ _ _ h => h) (Or.inl ⟨by kernel_rfl, fun w hSw => by go_simp⟩) hHeld ?_
  refine wpAnyH_take (i := 5) (v := .pointer (some ⟨b, 0, none⟩)) rfl (by kernel_rfl) (by kernel_rfl) (by kernel_rfl) (fun _ _ _ h => h) (Or.inl ⟨by kernel_rfl, fun w hSw => by go_simp⟩) hHeld ?_
  refine wpAnyH_take (i := 6) (v := .pointer (some ⟨b, 0, none⟩)) rfl (by kernel_rfl) (by kernel_rfl) (by kernel_rfl) (fun _ _ _ h => h) (Or.inl ⟨by kernel_rfl, fun w hSw => by go_simp⟩) hHeld ?_
  refine wpAnyH_take (i := 7) (v := .pointer (some ⟨b, 1, none⟩)) rfl (by kernel_rfl) (by kernel_rfl) (by kernel_rfl) (fun _ _ _ h => h) (Or.inl ⟨by kernel_rfl, fun w hSw => by go_simp⟩) hHeld ?_
  refine wpAnyH_take (i := 8) (v := (.func (.func 25) #[] #[])) rfl (by kernel_rfl) (by kernel_rfl) (by kernel_rfl) (fun _ _ _ h => h) (Or.inl ⟨by kernel_rfl, fun w hSw => by have c1 := hSw.fst 1 _ rfl; go_simp⟩) hHeld ?_
  refine wpAnyH_ready (rs := [9]) (by kernel_rfl) (by simp) (AllReadyH.cons rfl (fun K hK => ?_) AllReadyH.nil)
  go_simp
  refine (bsH_any base lo _ h1 v Z t At ct _ _ AS1.out.own AS1.out.rk AS1.out.asc HR1.out (by omega) ht).mono ?_
  rintro e w2 ⟨i, pl, rfl, rfl⟩
  have PL := Lib.hid pl
  clear pl
  go_wp2_with fail
  refine hK.out _ _ hHeld (fun hHeld2 => ?_)
  clear hK K hHeld2
  refine wpAnyH_take (i := 10) (v := .tuple #[.int .i64 i, .bool (decide ((Z.map lOf)[i]? = some t))]) rfl (by kernel_rfl) (by kernel_rfl) (by kernel_rfl) (fun _ _ _ h => h) (Or.inl ⟨by kernel_rfl, fun w hSw => by go_simp⟩) hHeld ?_
  refine wpAnyH_take (i := 11) (v := .int .i64 i) rfl (by kernel_rfl) (by kernel_rfl) (by kernel_rfl) (fun _ _ _ h => h) (Or.inl ⟨by kernel_rfl, fun w hSw => by go_simp⟩) hHeld ?_
  refine wpAnyH_take (i := 12) (v := .bool (decide ((Z.map lOf)[i]? = some t))) rfl (by kernel_rfl) (by kernel_rfl) (by kernel_rfl) (fun _ _ _ h => h) (Or.inl ⟨by kernel_rfl, fun w hSw => by go_simp⟩) hHeld ?_
  refine wpAnyH_take (i := 13) (v := .int .i64 i) rfl (by kernel_rfl) (by kernel_rfl) (by kernel_rfl) (fun _ _ _ h => h) (Or.inl ⟨by kernel_rfl, fun w hSw => by go_simp⟩) hHeld ?_
  refine wpAnyH_take (i := 14) (v := .bool (decide ((Z.map lOf)[i]? = some t))) rfl (by kernel_rfl) (by kernel_rfl) (by kernel_rfl) (fun _ _ _ h => h) (Or.inl ⟨by kernel_rfl, fun w hSw => by go_simp⟩) hHeld ?_
  refine wpAnyH_done (by kernel_rfl) ?_ _
  clear hHeld
  go_simp
  have INS := Lib.hid PL.out.ins
  have hi : i ≤ Z.length := by have := PL.out.le; rwa [List.length_map] at this
  by_cases hf : (Z.map lOf)[i]? = some t
  · have HF : decide ((Z.map lOf)[i]? = some t) = true := decide_eq_true hf
    have EN : Hid (insT (Z.map lOf) t = Z.map lOf) := Lib.hid (by rw [INS.out, if_pos hf])
    clear hf INS
    rw [HF]
    clear HF
    go_wp2_with fail
    go_end0
    exact ⟨v, Z, rfl, AS1.out, EN.out.symm, FR1.out⟩
  · have HF : decide ((Z.map lOf)[i]? = some t) = false := decide_eq_false hf
    have EN : Hid ((Z.take i ++ z :: Z.drop i).map lOf = insT (Z.map lOf) t) := Lib.hid (by rw [INS.out, if_neg hf, List.map_append, List.map_cons, HL.out, List.map_take, List.map_drop])
    clear hf INS
    rw [HF]
    clear HF
    have c0 : w2.cell? ⟨b, 0, none⟩ = some v := AS1.out.box.cell rfl
    have ST : Hid (∃ W, W = w2.alloc (.cells #[.slice At t.length ct] 23) ∧ Below w2.heap.size w2 W ∧ Arr W w2.heap.size [.slice At t.length ct] 23) := Lib.hid ⟨_, rfl, (Below.refl _ _).alloc (Nat.le_refl _) _, Arr.new w2 _ _ rfl⟩
    go_wp2_with fail
    obtain ⟨w3, eW, b3, ar⟩ := ST.out
    rw [← eW]
    have AS3 := Lib.hid (AS1.out.keep b3); have AR := Lib.hid ar; have FR3 := Lib.hid (FR1.out.trans (Fr.of b v b3))
    have HK3 := Lib.hid (HK1.out.keep b3.size (fun k _ q _ => b3.block k q))
    have NB : ¬ v.ownBlock = some w2.heap.size := fun e => by have := (AS1.out.own.lt _ e).2; omega
    have s3 := b3.size
    have ard := ar.lt
    clear eW b3 ar ST c0 AS1 HK1 HR1 FR1
    refine (insH_any v Z.length i w2.heap.size base (hdOf Z) [.slice At t.length ct] _ AS3.out.own hi (by omega) (by omega) AR.out rfl (by intro u hu; simp at hu; subst hu; rfl) (hd_one AS3.out.rk) NB).mono ?_
    rintro e w5 ⟨v5, rfl, o5, g5, ob5⟩
    obtain ⟨A5, k5, rfl⟩ := mem.own_form o5
    have hn5 : ¬ (Value.slice A5 (Z.length + 1) k5).ownBlock = some b := fun e => by
      rcases ob5 b e with q | q
      · exact AS3.out.nb q
      · have := AS3.out.box.lt; omega
    have bx5 : Arr w5 b [v, (.func (.func 25) #[] #[])] 51 := (g5.block b AS3.out.box.lt (fun e => AS3.out.nb e.symm)).trans AS3.out.box
    have FR5 : Fr w w5 b v (.slice A5 (Z.length + 1) k5) := FR3.out.trans ⟨g5.os, g5.tape, g5.output, g5.size, fun k hk h1 h2 => g5.block k hk (fun e => h2 e.symm), ob5⟩
    have FR35 : Fr w3 w5 b v (.slice A5 (Z.length + 1) k5) := ⟨g5.os, g5.tape, g5.output, g5.size, fun k hk h1 h2 => g5.block k hk (fun e => h2 e.symm), ob5⟩
    have o6 : ∀ k, k ≠ b → (w5.setRow b #[.slice A5 (Z.length + 1) k5, (.func (.func 25) #[] #[])]).heap[k]? = w5.heap[k]? := fun k hk => setRow_other _ _ _ _ hk
    have FIN : Hid (Ah (w5.setRow b #[.slice A5 (Z.length + 1) k5, (.func (.func 25) #[] #[])]) base lo b (.slice A5 (Z.length + 1) k5) (Z.take i ++ z :: Z.drop i) ∧ Fr w (w5.setRow b #[.slice A5 (Z.length + 1) k5, (.func (.func 25) #[] #[])]) b v (.slice A5 (Z.length + 1) k5)) := Lib.hid (by
      have el : (Z.take i ++ z :: Z.drop i).length = Z.length + 1 := by simp; omega
      refine ⟨⟨bx5.row (cs' := [.slice A5 (Z.length + 1) k5, (.func (.func 25) #[] #[])]), ?_, hn5, ?_, ?_⟩, ⟨FR5.os, FR5.tape, FR5.output, by simpa using FR5.size, fun k hk h1 h2 => (o6 k h1).trans (FR5.block k hk h1 h2), FR5.own⟩⟩
      · rw [el, ← hd_put, HZ.out]
        exact own_block_keep o5 (fun k e => o6 k (fun q => hn5 (by rw [e, q])))
      · rw [EN.out]
        exact insT_asc AS3.out.asc
      · have p1 : (z :: Z).Perm (Z.take i ++ z :: Z.drop i) := by
          have := (List.perm_middle (a := z) (l₁ := Z.take i) (l₂ := Z.drop i)).symm
          rwa [List.take_append_drop] at this
        have r3 : Rk w3 lo w3.heap.size (fun k => v.ownBlock = some k ∨ k = b) (z :: Z) := HK3.out.to (Nat.le_refl _) (by omega) (Nat.le_refl _) (fun _ _ _ q => q)
        have r5 := (r3.fr FR35).perm p1
        refine (r5.keep (w' := w5.setRow b #[.slice A5 (Z.length + 1) k5, (.func (.func 25) #[] #[])]) (by simp) (fun k _ _ e => o6 k (fun q => e (.inr q)))).to (Nat.le_refl _) (by simp) (Nat.le_refl _) (fun _ _ _ q => q))
    have c5 : w5.cell? ⟨b, 0, none⟩ = some v := bx5.cell rfl
    have f5 : w5.frozen? ⟨b, 0, none⟩ = false := bx5.frozen 0
    have SC := setCell_eq_setRow w5 b 0 _ _ _ (.slice A5 (Z.length + 1) k5) bx5
    clear o5 g5 ob5 FR5 FR35 o6 bx5 hn5
    go_wp2_with fail
    go_end0
    exact ⟨_, _, rfl, FIN.out.1, EN.out, FIN.out.2⟩
set_option maxHeartbeats 1000000 in
theorem cloneH (base n : Nat) (v : Value) (xs : List Value) (w : World) (ho : w.ownsRow base 23 1 v n xs) (hn : n ≤ 1000) (h1 : ∀ u ∈ xs, u.oneCell' = true) :
    Calls Try.prog 58 #[v] w fun e w' => ∃ v', e = .returned v' ∧ w'.ownsRow w.heap.size 23 1 v' n xs ∧ Below w.heap.size w w' := by
  obtain ⟨i0, hi0, hz0, hzs, hzb⟩ := info_parts infoH
  have zc : ((Value.slice none 0 0).cells).size = 1 := by kernel_rfl
  have HO := Lib.hid ho; have H1 := Lib.hid h1
  have h63 : 0 + n ≤ maxLen := by unfold maxLen; omega
  have hby : ((0 + n) + (0 + n) / 4 + 192) * 24 ≤ 281474976710656 := by omega
  have hxl : xs.length = n * 1 := ho.1
  have hq := fun (W : World) (A : Option Addr) (m k : Nat) => Lib.run_eql_slice_nil (P := Try.prog) W 28 23 A m k 0 0 Try.underlying28
  clear h1
  rcases ho.2 with ⟨q, q2⟩ | ⟨g, c, cur, q, h1', h2, h3, h4, h5, h6⟩
  · subst q
    subst q2
    have hxs : xs = [] := by simpa using ho.1
    subst hxs
    clear ho
    go_enter Try.func58, Try.ntmps58
    go_wp2_with fail
    go_ret
    exact ⟨_, rfl, ⟨rfl, .inl ⟨rfl, rfl⟩⟩, Below.refl _ _⟩
  · subst q
    clear ho h1' h2 h3 h4 h5 h6
    have OW1 : Hid ((w.alloc (.cells #[] 23)).ownsRow w.heap.size 23 1 (.slice (some ⟨w.heap.size, 0, none⟩) 0 0) 0 []) := Lib.hid ⟨rfl, .inr ⟨w.heap.size, 0, #[], rfl, Nat.le_refl _, heap_alloc_last w _, Nat.le_refl _, by unfold maxLen; omega, rfl, rfl⟩⟩
    have BA : Hid (Below w.heap.size w (w.alloc (.cells #[] 23))) := Lib.hid ((Below.refl _ _).alloc (Nat.le_refl _) _)
    have HN : Hid (∀ (j : Nat) u, xs[j]? = some u → (w.alloc (.cells #[] 23)).cell? ((⟨g, 0, none⟩ : Addr).add j) = some u) := Lib.hid (fun j u hj => by
      rw [show ((⟨g, 0, none⟩ : Addr).add j) = ⟨g, j, none⟩ by unfold Addr.add; split <;> simp_all]
      rw [BA.out.cell (p := ⟨g, j, none⟩) (HO.out.lt g rfl).2]
      exact own_cells HO.out j u hj)
    go_enter Try.func58, Try.ntmps58
    go_wp2_with (at_builtin; refine wpList_append_own_wide (w.alloc (.cells #[] 23)) rfl _ _ 28 rfl w.heap.size 23 i0 _ 1 24 Try.underlying28 hi0 hz0 hzs hzb zc (by decide) (.slice (some ⟨w.heap.size, 0, none⟩) 0 0) 0 [] rfl OW1.out ⟨g, 0, none⟩ n c xs rfl hxl HN.out H1.out h63 hby (by simp) ?_)
    intro v2 w2 ho2 hg2 _
    have B2 := Lib.hid (BA.out.trans (own_below OW1.out hg2 (Nat.le_refl _) (by simp)))
    have O2 := Lib.hid ho2
    clear ho2 hg2
    go_wp2_with fail
    go_ret
    exact ⟨_, rfl, O2.out, B2.out⟩
theorem zH_one : ∀ u ∈ (Value.slice none 0 0).cells, u.oneCell' = true := by
  intro u hu
  simp [Value.cells] at hu
  subst hu
  rfl
set_option maxHeartbeats 1000000 in
theorem takeH (base lo b : Nat) (v : Value) (L : List RI) (w : World) (ha : Ah w base lo b v L) (hbb : base ≤ b) (hl : L.length ≤ 900) :
    Calls Try.prog 28 #[.pointer (some ⟨b, 0, none⟩)] w fun e w' => ∃ v' v2, e = .returned v' ∧ w'.ownsRow w.heap.size 23 1 v' L.length (hdOf L) ∧ Ah w' base lo b v2 [] ∧ Fr w w' b v v2 := by
  have AS := Lib.hid ha; clear ha
  have hb := AS.out.box.lt
  have LT := Lib.hid AS.out.own.lt
  have c0 : w.cell? ⟨b, 0, none⟩ = some v := AS.out.box.cell rfl
  go_enter Try.func28, Try.ntmps28
  go_wp2_with fail
  refine (cloneH base L.length v (hdOf L) _ AS.out.own (by omega) (hd_one AS.out.rk)).mono ?_
  rintro e w1 ⟨v1, rfl, o1, b1⟩
  have O1 := Lib.hid o1; have B1 := Lib.hid b1
  have bx : Arr w1 b [v, (.func (.func 25) #[] #[])] 51 := AS.out.box.keep b1 hb
  have OW := Lib.hid ((AS.out.keep b1).own)
  have NB := Lib.hid AS.out.nb
  have s1 := b1.size
  clear o1 b1 c0 AS
  have c1 : w1.cell? ⟨b, 0, none⟩ = some v := bx.cell rfl
  rcases OW.out.2 with ⟨q, q2⟩ | ⟨g, c, cur, q, h1', h2, h3, h4, h5, h6⟩
  · subst q
    have f1 : w1.frozen? ⟨b, 0, none⟩ = false := bx.frozen 0
    have hrc := fun ty => run_clear_none (P := Try.prog) w1 28 23 ty Try.underlying28 none 0
    go_wp2_with (at_builtin; refine wpList_clear_at _ rfl _ 28 rfl _ rfl (hrc _) ?_)
    rw [setCell_eq_setRow w1 b 0 _ _ _ _ bx]
    go_wp2_with fail
    go_ret
    have o6 : ∀ k, k ≠ b → (w1.setRow b #[.slice none 0 0, (.func (.func 25) #[] #[])]).heap[k]? = w1.heap[k]? := fun k hk => setRow_other _ _ _ _ hk
    refine ⟨_, .slice none 0 0, rfl, own_block_keep O1.out (fun k e => o6 k (fun q => by have := (O1.out.lt k e).1; omega)), ⟨bx.row (cs' := [.slice none 0 0, (.func (.func 25) #[] #[])]), ⟨rfl, .inl ⟨rfl, rfl⟩⟩, NB.out, List.Pairwise.nil, Rk.nil _ _ _ _ (Nat.le_refl _)⟩, ?_⟩
    exact ⟨B1.out.os, B1.out.tape, B1.out.output, by simpa using B1.out.size, fun k hk h1 h2 => (o6 k h1).trans (B1.out.block k hk), fun k e => .inl e⟩
  · subst q
    have hgb : g ≠ b := fun e => NB.out (by rw [e]; rfl)
    have hgw := (LT.out g rfl).2
    obtain ⟨R, hR, hRs⟩ : ∃ R : Array Value, (∀ ty, (Builtin.clear_ #[28] ty #[.slice (some ⟨g, 0, none⟩) L.length c]).run Try.prog w1 = .ok (.tuple #[]) (w1.setRow g R)) ∧ R.size = c * 1 := by
      by_cases hz : L.length = 0
      · refine ⟨cur, fun ty => ?_, h5⟩
        rw [hz, setRow_self w1 g cur _ _ h2]
        exact run_clear_none w1 28 23 ty Try.underlying28 _ c
      · have zc : ((Value.slice none 0 0).cells).size = 1 := by kernel_rfl
        have hm : L.length * 1 ≤ c * 1 := Nat.mul_le_mul_right 1 h3
        have hzz : (Try.prog.info? 23).map (·.zero) = some (some (.slice none 0 0)) := by
          obtain ⟨i0, hi0, hz0, _, _⟩ := info_parts infoH
          rw [hi0]; simp [hz0]
        refine ⟨_, fun ty => run_clear_w w1 28 23 ty (.slice none 0 0) Try.underlying28 hzz zH_one g 0 L.length c (by omega) cur _ h2 (by rw [zc, h5]; omega), ?_⟩
        simp [zeroCells_size, zc, h5]
        omega
    obtain ⟨w2, hw2⟩ : ∃ w2, w2 = w1.setRow g R := ⟨_, rfl⟩
    rw [← hw2] at hR
    have HG2 : w2.heap[g]? = some (.cells R 23 (0, 0)) := by rw [hw2]; exact setRow_heap _ _ _ _ _ _ h2
    have o2 : ∀ k, k ≠ g → w2.heap[k]? = w1.heap[k]? := fun k hk => by rw [hw2]; exact setRow_other _ _ _ _ hk
    have e2 : w2.os = w1.os ∧ w2.tape = w1.tape ∧ w2.output = w1.output ∧ w2.heap.size = w1.heap.size := by rw [hw2]; exact ⟨rfl, rfl, rfl, by simp⟩
    have bx2 : Arr w2 b [.slice (some ⟨g, 0, none⟩) L.length c, (.func (.func 25) #[] #[])] 51 := (o2 b (fun e => hgb e.symm)).trans bx
    have HG := Lib.hid HG2; have O2 := Lib.hid o2; have E2 := Lib.hid e2; have C3 := Lib.hid h4; have RS := Lib.hid hRs; have HB := Lib.hid h1'
    clear hw2 HG2 o2 e2 h4 hRs h1' h2 h5 h6 OW bx
    have c2 : w2.cell? ⟨b, 0, none⟩ = some (.slice (some ⟨g, 0, none⟩) L.length c) := bx2.cell rfl
    have f2 : w2.frozen? ⟨b, 0, none⟩ = false := bx2.frozen 0
    go_wp2_with (at_builtin; refine wpList_clear_at _ rfl _ 28 rfl _ rfl (hR _) ?_)
    rw [setCell_eq_setRow w2 b 0 _ _ _ _ bx2]
    go_wp2_with fail
    go_ret
    have o6 : ∀ k, k ≠ b → (w2.setRow b #[.slice (some ⟨g, 0, none⟩) 0 c, (.func (.func 25) #[] #[])]).heap[k]? = w2.heap[k]? := fun k hk => setRow_other _ _ _ _ hk
    refine ⟨_, .slice (some ⟨g, 0, none⟩) 0 c, rfl, own_block_keep O1.out (fun k e => ?_), ⟨bx2.row (cs' := [.slice (some ⟨g, 0, none⟩) 0 c, (.func (.func 25) #[] #[])]), ⟨rfl, .inr ⟨g, c, R, rfl, HB.out, (o6 g hgb).trans HG.out, Nat.zero_le _, C3.out, RS.out, by simp [hdOf]⟩⟩, fun e => hgb (by simpa [Value.ownBlock] using e), List.Pairwise.nil, Rk.nil _ _ _ _ (Nat.le_refl _)⟩, ?_⟩
    · have := (O1.out.lt k e).1
      exact (o6 k (by omega)).trans (O2.out k (by omega))
    · exact ⟨E2.out.1.trans B1.out.os, E2.out.2.1.trans B1.out.tape, E2.out.2.2.1.trans B1.out.output, by have := E2.out.2.2.2; simp; omega, fun k hk h1 h2 => ((o6 k h1).trans (O2.out k (fun e => h2 (by rw [e]; rfl)))).trans (B1.out.block k hk), fun k e => .inl (by simpa [Value.ownBlock] using e)⟩
end Go.Proofs.Ytafpbnjfmieamaa.lst
