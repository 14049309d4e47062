import Derived.Test.YtpmojmhamgcfmaaGreatY17
import Derived.Test.YtpmojmhamgcfmaaGreatY20
import Derived.Lib.SliceRun
import Derived.Test.YtpmojmhamgcfmaaGreatY14
import Derived.Test.YtpmojmhamgcfmaaGreatY18
import Derived.Test.YtpmojmhamgcfmaaGreatY19
import Derived.Great.BuildSlice
import Derived.Great.FillDense
import Derived.Deep.RegionLaw
/-
  An ascending list of lists in a box: insert, takeAll.
-/
namespace Go.Proofs.YtpmojmhamgcfmaaGreat.lst
open Go.ChangeShapes Go.WideShapes Go.ChangeAt Go.RowKit
open Go.Proofs.YtpmojmhamgcfmaaGreat.mem Go.Proofs.YtpmojmhamgcfmaaGreat.ints Go.Proofs.YtpmojmhamgcfmaaGreat.arr Go.Proofs.YtpmojmhamgcfmaaGreat.pm Go.Proofs.YtpmojmhamgcfmaaGreat.sf Go.Proofs.YtpmojmhamgcfmaaGreat.gl Go.Proofs.YtpmojmhamgcfmaaGreat.orb
open Go.Proofs.YtpmojmhamgcfmaaGreat.wd
set_option linter.unusedVariables false
set_option maxRecDepth 100000

/-- An ascending list of lists: in box b, its row of headers from base on, the lists in blocks from lo on. -/
structure Ah (w : World) (base lo b : Nat) (v : Value) (Z : List RI) : Prop where
  box : Arr w b [v, (.func (.func 13) #[] #[])] 36
  own : w.ownsRow base 29 1 v Z.length (hdOf Z)
  nb : ¬ v.ownBlock = some b
  asc : (Z.map lOf).Pairwise fun a b => lessX a b = true
  rk : Rk w lo w.heap.size (fun k => v.ownBlock = some k ∨ k = b) Z
theorem Ah.keep {w w' : World} {base lo b : Nat} {v : Value} {Z : List RI} (h : Ah w base lo b v Z) (hb : Below w.heap.size w w') : Ah w' base lo b v Z :=
  ⟨h.box.keep hb h.box.lt, own_block_keep h.own (fun k e => hb.block k (h.own.lt k e).2), h.nb, h.asc, (h.rk.keep hb.size (fun k _ q _ => hb.block k q)).to (Nat.le_refl _) hb.size (Nat.le_refl _) (fun _ _ _ q => q)⟩
theorem hd_put (Z : List RI) (z : RI) (i : Nat) : (hdOf Z).take i ++ [z.2.1] ++ (hdOf Z).drop i = hdOf (Z.take i ++ z :: Z.drop i) := by
  simp [hdOf, List.map_take, List.map_drop]
theorem hd_one {w : World} {lo hi : Nat} {ex : Nat → Prop} {Z : List RI} (h : Rk w lo hi ex Z) : ∀ u ∈ hdOf Z, u.oneCell' = true := by
  intro u hu
  obtain ⟨z, hz, rfl⟩ := List.mem_map.1 hu
  obtain ⟨A, c, e, _⟩ := h.each z hz
  rw [e]; rfl
theorem Rk.sub {w : World} {lo hi : Nat} {ex : Nat → Prop} {Z : List RI} {z : RI} (h : Rk w lo hi ex (z :: Z)) : Rk w lo hi ex Z := ⟨h.top, fun y hy => h.each y (List.mem_cons_of_mem _ hy), (List.pairwise_cons.1 h.ne).2⟩
/-- What stands behind an insert: rows of old blocks are as they were. -/
theorem Rk.fr {w w' : World} {lo b : Nat} {v v' : Value} {Z : List RI} (h : Rk w lo w.heap.size (fun k => v.ownBlock = some k ∨ k = b) Z) (f : Fr w w' b v v') : Rk w' lo w'.heap.size (fun k => v'.ownBlock = some k ∨ k = b) Z :=
  (h.keep f.size (fun k _ q e => f.block k q (fun x => e (.inr x)) (fun x => e (.inl x)))).to (Nat.le_refl _) f.size (Nat.le_refl _) (fun k _ q e e' => by
    rcases e' with x | x
    · rcases f.own k x with y | y
      · exact e (.inl y)
      · omega
    · exact e (.inr x))
set_option maxHeartbeats 1000000 in
theorem insertH (base lo b h1 : Nat) (v : Value) (Z : List RI) (z : RI) (At : Option Addr) (ct : Nat) (t : List Int) (w : World) (ha : Ah w base lo b v Z) (hz : z.2.1 = .slice At t.length ct) (hl : lOf z = t) (hk : Rk w lo w.heap.size (fun k => v.ownBlock = some k ∨ k = b) (z :: Z)) (hrd : Rd w h1 At t.length (V t)) (hbb : base ≤ b) (hn : Z.length ≤ 900) (ht : t.length ≤ 100) :
    Calls Tryz.prog 15 #[.pointer (some ⟨b, 0, none⟩), .slice At t.length ct] w fun e w' => ∃ v' Z', e = .returned (.tuple #[]) ∧ Ah w' base lo b v' Z' ∧ Z'.map lOf = insT (Z.map lOf) t ∧ Fr w w' b v v' := by
  have AS := Lib.hid ha; have HZ := Lib.hid hz; have HL := Lib.hid hl; have HK := Lib.hid hk; have HR := Lib.hid hrd
  clear ha hz hl hk hrd
  have hb := AS.out.box.lt
  go_enter Tryz.func15, Tryz.ntmps15
  go_wp2_with fail
  refine wp_region_held_drew (S := Hld w.heap.size w.heap.size w [(b, [v, (.func (.func 13) #[] #[])])]) (by kernel_rfl) (Hld.start (fun p hp => by
    rcases List.mem_cons.1 hp with rfl | hp
    · exact ⟨hb, fun k u hk => by rw [Nat.zero_add]; exact AS.out.box.cell hk⟩
    · simp at hp)) (fun hHeld => ?_)
  have b1 : Below w.heap.size w w.drew := ⟨rfl, rfl, rfl, Nat.le_refl _, fun _ _ => rfl⟩
  have AS1 := Lib.hid (AS.out.keep b1)
  have HK1 : Hid (Rk w.drew lo w.drew.heap.size (fun k => v.ownBlock = some k ∨ k = b) (z :: Z)) := Lib.hid (HK.out.keep (Nat.le_refl _) (fun k _ q _ => b1.block k q))
  have HR1 := Lib.hid (HR.out.keep (b1.mono HR.out.2.1) (Nat.le_refl _))
  have FR1 := Lib.hid (Fr.of b v b1)
  have s1 := b1.size
  generalize w.drew = w1 at *
  clear b1 AS HK HR
  refine wpAnyH_take (i := 0) (v := .pointer (some ⟨b, 0, none⟩)) rfl (by kernel_rfl) (by kernel_rfl) (by kernel_rfl) (fun _ _ _ h => h) (Or.inl ⟨by kernel_rfl, fun w hSw => by go_simp⟩) hHeld ?_
  refine wpAnyH_take (i := 1) (v := .pointer (some ⟨b, 0, none⟩)) rfl (by kernel_rfl) (by kernel_rfl) (by kernel_rfl) (fun _ _ _ h => h) (Or.inl ⟨by kernel_rfl, fun w hSw => by go_simp⟩) hHeld ?_
  refine wpAnyH_take (i := 2) (v := .pointer (some ⟨b, 0, none⟩)) rfl (by kernel_rfl) (by kernel_rfl) (by kernel_rfl) (fun _ _ _ h => h) (Or.inl ⟨by kernel_rfl, fun w hSw => by go_simp⟩) hHeld ?_
  refine wpAnyH_take (i := 3) (v := v) rfl (by kernel_rfl) (by kernel_rfl) (by kernel_rfl) (fun _ _ _ h => h) (Or.inl ⟨by kernel_rfl, fun w hSw => by have c0 := hSw.fst 0 v rfl; go_simp⟩) hHeld ?_
  refine wpAnyH_take (i := 4) (v := .slice At t.length ct) rfl (by kernel_rfl) (by kernel_rfl) (by kernel_rfl) (fun _ _ _ h => h) (Or.inl ⟨by kernel_rfl, fun w hSw => by go_simp⟩) hHeld ?_
  refine wpAnyH_take (i := 5) (v := .pointer (some ⟨b, 0, none⟩)) rfl (by kernel_rfl) (by kernel_rfl) (by kernel_rfl) (fun _ _ _ h => h) (Or.inl ⟨by kernel_rfl, fun w hSw => by go_simp⟩) hHeld ?_
  refine wpAnyH_take (i := 6) (v := .pointer (some ⟨b, 0, none⟩)) rfl (by kernel_rfl) (by kernel_rfl) (by kernel_rfl) (fun _ _ _ h => h) (Or.inl ⟨by kernel_rfl, fun w hSw => by go_simp⟩) hHeld ?_
  refine wpAnyH_take (i := 7) (v := .pointer (some ⟨b, 1, none⟩)) rfl (by kernel_rfl) (by kernel_rfl) (by kernel_rfl) (fun _ _ _ h => h) (Or.inl ⟨by kernel_rfl, fun w hSw => by go_simp⟩) hHeld ?_
  refine wpAnyH_take (i := 8) (v := (.func (.func 13) #[] #[])) rfl (by kernel_rfl) (by kernel_rfl) (by kernel_rfl) (fun _ _ _ h => h) (Or.inl ⟨by kernel_rfl, fun w hSw => by have c1 := hSw.fst 1 _ rfl; go_simp⟩) hHeld ?_
  refine wpAnyH_ready (rs := [9]) (by kernel_rfl) (by simp) (AllReadyH.cons rfl (fun K hK => ?_) AllReadyH.nil)
  go_simp
  refine (bsH_any base lo _ h1 v Z t At ct _ _ AS1.out.own AS1.out.rk AS1.out.asc HR1.out (by omega) ht).mono ?_
  rintro e w2 ⟨i, pl, rfl, rfl⟩
  have PL := Lib.hid pl
  clear pl
  go_wp2_with fail
  refine hK.out _ _ hHeld (fun hHeld2 => ?_)
  clear hK K hHeld2
  refine wpAnyH_take (i := 10) (v := .tuple #[.int .i64 i, .bool (decide ((Z.map lOf)[i]? = some t))]) rfl (by kernel_rfl) (by kernel_rfl) (by kernel_rfl) (fun _ _ _ h => h) (Or.inl ⟨by kernel_rfl, fun w hSw => by go_simp⟩) hHeld ?_
  refine wpAnyH_take (i := 11) (v := .int .i64 i) rfl (by kernel_rfl) (by kernel_rfl) (by kernel_rfl) (fun _ _ _ h => h) (Or.inl ⟨by kernel_rfl, fun w hSw => by go_simp⟩) hHeld ?_
  refine wpAnyH_take (i := 12) (v := .bool (decide ((Z.map lOf)[i]? = some t))) rfl (by kernel_rfl) (by kernel_rfl) (by kernel_rfl) (fun _ _ _ h => h) (Or.inl ⟨by kernel_rfl, fun w hSw => by go_simp⟩) hHeld ?_
  refine wpAnyH_take (i := 13) (v := .int .i64 i) rfl (by kernel_rfl) (by kernel_rfl) (by kernel_rfl) (fun _ _ _ h => h) (Or.inl ⟨by kernel_rfl, fun w hSw => by go_simp⟩) hHeld ?_
  refine wpAnyH_take (i := 14) (v := .bool (decide ((Z.map lOf)[i]? = some t))) rfl (by kernel_rfl) (by kernel_rfl) (by kernel_rfl) (fun _ _ _ h => h) (Or.inl ⟨by kernel_rfl, fun w hSw => by go_simp⟩) hHeld ?_
  refine wpAnyH_done (by kernel_rfl) ?_ _
  clear hHeld
  go_simp
  have INS := Lib.hid PL.out.ins
  have hi : i ≤ Z.length := by have := PL.out.le; rwa [List.length_map] at this
  by_cases hf : (Z.map lOf)[i]? = some t
  · have HF : decide ((Z.map lOf)[i]? = some t) = true := decide_eq_true hf
    have EN : Hid (insT (Z.map lOf) t = Z.map lOf) := Lib.hid (by rw [INS.out, if_pos hf])
    clear hf INS
    rw [HF]
    clear HF
    go_wp2_with fail
    go_end0
    exact ⟨v, Z, rfl, AS1.out, EN.out.symm, FR1.out⟩
  · have HF : decide ((Z.map lOf)[i]? = some t) = false := decide_eq_false hf
    have EN : Hid ((Z.take i ++ z :: Z.drop i).map lOf = insT (Z.map lOf) t) := Lib.hid (by rw [INS.out, if_neg hf, List.map_append, List.map_cons, HL.out, List.map_take, List.map_drop])
    clear hf INS
    rw [HF]
    clear HF
    have c0 : w2.cell? ⟨b, 0, none⟩ = some v := AS1.out.box.cell rfl
    have ST : Hid (∃ W, W = w2.alloc (.cells #[.slice At t.length ct] 29) ∧ Below w2.heap.size w2 W ∧ Arr W w2.heap.size [.slice At t.length ct] 29) := Lib.hid ⟨_, rfl, (Below.refl _ _).alloc (Nat.le_refl _) _, Arr.new w2 _ _ rfl⟩
    go_wp2_with fail
    obtain ⟨w3, eW, b3, ar⟩ := ST.out
    rw [← eW]
    have AS3 := Lib.hid (AS1.out.keep b3); have AR := Lib.hid ar; have FR3 := Lib.hid (FR1.out.trans (Fr.of b v b3))
    have HK3 := Lib.hid (HK1.out.keep b3.size (fun k _ q _ => b3.block k q))
    have NB : ¬ v.ownBlock = some w2.heap.size := fun e => by have := (AS1.out.own.lt _ e).2; omega
    have s3 := b3.size
    have ard := ar.lt
    clear eW b3 ar ST c0 AS1 HK1 HR1 FR1
    refine (insH_any v Z.length i w2.heap.size base (hdOf Z) [.slice At t.length ct] _ AS3.out.own hi (by omega) (by omega) AR.out rfl (by intro u hu; simp at hu; subst hu; rfl) (hd_one AS3.out.rk) NB).mono ?_
    rintro e w5 ⟨v5, rfl, o5, g5, ob5⟩
    obtain ⟨A5, k5, rfl⟩ := mem.own_form o5
    have hn5 : ¬ (Value.slice A5 (Z.length + 1) k5).ownBlock = some b := fun e => by
      rcases ob5 b e with q | q
      · exact AS3.out.nb q
      · have := AS3.out.box.lt; omega
    have bx5 : Arr w5 b [v, (.func (.func 13) #[] #[])] 36 := (g5.block b AS3.out.box.lt (fun e => AS3.out.nb e.symm)).trans AS3.out.box
    have FR5 : Fr w w5 b v (.slice A5 (Z.length + 1) k5) := FR3.out.trans ⟨g5.os, g5.tape, g5.output, g5.size, fun k hk h1 h2 => g5.block k hk (fun e => h2 e.symm), ob5⟩
    have FR35 : Fr w3 w5 b v (.slice A5 (Z.length + 1) k5) := ⟨g5.os, g5.tape, g5.output, g5.size, fun k hk h1 h2 => g5.block k hk (fun e => h2 e.symm), ob5⟩
    have o6 : ∀ k, k ≠ b → (w5.setRow b #[.slice A5 (Z.length + 1) k5, (.func (.func 13) #[] #[])]).heap[k]? = w5.heap[k]? := fun k hk => setRow_other _ _ _ _ hk
    have FIN : Hid (Ah (w5.setRow b #[.slice A5 (Z.length + 1) k5, (.func (.func 13) #[] #[])]) base lo b (.slice A5 (Z.length + 1) k5) (Z.take i ++ z :: Z.drop i) ∧ Fr w (w5.setRow b #[.slice A5 (Z.length + 1) k5, (.func (.func 13) #[] #[])]) b v (.slice A5 (Z.length + 1) k5)) := Lib.hid (by
      have el : (Z.take i ++ z :: Z.drop i).length = Z.length + 1 := by simp; omega
      refine ⟨⟨bx5.row (cs' := [.slice A5 (Z.length + 1) k5, (.func (.func 13) #[] #[])]), ?_, hn5, ?_, ?_⟩, ⟨FR5.os, FR5.tape, FR5.output, by simpa using FR5.size, fun k hk h1 h2 => (o6 k h1).trans (FR5.block k hk h1 h2), FR5.own⟩⟩
      · rw [el, ← hd_put, HZ.out]
        exact own_block_keep o5 (fun k e => o6 k (fun q => hn5 (by rw [e, q])))
      · rw [EN.out]
        exact insT_asc AS3.out.asc
      · have p1 : (z :: Z).Perm (Z.take i ++ z :: Z.drop i) := by
          have := (List.perm_middle (a := z) (l₁ := Z.take i) (l₂ := Z.drop i)).symm
          rwa [List.take_append_drop] at this
        have r3 : Rk w3 lo w3.heap.size (fun k => v.ownBlock = some k ∨ k = b) (z :: Z) := HK3.out.to (Nat.le_refl _) (by omega) (Nat.le_refl _) (fun _ _ _ q => q)
        have r5 := (r3.fr FR35).perm p1
        refine (r5.keep (w' := w5.setRow b #[.slice A5 (Z.length + 1) k5, (.func (.func 13) #[] #[])]) (by simp) (fun k _ _ e => o6 k (fun q => e (.inr q)))).to (Nat.le_refl _) (by simp) (Nat.le_refl _) (fun _ _ _ q => q))
    have c5 : w5.cell? ⟨b, 0, none⟩ = some v := bx5.cell rfl
    have f5 : w5.frozen? ⟨b, 0, none⟩ = false := bx5.frozen 0
    have SC := setCell_eq_setRow w5 b 0 _ _ _ (.slice A5 (Z.length + 1) k5) bx5
    clear o5 g5 ob5 FR5 FR35 o6 bx5 hn5
    go_wp2_with fail
    go_end0
    exact ⟨_, _, rfl, FIN.out.1, EN.out, FIN.out.2⟩
set_option maxHeartbeats 1000000 in
theorem cloneH (base n : Nat) (v : Value) (xs : List Value) (w : World) (ho : w.ownsRow base 29 1 v n xs) (hn : n ≤ 1000) (h1 : ∀ u ∈ xs, u.oneCell' = true) :
    Calls Tryz.prog 33 #[v] w fun e w' => ∃ v', e = .returned v' ∧ w'.ownsRow w.heap.size 29 1 v' n xs ∧ Below w.heap.size w w' := by
  obtain ⟨i0, hi0, hz0, hzs, hzb⟩ := info_parts infoH
  have zc : ((Value.slice none 0 0).cells).size = 1 := by kernel_rfl
  have HO := Lib.hid ho; have H1 := Lib.hid h1
  have h63 : 0 + n ≤ maxLen := by unfold maxLen; omega
  have hby : ((0 + n) + (0 + n) / 4 + 192) * 24 ≤ 281474976710656 := by omega
  have hxl : xs.length = n * 1 := ho.1
  have hq := fun (W : World) (A : Option Addr) (m k : Nat) => Lib.run_eql_slice_nil (P := Tryz.prog) W 22 29 A m k 0 0 Tryz.underlying22
  clear h1
  rcases ho.2 with ⟨q, q2⟩ | ⟨g, c, cur, q, h1', h2, h3, h4, h5, h6⟩
  · subst q
    subst q2
    have hxs : xs = [] := by simpa using ho.1
    subst hxs
    clear ho
    go_enter Tryz.func33, Tryz.ntmps33
    go_wp2_with fail
    go_ret
    exact ⟨_, rfl, ⟨rfl, .inl ⟨rfl, rfl⟩⟩, Below.refl _ _⟩
  · subst q
    clear ho h1' h2 h3 h4 h5 h6
    have OW1 : Hid ((w.alloc (.cells #[] 29)).ownsRow w.heap.size 29 1 (.slice (some ⟨w.heap.size, 0, none⟩) 0 0) 0 []) := Lib.hid ⟨rfl, .inr ⟨w.heap.size, 0, #[], rfl, Nat.le_refl _, heap_alloc_last w _, Nat.le_refl _, by unfold maxLen; omega, rfl, rfl⟩⟩
    have BA : Hid (Below w.heap.size w (w.alloc (.cells #[] 29))) := Lib.hid ((Below.refl _ _).alloc (Nat.le_refl _) _)
    have HN : Hid (∀ (j : Nat) u, xs[j]? = some u → (w.alloc (.cells #[] 29)).cell? ((⟨g, 0, none⟩ : Addr).add j) = some u) := Lib.hid (fun j u hj => by
      rw [show ((⟨g, 0, none⟩ : Addr).add j) = ⟨g, j, none⟩ by unfold Addr.add; split <;> simp_all]
      rw [BA.out.cell (p := ⟨g, j, none⟩) (HO.out.lt g rfl).2]
      exact own_cells HO.out j u hj)
    go_enter Tryz.func33, Tryz.ntmps33
    go_wp2_with (at_builtin; refine wpList_append_own_wide (w.alloc (.cells #[] 29)) rfl _ _ 22 rfl w.heap.size 29 i0 _ 1 24 Tryz.underlying22 hi0 hz0 hzs hzb zc (by decide) (.slice (some ⟨w.heap.size, 0, none⟩) 0 0) 0 [] rfl OW1.out ⟨g, 0, none⟩ n c xs rfl hxl HN.out H1.out h63 hby (by simp) ?_)
    intro v2 w2 ho2 hg2 _
    have B2 := Lib.hid (BA.out.trans (own_below OW1.out hg2 (Nat.le_refl _) (by simp)))
    have O2 := Lib.hid ho2
    clear ho2 hg2
    go_wp2_with fail
    go_ret
    exact ⟨_, rfl, O2.out, B2.out⟩
theorem zH_one : ∀ u ∈ (Value.slice none 0 0).cells, u.oneCell' = true := by
  intro u hu
  simp [Value.cells] at hu
  subst hu
  rfl
set_option maxHeartbeats 1000000 in
theorem takeH (base lo b : Nat) (v : Value) (L : List RI) (w : World) (ha : Ah w base lo b v L) (hbb : base ≤ b) (hl : L.length ≤ 900) :
    Calls Tryz.prog 17 #[.pointer (some ⟨b, 0, none⟩)] w fun e w' => ∃ v' v2, e = .returned v' ∧ w'.ownsRow w.heap.size 29 1 v' L.length (hdOf L) ∧ Ah w' base lo b v2 [] ∧ Fr w w' b v v2 := by
  have AS := Lib.hid ha; clear ha
  have hb := AS.out.box.lt
  have LT := Lib.hid AS.out.own.lt
  have c0 : w.cell? ⟨b, 0, none⟩ = some v := AS.out.box.cell rfl
  go_enter Tryz.func17, Tryz.ntmps17
  go_wp2_with fail
  refine (cloneH base L.length v (hdOf L) _ AS.out.own (by omega) (hd_one AS.out.rk)).mono ?_
  rintro e w1 ⟨v1, rfl, o1, b1⟩
  have O1 := Lib.hid o1; have B1 := Lib.hid b1
  have bx : Arr w1 b [v, (.func (.func 13) #[] #[])] 36 := AS.out.box.keep b1 hb
  have OW := Lib.hid ((AS.out.keep b1).own)
  have NB := Lib.hid AS.out.nb
  have s1 := b1.size
  clear o1 b1 c0 AS
  have c1 : w1.cell? ⟨b, 0, none⟩ = some v := bx.cell rfl
  rcases OW.out.2 with ⟨q, q2⟩ | ⟨g, c, cur, q, h1', h2, h3, h4, h5, h6⟩
  · subst q
    have f1 : w1.frozen? ⟨b, 0, none⟩ = false := bx.frozen 0
    have hrc := fun ty => run_clear_none (P := Tryz.prog) w1 22 29 ty Tryz.underlying22 none 0
    go_wp2_with (at_builtin; refine wpList_clear_at _ rfl _ 22 rfl _ rfl (hrc _) ?_)
    rw [setCell_eq_setRow w1 b 0 _ _ _ _ bx]
    go_wp2_with fail
    go_ret
    have o6 : ∀ k, k ≠ b → (w1.setRow b #[.slice none 0 0, (.func (.func 13) #[] #[])]).heap[k]? = w1.heap[k]? := fun k hk => setRow_other _ _ _ _ hk
    refine ⟨_, .slice none 0 0, rfl, own_block_keep O1.out (fun k e => o6 k (fun q => by have := (O1.out.lt k e).1; omega)), ⟨bx.row (cs' := [.slice none 0 0, (.func (.func 13) #[] #[])]), ⟨rfl, .inl ⟨rfl, rfl⟩⟩, NB.out, List.Pairwise.nil, Rk.nil _ _ _ _ (Nat.le_refl _)⟩, ?_⟩
    exact ⟨B1.out.os, B1.out.tape, B1.out.output, by simpa using B1.out.size, fun k hk h1 h2 => (o6 k h1).trans (B1.out.block k hk), fun k e => .inl e⟩
  · subst q
    have hgb : g ≠ b := fun e => NB.out (by rw [e]; rfl)
    have hgw := (LT.out g rfl).2
    obtain ⟨R, hR, hRs⟩ : ∃ R : Array Value, (∀ ty, (Builtin.clear_ #[22] ty #[.slice (some ⟨g, 0, none⟩) L.length c]).run Tryz.prog w1 = .ok (.tuple #[]) (w1.setRow g R)) ∧ R.size = c * 1 := by
      by_cases hz : L.length = 0
      · refine ⟨cur, fun ty => ?_, h5⟩
        rw [hz, setRow_self w1 g cur _ _ h2]
        exact run_clear_none w1 22 29 ty Tryz.underlying22 _ c
      · have zc : ((Value.slice none 0 0).cells).size = 1 := by kernel_rfl
        have hm : L.length * 1 ≤ c * 1 := Nat.mul_le_mul_right 1 h3
        have hzz : (Tryz.prog.info? 29).map (·.zero) = some (some (.slice none 0 0)) := by
          obtain ⟨i0, hi0, hz0, _, _⟩ := info_parts infoH
          rw [hi0]; simp [hz0]
        refine ⟨_, fun ty => run_clear_w w1 22 29 ty (.slice none 0 0) Tryz.underlying22 hzz zH_one g 0 L.length c (by omega) cur _ h2 (by rw [zc, h5]; omega), ?_⟩
        simp [zeroCells_size, zc, h5]
        omega
    obtain ⟨w2, hw2⟩ : ∃ w2, w2 = w1.setRow g R := ⟨_, rfl⟩
    rw [← hw2] at hR
    have HG2 : w2.heap[g]? = some (.cells R 29 (0, 0)) := by rw [hw2]; exact setRow_heap _ _ _ _ _ _ h2
    have o2 : ∀ k, k ≠ g → w2.heap[k]? = w1.heap[k]? := fun k hk => by rw [hw2]; exact setRow_other _ _ _ _ hk
    have e2 : w2.os = w1.os ∧ w2.tape = w1.tape ∧ w2.output = w1.output ∧ w2.heap.size = w1.heap.size := by rw [hw2]; exact ⟨rfl, rfl, rfl, by simp⟩
    have bx2 : Arr w2 b [.slice (some ⟨g, 0, none⟩) L.length c, (.func (.func 13) #[] #[])] 36 := (o2 b (fun e => hgb e.symm)).trans bx
    have HG := Lib.hid HG2; have O2 := Lib.hid o2; have E2 := Lib.hid e2; have C3 := Lib.hid h4; have RS := Lib.hid hRs; have HB := Lib.hid h1'
    clear hw2 HG2 o2 e2 h4 hRs h1' h2 h5 h6 OW bx
    have c2 : w2.cell? ⟨b, 0, none⟩ = some (.slice (some ⟨g, 0, none⟩) L.length c) := bx2.cell rfl
    have f2 : w2.frozen? ⟨b, 0, none⟩ = false := bx2.frozen 0
    go_wp2_with (at_builtin; refine wpList_clear_at _ rfl _ 22 rfl _ rfl (hR _) ?_)
    rw [setCell_eq_setRow w2 b 0 _ _ _ _ bx2]
    go_wp2_with fail
    go_ret
    have o6 : ∀ k, k ≠ b → (w2.setRow b #[.slice (some ⟨g, 0, none⟩) 0 c, (.func (.func 13) #[] #[])]).heap[k]? = w2.heap[k]? := fun k hk => setRow_other _ _ _ _ hk
    refine ⟨_, .slice (some ⟨g, 0, none⟩) 0 c, rfl, own_block_keep O1.out (fun k e => ?_), ⟨bx2.row (cs' := [.slice (some ⟨g, 0, none⟩) 0 c, (.func (.func 13) #[] #[])]), ⟨rfl, .inr ⟨g, c, R, rfl, HB.out, (o6 g hgb).trans HG.out, Nat.zero_le _, C3.out, RS.out, by simp [hdOf]⟩⟩, fun e => hgb (by simpa [Value.ownBlock] using e), List.Pairwise.nil, Rk.nil _ _ _ _ (Nat.le_refl _)⟩, ?_⟩
    · have := (O1.out.lt k e).1
      exact (o6 k (by omega)).trans (O2.out k (by omega))
    · exact ⟨E2.out.1.trans B1.out.os, E2.out.2.1.trans B1.out.tape, E2.out.2.2.1.trans B1.out.output, by have := E2.out.2.2.2; simp; omega, fun k hk h1 h2 => ((o6 k h1).trans (O2.out k (fun e => h2 (by rw [e]; rfl)))).trans (B1.out.block k hk), fun k e => .inl (by simpa [Value.ownBlock] using e)⟩
end Go.Proofs.YtpmojmhamgcfmaaGreat.lst

/-
  allPerms: every permutation of a few elements, by swaps.
-/
namespace Go.Proofs.YtpmojmhamgcfmaaGreat.lst
open Go.ChangeShapes Go.WideShapes Go.ChangeAt Go.RowKit
open Go.Proofs.YtpmojmhamgcfmaaGreat.mem Go.Proofs.YtpmojmhamgcfmaaGreat.ints Go.Proofs.YtpmojmhamgcfmaaGreat.arr Go.Proofs.YtpmojmhamgcfmaaGreat.pm Go.Proofs.YtpmojmhamgcfmaaGreat.sf Go.Proofs.YtpmojmhamgcfmaaGreat.gl Go.Proofs.YtpmojmhamgcfmaaGreat.orb Go.Proofs.YtpmojmhamgcfmaaGreat.lp
set_option linter.unusedVariables false
set_option maxRecDepth 100000

/-- Two elements swapped. -/
def swp (p : List Int) (i l : Nat) : List Int := (p.set i (p.getD l 0)).set l (p.getD i 0)
theorem swp_len (p : List Int) (i l : Nat) : (swp p i l).length = p.length := by simp [swp]
def swN (p : List Int) (l : Nat) : Nat → List (List Int)
  | 0 => []
  | i + 1 => swN p l i ++ [swp p i l]
theorem swN_len (p : List Int) (l : Nat) : ∀ i, (swN p l i).length = i
  | 0 => rfl
  | i + 1 => by simp [swN, swN_len p l i]
/-- One round: each permutation with its element l swapped with each up to it. -/
def swR (L : List (List Int)) (l : Nat) : List (List Int) := L.flatMap fun p => swN p l (l + 1)
def prI : Nat → List (List Int)
  | 0 => [idl]
  | k + 1 => swR (prI k) k
theorem swR_take {L : List (List Int)} {l a : Nat} {p : List Int} (h : L[a]? = some p) : swR (L.take (a + 1)) l = swR (L.take a) l ++ swN p l (l + 1) := by
  rw [List.take_add_one, h]
  simp [swR]
theorem swR_len (l : Nat) : ∀ L : List (List Int), (swR L l).length = L.length * (l + 1)
  | [] => by simp [swR]
  | p :: L => by
    have := swR_len l L
    unfold swR at this ⊢
    rw [List.flatMap_cons, List.length_append, this, swN_len, List.length_cons, Nat.add_mul]
    omega
theorem prI_few : ∀ k : Fin 5, (prI k.val).length ≤ 24 ∧ ((prI k.val).all fun p => decide (p.length = 24)) = true := by decide +kernel
theorem prI_ok {k : Nat} (h : k ≤ 4) : (prI k).length ≤ 24 ∧ ∀ p ∈ prI k, p.length = 24 := by
  obtain ⟨a, b⟩ := prI_few ⟨k, by omega⟩
  exact ⟨a, fun p hp => by simpa using List.all_eq_true.1 b p hp⟩
/-- The cells of permutations, one behind the other. -/
def flP (L : List (List Int)) : List Value := L.flatMap V
theorem flP_at : ∀ {L : List (List Int)} {k : Nat} {p : List Int}, (∀ q ∈ L, q.length = 24) → L[k]? = some p → ∀ (j : Nat) v, (V p)[j]? = some v → (flP L)[k * 24 + j]? = some v
  | [], k, s, _, h, _, _, _ => by simp at h
  | x :: L, 0, s, _, h, j, v, hj => by
    obtain rfl : x = s := by simpa using h
    unfold flP
    rw [List.flatMap_cons, Nat.zero_mul, Nat.zero_add, List.getElem?_append_left (List.getElem?_eq_some_iff.1 hj).1]
    exact hj
  | x :: L, k + 1, s, hl, h, j, v, hj => by
    have := flP_at (L := L) (k := k) (fun q hq => hl q (List.mem_cons_of_mem _ hq)) (by simpa using h) j v hj
    have lx : (V x).length = 24 := by rw [V_len]; exact hl x (List.mem_cons_self ..)
    unfold flP at this ⊢
    rw [List.flatMap_cons, List.getElem?_append_right (by rw [lx]; omega), lx, show (k + 1) * 24 + j - 24 = k * 24 + j by omega]
    exact this
theorem flP_snoc (L : List (List Int)) (p : List Int) : flP (L ++ [p]) = flP L ++ V p := by simp [flP]
section
variable {P : Program}
/-- What was just laid is written over whole: the world behind it by what is known of it. -/
theorem wpList_store_fresh {ops : Array Oper} {rest : List Oper} {o : Oper} {a : Act} {w : World} {Q : Exit → Act → World → Prop} (hgd : o.guard = none) (T : TypeId) (p x : Operand) (ho : o.op = .store T p x) (cs : List Value) (zs : Array Value)
    (hp : a.eval p = .pointer (some ⟨w.heap.size, 0, none⟩)) (hx : a.eval x = .agg cs.toArray) (hs : (P.info? T).map (·.size) = some cs.toArray.size) (hz : zs.size = cs.toArray.size) (h1 : cs.toArray.all (·.oneCell') = true)
    (h : ∀ W, Below w.heap.size w W → Arr W w.heap.size cs T → W.heap.size = w.heap.size + 1 → wpList P ops Q rest (a.put o.dst undef) W) : wpList P ops Q (o :: rest) a (w.alloc (.cells zs T)) := by
  refine wpList_store_row hgd T _ _ ho w.heap.size cs.toArray hp hx T zs (heap_alloc_last w _) hs hz h1 ?_
  exact h _ (arr.below_setRow ((Below.refl _ _).alloc (Nat.le_refl _) _) (Nat.le_refl _) _) (setRow_heap _ _ _ _ _ _ (heap_alloc_last w _)) (by simp)
end
theorem infoP : (Tryz.prog.info? 60).map (fun i => (i.zero, i.size, i.bytes)) = some (some (.agg (V zeros).toArray), 24, 192) := by kernel_rfl
theorem wpList_bs_pm {ops : Array Oper} {rest : List Oper} {o : Oper} {a : Act} {w : World} {Q : Exit → Act → World → Prop} (hgd : o.guard = none) (x : Operand) (ho : o.op = .buildSlice 68 1 #[(0, x)])
    (L : List Int) (hL : L.length = 24) (hx : a.eval x = .agg (V L).toArray)
    (h : wpList Tryz.prog ops Q rest (a.put o.dst (.slice (some ⟨w.heap.size, 0, none⟩) 1 1)) (w.alloc (.cells (V L).toArray 60))) : wpList Tryz.prog ops Q (o :: rest) a w := by
  obtain ⟨i, hi, hz, hs, hb⟩ := info_parts infoP
  refine wpList_buildSlice hgd 68 60 1 _ ho (V L).toArray i _ Tryz.underlying68 hi hz (by rw [hs]; decide) (by rw [hs]; decide) ?_ h
  rw [hs]
  have := Great.fill_whole (s := 24) (by decide) [.agg (V L).toArray] ((Array.range (1 * 24)).map ((Value.agg (V zeros).toArray).cells[· % (Value.agg (V zeros).toArray).cells.size]!)) (by simp [Value.cells, V_len, hL]) (by simp)
  simpa [hx, Value.cells] using this
/-- A list of permutations in a row of its own. -/
structure Pr (w wr : World) (base : Nat) (v : Value) (L : List (List Int)) : Prop where
  own : wr.ownsRow base 60 24 v L.length (flP L)
  bel : Below w.heap.size w wr
theorem Pr.keep {w wr w' : World} {base : Nat} {v : Value} {L : List (List Int)} (h : Pr w wr base v L) (hb : Below wr.heap.size wr w') : Pr w w' base v L := ⟨own_block_keep h.own (fun b e => hb.block b (h.own.lt b e).2), h.bel.trans (hb.mono h.bel.size)⟩
set_option maxHeartbeats 4000000 in
theorem allPerms_any (n : Nat) (hn : n ≤ 4) (w : World) :
    Calls Tryz.prog 45 #[.int .i64 n] w fun e w' => ∃ v, e = .returned v ∧ Pr w w' w.heap.size v (prI n) := by
  obtain ⟨i0, hi0, hz0, hzs, hzb⟩ := info_parts infoP
  have zc : ((Value.agg (V zeros).toArray).cells).size = 24 := by kernel_rfl
  have IL : idl.length = 24 := tab_len _
  go_enter Tryz.func45, Tryz.ntmps45
  go_wp2_with fail
  refine (staying_any _).mono ?_
  rintro e w1 ⟨rfl, b1⟩
  have ST : Hid (∃ W, W = w1.alloc (.cells (V idl).toArray 60) ∧ Pr w W w.heap.size (.slice (some ⟨w1.heap.size, 0, none⟩) 1 1) (prI 0)) := Lib.hid (by
    refine ⟨_, rfl, ⟨⟨rfl, .inr ⟨w1.heap.size, 1, _, rfl, b1.size, heap_alloc_last w1 _, Nat.le_refl _, by unfold maxLen; omega, by simp [V_len, IL], by
      show List.take 24 (V idl) = flP [idl]
      rw [List.take_of_length_le (by rw [V_len, IL]; omega)]
      simp [flP]⟩⟩, b1.alloc b1.size _⟩⟩)
  clear b1
  generalize hI : idl = I at *
  go_wp2_with (refine wpList_bs_pm rfl _ rfl I IL rfl ?_)
  obtain ⟨w2, eW, pr0⟩ := ST.out
  rw [← eW]
  have PR0 := Lib.hid pr0
  clear eW pr0 ST hI IL
  go_loopw [3, 13] (fun vo i wr => ∃ k : Nat, k ≤ n ∧ i = .int .i64 k ∧ Pr w wr w.heap.size vo (prI k)) (fun _ i _ => n - (intOf i).toNat)
  case atStart => exact ⟨0, Nat.zero_le _, rfl, PR0.out⟩
  case round =>
    obtain ⟨k, hk, rfl, pr⟩ := hrel
    have PR := Lib.hid pr; clear pr PR0
    by_cases hlt : k < n
    · obtain ⟨l24, lall⟩ := prI_ok (k := k) (by omega)
      have LA := Lib.hid lall; clear lall
      have EN : Hid (prI (k + 1) = swR (prI k) k) := Lib.hid rfl
      have LB : (prI k).length * (k + 1) ≤ 96 := by
        have h2 : (prI k).length * (k + 1) ≤ 24 * 4 := Nat.mul_le_mul l24 (by omega)
        omega
      generalize prI k = L at *
      obtain ⟨A, c, rfl⟩ := mem.own_form PR.out.own
      go_wp2_with fail
      obtain ⟨wo, rfl⟩ : ∃ wo : World, wo = wr := ⟨_, rfl⟩
      have M0 : Hid (Pr wo wo wo.heap.size (.slice none 0 0) (swR (L.take 0) k)) := Lib.hid ⟨⟨by simp [swR, flP], .inl ⟨rfl, by simp [swR]⟩⟩, Below.refl _ _⟩
      go_loopw [5, 18] (fun vm i wr => ∃ a : Nat, a ≤ L.length ∧ i = .int .i64 a ∧ Pr wo wr wo.heap.size vm (swR (L.take a) k)) (fun _ i _ => L.length - (intOf i).toNat)
      case atStart => exact ⟨0, Nat.zero_le _, rfl, M0.out⟩
      case round =>
        obtain ⟨a, ha, rfl, pm⟩ := hrel
        have MR := Lib.hid pm; clear pm M0
        by_cases hal : a < L.length
        · obtain ⟨p, hp⟩ : ∃ p, L[a]? = some p := ⟨_, List.getElem?_eq_getElem hal⟩
          have PL : p.length = 24 := LA.out p (List.mem_of_getElem? hp)
          have ES := Lib.hid (swR_take (l := k) hp)
          have LM : (swR (L.take a) k).length = a * (k + 1) := by rw [swR_len, List.length_take, Nat.min_eq_left ha]
          have LM2 : a * (k + 1) ≤ 96 := Nat.le_trans (Nat.mul_le_mul_right _ ha) LB
          have OW := Lib.hid PR.out.own
          have hA : ∃ g, A = some ⟨g, 0, none⟩ ∧ g < wo.heap.size := by
            rcases OW.out.2 with ⟨q, q2⟩ | ⟨g, cap, cur, q, _, h2, _⟩
            · omega
            · injection q with q1 q2 q3
              exact ⟨g, q1, (Array.getElem?_eq_some_iff.1 h2).1⟩
          obtain ⟨g, rfl, hg⟩ := hA
          have HC : Hid (∀ (j : Nat) v, (V p)[j]? = some v → wr.cell? ⟨g, a * 24 + j, none⟩ = some v) := Lib.hid (fun j v hv => by
            have e := OW.out.cells (g := g) rfl (a * 24 + j) v (flP_at LA.out hp j v hv)
            rw [show ((⟨g, 0, none⟩ : Addr).add (a * 24 + j)) = ⟨g, a * 24 + j, none⟩ by unfold Addr.add; split <;> simp_all] at e
            rw [MR.out.bel.cell (p := ⟨g, a * 24 + j, none⟩) hg]
            exact e)
          have HSZ : (Tryz.prog.info? 60).map (·.size) = some (V p).length := by rw [info44, V_len, PL]
          have HS2 : (Tryz.prog.info? 60).map (·.size) = some (V p).toArray.size := size_V PL
          have HZ : (#[.int .i64 0, .int .i64 0, .int .i64 0, .int .i64 0, .int .i64 0, .int .i64 0, .int .i64 0, .int .i64 0, .int .i64 0, .int .i64 0, .int .i64 0, .int .i64 0, .int .i64 0, .int .i64 0, .int .i64 0, .int .i64 0, .int .i64 0, .int .i64 0, .int .i64 0, .int .i64 0, .int .i64 0, .int .i64 0, .int .i64 0, .int .i64 0] : Array Value).size = (V p).toArray.size := by simp [V_len, PL]
          generalize hM : swR (L.take a) k = M at *
          clear hM hp
          go_wp2_with (first | (refine wpList_load_part rfl 60 _ rfl g (a * 24) rfl (V p) _ HC.out Tryz.underlying60 rfl HSZ ?_) | (refine wpList_store_fresh rfl 60 _ _ rfl (V p) _ rfl rfl HS2 HZ (one_V p) ?_; intro wp bp ap sp))
          have AP := Lib.hid ap
          have M1 : Hid (Pr wo wp wo.heap.size u5 (M ++ swN p k 0)) := Lib.hid (by rw [swN, List.append_nil]; exact MR.out.keep bp)
          have N1 : Hid (¬ u5.ownBlock = some wr.heap.size) := Lib.hid (fun e => by have := (MR.out.own.lt _ e).2; omega)
          have hbp : wr.heap.size < wp.heap.size := by omega
          have hwo : wo.heap.size ≤ wr.heap.size := MR.out.bel.size
          generalize wr.heap.size = b7 at *
          clear ap bp sp MR HC HSZ
          go_loopw [5, 24] (fun vm i wr => ∃ j : Nat, j ≤ k + 1 ∧ i = .int .i64 j ∧ Pr wo wr wo.heap.size vm (M ++ swN p k j) ∧ Arr wr b7 (V p) 60 ∧ ¬ vm.ownBlock = some b7) (fun _ i _ => k + 1 - (intOf i).toNat)
          case atStart => exact ⟨0, Nat.zero_le _, rfl, M1.out, AP.out, N1.out⟩
          case round =>
            obtain ⟨j, hj, rfl, pj, aj, nj⟩ := hrel
            have PJ := Lib.hid pj; have AJ := Lib.hid aj; have NJ := Lib.hid nj; clear pj aj nj M1 AP N1
            by_cases hjl : j < k + 1
            · have hk24 : k < 24 := by omega
              have hj24 : j < 24 := by omega
              have s0 := AJ.out.lt
              go_wp2_with (first | (refine wpList_load_row rfl 60 _ rfl b7 rfl 60 (V p).toArray (0, 0) _ AJ.out Tryz.underlying60 rfl HS2 ?_) | (refine wpList_store_fresh rfl 60 _ _ rfl (V p) _ rfl rfl HS2 HZ (one_V p) ?_; intro wq bq aq sq))
              have PJ2 := Lib.hid (PJ.out.keep bq); have AJ2 := Lib.hid (AJ.out.keep bq AJ.out.lt); have AQ := Lib.hid aq
              have NJ2 : Hid (∀ e, u5.ownBlock = some e → e < wr.heap.size) := Lib.hid (fun e q => (PJ.out.own.lt e q).2)
              have hwr := PJ.out.bel.size
              generalize hb9 : wr.heap.size = b9 at *
              clear bq aq PJ AJ
              refine wp_region_held_drew (S := Hld wo.heap.size wq.heap.size wq [(b7, V p)]) (by kernel_rfl) (Hld.lower (Hld.start (fun q hq => by
                rcases List.mem_cons.1 hq with rfl | hq
                · exact ⟨AJ2.out.lt, fun i v hv => by rw [Nat.zero_add]; exact AJ2.out.cell hv⟩
                · simp at hq)) (by omega)) (fun hHeld => ?_)
              have b1 : Below wq.heap.size wq wq.drew := ⟨rfl, rfl, rfl, Nat.le_refl _, fun _ _ => rfl⟩
              have PJ3 := Lib.hid (PJ2.out.keep b1); have AJ3 := Lib.hid (AJ2.out.keep b1 AJ2.out.lt); have AQ3 : Hid (Arr wq.drew b9 (V p) 60) := Lib.hid (AQ.out.keep b1 AQ.out.lt)
              have s1 := b1.size
              generalize hw3 : wq.drew = w3 at *
              clear b1 PJ2 AJ2 AQ hw3
              have hbj : (j : Int) < 24 := by omega
              have hbk : (k : Int) < 24 := by omega
              have ek := V_getD (l := p) (k := k) (by omega)
              have ej := V_getD (l := p) (k := j) (by omega)
              refine wpAnyH_take (i := 0) (v := .int .i64 j) rfl (by kernel_rfl) (by kernel_rfl) (by kernel_rfl) (fun _ _ _ h => h) (Or.inl ⟨by kernel_rfl, fun w hSw => by go_simp⟩) hHeld ?_
              refine wpAnyH_take (i := 1) (v := .int .i64 k) rfl (by kernel_rfl) (by kernel_rfl) (by kernel_rfl) (fun _ _ _ h => h) (Or.inl ⟨by kernel_rfl, fun w hSw => by go_simp⟩) hHeld ?_
              refine wpAnyH_take (i := 2) (v := .int .i64 k) rfl (by kernel_rfl) (by kernel_rfl) (by kernel_rfl) (fun _ _ _ h => h) (Or.inl ⟨by kernel_rfl, fun w hSw => by go_simp⟩) hHeld ?_
              refine wpAnyH_take (i := 3) (v := .pointer (some ⟨b7, k, none⟩)) rfl (by kernel_rfl) (by kernel_rfl) (by kernel_rfl) (fun _ _ _ h => h) (Or.inl ⟨by kernel_rfl, fun w hSw => by go_simp⟩) hHeld ?_
              refine wpAnyH_take (i := 4) (v := .int .i64 (p.getD k 0)) rfl (by kernel_rfl) (by kernel_rfl) (by kernel_rfl) (fun _ _ _ h => h) (Or.inl ⟨by kernel_rfl, fun w hSw => by have c4 := hSw.fst k _ ek; rw [Nat.zero_add] at c4; go_simp⟩) hHeld ?_
              refine wpAnyH_take (i := 5) (v := .int .i64 j) rfl (by kernel_rfl) (by kernel_rfl) (by kernel_rfl) (fun _ _ _ h => h) (Or.inl ⟨by kernel_rfl, fun w hSw => by go_simp⟩) hHeld ?_
              refine wpAnyH_take (i := 6) (v := .pointer (some ⟨b7, j, none⟩)) rfl (by kernel_rfl) (by kernel_rfl) (by kernel_rfl) (fun _ _ _ h => h) (Or.inl ⟨by kernel_rfl, fun w hSw => by go_simp⟩) hHeld ?_
              refine wpAnyH_take (i := 7) (v := .int .i64 (p.getD j 0)) rfl (by kernel_rfl) (by kernel_rfl) (by kernel_rfl) (fun _ _ _ h => h) (Or.inl ⟨by kernel_rfl, fun w hSw => by have c7 := hSw.fst j _ ej; rw [Nat.zero_add] at c7; go_simp⟩) hHeld ?_
              refine wpAnyH_take (i := 8) (v := .pointer (some ⟨b9, j, none⟩)) rfl (by kernel_rfl) (by kernel_rfl) (by kernel_rfl) (fun _ _ _ h => h) (Or.inl ⟨by kernel_rfl, fun w hSw => by go_simp⟩) hHeld ?_
              refine wpAnyH_ready (rs := [9]) (by kernel_rfl) (by simp) (AllReadyH.cons rfl (fun K hK => ?_) AllReadyH.nil)
              have c9 : w3.cell? ⟨b9, j, none⟩ = some (.int .i64 (p.getD j 0)) := AQ3.out.cell ej
              have f9 : w3.frozen? ⟨b9, j, none⟩ = false := AQ3.out.frozen j
              go_simp
              rw [setCell_eq_setRow w3 b9 j _ _ _ _ AQ3.out]
              have hb79 : b7 ≠ b9 := by omega
              have e1 : ((V p).toArray.setIfInBounds j (Value.int .i64 p[k])) = (V (p.set j (p.getD k 0))).toArray := by rw [← V_set]; simp [PL, hk24]
              rw [e1]
              have AQ4 : Hid (Arr (w3.setRow b9 (V (p.set j (p.getD k 0))).toArray) b9 (V (p.set j (p.getD k 0))) 60) := Lib.hid AQ3.out.row
              have O4 : Hid (∀ q, q ≠ b9 → (w3.setRow b9 (V (p.set j (p.getD k 0))).toArray).heap[q]? = w3.heap[q]?) := Lib.hid (fun q hq => setRow_other _ _ _ _ hq)
              have E4 : Hid ((w3.setRow b9 (V (p.set j (p.getD k 0))).toArray).os = w3.os ∧ (w3.setRow b9 (V (p.set j (p.getD k 0))).toArray).tape = w3.tape ∧ (w3.setRow b9 (V (p.set j (p.getD k 0))).toArray).output = w3.output ∧ (w3.setRow b9 (V (p.set j (p.getD k 0))).toArray).heap.size = w3.heap.size) := Lib.hid ⟨rfl, rfl, rfl, by simp⟩
              have hH4 := hHeld.other (g := b9) (by omega) (fun q hq => by
                have := List.mem_singleton.1 hq
                subst this
                exact hb79) (V (p.set j (p.getD k 0))).toArray
              clear e1 c9 f9
              refine hK.out _ _ hH4 (fun hHeld2 => ?_)
              clear hK K hHeld2 hHeld
              generalize w3.setRow b9 (V (p.set j (p.getD k 0))).toArray = w4 at *
              refine wpAnyH_ready (rs := [10]) (by kernel_rfl) (by simp) (AllReadyH.cons rfl (fun K hK => ?_) AllReadyH.nil)
              go_simp
              refine hK.out _ _ hH4 (fun hHeld2 => ?_)
              clear hK K hHeld2
              have QL : (p.set j (p.getD k 0)).length = 24 := by simp [PL]
              have HW : Hid ((p.set j (p.getD k 0)).set k (p.getD j 0) = swp p j k) := Lib.hid rfl
              generalize p.set j (p.getD k 0) = q1 at *
              have c9 : w4.cell? ⟨b9, k, none⟩ = some (.int .i64 (q1.getD k 0)) := AQ4.out.cell (V_getD (by omega))
              have f9 : w4.frozen? ⟨b9, k, none⟩ = false := AQ4.out.frozen k
              refine wpAnyH_ready (rs := [11]) (by kernel_rfl) (by simp) (AllReadyH.cons rfl (fun K hK => ?_) AllReadyH.nil)
              go_simp
              rw [setCell_eq_setRow w4 b9 k _ _ _ _ AQ4.out]
              have e1 : ((V q1).toArray.setIfInBounds k (Value.int .i64 p[j])) = (V (swp p j k)).toArray := by rw [← HW.out, ← V_set]; simp [PL, hj24]
              rw [e1]
              have AQ5 : Hid (Arr (w4.setRow b9 (V (swp p j k)).toArray) b9 (V (swp p j k)) 60) := Lib.hid AQ4.out.row
              have O5 : Hid (∀ q, q ≠ b9 → (w4.setRow b9 (V (swp p j k)).toArray).heap[q]? = w3.heap[q]?) := Lib.hid (fun q hq => (setRow_other _ _ _ _ hq).trans (O4.out q hq))
              have E5 : Hid ((w4.setRow b9 (V (swp p j k)).toArray).os = w3.os ∧ (w4.setRow b9 (V (swp p j k)).toArray).tape = w3.tape ∧ (w4.setRow b9 (V (swp p j k)).toArray).output = w3.output ∧ (w4.setRow b9 (V (swp p j k)).toArray).heap.size = w3.heap.size) := Lib.hid ⟨E4.out.1, E4.out.2.1, E4.out.2.2.1, by have := E4.out.2.2.2; simp; omega⟩
              have hH5 := hH4.other (g := b9) (by omega) (fun q hq => by
                have := List.mem_singleton.1 hq
                subst this
                exact hb79) (V (swp p j k)).toArray
              refine hK.out _ _ hH5 (fun hHeld2 => ?_)
              clear hK K hHeld2 hH4 e1 c9 f9 AQ4 O4 E4
              generalize w4.setRow b9 (V (swp p j k)).toArray = w5 at *
              refine wpAnyH_done (by kernel_rfl) ?_ _
              clear hH5
              go_simp
              have SL : (swp p j k).length = 24 := by rw [swp_len]; exact PL
              have HS5 : (Tryz.prog.info? 60).map (·.size) = some (V (swp p j k)).toArray.size := size_V SL
              have s5 := E5.out.2.2.2
              have OW5 : Hid (w5.ownsRow wo.heap.size 60 24 u5 (M ++ swN p k j).length (flP (M ++ swN p k j))) := Lib.hid (own_block_keep PJ3.out.own (fun e q => O5.out e (fun x => by have := NJ2.out e q; omega)))
              have BL5 : Hid (Below wo.heap.size wo w5) := Lib.hid ⟨E5.out.1.trans PJ3.out.bel.os, E5.out.2.1.trans PJ3.out.bel.tape, E5.out.2.2.1.trans PJ3.out.bel.output, by have := PJ3.out.bel.size; omega, fun e he => (O5.out e (by omega)).trans (PJ3.out.bel.block e he)⟩
              have AP5 : Hid (Arr w5 b7 (V p) 60) := Lib.hid ((O5.out b7 hb79).trans AJ3.out)
              have LX : (M ++ swN p k j).length ≤ 101 := by rw [List.length_append, swN_len]; omega
              have EX : Hid (M ++ swN p k (j + 1) = (M ++ swN p k j) ++ [swp p j k]) := Lib.hid (by rw [swN, List.append_assoc])
              generalize hX : M ++ swN p k j = X at *
              generalize hT : swp p j k = T at *
              have OA : Hid ((w5.alloc (.cells (V T).toArray 60)).ownsRow wo.heap.size 60 24 u5 X.length (flP X)) := Lib.hid (OW5.out.alloc _)
              have HN : Hid (∀ (i : Nat) u, (V T)[i]? = some u → (w5.alloc (.cells (V T).toArray 60)).cell? ((⟨w5.heap.size, 0, none⟩ : Addr).add i) = some u) := Lib.hid (fun i u hu => by
                rw [show ((⟨w5.heap.size, 0, none⟩ : Addr).add i) = ⟨w5.heap.size, i, none⟩ by unfold Addr.add; split <;> simp_all]
                exact (Arr.new w5 (V T) 60 rfl).cell hu)
              have VL : (V T).length = 1 * 24 := by rw [V_len, SL]
              have h63 : X.length + 1 ≤ maxLen := by unfold maxLen; omega
              have hby : (X.length + 1) * 192 ≤ 140737488355328 := by omega
              have hba : wo.heap.size ≤ (w5.alloc (.cells (V T).toArray 60)).heap.size := by simp; omega
              have V1 : Hid (∀ u ∈ V T, u.oneCell' = true) := Lib.hid (by
                intro u hu
                unfold V at hu
                obtain ⟨z, _, rfl⟩ := List.mem_map.1 hu
                rfl)
              clear hX PJ3 AJ3 AQ3 hT HW
              go_wp2_with (first | (refine wpList_load_row rfl 60 _ rfl b9 rfl 60 (V T).toArray (0, 0) _ AQ5.out Tryz.underlying60 rfl HS5 ?_) | (refine wpList_bs_pm rfl _ rfl T SL rfl ?_) | (at_builtin; refine wpList_append_lies (w5.alloc (.cells (V T).toArray 60)) rfl _ _ 68 rfl wo.heap.size 60 i0 _ 24 192 Tryz.underlying68 hi0 hz0 hzs hzb zc (by decide) u5 X.length (flP X) rfl OA.out ⟨w5.heap.size, 0, none⟩ 1 1 (V T) rfl VL HN.out V1.out (by decide) h63 hby hba (w5.heap.size + 1) (by simp) ?_))
              intro g6 cap6 w6 ho6 hg6 hb6 hl6
              have P6 : Hid (Pr wo w6 wo.heap.size (.slice (some ⟨g6, 0, none⟩) (X.length + 1) cap6) (X ++ [T])) := Lib.hid ⟨by
                rw [flP_snoc, List.length_append, List.length_singleton]
                exact ho6, (BL5.out.alloc BL5.out.size _).trans (own_below OA.out hg6 (Nat.le_refl _) hba)⟩
              have A6 : Hid (Arr w6 b7 (V p) 60) := Lib.hid ((hg6.block b7 (by have := AP5.out.lt; simp; omega) (fun e => NJ.out e.symm)).trans (AP5.out.alloc _))
              have N6 : Hid (¬ (Value.slice (some ⟨g6, 0, none⟩) (X.length + 1) cap6).ownBlock = some b7) := Lib.hid (fun e => by
                have e2 : g6 = b7 := by simpa [Value.ownBlock] using e
                rcases hb6 with q | q
                · exact NJ.out (by rw [q, e2])
                · have := AP5.out.lt; omega)
              clear ho6 hg6 hb6 hl6 OA HN AP5 OW5 BL5 AQ5 O5 E5 NJ
              go_wp2_with fail
              go_roundw
              case rel => exact ⟨j + 1, by omega, by go_num, by rw [EX.out]; exact P6.out, A6.out, N6.out⟩
              case measure => simp [intOf]; omega
            · obtain rfl : j = k + 1 := by omega
              have PE : Hid (Pr wo wr wo.heap.size u5 (swR (L.take (a + 1)) k)) := Lib.hid (by rw [ES.out]; exact PJ.out)
              clear PJ AJ NJ
              go_wp2_with fail
              go_roundw
              case rel => exact ⟨a + 1, by omega, by go_num, PE.out⟩
              case measure => simp [intOf]; omega
        · obtain rfl : a = L.length := by omega
          have PE : Hid (Pr w wr w.heap.size u5 (prI (k + 1))) := Lib.hid (by
            have h1 := MR.out
            rw [List.take_of_length_le (Nat.le_refl _), ← EN.out] at h1
            have s0 := PR.out.bel.size
            refine ⟨⟨h1.own.1, ?_⟩, PR.out.bel.trans (h1.bel.mono s0)⟩
            rcases h1.own.2 with q | ⟨g, cap, cur, q1, q2, q3⟩
            · exact .inl q
            · exact .inr ⟨g, cap, cur, q1, Nat.le_trans s0 q2, q3⟩)
          clear MR PR
          go_wp2_with fail
          go_roundw
          case rel => exact ⟨k + 1, by omega, by go_num, PE.out⟩
          case measure => simp [intOf]; omega
    · obtain rfl : k = n := by omega
      go_wp2_with fail
      go_ret
      exact ⟨_, rfl, PR.out⟩
end Go.Proofs.YtpmojmhamgcfmaaGreat.lst
