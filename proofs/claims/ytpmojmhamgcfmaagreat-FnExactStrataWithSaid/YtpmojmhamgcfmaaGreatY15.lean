import Derived.Test.YtpmojmhamgcfmaaGreatY14
import Derived.Deep.RegionLaw
import Derived.Test.YtpmojmhamgcfmaaGreatY05
import Derived.Test.YtpmojmhamgcfmaaGreatY09
import Derived.Test.YtpmojmhamgcfmaaGreatY07
/-
  slices.Insert of the header of one list: a new row, or in place.
-/
namespace Go.Proofs.YtpmojmhamgcfmaaGreat.wd
open Go.ChangeShapes Go.WideShapes Go.ChangeAt Go.RowKit
open Go.Proofs.YtpmojmhamgcfmaaGreat.mem Go.Proofs.YtpmojmhamgcfmaaGreat.ints Go.Proofs.YtpmojmhamgcfmaaGreat.arr Go.Proofs.YtpmojmhamgcfmaaGreat.pm Go.Proofs.YtpmojmhamgcfmaaGreat.sf Go.Proofs.YtpmojmhamgcfmaaGreat.gl
set_option linter.unusedVariables false
set_option maxRecDepth 100000

theorem infoH : (Tryz.prog.info? 29).map (fun i => (i.zero, i.size, i.bytes)) = some (some (.slice none 0 0), 1, 24) := by kernel_rfl
theorem infoH1 : (Tryz.prog.info? 29).map (·.size) = some 1 := by kernel_rfl
set_option maxHeartbeats 4000000 in
set_option maxRecDepth 100000 in
theorem insH_grow (g n i vb base : Nat) (xs x : List Value) (w : World) (ho : w.ownsRow base 29 1 (.slice (some ⟨g, 0, none⟩) n n) n xs) (hi : i < n) (hn : n ≤ 1000)
    (hx : Arr w vb x 29) (hxl : x.length = 1) (h1x : ∀ v ∈ x, v.oneCell' = true) (h1 : ∀ v ∈ xs, v.oneCell' = true) (hg : g < w.heap.size) :
    Calls Tryz.prog 31 #[.slice (some ⟨g, 0, none⟩) n n, .int .i64 i, .slice (some ⟨vb, 0, none⟩) 1 1] w fun e w' =>
      ∃ cap, e = .returned (.slice (some ⟨w.heap.size, 0, none⟩) (n + 1) cap) ∧ w'.ownsRow base 29 1 (.slice (some ⟨w.heap.size, 0, none⟩) (n + 1) cap) (n + 1) (xs.take (i) ++ x ++ xs.drop (i)) ∧ w.grownBy w' none := by
  obtain ⟨i0, hi0, hz0, hzs, hzb⟩ := info_parts infoH
  have hbase := (ho.lt g rfl).1
  have hxn : xs.length = n := by simpa using ho.1
  have hcs := own_cells ho
  have hz2 : ¬ ((i : Int) = (n : Int)) := by omega
  have hz3 : (n : Int) < (n : Int) + 1 := by omega
  have hkk : (n : Int) + 1 - (i : Int) = ((n + 1 - i : Nat) : Int) := by omega
  have hik : i + (n + 1 - i) = n + 1 := by omega
  have hold : (Builtin.firstCells i0.size i (.slice (some ⟨g, 0, none⟩) i n)).run Tryz.prog w.drew = .ok (xs.take (i)).toArray w.drew := by
    rw [hzs]
    simpa using firstCells_at (P := Tryz.prog) w.drew 1 i g i n xs (by omega) hcs
  have hrz : ∀ ty, (Builtin.append_ #[22, 3] ty #[.slice (some ⟨g, 0, none⟩) i n, .int .i64 ((n : Int) + 1 - (i : Int))]).run Tryz.prog w =
      .ok (.slice (some ⟨w.heap.size, 0, none⟩) (n + 1) (grownCap w (n + 1) n 29)) (w.drew.alloc (.cells ((xs.take (i)).toArray ++ Builtin.zeroCells (Value.slice none 0 0).cells (n + 1 - i) ++ Builtin.zeroCells (Value.slice none 0 0).cells (grownCap w (n + 1) n 29 - (n + 1))) 29)) := fun ty => by
    have h := Lib.run_append_grow_zeros w 22 3 ty 29 i0 _ .i64 .i64 Tryz.underlying22 Tryz.underlying3 hi0 hz0 (some ⟨g, 0, none⟩) i n (xs.take (i)) hold (n + 1 - i) (by omega) (by omega) (by omega) (by omega) (by rw [hzb]; omega)
      (by rw [hzb, hik]; exact growslice_fits_wide (by omega) (by omega))
    rw [hik] at h
    rw [hkk]
    exact h
  obtain ⟨G, hG⟩ : ∃ G, G = grownCap w (n + 1) n 29 := ⟨_, rfl⟩
  have hGn : n + 1 ≤ G := by rw [hG]; exact grownCap_ge w _ _ _
  have hGm : G ≤ maxLen := by rw [hG]; exact grownCap_le_maxLen w _ _ _ (by unfold maxLen; omega)
  have zc : ((Value.slice none 0 0).cells).size = 1 := by kernel_rfl
  obtain ⟨ROW, hROW⟩ : ∃ ROW : Array Value, ROW = (xs.take (i)).toArray ++ Builtin.zeroCells (Value.slice none 0 0).cells (n + 1 - i) ++ Builtin.zeroCells (Value.slice none 0 0).cells (G - (n + 1)) := ⟨_, rfl⟩
  rw [← hG] at hrz
  rw [← hROW] at hrz
  have hRl : ROW.size = G := by
    rw [hROW, Array.size_append, Array.size_append, zeroCells_size, zeroCells_size, zc, List.size_toArray, List.length_take]
    omega
  have hRt : ROW.toList.take (i) = xs.take (i) := by
    rw [hROW]
    simp only [Array.toList_append, List.append_assoc]
    rw [List.take_append_of_le_length (by simp; omega)]
    show List.take (i) (List.take (i) xs) = _
    rw [List.take_take, Nat.min_self]
  obtain ⟨W1, hW1⟩ : ∃ W1, W1 = w.drew.alloc (.cells ROW 29) := ⟨_, rfl⟩
  rw [← hW1] at hrz
  have H1 : W1.heap[w.heap.size]? = some (.cells ROW 29 (0, 0)) := by rw [hW1]; exact heap_alloc_last w.drew _
  have B1 : w.grownBy W1 none := by
    rw [hW1]
    exact ⟨rfl, rfl, rfl, by simp, fun k hk _ => ((Below.refl w.heap.size w.drew).alloc (Nat.le_refl _) _).block k hk⟩
  have hs1 : W1.heap.size = w.heap.size + 1 := by rw [hW1]; simp
  obtain ⟨R2, hR2⟩ : ∃ R2 : Array Value, R2 = (ROW.toList.take (i) ++ x ++ ROW.toList.drop (i + x.length)).toArray := ⟨_, rfl⟩
  have hR2l : R2.size = G := by rw [hR2]; simp [hxl, hRl] <;> omega
  have hsz : (Tryz.prog.info? 29).map (·.size) = some 1 := infoH1
  have hvb := hx.lt
  have hcpA : ∀ ty dc, (Builtin.copy_ #[22, 22] ty #[.slice (some ⟨w.heap.size, i, none⟩) (n + 1 - i) dc, .slice (some ⟨vb, 0, none⟩) 1 1]).run Tryz.prog W1 = .ok (goInt (1 : Nat)) (W1.setRow w.heap.size R2) := fun ty dc => by
    rw [hR2]
    exact run_copy_w W1 _ _ ty 29 1 w.heap.size (i) (n + 1 - i) dc ⟨vb, 0, none⟩ 1 1 1 ROW 29 x Tryz.underlying22 hsz H1 (by simp only [Nat.min_def]; split <;> omega) (by omega)
      (fun j v hj => by
        have h := hx.cell hj
        rw [show ((⟨vb, 0, none⟩ : Addr).add j) = ⟨vb, j, none⟩ by unfold Addr.add; split <;> simp_all]
        rw [World.cell?_of_block (w := w) (a := ⟨vb, j, none⟩) (B1.block vb hvb (by simp))]
        exact h) (by omega) h1x
  obtain ⟨W2, hW2⟩ : ∃ W2, W2 = W1.setRow w.heap.size R2 := ⟨_, rfl⟩
  rw [← hW2] at hcpA
  have H2 : W2.heap[w.heap.size]? = some (.cells R2 29 (0, 0)) := by rw [hW2]; exact setRow_heap _ _ _ _ _ _ H1
  have B2 : w.grownBy W2 none := by
    rw [hW2]
    exact ⟨B1.os, B1.tape, B1.output, by simp; omega, fun k hk hn => by rw [setRow_other _ _ _ _ (by omega)]; exact B1.block k hk hn⟩
  have hR2t : R2.toList.take ((i + 1)) = xs.take (i) ++ x := by
    have l1 : (xs.take (i)).length = i := by rw [List.length_take]; omega
    rw [hR2, hRt, List.toList_toArray, List.take_append_of_le_length (by simp [hxl]; omega)]
    exact List.take_of_length_le (by simp [hxl]; omega)
  have hdl : (xs.drop (i)).length = (n - i) := by rw [List.length_drop, hxn]
  obtain ⟨R3, hR3⟩ : ∃ R3 : Array Value, R3 = (R2.toList.take ((i + 1)) ++ xs.drop (i) ++ R2.toList.drop ((i + 1) + (xs.drop (i)).length)).toArray := ⟨_, rfl⟩
  have hR3l : R3.size = G := by rw [hR3]; simp [hdl, hR2l]; omega
  have hR3t : R3.toList.take ((n + 1)) = xs.take (i) ++ x ++ xs.drop (i) := by
    rw [hR3, hR2t, List.toList_toArray, List.take_append_of_le_length (by simp [hxl]; omega)]
    exact List.take_of_length_le (by simp [hxl]; omega)
  have hcpB : ∀ (W : World), W.heap = W2.heap → ∀ ty dc sc, (Builtin.copy_ #[22, 22] ty #[.slice (some ⟨w.heap.size, (i + 1), none⟩) (n - i) dc, .slice (some ⟨g, i, none⟩) (n - i) sc]).run Tryz.prog W = .ok (goInt (n - i : Nat)) (W.setRow w.heap.size R3) := fun W hW ty dc sc => by
    rw [hR3]
    exact run_copy_w W _ _ ty 29 1 w.heap.size ((i + 1)) (n - i) dc ⟨g, i, none⟩ (n - i) sc (n - i) R2 29 (xs.drop (i)) Tryz.underlying22 hsz (by rw [hW]; exact H2) (by simp only [Nat.min_def]; split <;> omega) (by omega)
      (fun j v hj => by
        rw [show ((⟨g, i, none⟩ : Addr).add j) = ⟨g, i + j, none⟩ by unfold Addr.add; split <;> simp_all]
        have e : W.heap[g]? = w.heap[g]? := by rw [hW]; exact B2.block g hg (by simp)
        rw [World.cell?_of_block (w := w) (a := ⟨g, i + j, none⟩) e]
        rw [List.getElem?_drop] at hj
        exact hcs _ v hj) (by rw [hdl, hR2l]; omega) (fun v hv => h1 v (List.mem_of_mem_drop hv))
  have FIN : Hid (∀ (W : World), W.heap = W2.heap → W.os = W2.os → W.tape = W2.tape → W.output = W2.output → (W.setRow w.heap.size R3).ownsRow base 29 1 (.slice (some ⟨w.heap.size, 0, none⟩) (n + 1) G) (n + 1) (xs.take (i) ++ x ++ xs.drop (i)) ∧ w.grownBy (W.setRow w.heap.size R3) none) := Lib.hid (fun W e1 e2 e3 e4 => by
    refine ⟨⟨by simp [hxl]; omega, .inr ⟨w.heap.size, G, R3, rfl, by omega, setRow_heap _ _ R2 _ _ _ (by rw [e1]; exact H2), hGn, hGm, by simpa using hR3l, by simpa using hR3t⟩⟩, ⟨e2.trans B2.os, e3.trans B2.tape, e4.trans B2.output, by simp [e1]; exact B2.size, fun k hk hn => ?_⟩⟩
    rw [setRow_other _ _ _ _ (by omega), e1]
    exact B2.block k hk hn)
  have hGi : ¬ (G = i) := by omega
  have hGim : ¬ (G = i + 1) := by omega
  have hni : ¬ (n = i) := by omega
  have hw1 : IntKind.i64.wrap ((i : Int) + 1) = (i : Int) + 1 := by rw [IntKind.wrap_i64]; omega
  have htn : ((i : Int) + 1).toNat = i + 1 := by omega
  have hin : i ≤ n := by omega
  have hb1 : (0 : Int) ≤ (i : Int) + 1 := by omega
  have hb3 : (i : Int) ≤ (n : Int) := by omega
  clear hkk hik hold hROW hG hRl hR2 hR3 hR2t hR3t hR3l hR2l hRt hdl zc H1 H2 B1 B2 hcs hxn hW1 hW2 ho hbase hGm h1 h1x hx hs1 hxl
  go_enter Tryz.func31, Tryz.ntmps31
  go_wp2_with (first
    | (at_builtin; refine Lib.wpList_append_run _ rfl _ _ _ _ rfl _ _ rfl rfl _ _ (hrz _) ?_)
    | (at_builtin; refine wpList_copy_at _ rfl _ _ 22 22 rfl _ _ rfl rfl (hcpA _ _) ?_)
    | (at_builtin; refine wpList_copy_at _ rfl _ _ 22 22 rfl _ _ rfl rfl (hcpB _ rfl _ _ _) ?_))
  go_region_law (refine step_copy_at rfl _ _ 22 22 rfl (.slice (some ⟨w.heap.size, (i + 1), none⟩) (n - i) (G - (i + 1))) (.slice (some ⟨g, i, none⟩) (n - i) (n - i)) (by simp [Act.eval, Act.put]) (by simp [Act.eval, Act.put]) (hcpB W2.drew rfl _ _ _) ?_)
  go_wp2
  go_ret
  exact ⟨G, rfl, FIN.out W2.drew rfl rfl rfl rfl⟩
set_option maxHeartbeats 4000000 in
set_option maxRecDepth 100000 in
theorem insH_shift (g n c i vb base : Nat) (xs x : List Value) (w : World) (ho : w.ownsRow base 29 1 (.slice (some ⟨g, 0, none⟩) n c) n xs) (hi : i < n) (hn : n ≤ 1000) (hc : n + 1 ≤ c)
    (hx : Arr w vb x 29) (hxl : x.length = 1) (h1x : ∀ v ∈ x, v.oneCell' = true) (h1 : ∀ v ∈ xs, v.oneCell' = true) (hne : vb ≠ g) :
    Calls Tryz.prog 31 #[.slice (some ⟨g, 0, none⟩) n c, .int .i64 i, .slice (some ⟨vb, 0, none⟩) 1 1] w fun e w' =>
      e = .returned (.slice (some ⟨g, 0, none⟩) (n + 1) c) ∧ w'.ownsRow base 29 1 (.slice (some ⟨g, 0, none⟩) (n + 1) c) (n + 1) (xs.take (i) ++ x ++ xs.drop (i)) ∧ w.grownBy w' (some g) := by
  have hcs := own_cells ho
  have hxn : xs.length = n := by simpa using ho.1
  obtain ⟨cur, hbg, hh, hcm, hcz, hct⟩ : ∃ cur, base ≤ g ∧ w.heap[g]? = some (.cells cur 29 (0, 0)) ∧ c ≤ maxLen ∧ cur.size = c ∧ cur.toList.take n = xs := by
    rcases ho.2 with ⟨q, _⟩ | ⟨g', cap, cur, q, h1, h2, h3, h4, h5, h6⟩
    · cases q
    · injection q with q1 q2 q3
      injection q1 with q1
      injection q1 with q1
      subst q1; subst q3
      exact ⟨cur, h1, h2, h4, by simpa using h5, by simpa using h6⟩
  have hlt : g < w.heap.size := (Array.getElem?_eq_some_iff.1 hh).1
  have hvb := hx.lt
  have hsz : (Tryz.prog.info? 29).map (·.size) = some 1 := infoH1
  have hdl : (xs.drop (i)).length = (n - i) := by rw [List.length_drop, hxn]
  have hmul : n + 1 ≤ c := hc
  obtain ⟨R2, hR2⟩ : ∃ R2 : Array Value, R2 = (cur.toList.take ((i + 1)) ++ xs.drop (i) ++ cur.toList.drop ((i + 1) + (xs.drop (i)).length)).toArray := ⟨_, rfl⟩
  have hR2l : R2.size = c := by rw [hR2]; simp [hdl, hcz]; omega
  have hcpA : ∀ (W : World), W.heap = w.heap → ∀ ty dc sc, (Builtin.copy_ #[22, 22] ty #[.slice (some ⟨g, (i + 1), none⟩) (n - i) dc, .slice (some ⟨g, i, none⟩) (n + 1 - i) sc]).run Tryz.prog W = .ok (goInt (n - i : Nat)) (W.setRow g R2) := fun W hW ty dc sc => by
    rw [hR2]
    exact run_copy_w W _ _ ty 29 1 g ((i + 1)) (n - i) dc ⟨g, i, none⟩ (n + 1 - i) sc (n - i) cur 29 (xs.drop (i)) Tryz.underlying22 hsz (by rw [hW]; exact hh) (by simp only [Nat.min_def]; split <;> omega) (by omega)
      (fun j v hj => by
        rw [show ((⟨g, i, none⟩ : Addr).add j) = ⟨g, i + j, none⟩ by unfold Addr.add; split <;> simp_all]
        rw [World.cell?_of_block (w := w) (a := ⟨g, i + j, none⟩) (by rw [hW])]
        rw [List.getElem?_drop] at hj
        exact hcs _ v hj) (by rw [hdl, hcz]; omega) (fun v hv => h1 v (List.mem_of_mem_drop hv))
  obtain ⟨W2, hW2⟩ : ∃ W2, W2 = w.drew.setRow g R2 := ⟨_, rfl⟩
  have hcpA' := hcpA w.drew rfl
  rw [← hW2] at hcpA'
  have H2 : W2.heap[g]? = some (.cells R2 29 (0, 0)) := by rw [hW2]; exact setRow_heap w.drew _ _ _ _ _ hh
  have B2 : ∀ k, k ≠ g → W2.heap[k]? = w.heap[k]? := fun k hk => by rw [hW2, setRow_other _ _ _ _ hk]; rfl
  have S2 : W2.heap.size = w.heap.size := by rw [hW2]; simp
  have O2 : W2.os = w.os ∧ W2.tape = w.tape ∧ W2.output = w.output := by rw [hW2]; exact ⟨rfl, rfl, rfl⟩
  have c1 : cur.toList.take (i) = xs.take (i) := by rw [← hct, List.take_take, Nat.min_eq_left (by omega)]
  have hR2t : R2.toList.take (i) = xs.take (i) := by
    rw [hR2, List.toList_toArray, List.append_assoc, List.take_append_of_le_length (by simp; omega), List.take_take, Nat.min_eq_left (by omega), c1]
  have l2 : (cur.toList.take ((i + 1))).length = (i + 1) := by simp; omega
  have hR2d : R2.toList.drop ((i + 1)) = xs.drop (i) ++ cur.toList.drop ((i + 1) + (xs.drop (i)).length) := by
    rw [hR2, List.toList_toArray, List.append_assoc, List.drop_append, List.drop_of_length_le (by omega), l2, Nat.sub_self]
    rfl
  obtain ⟨R3, hR3⟩ : ∃ R3 : Array Value, R3 = (R2.toList.take (i) ++ x ++ R2.toList.drop (i + x.length)).toArray := ⟨_, rfl⟩
  have hR3l : R3.size = c := by rw [hR3]; simp [hxl, hR2l] <;> omega
  have hR3t : R3.toList.take ((n + 1)) = xs.take (i) ++ x ++ xs.drop (i) := by
    rw [hR3, hR2t, hxl, hR2d, List.toList_toArray, ← List.append_assoc, List.take_append_of_le_length (by simp [hxl]; omega)]
    exact List.take_of_length_le (by simp [hxl]; omega)
  have hcpB : ∀ ty dc, (Builtin.copy_ #[22, 22] ty #[.slice (some ⟨g, i, none⟩) (n + 1 - i) dc, .slice (some ⟨vb, 0, none⟩) 1 1]).run Tryz.prog W2 = .ok (goInt (1 : Nat)) (W2.setRow g R3) := fun ty dc => by
    rw [hR3]
    exact run_copy_w W2 _ _ ty 29 1 g (i) (n + 1 - i) dc ⟨vb, 0, none⟩ 1 1 1 R2 29 x Tryz.underlying22 hsz H2 (by simp only [Nat.min_def]; split <;> omega) (by omega)
      (fun j v hj => by
        have h := hx.cell hj
        rw [show ((⟨vb, 0, none⟩ : Addr).add j) = ⟨vb, j, none⟩ by unfold Addr.add; split <;> simp_all]
        rw [World.cell?_of_block (w := w) (a := ⟨vb, j, none⟩) (B2 vb hne)]
        exact h) (by omega) h1x
  have FIN : Hid ((W2.setRow g R3).ownsRow base 29 1 (.slice (some ⟨g, 0, none⟩) (n + 1) c) (n + 1) (xs.take (i) ++ x ++ xs.drop (i)) ∧ w.grownBy (W2.setRow g R3) (some g)) := Lib.hid (by
    refine ⟨⟨by simp [hxl]; omega, .inr ⟨g, c, R3, rfl, hbg, setRow_heap _ _ R2 _ _ _ H2, hc, hcm, by simpa using hR3l, by simpa using hR3t⟩⟩, ⟨O2.1, O2.2.1, O2.2.2, by simp [S2], fun k hk hn => ?_⟩⟩
    have hkg : k ≠ g := fun e => hn (by rw [e])
    rw [setRow_other _ _ _ _ hkg]
    exact B2 k hkg)
  have hov : ∀ lb cb, (callFunc 50 #[.slice (some ⟨vb, 0, none⟩) 1 1, .slice (some ⟨g, (i + 1), none⟩) lb cb]).run Tryz.prog w = .ok (.value (.bool false)) w := fun lb cb => by
    rw [run_callFunc_extern Tryz.func50 (by kernel_rfl) (by kernel_rfl) (by kernel_rfl) (e := Extern.SlicesOverlaps.overlaps #[22, 22] #[4]) (by kernel_rfl),
      Lib.run_overlaps_apart w 22 4 29 Tryz.underlying22 1 (fun w' => by
        obtain ⟨j0, hj0, _, hjs, _⟩ := info_parts infoH
        simp [sizeOf, typeInfo, hj0, hjs]) ⟨vb, 0, none⟩ ⟨g, (i + 1), none⟩ 1 1 lb cb hne 29 29 1 (c) (by have h : w.heap[vb]? = _ := hx; simp [World.shape?, h, hxl]) (by simp [World.shape?, hh, hcz]) (by omega) (hx.frozen 0) (hx.frozen 1)]
    rfl
  have hz2 : ¬ ((i : Int) = (n : Int)) := by omega
  have hz3 : ¬ ((c : Int) < (n : Int) + 1) := by omega
  have hci : ¬ (c = i) := by omega
  have hci1 : ¬ (c = i + 1) := by omega
  have hw1 : IntKind.i64.wrap ((i : Int) + 1) = (i : Int) + 1 := by rw [IntKind.wrap_i64]; omega
  have htn : ((i : Int) + 1).toNat = i + 1 := by omega
  have hin : i ≤ n := by omega
  have hb1 : (0 : Int) ≤ (i : Int) + 1 := by omega
  have hb3 : (i : Int) ≤ (n : Int) := by omega
  have hb4 : (n : Int) + 1 ≤ (c : Int) := by omega
  have hb5 : (i : Int) ≤ (n : Int) + 1 := by omega
  clear hW2 hR2 hR3 hR2t hR3t hR3l hR2l hdl H2 B2 hcs hxn ho hbg h1 h1x hx hxl hcpA hcm hcz hct hh hmul S2 O2 c1 l2 hR2d
  go_enter Tryz.func31, Tryz.ntmps31
  go_wp2_with (simp only [hov])
  go_region_law (refine step_copy_at rfl _ _ 22 22 rfl (.slice (some ⟨g, (i + 1), none⟩) (n - i) (c - (i + 1))) (.slice (some ⟨g, i, none⟩) (n + 1 - i) (c - i)) (by simp [Act.eval, Act.put]) (by simp [Act.eval, Act.put]) (hcpA' _ _ _) ?_)
  go_wp2_with (at_builtin; refine wpList_copy_at _ rfl _ _ 22 22 rfl _ _ rfl rfl (hcpB _ _) ?_)
  go_ret
  exact ⟨rfl, FIN.out⟩
set_option maxHeartbeats 4000000 in
theorem insH_end (v : Value) (n vb base : Nat) (xs x : List Value) (w : World) (ho : w.ownsRow base 29 1 v n xs) (hn : n ≤ 1000) (hb : base ≤ w.heap.size)
    (hx : Arr w vb x 29) (hxl : x.length = 1) (h1x : ∀ v ∈ x, v.oneCell' = true) :
    Calls Tryz.prog 31 #[v, .int .i64 n, .slice (some ⟨vb, 0, none⟩) 1 1] w fun e w' =>
      ∃ v', e = .returned v' ∧ w'.ownsRow base 29 1 v' (n + 1) (xs ++ x) ∧ w.grownBy w' v.ownBlock ∧ ∀ b, v'.ownBlock = some b → v.ownBlock = some b ∨ w.heap.size ≤ b := by
  obtain ⟨i0, hi0, hz0, hzs, hzb⟩ := info_parts infoH
  have zc : ((Value.slice none 0 0).cells).size = 1 := by kernel_rfl
  have HN : Hid (∀ (j : Nat) u, x[j]? = some u → w.cell? ((⟨vb, 0, none⟩ : Addr).add j) = some u) := Lib.hid (fun j u hj => by
    rw [show ((⟨vb, 0, none⟩ : Addr).add j) = ⟨vb, j, none⟩ by unfold Addr.add; split <;> simp_all]
    exact hx.cell hj)
  have HO := Lib.hid ho
  have H1 := Lib.hid h1x
  have h63 : n + 1 ≤ maxLen := by unfold maxLen; omega
  have hby : (n + 1) * 24 ≤ 140737488355328 := by omega
  have hx2 : x.length = 1 * 1 := by omega
  have HC := Lib.hid ho.2
  clear hxl hx h1x ho
  rcases HC.out with ⟨q, q2⟩ | ⟨g, c, cur, q, h1', h2, h3, h4, h5, h6⟩
  · subst q
    subst q2
    clear HC
    have hxs : xs = [] := by simpa using HO.out.1
    subst hxs
    go_enter Tryz.func31, Tryz.ntmps31
    go_wp2_with (at_builtin; refine wpList_append_lies w rfl _ _ 22 rfl base 29 i0 _ 1 24 Tryz.underlying22 hi0 hz0 hzs hzb zc (by decide) (.slice none 0 0) 0 [] rfl HO.out ⟨vb, 0, none⟩ 1 1 x rfl hx2 HN.out H1.out (by decide) h63 hby hb w.heap.size rfl ?_)
    intro g' cap w' ho hg hb' hlt
    have HO' := Lib.hid ho; have HG := Lib.hid hg; have HB := Lib.hid hb'
    clear ho hg hb'
    go_wp2_with fail
    go_ret
    refine ⟨_, rfl, HO'.out, HG.out, fun b e => ?_⟩
    have e2 : g' = b := by simpa [Value.ownBlock] using e
    rcases HB.out with q | q
    · exact .inl (by rw [q, e2])
    · exact .inr (by omega)
  · subst q
    clear HC h1' h2 h4 h5 h6
    by_cases hcn : c = n
    · subst hcn
      go_enter Tryz.func31, Tryz.ntmps31
      go_wp2_with (at_builtin; refine wpList_append_lies w rfl _ _ 22 rfl base 29 i0 _ 1 24 Tryz.underlying22 hi0 hz0 hzs hzb zc (by decide) (.slice (some ⟨g, 0, none⟩) c c) c xs rfl HO.out ⟨vb, 0, none⟩ 1 1 x rfl hx2 HN.out H1.out (by decide) h63 hby hb w.heap.size rfl ?_)
      intro g' cap w' ho hg hb' hlt
      have HO' := Lib.hid ho; have HG := Lib.hid hg; have HB := Lib.hid hb'
      clear ho hg hb'
      go_wp2_with fail
      go_ret
      refine ⟨_, rfl, HO'.out, HG.out, fun b e => ?_⟩
      have e2 : g' = b := by simpa [Value.ownBlock] using e
      rcases HB.out with q | q
      · exact .inl (by rw [q, e2])
      · exact .inr (by omega)
    · go_enter Tryz.func31, Tryz.ntmps31
      go_wp2_with (at_builtin; refine wpList_append_lies w rfl _ _ 22 rfl base 29 i0 _ 1 24 Tryz.underlying22 hi0 hz0 hzs hzb zc (by decide) (.slice (some ⟨g, 0, none⟩) n c) n xs rfl HO.out ⟨vb, 0, none⟩ 1 1 x rfl hx2 HN.out H1.out (by decide) h63 hby hb w.heap.size rfl ?_)
      intro g' cap w' ho hg hb' hlt
      have HO' := Lib.hid ho; have HG := Lib.hid hg; have HB := Lib.hid hb'
      clear ho hg hb'
      go_wp2_with fail
      go_ret
      refine ⟨_, rfl, HO'.out, HG.out, fun b e => ?_⟩
      have e2 : g' = b := by simpa [Value.ownBlock] using e
      rcases HB.out with q | q
      · exact .inl (by rw [q, e2])
      · exact .inr (by omega)
theorem grownBy_anyH {w w' : World} {r : Option Nat} (h : w.grownBy w' none) : w.grownBy w' r := ⟨h.os, h.tape, h.output, h.size, fun k hk _ => h.block k hk (by simp)⟩
/-- slices.Insert of one gluing at place i. -/
theorem insH_any (v : Value) (n i vb base : Nat) (xs x : List Value) (w : World) (ho : w.ownsRow base 29 1 v n xs) (hi : i ≤ n) (hn : n ≤ 1000) (hb : base ≤ w.heap.size)
    (hx : Arr w vb x 29) (hxl : x.length = 1) (h1x : ∀ v ∈ x, v.oneCell' = true) (h1 : ∀ v ∈ xs, v.oneCell' = true) (hne : ¬ v.ownBlock = some vb) :
    Calls Tryz.prog 31 #[v, .int .i64 i, .slice (some ⟨vb, 0, none⟩) 1 1] w fun e w' =>
      ∃ v', e = .returned v' ∧ w'.ownsRow base 29 1 v' (n + 1) (xs.take (i) ++ x ++ xs.drop (i)) ∧ w.grownBy w' v.ownBlock ∧ ∀ b, v'.ownBlock = some b → v.ownBlock = some b ∨ w.heap.size ≤ b := by
  by_cases hin : i = n
  · subst hin
    have e1 : xs.take (i) = xs := List.take_of_length_le (by rw [ho.1]; omega)
    have e2 : xs.drop (i) = [] := List.drop_of_length_le (by rw [ho.1]; omega)
    rw [e1, e2, List.append_nil]
    exact insH_end v i vb base xs x w ho hn hb hx hxl h1x
  · rcases ho.2 with ⟨q, q2⟩ | ⟨g, c, cur, rfl, h1', h2, h3, h4, h5, h6⟩
    · omega
    · have hg : g < w.heap.size := (Array.getElem?_eq_some_iff.1 h2).1
      have hne' : vb ≠ g := fun e => hne (by rw [e]; rfl)
      by_cases hc : c = n
      · subst hc
        refine (insH_grow g c i vb base xs x w ho (by omega) hn hx hxl h1x h1 hg).mono ?_
        rintro e w' ⟨cap, rfl, o, gr⟩
        refine ⟨_, rfl, o, grownBy_anyH gr, fun b e => .inr ?_⟩
        have : w.heap.size = b := by simpa [Value.ownBlock] using e
        omega
      · refine (insH_shift g n c i vb base xs x w ho (by omega) hn (by omega) hx hxl h1x h1 hne').mono ?_
        rintro e w' ⟨rfl, o, gr⟩
        exact ⟨_, rfl, o, gr, fun b e => .inl e⟩
end Go.Proofs.YtpmojmhamgcfmaaGreat.wd

/-
  A slice of surfaces that is read; the model's l06Find.
-/
namespace Go.Proofs.YtpmojmhamgcfmaaGreat.orb
open Go.ChangeShapes Go.WideShapes Go.ChangeAt Go.RowKit
open Go.Proofs.YtpmojmhamgcfmaaGreat.mem Go.Proofs.YtpmojmhamgcfmaaGreat.ints Go.Proofs.YtpmojmhamgcfmaaGreat.arr Go.Proofs.YtpmojmhamgcfmaaGreat.pm Go.Proofs.YtpmojmhamgcfmaaGreat.sf
set_option linter.unusedVariables false
set_option maxRecDepth 100000

/-- v is a slice of surfaces that reads as L. -/
def Lrd (w : World) (hi : Nat) (v : Value) (L : List Sur) : Prop :=
  ∃ A n c, v = .slice A n c ∧ L.length = n ∧ n ≤ c ∧ hi ≤ w.heap.size ∧ (0 < n → ∃ g off, A = some ⟨g, off, none⟩ ∧ g < hi ∧
    ∀ (k : Nat) (s : Sur), L[k]? = some s → ∃ a b, w.cell? ⟨g, off + k * 2, none⟩ = some a ∧ w.cell? ⟨g, off + k * 2 + 1, none⟩ = some b ∧ Srd w hi (.agg #[a, b]) s.1 s.2)
theorem Lrd.keep {w w' : World} {hi B : Nat} {v : Value} {L : List Sur} (h : Lrd w hi v L) (hb : Below B w w') (hB : hi ≤ B) : Lrd w' hi v L := by
  obtain ⟨A, n, c, e, h1, h2, h3, h4⟩ := h
  refine ⟨A, n, c, e, h1, h2, Nat.le_trans h3 hb.size, fun hn => ?_⟩
  obtain ⟨g, off, q1, q2, q3⟩ := h4 hn
  refine ⟨g, off, q1, q2, fun k s hs => ?_⟩
  obtain ⟨a, b, c1, c2, c3⟩ := q3 k s hs
  exact ⟨a, b, by rw [hb.cell (p := ⟨g, off + k * 2, none⟩) (by show g < B; omega)]; exact c1, by rw [hb.cell (p := ⟨g, off + k * 2 + 1, none⟩) (by show g < B; omega)]; exact c2, c3.keep hb hB⟩
theorem Lrd.top {w : World} {hi : Nat} {v : Value} {L : List Sur} (h : Lrd w hi v L) : hi ≤ w.heap.size := by
  obtain ⟨A, n, c, e, h1, h2, h3, h4⟩ := h
  exact h3
theorem Lrd.at_ {w : World} {hi n c k : Nat} {A : Option Addr} {L : List Sur} (h : Lrd w hi (.slice A n c) L) (hk : k < n) :
    ∃ g off s P p cp Q q cq, A = some ⟨g, off, none⟩ ∧ g < hi ∧ L[k]? = some s ∧ w.cell? ⟨g, off + k * 2, none⟩ = some (.slice P p cp) ∧ w.cell? ⟨g, off + k * 2 + 1, none⟩ = some (.slice Q q cq) ∧ Srd w hi (.agg #[.slice P p cp, .slice Q q cq]) s.1 s.2 := by
  obtain ⟨A', n', c', e, h1, h2, h3, h4⟩ := h
  injection e with e1 e2 e3
  subst e1; subst e2; subst e3
  obtain ⟨g, off, q1, q2, q3⟩ := h4 (by omega)
  have hs := List.getElem?_eq_getElem (l := L) (i := k) (by omega)
  obtain ⟨a, b, c1, c2, c3⟩ := q3 k _ hs
  have c4 := c3
  obtain ⟨P, p, cp, Q, q, cq, e, _⟩ := c4
  simp at e
  obtain ⟨rfl, rfl⟩ := e
  exact ⟨g, off, _, P, p, cp, Q, q, cq, q1, q2, hs, c1, c2, c3⟩
def Rel (L : List Sur) (x : Sur) (w wr : World) (k : Nat) : Prop := Below w.heap.size w wr ∧ ∀ j, j < k → L[j]? ≠ some x
theorem same_eq {r u r' u' : List Int} : sameF r u r' u' = decide ((r, u) = (r', u')) := by
  unfold sameF eqi
  by_cases h1 : r = r' <;> by_cases h2 : u = u' <;> simp [h1, h2]
theorem Rel.step {L : List Sur} {x y : Sur} {w wr w' : World} {k : Nat} (h : Rel L x w wr k) (hb : Below w.heap.size w w') (hy : L[k]? = some y) (hne : sameF y.1 y.2 x.1 x.2 = false) : Rel L x w w' (k + 1) := by
  refine ⟨hb, fun j hj e => ?_⟩
  by_cases q : j = k
  · subst q
    rw [hy] at e
    injection e with e
    subst e
    rw [same_eq] at hne
    simp at hne
  · exact h.2 j (by omega) e

end Go.Proofs.YtpmojmhamgcfmaaGreat.orb
