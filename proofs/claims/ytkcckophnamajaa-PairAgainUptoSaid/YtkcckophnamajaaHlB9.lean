/- Layer 9, the laws' helpers: kept, stay. -/
import Derived.Test.YtkcckophnamajaaHlC9
import Derived.Test.YtkcckophnamajaaRest9
set_option linter.unusedSimpArgs false
set_option linter.unusedVariables false
namespace Go.Proofs.Ytkcckophnamajaa
open Go.RowKit Go.Lib

/-- lists laid into memory of their own, with two marks behind each -/
def LentR (n : Nat) (zs : List Int) (g cp Q : Nat) (w : World) : Prop := w.ownsRow Q 21 1 (.slice (some ⟨g, 0, none⟩) (n + 2) cp) (n + 2) (i32s (zs ++ [7, 7]))
def LentK (n : Nat) (zs : List Int) (g cp Q : Nat) (w : World) : Prop := w.ownsRow Q 33 1 (.slice (some ⟨g, 0, none⟩) (n + 2) cp) (n + 2) (i8s (zs ++ [77, 77]))
theorem LentR.read {n : Nat} {zs : List Int} {g cp Q : Nat} {w : World} (h : LentR n zs g cp Q w) : RdR w (some ⟨g, 0, none⟩) n zs := by
  have hl := h.1
  simp at hl
  refine ⟨by simp; omega, .inr ⟨_, rfl, (h.lt g rfl).2, fun j u hu => ?_⟩⟩
  refine h.cells rfl j u ?_
  obtain ⟨hj, rfl⟩ := List.getElem?_eq_some_iff.1 hu
  simp only [List.length_map] at hj
  simp only [i32s, List.map_append]
  rw [List.getElem?_append_left (by simp; omega), List.getElem?_eq_getElem]
theorem LentK.read {n : Nat} {zs : List Int} {g cp Q : Nat} {w : World} (h : LentK n zs g cp Q w) : RdK w (some ⟨g, 0, none⟩) n zs := by
  have hl := h.1
  simp at hl
  refine ⟨by simp; omega, .inr ⟨_, rfl, (h.lt g rfl).2, fun j u hu => ?_⟩⟩
  refine h.cells rfl j u ?_
  obtain ⟨hj, rfl⟩ := List.getElem?_eq_some_iff.1 hu
  simp only [List.length_map] at hj
  simp only [i8s, List.map_append]
  rw [List.getElem?_append_left (by simp; omega), List.getElem?_eq_getElem]
theorem i32_info9 : (Try.prog.info? 21).map (fun i => (i.zero, i.size, i.bytes)) = some (some (.int .i32 0), 1, 4) := by kernel_rfl
theorem one_cells32 (l : List Int) : ∀ u ∈ i32s l, u.oneCell' = true := by
  intro u hu
  obtain ⟨x, _, rfl⟩ := List.mem_map.1 hu
  rfl
set_option maxRecDepth 100000 in
set_option maxHeartbeats 4000000 in
theorem kept_any9 (Ar A : Option Addr) (nr cr n c : Nat) (rs ks : List Int) (w : World) (hr : RdR w Ar nr rs) (hk : RdK w A n ks) (hnr : nr ≤ 1048576) (hn : n ≤ 1048576) (hnilr : Ar = none → cr = 0) (hnil : A = none → c = 0) :
    Calls Try.prog 8 #[.slice Ar nr cr, .slice A n c] w fun e w' => ∃ g1 c1 g2 c2, e = .returned (.tuple #[.slice (some ⟨g1, 0, none⟩) nr c1, .slice (some ⟨g2, 0, none⟩) n c2]) ∧ LentR nr rs g1 c1 w.heap.size w' ∧ LentK n ks g2 c2 w.heap.size w' ∧ Below w.heap.size w w' := by
  obtain ⟨i0, hi, hz0, hz1, hz2⟩ := info_parts i32_info9
  obtain ⟨i1, hi1, hy0, hy1, hy2⟩ := info_parts i8_info
  obtain ⟨Q, hQ⟩ : ∃ Q, w.heap.size = Q := ⟨_, rfl⟩
  have Hr := Lib.hid (show RdR w Ar nr rs from hr)
  have Hk := Lib.hid (show ∀ W, Below Q w W → RdK W A n ks from fun W hb => hk.below (by rw [hQ]; exact hb))
  have HQ := Lib.hid hQ
  rw [hQ]
  have hrl := hr.len
  have hkl := hk.len
  have Hl := Lib.hid (show _ ∧ _ from ⟨hrl, hkl⟩)
  clear hr hk hQ hrl hkl
  go_enter Try.func8, Try.ntmps8
  go_wp2_with (at_builtin; refine wpList_append_rd9 rfl _ _ 22 rfl Q 21 i0 _ 1 4 Try.underlying22 hi hz0 hz1 hz2 rfl (by decide) _ 0 [] rfl (World.ownsRow_nil _ _ _ _) _ _ _ _ rfl hnilr _ Hr.out (one_cells32 rs) ?c1 ?c2 ?c3 ?_)
  case c1 => unfold maxLen; omega
  case c2 => omega
  case c3 => rw [HQ.out]; exact Nat.le_refl _
  intro v1 w1 o1 g1
  have H1 := Lib.hid (show w1.ownsRow Q 21 1 v1 nr (i32s rs) ∧ Below Q w w1 ∧ Q ≤ w1.heap.size from ⟨by simpa using o1, (Below.refl Q w).grown g1 (by rw [HQ.out]; exact Nat.le_refl _) (fun k hk => by cases hk), by have := g1.size; have := HQ.out; omega⟩)
  clear o1 g1
  have Hk1 := Lib.hid (Hk.out w1 H1.out.2.1)
  go_wp2_with (at_builtin; refine wpList_append_rd9 rfl _ _ 23 rfl Q 33 i1 _ 1 1 Try.underlying23 hi1 hy0 hy1 hy2 rfl (by decide) _ 0 [] rfl (World.ownsRow_nil _ _ _ _) _ _ _ _ rfl hnil _ Hk1.out (one_cells9 ks) ?c4 ?c5 H1.out.2.2 ?_)
  case c4 => unfold maxLen; omega
  case c5 => omega
  intro v2 w2 o2 g2
  have H2 := Lib.hid (show w2.ownsRow Q 21 1 v1 nr (i32s rs) ∧ w2.ownsRow Q 33 1 v2 n (i8s ks) ∧ Below Q w w2 ∧ Q ≤ w2.heap.size from ⟨own_other2 H1.out.1 (World.ownsRow_nil w1 Q 33 1) (by decide) g2, by simpa using o2, H1.out.2.1.grown g2 H1.out.2.2 (fun k hk => by cases hk), by have := g2.size; have := H1.out.2.2; omega⟩)
  clear o2 g2 H1 Hk1
  go_wp2_with (at_builtin; refine wpList_append_own_at _ rfl _ _ 22 rfl Q 21 i0 _ 1 4 Try.underlying22 hi hz0 hz1 hz2 rfl (by decide) _ _ _ rfl (H2.out.1.alloc _) ⟨w2.heap.size, 0, none⟩ 2 2 [.int .i32 7, .int .i32 7] rfl rfl ?d1 ?d2 ?d3 ?d4 ?d5 ?_)
  try (case d1 => exact new_cells w2 [.int .i32 7, .int .i32 7] 21)
  case d2 => simp [Value.oneCell']
  case d3 => unfold maxLen; omega
  case d4 => omega
  case d5 => rw [World.size_alloc]; have := H2.out.2.2.2; omega
  intro v3 w3 o3 g3 _ _
  have H3 := Lib.hid (show w3.ownsRow Q 21 1 v3 (nr + 2) (i32s (rs ++ [7, 7])) ∧ w3.ownsRow Q 33 1 v2 n (i8s ks) ∧ Below Q w w3 ∧ Q ≤ w3.heap.size from ⟨by rw [show i32s (rs ++ [7, 7]) = i32s rs ++ [.int .i32 7, .int .i32 7] by simp [i32s]]; exact o3, own_other H2.out.2.1 H2.out.1 (by decide) g3, (H2.out.2.2.1.alloc H2.out.2.2.2 _).grown g3 (by rw [World.size_alloc]; have := H2.out.2.2.2; omega) (fun k hk => (H2.out.1.lt k hk).1), by have := g3.size; rw [World.size_alloc] at this; have := H2.out.2.2.2; omega⟩)
  clear o3 g3 H2
  go_wp2_with (at_builtin; refine wpList_append_own_at _ rfl _ _ 23 rfl Q 33 i1 _ 1 1 Try.underlying23 hi1 hy0 hy1 hy2 rfl (by decide) _ _ _ rfl (H3.out.2.1.alloc _) ⟨w3.heap.size, 0, none⟩ 2 2 [.int .i8 77, .int .i8 77] rfl rfl ?e1 ?e2 ?e3 ?e4 ?e5 ?_)
  try (case e1 => exact new_cells w3 [.int .i8 77, .int .i8 77] 33)
  case e2 => simp [Value.oneCell']
  case e3 => unfold maxLen; omega
  case e4 => omega
  case e5 => rw [World.size_alloc]; have := H3.out.2.2.2; omega
  intro v4 w4 o4 g4 _ _
  have o5 : w4.ownsRow Q 21 1 v3 (nr + 2) (i32s (rs ++ [7, 7])) := own_other H3.out.1 H3.out.2.1 (by decide) g4
  have hb4 : Below Q w w4 := (H3.out.2.2.1.alloc H3.out.2.2.2 _).grown g4 (by rw [World.size_alloc]; have := H3.out.2.2.2; omega) (fun k hk => (H3.out.2.1.lt k hk).1)
  obtain ⟨q1, c1, hv3, _, _⟩ := o5.form (by omega)
  obtain ⟨q2, c2, hv4, _, _⟩ := o4.form (by omega)
  subst hv3 hv4
  have H4 := Lib.hid (show LentR nr rs q1 c1 Q w4 ∧ LentK n ks q2 c2 Q w4 ∧ Below Q w w4 from ⟨o5, by unfold LentK; rw [show i8s (ks ++ [77, 77]) = i8s ks ++ [.int .i8 77, .int .i8 77] by simp [i8s]]; exact o4, hb4⟩)
  have hcp1 := (own_caps o5).1
  have hcp2 := (own_caps o4).1
  have s1 := fun W => slice_r9 W (some ⟨q1, 0, none⟩) (nr + 2) c1 nr (by omega)
  have s2 := fun W => slice_k1 W (some ⟨q2, 0, none⟩) (n + 2) c2 n (by omega)
  clear o4 o5 g4 hb4 H3
  go_wp2_with fail
  go_quiet (fail)
  go_wp2_with fail
  go_ret2
  exact ⟨q1, c1, q2, c2, rfl, H4.out.1, H4.out.2.1, below_N H4.out.2.2 _⟩
set_option maxRecDepth 100000 in
set_option maxHeartbeats 4000000 in
theorem stay_any9 (Ar A : Option Addr) (nr cr n c g1 c1 g2 c2 Q : Nat) (rs ks : List Int) (w : World) (hr : RdR w Ar nr rs) (hk : RdK w A n ks) (h1 : LentR nr rs g1 c1 Q w) (h2 : LentK n ks g2 c2 Q w) (hnr : nr ≤ 1048576) (hn : n ≤ 1048576) :
    Calls Try.prog 12 #[.slice (some ⟨g1, 0, none⟩) nr c1, .slice (some ⟨g2, 0, none⟩) n c2, .slice Ar nr cr, .slice A n c] w fun e w' => e = .returned (.bool true) ∧ Below w.heap.size w w' := by
  have hrl := hr.len
  have hkl := hk.len
  have hcp1 := (own_caps h1).1
  have hcp2 := (own_caps h2).1
  obtain ⟨B, hB⟩ : ∃ B, w.heap.size = B := ⟨_, rfl⟩
  have hg1 : g1 < B := by rw [← hB]; exact (h1.lt g1 rfl).2
  have hg2 : g2 < B := by rw [← hB]; exact (h2.lt g2 rfl).2
  have hR : ∀ i v, (rs ++ [7, 7])[i]? = some v → ∀ W, Below B w W → W.cell? ⟨g1, i, none⟩ = some (.int .i32 v) := fun i v hv W hb => by
    have hi := (List.getElem?_eq_some_iff.1 hv).1
    simp at hi
    rw [hb.cell (p := ⟨g1, i, none⟩) hg1, h1.cellAt i (by omega), List.getElem?_map, hv]
    rfl
  have hK : ∀ i v, (ks ++ [77, 77])[i]? = some v → ∀ W, Below B w W → W.cell? ⟨g2, i, none⟩ = some (.int .i8 v) := fun i v hv W hb => by
    have hi := (List.getElem?_eq_some_iff.1 hv).1
    simp at hi
    rw [hb.cell (p := ⟨g2, i, none⟩) hg2, h2.cellAt i (by omega), List.getElem?_map, hv]
    rfl
  have HR := Lib.hid hR
  have HK := Lib.hid hK
  have Hr := Lib.hid (show ∀ W, Below B w W → RdR W Ar nr rs from fun W hb => hr.below (by rw [hB]; exact hb))
  have Hk := Lib.hid (show ∀ W, Below B w W → RdK W A n ks from fun W hb => hk.below (by rw [hB]; exact hb))
  have H0 := Lib.hid (Below.refl B w)
  obtain ⟨m1, hm1⟩ : ∃ m1, nr + 2 = m1 := ⟨_, rfl⟩
  obtain ⟨m2, hm2⟩ : ∃ m2, n + 2 = m2 := ⟨_, rfl⟩
  have hw1 : IntKind.i64.wrap ((nr : Int) + 2) = (m1 : Int) := by rw [IntWalk.i64_in _ (by omega)]; omega
  have hw2 : IntKind.i64.wrap ((n : Int) + 2) = (m2 : Int) := by rw [IntWalk.i64_in _ (by omega)]; omega
  have s1 := fun W => slice_r9 W (some ⟨g1, 0, none⟩) nr c1 m1 (by omega)
  have s2 := fun W => slice_k1 W (some ⟨g2, 0, none⟩) n c2 m2 (by omega)
  have hmm : nr + 2 = m1 ∧ n + 2 = m2 := ⟨hm1, hm2⟩
  have Hm := Lib.hid hmm
  have Hl := Lib.hid (show _ ∧ _ from ⟨hrl, hkl⟩)
  rw [hB]
  clear hr hk h1 h2 hB hR hK hm1 hm2 hmm hcp1 hcp2 hg1 hg2 hrl hkl
  go_enter Try.func12, Try.ntmps12
  go_wp2_with fail
  go_loopw [11] (fun x wr => ∃ (i : Nat) (W : World), W = wr ∧ i ≤ nr ∧ x = .int .i64 (i : Int) ∧ Hid (Below B w W)) (fun x _ => nr - (RowKit.intOf x).toNat)
  case atStart => exact ⟨0, _, rfl, Nat.zero_le _, rfl, H0⟩
  case round =>
    obtain ⟨i, W, hW, hin, rfl, HW⟩ := hrel
    subst hW
    rcases Nat.lt_or_ge i nr with hlt | hge
    · obtain ⟨v, hv⟩ : ∃ v, rs[i]? = some v := ⟨_, List.getElem?_eq_getElem (by have := Hl.out.1; omega)⟩
      have ka := HR.out i v (by rw [List.getElem?_append_left (by have := Hl.out.1; omega)]; exact hv) W HW.out
      obtain ⟨ar, hA, _, _, kb⟩ := (Hr.out W HW.out).at hv
      subst hA
      have kaD : W.drew.cell? ⟨g1, i, none⟩ = some (.int .i32 v) := ka
      have kbD : W.drew.cell? (ar.add i) = some (.int .i32 v) := kb
      have hini : (i : Int) < (nr : Int) := by omega
      have hinm : (i : Int) < (m1 : Int) := by have := Hm.out.1; omega
      have hvv : (v != v) = false := by simp
      have hnext : IntKind.i64.wrap ((i : Int) + 1) = (i : Int) + 1 := IntWalk.i64_in _ (by omega)
      clear hv
      go_wp2_with fail
      go_quiet (fail)
      go_wp2_with fail
      go_roundw
      case rel => exact ⟨i + 1, _, rfl, hlt, by first | rfl | go_num, Lib.hid (below_N HW.out _)⟩
      case measure => simp [RowKit.intOf]; omega
    · obtain rfl : i = nr := by omega
      have hnn : ¬ (i : Int) < (i : Int) := by omega
      clear hin hge
      go_wp2_with fail
      go_loopw [12] (fun x wr => ∃ (j : Nat) (W : World), W = wr ∧ j ≤ n ∧ x = .int .i64 (j : Int) ∧ Hid (Below B w W)) (fun x _ => n - (RowKit.intOf x).toNat)
      case atStart => exact ⟨0, _, rfl, Nat.zero_le _, rfl, HW⟩
      case round =>
        obtain ⟨j, V, hV, hjn, rfl, HV⟩ := hrel
        subst hV
        rcases Nat.lt_or_ge j n with hlt | hge
        · obtain ⟨v, hv⟩ : ∃ v, ks[j]? = some v := ⟨_, List.getElem?_eq_getElem (by have := Hl.out.2; omega)⟩
          have ka := HK.out j v (by rw [List.getElem?_append_left (by have := Hl.out.2; omega)]; exact hv) V HV.out
          obtain ⟨ak, hA, _, _, kb⟩ := (Hk.out V HV.out).get hv
          subst hA
          have kaD : V.drew.cell? ⟨g2, j, none⟩ = some (.int .i8 v) := ka
          have kbD : V.drew.cell? (ak.add j) = some (.int .i8 v) := kb
          have hini : (j : Int) < (n : Int) := by omega
          have hinm : (j : Int) < (m2 : Int) := by have := Hm.out.2; omega
          have hvv : (v != v) = false := by simp
          have hnext : IntKind.i64.wrap ((j : Int) + 1) = (j : Int) + 1 := IntWalk.i64_in _ (by omega)
          clear hv
          go_wp2_with fail
          go_quiet (fail)
          go_wp2_with fail
          go_roundw
          case rel => exact ⟨j + 1, _, rfl, hlt, by first | rfl | go_num, Lib.hid (below_N HV.out _)⟩
          case measure => simp [RowKit.intOf]; omega
        · obtain rfl : j = n := by omega
          have hnn : ¬ (j : Int) < (j : Int) := by omega
          have k1 := HR.out i 7 (by rw [List.getElem?_append_right (by have := Hl.out.1; omega)]; have := Hl.out.1; rw [show i - rs.length = 0 by omega]; rfl) V HV.out
          have k2 := HR.out (i + 1) 7 (by rw [List.getElem?_append_right (by have := Hl.out.1; omega)]; have := Hl.out.1; rw [show i + 1 - rs.length = 1 by omega]; rfl) V HV.out
          have k3 := HK.out j 77 (by rw [List.getElem?_append_right (by have := Hl.out.2; omega)]; have := Hl.out.2; rw [show j - ks.length = 0 by omega]; rfl) V HV.out
          have k4 := HK.out (j + 1) 77 (by rw [List.getElem?_append_right (by have := Hl.out.2; omega)]; have := Hl.out.2; rw [show j + 1 - ks.length = 1 by omega]; rfl) V HV.out
          obtain ⟨i1, hi1⟩ : ∃ i1, i + 1 = i1 := ⟨_, rfl⟩
          obtain ⟨j1, hj1⟩ : ∃ j1, j + 1 = j1 := ⟨_, rfl⟩
          rw [hi1] at k2
          rw [hj1] at k4
          have hn1 : IntKind.i64.wrap ((i : Int) + 1) = (i1 : Int) := by rw [IntWalk.i64_in _ (by omega)]; omega
          have hn2 : IntKind.i64.wrap ((j : Int) + 1) = (j1 : Int) := by rw [IntWalk.i64_in _ (by omega)]; omega
          have b1 : (i : Int) < (m1 : Int) := by have := Hm.out.1; omega
          have b2 : (i1 : Int) < (m1 : Int) := by have := Hm.out.1; omega
          have b3 : (j : Int) < (m2 : Int) := by have := Hm.out.2; omega
          have b4 : (j1 : Int) < (m2 : Int) := by have := Hm.out.2; omega
          clear hjn hge hi1 hj1
          go_wp2_with fail
          go_ret
          exact ⟨by first | rfl | simp, HV.out⟩
end Go.Proofs.Ytkcckophnamajaa
