/- Layer 8, the document: listed, begins. (Made by tools/mkrefa8.py.) -/
import Derived.Test.YtajpkidjdebolaaWalkG
import Derived.Maps.AppendAt
set_option linter.unusedSimpArgs false
set_option linter.unusedVariables false
namespace Go.Proofs.Ytajpkidjdebolaa
open Go.RowKit Go.Lib

theorem begins_any (s : Int) (w : World) : Calls Try.prog 36 #[.int .i8 s] w fun e w' => e = .returned (.int .i8 (sideZ s)) ∧ w' = w := by
  by_cases h : s = 1
  · subst h
    go_enter Try.func36, Try.ntmps36
    go_wp2
    go_ret
    exact ⟨rfl, rfl⟩
  · have hb : (s == 1) = false := by simpa using h
    have hs : sideZ s = 0 := by unfold sideZ; rw [if_neg h]
    rw [hs]
    go_enter Try.func36, Try.ntmps36
    go_wp2
    go_ret
    exact ⟨rfl, rfl⟩
set_option maxRecDepth 100000 in
set_option maxHeartbeats 2000000 in
theorem listed_any (A : Option Addr) (n c : Nat) (zs : List Int) (w : World) (hrd : Rd w w.heap.size 1 A n (i8s zs)) (hn : n ≤ 140737488355328) :
    Calls Try.prog 20 #[.slice A n c] w (NewAt n (cntL zs) w) := by
  obtain ⟨i0, hi, hz0, hz1, hz2⟩ := info_parts i8_info
  have hzl : zs.length = n := by have := hrd.1; simpa using this
  unfold NewAt
  obtain ⟨Q, hQ⟩ : ∃ Q, w.heap.size = Q := ⟨_, rfl⟩
  rw [hQ] at hrd ⊢
  have HRd := Lib.hid hrd
  have HQ := Lib.hid hQ
  have H0 := Lib.hid (Below.refl Q w)
  clear hrd hQ
  go_enter Try.func20, Try.ntmps20
  go_wp2
  go_loopw [3, 4] (fun v x wr => ∃ (p t : List Int) (W : World), W = wr ∧ Hid (zs = p ++ t) ∧ x = .int .i64 (p.length : Int) ∧ Hid (W.ownsRow Q 23 1 v p.length (i8s (cntL p)) ∧ Below Q w W)) (fun _ x _ => n - (RowKit.intOf x).toNat)
  case atStart => exact ⟨[], zs, _, rfl, Lib.hid rfl, rfl, Lib.hid ⟨World.ownsRow_nil _ _ _ _, H0.out⟩⟩
  case round =>
    obtain ⟨p, t, W, hW, hx, rfl, HW⟩ := hrel
    subst hW
    have hlen := congrArg List.length hx.out
    rw [hzl, List.length_append] at hlen
    rcases t with _ | ⟨k, t⟩
    · have hpl : p.length = n := by simpa using hlen.symm
      rw [hpl] at HW ⊢
      have hnn : ¬ (n : Int) < (n : Int) := by omega
      have hpz := hx.out
      rw [List.append_nil] at hpz
      have HF := HW.out
      rw [← hpz] at HF
      obtain ⟨h1, h2⟩ := HF
      obtain ⟨A1, c1, hv, _⟩ := own_shape h1
      have Hv := Lib.hid hv
      have HF := Lib.hid (show _ ∧ _ from ⟨h1, h2⟩)
      clear hlen hpl hpz hx HW h1 h2 hv
      go_wp2
      go_ret
      exact ⟨A1, c1, by rw [Hv.out]; rfl, by rw [← Hv.out]; exact HF.out.1, HF.out.2⟩
    · obtain ⟨h1, h2⟩ := HW.out
      rw [List.length_cons] at hlen
      have hin : p.length < n := by omega
      have hrd' := HRd.out.below h2
      rw [hx.out] at hrd'
      obtain ⟨a, hA, _, hcell⟩ := hrd'.addr (by omega)
      subst hA
      have hcell := hcell p.length (.int .i8 k) (by simp)
      have hnext : IntKind.i64.wrap ((p.length : Int) + 1) = (p.length : Int) + 1 := IntWalk.i64_in _ (by omega)
      have hini : (p.length : Int) < (n : Int) := by omega
      have hQW : Q ≤ W.heap.size := by have := h2.size; have := HQ.out; omega
      have hsnoc := snoc_len p k
      have Hx := Lib.hid (show zs = (p ++ [k]) ++ t by rw [hx.out]; simp)
      have Hc := Lib.hid (fun v (e : cntZ k = v) => show i8s (cntL (p ++ [k])) = i8s (cntL p) ++ [.int .i8 v] by simp [cntL, e])
      have hql : (p ++ [k]).length = p.length + 1 := by simp
      obtain ⟨q, hq⟩ : ∃ q, p ++ [k] = q := ⟨_, rfl⟩
      obtain ⟨i, hi'⟩ : ∃ i, p.length = i := ⟨_, rfl⟩
      rw [hq, hi'] at hsnoc hql
      rw [hq] at Hx Hc
      rw [hi'] at hin hcell hnext hini h1 ⊢
      have HO := Lib.hid h1
      have HBl := Lib.hid h2
      have Hsn := Lib.hid hsnoc
      have Hql := Lib.hid hql
      clear hx h1 h2 HW hlen hq hi' hrd' hsnoc hql
      have hcellA : ∀ o, (W.alloc o).cell? (a.add i) = some (.int .i8 k) := fun o => by
        exact (Below.cell ((Below.refl W.heap.size W).alloc (Nat.le_refl _) o) (World.block_lt_of_cell? W _ hcell)).trans hcell
      by_cases k0 : k < 0
      · go_wp2_with (at_builtin; refine wpList_append_own_at _ rfl _ _ 22 rfl Q 23 i0 _ 1 1 Try.underlying22 hi hz0 hz1 hz2 rfl (by decide) _ _ _ rfl (HO.out.alloc _) ⟨W.heap.size, 0, none⟩ 1 1 [.int .i8 13] rfl rfl ?ca1 ?ca2 ?ca3 ?ca4 ?ca5 ?_)
        try (case ca1 => exact new_cells W [.int .i8 13] 23)
        case ca2 => simp [Value.oneCell']
        case ca3 => unfold maxLen; omega
        case ca4 => omega
        case ca5 => first | omega | (rw [World.size_alloc]; omega)
        intro v' w2 hown2 hg2 _ _
        have HN := Lib.hid (show w2.ownsRow Q 23 1 v' q.length (i8s (cntL q)) ∧ Below Q w w2 from by
          rw [Hc.out 13 (by unfold cntZ; rw [if_pos (by omega)]), Hql.out]
          exact ⟨hown2, (HBl.out.alloc (by omega) _).grown hg2 (by have := World.size_alloc W (.cells #[.int .i8 13] 23); omega) (fun k hk => (HO.out.lt k hk).1)⟩)
        clear hown2 hg2
        go_wp2
        go_roundw
        case rel => exact ⟨q, t, _, rfl, Hx, by rw [Hsn.out], HN⟩
        case measure => simp [RowKit.intOf]; omega
      · by_cases k2 : 22 < k
        · go_wp2_with (at_builtin; refine wpList_append_own_at _ rfl _ _ 22 rfl Q 23 i0 _ 1 1 Try.underlying22 hi hz0 hz1 hz2 rfl (by decide) _ _ _ rfl (HO.out.alloc _) ⟨W.heap.size, 0, none⟩ 1 1 [.int .i8 13] rfl rfl ?cb1 ?cb2 ?cb3 ?cb4 ?cb5 ?_)
          try (case cb1 => exact new_cells W [.int .i8 13] 23)
          case cb2 => simp [Value.oneCell']
          case cb3 => unfold maxLen; omega
          case cb4 => omega
          case cb5 => first | omega | (rw [World.size_alloc]; omega)
          intro v' w2 hown2 hg2 _ _
          have HN := Lib.hid (show w2.ownsRow Q 23 1 v' q.length (i8s (cntL q)) ∧ Below Q w w2 from by
            rw [Hc.out 13 (by unfold cntZ; rw [if_pos (by omega)]), Hql.out]
            exact ⟨hown2, (HBl.out.alloc (by omega) _).grown hg2 (by have := World.size_alloc W (.cells #[.int .i8 13] 23); omega) (fun k hk => (HO.out.lt k hk).1)⟩)
          clear hown2 hg2
          go_wp2
          go_roundw
          case rel => exact ⟨q, t, _, rfl, Hx, by rw [Hsn.out], HN⟩
          case measure => simp [RowKit.intOf]; omega
        · go_wp2_with (at_builtin; refine wpList_append_own_at _ rfl _ _ 22 rfl Q 23 i0 _ 1 1 Try.underlying22 hi hz0 hz1 hz2 rfl (by decide) _ _ _ rfl (HO.out.alloc _) ⟨W.heap.size, 0, none⟩ 1 1 [.int .i8 k] rfl rfl ?cc1 ?cc2 ?cc3 ?cc4 ?cc5 ?_)
          try (case cc1 => exact new_cells W [.int .i8 k] 23)
          case cc2 => simp [Value.oneCell']
          case cc3 => unfold maxLen; omega
          case cc4 => omega
          case cc5 => first | omega | (rw [World.size_alloc]; omega)
          intro v' w2 hown2 hg2 _ _
          have HN := Lib.hid (show w2.ownsRow Q 23 1 v' q.length (i8s (cntL q)) ∧ Below Q w w2 from by
            rw [Hc.out k (by unfold cntZ; rw [if_neg (by omega)]), Hql.out]
            exact ⟨hown2, (HBl.out.alloc (by omega) _).grown hg2 (by have := World.size_alloc W (.cells #[.int .i8 k] 23); omega) (fun k hk => (HO.out.lt k hk).1)⟩)
          clear hown2 hg2
          go_wp2
          go_roundw
          case rel => exact ⟨q, t, _, rfl, Hx, by rw [Hsn.out], HN⟩
          case measure => simp [RowKit.intOf]; omega
end Go.Proofs.Ytajpkidjdebolaa
