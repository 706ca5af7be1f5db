/- Layer 8, the laws' helpers: lent, kept. -/
import Derived.Test.YtajpkidjdebolaaFreshW
import Derived.Laws.Slices
import Derived.Laws.AppendOwnNone
import Derived.Deep.QuietTactic
import Derived.BigQuiet
set_option linter.unusedSimpArgs false
set_option linter.unusedVariables false
namespace Go.Proofs.Ytajpkidjdebolaa
open Go.RowKit Go.Lib

/-- behind a row of one's own what a list holds that is read, nil too -/
theorem wpList_append_rd8 {P : Program} {w : World} {ops : Array Oper} {rest : List Oper} {o : Oper} {a : Act} {Q : Exit → Act → World → Prop} (hgd : o.guard = none) (s x : Operand) (t : TypeId)
    (ho : o.op = .call { callee := .builtin .append, args := #[s, x], argTypes := #[t, t] })
    (base : Nat) (e : TypeId) (i : TypeInfo) (z : Value) (bytes : Nat) (ht : P.underlying t = some (.slice e)) (hi : P.info? e = some i) (hz : i.zero = some z)
    (hsize : i.size = 1) (hby : i.bytes = bytes) (hzs : z.cells.size = 1)
    (v : Value) (n : Nat) (xs : List Value) (hs : a.eval s = v) (hown : w.ownsRow base e 1 v n xs)
    (A : Option Addr) (m c : Nat) (news : List Value) (hx : a.eval x = .slice A m c) (hnil : A = none → c = 0) (b2 : Nat) (hrd : Rd w b2 1 A m news) (h1 : ∀ u ∈ news, u.oneCell' = true)
    (h63 : n + m ≤ maxLen) (hbytes : (n + m) * bytes ≤ 140737488355328) (hbase : base ≤ w.heap.size)
    (h : ∀ v' w', w'.ownsRow base e 1 v' (n + m) (xs ++ news) → w.grownBy w' v.ownBlock → wpList P ops Q rest (a.put o.dst v') w') :
    wpList P ops Q (o :: rest) a w := by
  have hl := hrd.1
  rcases A with _ | ad
  · obtain rfl := hnil rfl
    obtain rfl : m = 0 := by
      rcases hrd.2 with h | ⟨a, e, _⟩
      · exact h
      · cases e
    obtain rfl : news = [] := List.eq_nil_of_length_eq_zero (by omega)
    refine wpList_append_own_none hgd s x t ho base e i 1 ht hi v n xs hs hown hx ?_
    exact h v w (by simpa using hown) ⟨rfl, rfl, rfl, Nat.le_refl _, fun _ _ _ => rfl⟩
  · have hc : ∀ j u, news[j]? = some u → w.cell? (ad.add j) = some u := by
      rcases hrd.2 with h | ⟨a, e, _, hc⟩
      · intro j u hu
        rw [List.eq_nil_of_length_eq_zero (show news.length = 0 by omega)] at hu
        cases hu
      · cases e
        exact hc
    exact wpList_append_own_at w hgd s x t ho base e i z 1 bytes ht hi hz hsize hby hzs (by omega) v n xs hs hown ad m c news hx hl hc h1 h63 hbytes hbase (fun v' w' a b _ c => h v' w' a b)

/-- a list that was laid into memory of its own, with two marks behind it -/
def LentAt (n : Nat) (zs : List Int) (g cp Q : Nat) (w : World) : Prop := w.ownsRow Q 23 1 (.slice (some ⟨g, 0, none⟩) (n + 2) cp) (n + 2) (i8s (zs ++ [77, 77]))
theorem LentAt.read {n : Nat} {zs : List Int} {g cp Q : Nat} {w : World} (h : LentAt n zs g cp Q w) : RdK w (some ⟨g, 0, none⟩) n zs := by
  have h' := RdK.own h
  have hl := h'.len
  simp at hl
  refine ⟨by simp; omega, .inr ⟨_, rfl, (h.lt g rfl).2, fun j u hu => ?_⟩⟩
  refine h.cells rfl j u ?_
  obtain ⟨hj, rfl⟩ := List.getElem?_eq_some_iff.1 hu
  simp only [List.length_map] at hj
  simp only [i8s, List.map_append]
  rw [List.getElem?_append_left (by simp; omega), List.getElem?_eq_getElem]
theorem slice_h8 (W : World) (g n m cp : Nat) (h1 : 0 < cp) (h2 : n ≤ cp) : (Instr.slice 22 (.slice (some ⟨g, 0, none⟩) m cp) none (some (.int .i64 (n : Int))) none).run Try.prog W = .ok (.slice (some ⟨g, 0, none⟩) n cp) W := by
  have h := run_slice_h (P := Try.prog) W 22 (some ⟨g, 0, none⟩) m cp (show Try.prog.underlying 22 = some (.slice (Try.prog.elem 22)) from Try.underlying22) .i64 (n : Int) (by omega) (by omega)
  rw [h]
  have hs : (sizeOf (Try.prog.elem 22)).run Try.prog W = .ok 1 W := by rfl
  rw [hs]
  have e0 : (⟨g, 0, none⟩ : Addr).add 0 = ⟨g, 0, none⟩ := by unfold Addr.add; rw [if_pos rfl]
  have hc : ¬ cp = 0 := by omega
  simp [Result.andThen, sliced, hc, e0]
set_option maxRecDepth 100000 in
set_option maxHeartbeats 2000000 in
theorem lent_any8 (A : Option Addr) (n c : Nat) (zs : List Int) (w : World) (hrd : RdK w A n zs) (hn : n ≤ 140737488351232) (hnil : A = none → c = 0) :
    Calls Try.prog 10 #[.slice A n c] w fun e w' => ∃ g cp, e = .returned (.slice (some ⟨g, 0, none⟩) n cp) ∧ LentAt n zs g cp w.heap.size w' ∧ Below w.heap.size w w' := by
  obtain ⟨i0, hi, hz0, hz1, hz2⟩ := info_parts i8_info
  have hzl := hrd.len
  obtain ⟨m, hm⟩ : ∃ m, n + 2 = m := ⟨_, rfl⟩
  have hwm : IntKind.i64.wrap ((n : Int) + 2) = (m : Int) := by rw [IntWalk.i64_in _ (by omega)]; omega
  obtain ⟨W0, hrun, hown0, hg0⟩ := run_make_own (P := Try.prog) w w.heap.size 22 23 i0 _ 1 Try.underlying22 hi hz0 hz1 .i64 .i64 m (by rw [hz2]; omega) (by unfold maxLen; omega) (Nat.le_refl _)
  obtain ⟨Q, hQ⟩ : ∃ Q, w.heap.size = Q := ⟨_, rfl⟩
  rw [hQ] at hrun hown0 ⊢
  have hb0 : Below Q w W0 := (Below.refl Q w).grown hg0 (by omega) (fun k hk => by cases hk)
  have Hr0 := Lib.hid (show RdK W0 A n zs from hrd.below (by rw [hQ]; exact hb0))
  have H0 := Lib.hid (show _ ∧ _ from ⟨hown0, hb0⟩)
  have hq0 : Q ≤ W0.heap.size := by have := hb0.size; omega
  have Hm := Lib.hid hm
  clear hrd hown0 hg0 hb0 hQ
  go_enter Try.func10, Try.ntmps10
  go_wp2_with (at_builtin; refine wpList_append_rd8 rfl _ _ 22 rfl Q 23 i0 _ 1 Try.underlying22 hi hz0 hz1 hz2 rfl _ 0 [] rfl H0.out.1 _ _ _ _ rfl hnil _ Hr0.out ?c1 ?c2 ?c3 hq0 ?_)
  case c1 => simp [Value.oneCell']
  case c2 => unfold maxLen; omega
  case c3 => omega
  intro v1 w1 hown1 hg1
  have hown1 : w1.ownsRow Q 23 1 v1 n (i8s zs) := by simpa using hown1
  have hb1 : Below Q w w1 := H0.out.2.grown hg1 hq0 (fun k hk => (H0.out.1.lt k hk).1)
  have hq1 : Q ≤ w1.heap.size := by have := hb1.size; have := hg1.size; omega
  have H1 := Lib.hid (show _ ∧ _ from ⟨hown1, hb1⟩)
  clear hown1 hg1 hb1 H0
  go_wp2_with (at_builtin; refine wpList_append_own_at _ rfl _ _ 22 rfl Q 23 i0 _ 1 1 Try.underlying22 hi hz0 hz1 hz2 rfl (by decide) _ _ _ rfl (H1.out.1.alloc _) ⟨w1.heap.size, 0, none⟩ 2 2 [.int .i8 77, .int .i8 77] rfl rfl ?d1 ?d2 ?d3 ?d4 ?d5 ?_)
  try (case d1 => exact new_cells w1 [.int .i8 77, .int .i8 77] 23)
  case d2 => simp [Value.oneCell']
  case d3 => unfold maxLen; omega
  case d4 => omega
  case d5 => rw [World.size_alloc]; omega
  intro v2 w2 hown2 hg2 _ _
  have hb2 : Below Q w w2 := (H1.out.2.alloc hq1 _).grown hg2 (by rw [World.size_alloc]; omega) (fun k hk => (H1.out.1.lt k hk).1)
  obtain ⟨g, cap, hv2, _, _⟩ := hown2.form (by omega)
  subst hv2
  have hcap := (own_caps hown2).1
  have H2 := Lib.hid (show LentAt n zs g cap Q w2 ∧ Below Q w w2 from ⟨by unfold LentAt; rw [show i8s (zs ++ [77, 77]) = i8s zs ++ [.int .i8 77, .int .i8 77] by simp [i8s], Hm.out]; exact hown2, hb2⟩)
  have hsl := slice_h8 w2 g n m cap (by omega) (by omega)
  clear hown2 hg2 hb2 H1
  go_wp2_with fail
  go_ret
  exact ⟨g, cap, rfl, H2.out⟩
set_option maxRecDepth 100000 in
set_option maxHeartbeats 2000000 in
theorem kept_any8 (A : Option Addr) (n c g cp Q : Nat) (zs : List Int) (w : World) (hrd : RdK w A n zs) (hl : LentAt n zs g cp Q w) (hn : n ≤ 140737488351232) :
    Calls Try.prog 13 #[.slice (some ⟨g, 0, none⟩) n cp, .slice A n c] w fun e w' => e = .returned (.bool true) ∧ Below w.heap.size w w' := by
  have hzl := hrd.len
  have hc := own_caps hl
  obtain ⟨m, hm⟩ : ∃ m, n + 2 = m := ⟨_, rfl⟩
  have hwm : IntKind.i64.wrap ((n : Int) + 2) = (m : Int) := by rw [IntWalk.i64_in _ (by omega)]; omega
  have hsl := slice_h8 w g m n cp (by omega) (by omega)
  have hlo : ∀ i, i < n → w.cell? ⟨g, i, none⟩ = (i8s zs)[i]? := fun i hi => by
    rw [hl.cellAt i (by omega)]
    simp only [i8s, List.map_append]
    rw [List.getElem?_append_left (by simp; omega)]
  have hhi : ∀ i, n ≤ i → i < m → w.cell? ⟨g, i, none⟩ = some (.int .i8 77) := fun i h1 h2 => by
    rw [hl.cellAt i (by omega)]
    simp only [i8s, List.map_append]
    rw [List.getElem?_append_right (by simp; omega)]
    have : i - (List.map (Value.int .i8) zs).length = 0 ∨ i - (List.map (Value.int .i8) zs).length = 1 := by simp; omega
    rcases this with e | e <;> rw [e] <;> rfl
  obtain ⟨B, hB⟩ : ∃ B, w.heap.size = B := ⟨_, rfl⟩
  have hgB : g < B := by rw [← hB]; exact (hl.lt g rfl).2
  rw [hB]
  have HB := Lib.hid hB
  have Hrd := Lib.hid hrd
  have Hlo := Lib.hid hlo
  have Hhi := Lib.hid hhi
  have H0 := Lib.hid (Below.refl B w)
  have Hm := Lib.hid hm
  have hmn : n ≤ m := by omega
  have hmb : m ≤ 140737488351234 := by omega
  clear hrd hl hc hlo hhi hB hm
  go_enter Try.func13, Try.ntmps13
  go_wp2_with fail
  go_loopw [14] (fun x wr => ∃ (i : Nat) (W : World), W = wr ∧ i ≤ m ∧ x = .int .i64 (i : Int) ∧ Hid (Below B w W)) (fun x _ => m - (RowKit.intOf x).toNat)
  case atStart => exact ⟨0, _, rfl, Nat.zero_le _, rfl, H0⟩
  case round =>
    obtain ⟨i, W, hW, him, rfl, HW⟩ := hrel
    subst hW
    by_cases hlt : i < m
    · have hini : (i : Int) < (m : Int) := by omega
      have hnext : IntKind.i64.wrap ((i : Int) + 1) = (i : Int) + 1 := IntWalk.i64_in _ (by omega)

      by_cases hin : i < n
      · obtain ⟨k, hk⟩ : ∃ k, zs[i]? = some k := ⟨_, List.getElem?_eq_getElem (by omega)⟩
        have hc1 : W.cell? ⟨g, i, none⟩ = some (.int .i8 k) := by
          rw [HW.out.cell (p := ⟨g, i, none⟩) hgB, Hlo.out i hin, List.getElem?_map, hk]
          rfl
        have hrw := Hrd.out.below (by rw [HB.out]; exact HW.out)
        obtain ⟨a, hA, _, hca⟩ := Rd.addr hrw (by omega)
        have hc2 := hca i (.int .i8 k) (by rw [List.getElem?_map, hk]; rfl)
        subst hA
        have hc1D : W.drew.cell? ⟨g, i, none⟩ = some (.int .i8 k) := hc1
        have hc2D : W.drew.cell? (a.add i) = some (.int .i8 k) := hc2
        have hii : (i : Int) < (n : Int) := by omega
        have hii2 : ¬ (n : Int) ≤ (i : Int) := by omega
        have hkk : (k != k) = false := by simp
        have hd1 : decide ((i : Int) < (n : Int)) = true := decide_eq_true hii
        have hd2 : decide ((n : Int) ≤ (i : Int)) = false := decide_eq_false hii2
        have hd3 : decide (i < n) = true := decide_eq_true hin
        have hd4 : decide (n ≤ i) = false := decide_eq_false (by omega)
        clear hrw hca hk
        go_wp2_with fail
        go_quiet (fail)
        go_wp2_with fail
        go_roundw
        case rel => exact ⟨i + 1, _, rfl, by omega, by first | rfl | go_num, Lib.hid (below_N HW.out _)⟩
        case measure => simp [RowKit.intOf]; omega
      · have hc1 : W.cell? ⟨g, i, none⟩ = some (.int .i8 77) := by
          rw [HW.out.cell (p := ⟨g, i, none⟩) hgB, Hhi.out i (by omega) hlt]
        have hc1D : W.drew.cell? ⟨g, i, none⟩ = some (.int .i8 77) := hc1
        have hii : ¬ (i : Int) < (n : Int) := by omega
        have hii2 : (n : Int) ≤ (i : Int) := by omega
        have hd1 : decide ((i : Int) < (n : Int)) = false := decide_eq_false hii
        have hd2 : decide ((n : Int) ≤ (i : Int)) = true := decide_eq_true hii2
        have hd3 : decide (i < n) = false := decide_eq_false hin
        have hd4 : decide (n ≤ i) = true := decide_eq_true (by omega)
        go_wp2_with fail
        go_quiet (fail)
        go_wp2_with fail
        go_roundw
        case rel => exact ⟨i + 1, _, rfl, by omega, by first | rfl | go_num, Lib.hid (below_N HW.out _)⟩
        case measure => simp [RowKit.intOf]; omega
    · obtain rfl : m = i := by omega
      have hnn : ¬ (m : Int) < (m : Int) := by omega
      have hee : ((n : Int) == (n : Int)) = true := by simp
      clear him hlt
      go_wp2_with fail
      go_ret
      exact ⟨by first | rfl | simp, HW.out⟩
end Go.Proofs.Ytajpkidjdebolaa
