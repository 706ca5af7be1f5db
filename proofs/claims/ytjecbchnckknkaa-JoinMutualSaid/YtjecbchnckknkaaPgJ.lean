/- Layer 11, the program: Shaped; what all its functions answer. -/
import Derived.Test.YtjecbchnckknkaaPgF
import Derived.Test.YtjecbchnckknkaaPgB
import Derived.Deep.RegionWith
set_option linter.unusedSimpArgs false
set_option linter.unusedVariables false
namespace Go.Proofs.Ytjecbchnckknkaa
open Go.RowKit Go.Lib

theorem row_at32 {w : World} {B n c : Nat} {A : Option Addr} {p t : List Int} {k : Int} (h : w.ownsRow B 21 1 (.slice A n c) n (i32j (p ++ k :: t))) :
    ∃ g, A = some ⟨g, 0, none⟩ ∧ p.length < n ∧ n ≤ c ∧ c ≤ maxLen ∧ w.cell? ⟨g, p.length, none⟩ = some (.int .i32 k) ∧ w.frozen? ⟨g, p.length, none⟩ = false ∧
      ∀ v, (w.setCell ⟨g, p.length, none⟩ (.int .i32 v)).ownsRow B 21 1 (.slice A n c) n (i32j (p ++ v :: t)) ∧ w.grownBy (w.setCell ⟨g, p.length, none⟩ (.int .i32 v)) (Value.ownBlock (.slice A n c)) := by
  have hl : (p ++ k :: t).length = n := by have := h.1; simpa using this
  simp only [List.length_append, List.length_cons] at hl
  obtain ⟨g, cap, hv, _, _⟩ := h.form (by omega)
  injection hv with hA _ hc
  subst hA hc
  obtain ⟨_, _, he, h1, h2⟩ := own_shape h
  injection he with _ _ he
  subst he
  refine ⟨g, rfl, by omega, h1, h2, ?_, h.frozenAt _, fun v => ?_⟩
  · rw [h.cellAt _ (by omega), List.getElem?_map, List.getElem?_append_right (Nat.le_refl _), Nat.sub_self]
    rfl
  · obtain ⟨s1, t1⟩ := h.stored p.length (.int .i32 v)
    rw [← List.map_set, List.set_append_right _ _ (Nat.le_refl _), Nat.sub_self] at s1
    exact ⟨s1, t1⟩
/-- what holds between two runes: the row of shapes is written, all else stays -/
structure SpS (w W1 : World) (Q n : Nat) (xs : List Int) (i : Nat) (W : World) : Prop where
  ow : W.ownsRow Q 21 1 (.slice (some ⟨Q, 0, none⟩) n n) n (i32j ((shapedJ xs).take i ++ List.replicate (n - i) 0))
  be : Below Q w W
  gr : W1.grownBy W (some Q)
theorem grownD {w V : World} {row : Option Nat} (h : w.grownBy V row) : w.grownBy V.drew row := ⟨h.os, h.tape, h.output, h.size, h.block⟩
theorem ownD {V : World} {B n z : Nat} {e : TypeId} {v : Value} {l : List Value} (h : V.ownsRow B e z v n l) : V.drew.ownsRow B e z v n l := h
set_option maxRecDepth 100000 in
set_option maxHeartbeats 8000000 in
theorem shaped_anyJ (A : Option Addr) (n c : Nat) (xs : List Int) (w : World) (hr : RdJ w A n xs) (hn : n ≤ 35184372087808) :
    Calls Try.prog 18 #[.slice A n c] w (PlR w (shapedJ xs)) := by
  obtain ⟨i0, hi, hz0, hz1, hz2⟩ := info_parts i32_infoJ
  have hxl := hr.len
  obtain ⟨W0, hrun, hown0, hg0⟩ := run_make_full (P := Try.prog) w w.heap.size 22 21 i0 _ 1 Try.underlying22 hi hz0 hz1 .i64 .i64 n (by rw [hz2]; omega) (by unfold maxLen; omega) (Nat.le_refl _)
  have hz : (madeCells (Value.int .i32 0).cells (n * 1)).toList = i32j (List.replicate n 0) := by
    rw [Nat.mul_one]
    show (madeCells #[Value.int .i32 0] n).toList = _
    rw [toList_madeCells_one]
    simp [i32j]
  rw [hz] at hown0
  clear hz
  obtain ⟨Q, hQ⟩ : ∃ Q, w.heap.size = Q := ⟨_, rfl⟩
  rw [hQ] at hrun hown0
  have hb0 : Below Q w W0 := (Below.refl Q w).grown hg0 (by omega) (fun k hk => by cases hk)
  have hQ0 : Q < W0.heap.size := (hown0.lt Q rfl).2
  obtain ⟨R, hR⟩ : ∃ R, PlR w (shapedJ xs) = R := ⟨_, rfl⟩
  have HR := Lib.hid (show ∀ W, W.ownsRow Q 21 1 (.slice (some ⟨Q, 0, none⟩) n n) n (i32j (shapedJ xs)) → Below Q w W → R (.returned (.slice (some ⟨Q, 0, none⟩) n n)) W from fun W ho hb => by
    rw [← hR]
    have hl : (shapedJ xs).length = n := by rw [shapedJ_len, hxl]
    exact ⟨Q, _, _, by omega, by rw [hl], by rw [hl]; exact ho, by rw [hQ]; exact hb⟩)
  rw [hR]
  have HF := Lib.hid (forms_anyJ A n c xs W0 (hr.below (by rw [hQ]; exact hb0)) hn)
  have HSh := Lib.hid shape_anyJ
  have hfl : (formsJ 0 (xs.map kJ)).length = n := by rw [formsJ_len, List.length_map, hxl]
  have HX := Lib.hid (show ∀ i r f, xs[i]? = some r → (formsJ 0 (xs.map kJ))[i]? = some f → (shapedJ xs).take (i + 1) = (shapedJ xs).take i ++ [shapeJ r f] from fun i r f h h2 => shapedJ_next xs i r f h h2)
  have HE := Lib.hid (show (shapedJ xs).length = n ∧ (shapedJ xs).take n = shapedJ xs from ⟨by rw [shapedJ_len, hxl], List.take_of_length_le (by rw [shapedJ_len, hxl]; exact Nat.le_refl _)⟩)
  have Hr := Lib.hid (show Rd w Q 1 A n (i32j xs) from by have := hr; unfold RdJ at this; rw [hQ] at this; exact this)
  have H0 := Lib.hid (show W0.ownsRow Q 21 1 (.slice (some ⟨Q, 0, none⟩) n n) n (i32j (List.replicate n 0)) ∧ Below Q w W0 ∧ Q < W0.heap.size from ⟨hown0, hb0, hQ0⟩)
  obtain ⟨fs, hfs⟩ : ∃ fs, formsJ 0 (xs.map kJ) = fs := ⟨_, rfl⟩
  rw [hfs] at HF HX hfl
  clear hr hown0 hg0 hb0 hQ hQ0 hR hfs
  go_enter Try.func18, Try.ntmps18
  go_wp2_with fail
  refine HF.out.mono ?_
  rintro _ W1 ⟨Q1, A1, c1, hQ1, rfl, of, bf⟩
  rw [hfl] at of ⊢
  have hI0 : SpS w W1 Q n xs 0 W1 := ⟨by have := own_below H0.out.1 bf; simpa using this, H0.out.2.1.trans (bf.mono (Nat.le_of_lt H0.out.2.2)), World.grownBy.refl _ _⟩
  have HI0 := Lib.hid hI0
  have HW1 := Lib.hid (show Q < W1.heap.size from Nat.lt_of_lt_of_le H0.out.2.2 bf.size)
  have HXs := Lib.hid (show ∀ W, W1.grownBy W (some Q) → Below Q w W → Rd W Q 1 A n (i32j xs) from fun W _ hb => Hr.out.below hb)
  have HFs := Lib.hid (show ∀ i f, fs[i]? = some f → ∃ g, A1 = some ⟨g, 0, none⟩ ∧ ∀ W, W1.grownBy W (some Q) → W.cell? ⟨g, i, none⟩ = some (.int .i8 f) from fun i f hf => by
    have hin := (List.getElem?_eq_some_iff.1 hf).1
    rw [hfl] at hin
    obtain ⟨g, cap, hv, _, _⟩ := of.form (by omega)
    injection hv with hA _ _
    subst hA
    have hgl := of.lt g rfl
    refine ⟨g, rfl, fun W hg => hg.cell (a := ⟨g, i, none⟩) ?_ (fun e => by injection e with e; have := H0.out.2.2; simp at e; omega)⟩
    rw [of.cellAt i (by rw [Nat.mul_one]; exact hin), List.getElem?_map, hf]
    rfl)
  clear of bf HF H0 hI0 hQ1
  go_wp2_with fail
  go_loopw [12] (fun x wr => ∃ (i : Nat) (W : World), W = wr ∧ x = .int .i64 (i : Int) ∧ i ≤ n ∧ Hid (SpS w W1 Q n xs i W)) (fun x _ => n - (RowKit.intOf x).toNat)
  case atStart => exact ⟨0, _, rfl, rfl, by omega, HI0⟩
  case round =>
    obtain ⟨i, W, hW, rfl, hin, HI⟩ := hrel
    subst hW
    rcases Nat.lt_or_ge i n with hlt | hge
    · obtain ⟨r, hri⟩ : ∃ r, xs[i]? = some r := ⟨_, List.getElem?_eq_getElem (by omega)⟩
      obtain ⟨f, hfi⟩ : ∃ f, fs[i]? = some f := ⟨_, List.getElem?_eq_getElem (by omega)⟩
      obtain ⟨ar, hA, harb, hca⟩ := (HXs.out W HI.out.gr HI.out.be).addr (by omega)
      subst hA
      have hcr := hca i (.int .i32 r) (by rw [List.getElem?_map, hri]; rfl)
      obtain ⟨g1, hA1, hcf⟩ := HFs.out i f hfi
      subst hA1
      have hcf1 := hcf W HI.out.gr
      have hini : (i : Int) < (n : Int) := by omega
      have hi0 : (0 : Int) ≤ (i : Int) := by omega
      have hnext : IntKind.i64.wrap ((i : Int) + 1) = (i : Int) + 1 := IntWalk.i64_in _ (by omega)
      have hQW : Q < W.heap.size := by have := HI.out.gr.size; have := HW1.out; omega
      have HC := Lib.hid (HSh.out r f W)
      have HCD := Lib.hid (HSh.out r f W.drew)
      obtain ⟨s, hs⟩ : ∃ s, shapeJ r f = s := ⟨_, rfl⟩
      rw [hs] at HC HCD
      have hnx := HX.out i r f hri hfi
      rw [hs] at hnx
      obtain ⟨d, hd⟩ : ∃ d, n - i = d + 1 := ⟨n - i - 1, by omega⟩
      have hd1 : n - (i + 1) = d := by omega
      have htl : ((shapedJ xs).take i).length = i := by rw [List.length_take, HE.out.1]; omega
      have Hrow := Lib.hid (show ∀ W2, Below W.heap.size W W2 → W2.cell? ⟨Q, i, none⟩ = some (.int .i32 0) ∧ W2.frozen? ⟨Q, i, none⟩ = false ∧ SpS w W1 Q n xs (i + 1) (W2.setCell ⟨Q, i, none⟩ (.int .i32 s)) from fun W2 hb => by
        have ho := own_below HI.out.ow hb
        rw [hd, List.replicate_succ] at ho
        obtain ⟨g, hg, _, _, _, hcl, hfz, hset⟩ := row_at32 ho
        injection hg with hg
        injection hg with hg
        subst hg
        rw [htl] at hcl hfz hset
        have hg2 : W1.grownBy W2 (some Q) := HI.out.gr.trans ⟨hb.os, hb.tape, hb.output, hb.size, fun q hq _ => hb.block q hq⟩
        refine ⟨hcl, hfz, ?_, (HI.out.be.trans (hb.mono (Nat.le_of_lt hQW))).setCell (p := ⟨Q, i, none⟩) (Nat.le_refl _) _, hg2.trans (hset s).2⟩
        rw [hnx, hd1, List.append_assoc]
        exact (hset s).1)
      clear hri hfi hca hcf hs hnx hd hd1 htl HI HI0
      go_wp2_with fail
      refine HC.out.mono ?_
      rintro _ w2 ⟨rfl, hb2⟩
      obtain ⟨hc2, hf2, hn2⟩ := Hrow.out w2 hb2
      have HN := Lib.hid hn2
      clear hn2 hb2
      go_wp2_with fail
      go_roundw
      case rel => exact ⟨i + 1, _, rfl, by first | rfl | go_num, by omega, HN⟩
      case measure => simp [RowKit.intOf]; omega
    · obtain rfl : i = n := by omega
      have hnn : ¬ (i : Int) < (i : Int) := by omega
      have HL := Lib.hid (HR.out W (by
        have h1 := HI.out.ow
        rw [HE.out.2, Nat.sub_self] at h1
        simpa using h1) HI.out.be)
      clear hin hge HI HI0
      go_wp2_with fail
      exact HL.out
theorem joinP_is : JoinP 35184372087808 :=
  ⟨by omega, by omega, fun A n c xs w h hn => forms_anyJ A n c xs w h hn, fun r f w => shape_anyJ r f w, fun A n c xs w h hn => shaped_anyJ A n c xs w h hn, fun r w => plain_anyJ r w⟩
end Go.Proofs.Ytjecbchnckknkaa
