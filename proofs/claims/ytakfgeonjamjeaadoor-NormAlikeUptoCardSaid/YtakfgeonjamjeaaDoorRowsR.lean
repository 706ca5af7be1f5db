/- orderRows and Order of numbers. -/
import Derived.Test.YtakfgeonjamjeaaDoorRowR
import Derived.Laws.AppendOwnNone
namespace Go.Proofs.YtakfgeonjamjeaaDoor
open Go.RowKit Go.Lib

theorem flat_runes (xs : List Int) : flat encR xs = runes xs := by
  induction xs with
  | nil => rfl
  | cons x t ih =>
    show encR x ++ flat encR t = _
    rw [ih]
    rfl
set_option maxRecDepth 100000 in
set_option maxHeartbeats 4000000 in
theorem rowsR_any (xs : List Int) (R cap : Nat) (tb : TypeId) (post : List Value) (w : World) (hblk : Blk w R tb (flat encR xs ++ post)) (hn : xs.length ≤ cap) (hcm : cap ≤ maxLen) (hm : xs.length ≤ 1073741824) :
    Calls Tryd.prog 43 #[.slice (some ⟨R, 0, none⟩) xs.length cap, .func (.func 30) #[] #[]] w fun e w' =>
      e = .returned (.tuple #[]) ∧ Blk w' R tb (flat encR (ordZ markZ xs) ++ post) ∧ Other w w' R := by
  obtain ⟨n, hN⟩ : ∃ n, xs.length = n := ⟨_, rfl⟩
  rw [hN] at hn hm ⊢
  have HN := Lib.hid hN
  have Hblk := Lib.hid hblk
  have HM := Lib.hid (fun x w => Mark_any x w)
  have HRow := Lib.hid (fun xs R cap tb pre post w h1 h2 h3 => rowR_any xs R cap tb pre post w h1 h2 h3)
  have HSh := Lib.hid (fun A n c fv w h => rowR_short A n c fv w h)
  clear hblk hN
  have hcm' : cap ≤ 9223372036854775807 := by unfold maxLen at hcm; omega
  go_enter Tryd.func43, Tryd.ntmps43
  go_wp2_with fail
  go_loopw [4, 9] (fun bv i wr => ∃ (k : Nat) (dn row rest : List Int), k ≤ n ∧ bv = .int .i64 ((dn.length : Nat) : Int) ∧ i = .int .i64 (k : Int) ∧ dn.length + row.length = k ∧ rest = xs.drop k ∧ Hid (ordZ markZ xs = dn ++ ordR markZ row rest) ∧
      Blk wr R tb (flat encR dn ++ flat encR row ++ (flat encR rest ++ post)) ∧ Other w wr R) (fun _ i _ => n - (RowKit.intOf i).toNat)
  case atStart => exact ⟨0, [], [], xs, Nat.zero_le _, rfl, rfl, rfl, rfl, rfl, by simpa [flat] using Hblk.out, Other.refl _ _⟩
  case round =>
    obtain ⟨k, dn, row, rest, hk, rfl, rfl, hdk, hrest, hord, hbl, hot⟩ := hrel
    by_cases hkn : k < n
    · have hki : (k : Int) < (n : Int) := by omega
      obtain ⟨x, hx⟩ : ∃ x, xs[k]? = some x := ⟨_, List.getElem?_eq_getElem (by rw [HN.out]; exact hkn)⟩
      have hr2 : rest = x :: xs.drop (k + 1) := by
        rw [hrest]
        obtain ⟨h, rfl⟩ := List.getElem?_eq_some_iff.1 hx
        exact List.drop_eq_getElem_cons h
      have hcell : wr.cell? ⟨R, k, none⟩ = some (.int .i32 x) := by
        refine hbl.cell ?_
        rw [hr2, List.append_assoc, ← List.append_assoc, List.getElem?_append_right (by rw [List.length_append, flat_len encR_len, flat_len encR_len]; omega)]
        rw [List.length_append, flat_len encR_len, flat_len encR_len, show k - (dn.length * 1 + row.length * 1) = 0 by omega]
        rfl
      have HMx := Lib.hid (HM.out x wr)
      obtain ⟨m, hmm⟩ : ∃ m, markZ x = m := ⟨_, rfl⟩
      have hmm' : cls marksL (char x) = m := hmm
      rw [hmm'] at HMx
      have hlt := hbl.lt
      have hord' := hord.out
      rw [hr2] at hord' hbl
      unfold ordR at hord'
      rw [hmm] at hord'
      obtain ⟨b, hb⟩ : ∃ b, dn.length = b := ⟨_, rfl⟩
      have Hr2 := Lib.hid hr2
      clear hmm hmm' hx hord hrest hr2
      rw [hb] at hdk ⊢
      go_wp2_with fail
      refine HMx.out.mono ?_
      rintro _ w1 ⟨rfl, b1⟩
      have hbl1 : Blk w1 R tb _ := (b1.block R hlt).trans hbl
      have Hot1 := Lib.hid (hot.trans (Other.of_below b1 R))
      clear hbl hot b1
      by_cases hm0 : m = 0
      · subst hm0
        rw [if_pos rfl] at hord'
        have hf1 : (flat encR dn).length = b := by rw [flat_len encR_len, hb, Nat.mul_one]
        have hbc : ¬ (cap = b) := by omega
        have hbk : (b : Int) ≤ (k : Int) := by omega
        have hkc : (k : Int) ≤ (cap : Int) := by omega
        have hbci : (b : Int) < (cap : Int) := by omega
        have hR := HRow.out row R (cap - b) tb (flat encR dn) (flat encR (x :: xs.drop (k + 1)) ++ post) w1 hbl1 (by omega) (by omega)
        rw [hf1, show row.length = k - b by omega] at hR
        have HR := Lib.hid hR
        have Hord := Lib.hid hord'
        have hbu := bucket_len markZ row (fun x _ => markZ_lt x)
        have hwk : IntKind.i64.wrap ((k : Int) + 1) = ((k + 1 : Nat) : Int) := by rw [IntWalk.i64_in _ (by omega)]; omega
        clear hR hbl1 hord'
        go_wp2_with fail
        refine HR.out.mono ?_
        rintro _ w2 ⟨rfl, hb2, ho2⟩
        have Hb2 := Lib.hid hb2
        have Ho2 := Lib.hid (Hot1.out.trans ho2)
        clear hb2 ho2
        have hlen : (dn ++ bucket markZ row ++ [x]).length = k + 1 := by simp; omega
        go_wp2
        go_roundw
        case rel =>
          refine ⟨k + 1, dn ++ bucket markZ row ++ [x], [], xs.drop (k + 1), by omega, by rw [hlen]; first | rfl | (rw [← hwk]; rfl), by go_num, by rw [hlen]; rfl, rfl, ?_, ?_, Ho2.out⟩
          · have h := Hord.out
            unfold Hid
            rw [h]
            simp
          · have h := Hb2.out
            simpa [flat] using h
        case measure => simp [RowKit.intOf]; omega
      · rw [if_neg hm0] at hord'
        have hz : ((m : Int) == 0) = false := by rw [beq_eq_false_iff_ne]; omega
        have Hord := Lib.hid hord'
        have Hbl1 := Lib.hid hbl1
        clear hord' hbl1
        go_wp2
        go_roundw
        case rel =>
          refine ⟨k + 1, dn, row ++ [x], xs.drop (k + 1), by omega, by rw [hb], by go_num, by simp; omega, rfl, Lib.hid Hord.out, ?_, Hot1.out⟩
          have h := Hbl1.out
          rw [flat_append]
          simpa [flat] using h
        case measure => simp [RowKit.intOf]; omega
    · obtain rfl : k = n := by omega
      have hr2 : rest = [] := by rw [hrest]; exact List.drop_eq_nil_of_le (by rw [HN.out]; exact Nat.le_refl _)
      subst hr2
      have hord' := hord.out
      unfold ordR at hord'
      obtain ⟨b, hb⟩ : ∃ b, dn.length = b := ⟨_, rfl⟩
      rw [hb] at hdk ⊢
      have hbl' : Blk wr R tb (flat encR dn ++ flat encR row ++ post) := by simpa [flat] using hbl
      have Hord := Lib.hid hord'
      have Hot := Lib.hid hot
      clear hord hord' hot hbl hrest
      have hbk : (b : Int) ≤ (k : Int) := by omega
      have hkc : (k : Int) ≤ (cap : Int) := by omega
      rcases Classical.em (cap = b) with hcb | hcb
      · have hrow : row = [] := List.eq_nil_of_length_eq_zero (by omega)
        subst hrow
        have Hbl := Lib.hid hbl'
        have HS := Lib.hid (fun A c fv w => HSh.out A (k - b) c fv w (by omega))
        clear hbl'
        go_wp2_with fail
        refine (HS.out _ _ _ _).mono ?_
        rintro _ w2 ⟨rfl, h⟩
        obtain rfl := h.symm
        go_wp2_with fail
        refine ⟨rfl, _, results_none rfl _ _ _, rfl, ?_, Hot.out⟩
        rw [Hord.out, bucket_short markZ [] (by decide) (fun x h => by cases h), List.append_nil]
        simpa [flat] using Hbl.out
      · have hf1 : (flat encR dn).length = b := by rw [flat_len encR_len, hb, Nat.mul_one]
        have hR := HRow.out row R (cap - b) tb (flat encR dn) post wr hbl' (by omega) (by omega)
        rw [hf1, show row.length = k - b by omega] at hR
        have HR := Lib.hid hR
        clear hR hbl'
        go_wp2_with fail
        refine HR.out.mono ?_
        rintro _ w2 ⟨rfl, hb2, ho2⟩
        have Hb2 := Lib.hid hb2
        have Ho2 := Lib.hid (Hot.out.trans ho2)
        clear hb2 ho2
        go_wp2_with fail
        refine ⟨rfl, _, results_none rfl _ _ _, rfl, ?_, Ho2.out⟩
        rw [Hord.out, flat_append]
        exact Hb2.out
end Go.Proofs.YtakfgeonjamjeaaDoor
