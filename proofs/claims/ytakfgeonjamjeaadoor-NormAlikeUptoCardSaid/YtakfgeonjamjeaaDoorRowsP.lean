/- orderRows of pieces. -/
import Derived.Test.YtakfgeonjamjeaaDoorRowP
import Derived.Laws.AppendOwnNone
namespace Go.Proofs.YtakfgeonjamjeaaDoor
open Go.RowKit Go.Lib

set_option maxRecDepth 100000 in
set_option maxHeartbeats 4000000 in
theorem rowsP_any (xs : List Pc) (R cap : Nat) (tb : TypeId) (post : List Value) (w : World) (hblk : Blk w R tb (flat encP xs ++ post)) (hn : xs.length ≤ cap) (hcm : cap ≤ maxLen) (hm : xs.length ≤ 1073741824) (hx256 : ∀ x ∈ xs, numP x < 256) :
    Calls Tryd.prog 68 #[.slice (some ⟨R, 0, none⟩) xs.length cap, .func (.func 69) #[] #[]] w fun e w' =>
      e = .returned (.tuple #[]) ∧ Blk w' R tb (flat encP (ordZ numP xs) ++ post) ∧ Other w w' R := by
  obtain ⟨n, hN⟩ : ∃ n, xs.length = n := ⟨_, rfl⟩
  rw [hN] at hn hm ⊢
  have HN := Lib.hid hN
  have Hblk := Lib.hid hblk
  have HM := Lib.hid (fun x w => pmark_any x w)
  have HRow := Lib.hid (fun xs R cap tb pre post w h1 h2 h3 h4 => rowP_any xs R cap tb pre post w h1 h2 h3 h4)
  have HSh := Lib.hid (fun A n c fv w h => rowP_short A n c fv w h)
  clear hblk hN
  have hcm' : cap ≤ 9223372036854775807 := by unfold maxLen at hcm; omega
  go_enter Tryd.func68, Tryd.ntmps68
  go_wp2_with fail
  go_loopw [4, 9] (fun bv i wr => ∃ (k : Nat) (dn row rest : List Pc), k ≤ n ∧ bv = .int .i64 ((dn.length : Nat) : Int) ∧ i = .int .i64 (k : Int) ∧ dn.length + row.length = k ∧ rest = xs.drop k ∧ (∀ x ∈ row, numP x < 256) ∧ Hid (ordZ numP xs = dn ++ ordR numP row rest) ∧
      Blk wr R tb (flat encP dn ++ flat encP row ++ (flat encP rest ++ post)) ∧ Other w wr R) (fun _ i _ => n - (RowKit.intOf i).toNat)
  case atStart => exact ⟨0, [], [], xs, Nat.zero_le _, rfl, rfl, rfl, rfl, (fun _ h => by cases h), rfl, by simpa [flat] using Hblk.out, Other.refl _ _⟩
  case round =>
    obtain ⟨k, dn, row, rest, hk, rfl, rfl, hdk, hrest, hrow256, hord, hbl, hot⟩ := hrel
    by_cases hkn : k < n
    · have hki : (k : Int) < (n : Int) := by omega
      obtain ⟨x, hx⟩ : ∃ x, xs[k]? = some x := ⟨_, List.getElem?_eq_getElem (by rw [HN.out]; exact hkn)⟩
      have hr2 : rest = x :: xs.drop (k + 1) := by
        rw [hrest]
        obtain ⟨h, rfl⟩ := List.getElem?_eq_some_iff.1 hx
        exact List.drop_eq_getElem_cons h
      have hx3 : ∀ j u, (encP x)[j]? = some u → wr.cell? ⟨R, k * 3 + j, none⟩ = some u := by
        intro j u hu
        refine hbl.cell ?_
        rw [hr2, List.append_assoc, ← List.append_assoc, List.getElem?_append_right (by rw [List.length_append, flat_len encP_len, flat_len encP_len]; omega)]
        rw [List.length_append, flat_len encP_len, flat_len encP_len, show k * 3 + j - (dn.length * 3 + row.length * 3) = j by omega]
        show (encP x ++ flat encP (xs.drop (k + 1)) ++ post)[j]? = some u
        rw [List.append_assoc, List.getElem?_append_left (List.getElem?_eq_some_iff.1 hu).1]
        exact hu
      have hx0 : wr.cell? ⟨R, k * 3, none⟩ = some (.int .i32 x.1) := hx3 0 _ rfl
      have hx1 : wr.cell? ⟨R, k * 3 + 1, none⟩ = some (.int .u8 (x.2.1 : Int)) := hx3 1 _ rfl
      have hx2 : wr.cell? ⟨R, k * 3 + 2, none⟩ = some (.int .u8 (x.2.2 : Int)) := hx3 2 _ rfl
      have HMx := Lib.hid (fun w => HM.out x w)
      have hxm := hx256 x (List.mem_of_getElem? hx)
      clear hx3
      obtain ⟨m, hmm⟩ : ∃ m, x.2.1 = m := ⟨_, rfl⟩
      have hmm' : numP x = m := hmm
      have hlt := hbl.lt
      have hord' := hord.out
      rw [hr2] at hord' hbl
      unfold ordR at hord'
      rw [hmm'] at hord'
      obtain ⟨b, hb⟩ : ∃ b, dn.length = b := ⟨_, rfl⟩
      have Hr2 := Lib.hid hr2
      obtain ⟨V, hV⟩ : ∃ V, wr.alloc (.cells #[.int .i32 x.1, .int .u8 (x.2.1 : Int), .int .u8 (x.2.2 : Int)] 64) = V := ⟨_, rfl⟩
      have hVb : Below wr.heap.size wr V := by rw [← hV]; exact (Below.refl _ wr).alloc (Nat.le_refl _) _
      have HV := Lib.hid hV
      have HVb := Lib.hid hVb
      have Hmm := Lib.hid hmm
      clear hV hVb hmm hmm' hx hord hrest hr2
      rw [hb] at hdk ⊢
      go_wp2_with fail
      rw [HV.out]
      refine (HMx.out V).mono ?_
      rintro _ w1 ⟨rfl, b1⟩
      rw [Hmm.out]
      have b1 : Below wr.heap.size wr w1 := HVb.out.trans (b1.mono HVb.out.size)
      have hbl1 : Blk w1 R tb _ := (b1.block R hlt).trans hbl
      have Hot1 := Lib.hid (hot.trans (Other.of_below b1 R))
      clear hbl hot b1
      by_cases hm0 : m = 0
      · subst hm0
        rw [if_pos rfl] at hord'
        have hf1 : (flat encP dn).length = b * 3 := by rw [flat_len encP_len, hb]
        have hbc : ¬ (cap = b) := by omega
        have hbk : (b : Int) ≤ (k : Int) := by omega
        have hkc : (k : Int) ≤ (cap : Int) := by omega
        have hbci : (b : Int) < (cap : Int) := by omega
        have hR := HRow.out row R (cap - b) tb (flat encP dn) (flat encP (x :: xs.drop (k + 1)) ++ post) w1 hbl1 (by omega) (by omega) hrow256
        rw [hf1, show row.length = k - b by omega] at hR
        have HR := Lib.hid hR
        have Hord := Lib.hid hord'
        have hbu := bucket_len numP row hrow256
        have hwk : IntKind.i64.wrap ((k : Int) + 1) = ((k + 1 : Nat) : Int) := by rw [IntWalk.i64_in _ (by omega)]; omega
        clear hR hbl1 hord'
        go_wp2_with fail
        refine HR.out.mono ?_
        rintro _ w2 ⟨rfl, hb2, ho2⟩
        have Hb2 := Lib.hid hb2
        have Ho2 := Lib.hid (Hot1.out.trans ho2)
        clear hb2 ho2
        have hlen : (dn ++ bucket numP row ++ [x]).length = k + 1 := by simp; omega
        go_wp2
        go_roundw
        case rel =>
          refine ⟨k + 1, dn ++ bucket numP row ++ [x], [], xs.drop (k + 1), by omega, by rw [hlen]; first | rfl | (rw [← hwk]; rfl), by go_num, by rw [hlen]; rfl, rfl, (fun _ h => by cases h), ?_, ?_, Ho2.out⟩
          · have h := Hord.out
            unfold Hid
            rw [h]
            simp
          · have h := Hb2.out
            simpa [flat] using h
        case measure => simp [RowKit.intOf]; omega
      · rw [if_neg hm0] at hord'
        have hz : ((m : Int) == 0) = false := by rw [beq_eq_false_iff_ne]; omega
        have Hord := Lib.hid hord'
        have Hbl1 := Lib.hid hbl1
        clear hord' hbl1
        go_wp2
        go_roundw
        case rel =>
          refine ⟨k + 1, dn, row ++ [x], xs.drop (k + 1), by omega, by rw [hb], by go_num, by simp; omega, rfl, (fun y hy => by rcases List.mem_append.1 hy with hy | hy; exact hrow256 y hy; rw [List.mem_singleton.1 hy]; exact hxm), Lib.hid Hord.out, ?_, Hot1.out⟩
          have h := Hbl1.out
          rw [flat_append]
          simpa [flat] using h
        case measure => simp [RowKit.intOf]; omega
    · obtain rfl : k = n := by omega
      have hr2 : rest = [] := by rw [hrest]; exact List.drop_eq_nil_of_le (by rw [HN.out]; exact Nat.le_refl _)
      subst hr2
      have hord' := hord.out
      unfold ordR at hord'
      obtain ⟨b, hb⟩ : ∃ b, dn.length = b := ⟨_, rfl⟩
      rw [hb] at hdk ⊢
      have hbl' : Blk wr R tb (flat encP dn ++ flat encP row ++ post) := by simpa [flat] using hbl
      have Hord := Lib.hid hord'
      have Hot := Lib.hid hot
      clear hord hord' hot hbl hrest
      have hbk : (b : Int) ≤ (k : Int) := by omega
      have hkc : (k : Int) ≤ (cap : Int) := by omega
      rcases Classical.em (cap = b) with hcb | hcb
      · have hrow : row = [] := List.eq_nil_of_length_eq_zero (by omega)
        subst hrow
        have Hbl := Lib.hid hbl'
        have HS := Lib.hid (fun A c fv w => HSh.out A (k - b) c fv w (by omega))
        clear hbl'
        go_wp2_with fail
        refine (HS.out _ _ _ _).mono ?_
        rintro _ w2 ⟨rfl, h⟩
        obtain rfl := h.symm
        go_wp2_with fail
        refine ⟨rfl, _, results_none rfl _ _ _, rfl, ?_, Hot.out⟩
        rw [Hord.out, bucket_short numP [] (by decide) (fun x h => by cases h), List.append_nil]
        simpa [flat] using Hbl.out
      · have hf1 : (flat encP dn).length = b * 3 := by rw [flat_len encP_len, hb]
        have hR := HRow.out row R (cap - b) tb (flat encP dn) post wr hbl' (by omega) (by omega) hrow256
        rw [hf1, show row.length = k - b by omega] at hR
        have HR := Lib.hid hR
        clear hR hbl'
        go_wp2_with fail
        refine HR.out.mono ?_
        rintro _ w2 ⟨rfl, hb2, ho2⟩
        have Hb2 := Lib.hid hb2
        have Ho2 := Lib.hid (Hot.out.trans ho2)
        clear hb2 ho2
        go_wp2_with fail
        refine ⟨rfl, _, results_none rfl _ _ _, rfl, ?_, Ho2.out⟩
        rw [Hord.out, flat_append]
        exact Hb2.out
end Go.Proofs.YtakfgeonjamjeaaDoor
