/- The document's Title. (Made by tools/mkloops5.py.) -/
import Derived.Test.YtjkakemlhhieoaaGreatDoorDocG
import Derived.BigQuiet
import Derived.Deep.QuietTactic
import Derived.Test.YtjkakemlhhieoaaGreatDoorWalkGF
set_option linter.unusedSimpArgs false
set_option linter.unusedVariables false
namespace Go.Proofs.YtjkakemlhhieoaaGreatDoor
open Go.RowKit Go.Lib

theorem letter_of {p : Pc} (h : letter5 kind5 p = true) : p.2.2 = 0 ∧ kind5 p.1 = 3 := of_decide_eq_true h
theorem title_up {pre t : List Pc} {p : Pc} (h : letter5 kind5 p = true) (hi : inWord5 kind5 pre = false) : outB (titleF kind5 pre p t) p = outB (upZ 115 p) p := by
  unfold titleF
  rw [if_pos ⟨(letter_of h).2, hi⟩]
theorem title_low {pre t : List Pc} {p : Pc} (h : letter5 kind5 p = false ∨ inWord5 kind5 pre = true) : outB (titleF kind5 pre p t) p = outB [lowZ kind5 pre p t] p := by
  by_cases a : p.2.2 = 0
  · unfold titleF
    rw [if_neg]
    rintro ⟨h1, h2⟩
    rcases h with h | h
    · have := of_decide_eq_false h
      exact this ⟨a, h1⟩
    · rw [h2] at h; cases h
  · rw [out_bad a, out_bad a]
theorem prev_rev {ps : List Pc} {q : Nat} {p : Pc} (h : ps[q]? = some p) : (ps.take (q + 1)).reverse = p :: (ps.take q).reverse := by rw [List.take_add_one, h]; simp
theorem inWord_bad {p : Pc} {t : List Pc} (h : p.2.2 ≠ 0) : inWord5 kind5 (p :: t) = false := decide_eq_false fun a => h a.1
theorem inWord_in {p : Pc} {t : List Pc} (h : p.2.2 = 0) (k : kind5 p.1 = 2 ∨ kind5 p.1 = 3 ∨ kind5 p.1 = 4) : inWord5 kind5 (p :: t) = true := decide_eq_true ⟨h, k⟩
theorem inWord_out {p : Pc} {t : List Pc} (k2 : kind5 p.1 ≠ 2) (k3 : kind5 p.1 ≠ 3) (k4 : kind5 p.1 ≠ 4) : inWord5 kind5 (p :: t) = false := decide_eq_false fun a => by
  rcases a.2 with h | h | h
  · exact k2 h
  · exact k3 h
  · exact k4 h

set_option maxRecDepth 100000 in
set_option maxHeartbeats 4000000 in
theorem rTitle_any (s : ByteArray) (w : World) (hs : s.size ≤ 134217728) : Calls Tryz.prog 9 #[.string s] w fun e w' => e = .returned (.string ⟨(madeS (titleF kind5) s.data.toList).toArray⟩) ∧ Below w.heap.size w w' := by
  obtain ⟨i0, hi, hz0, hz1, hz2⟩ := info_parts byte_info
  have hsp := Split5_any s w hs
  have hsc := items_scal s.data.toList
  have hlen : (items s.data.toList).length ≤ s.size := by have := items_len5 s.data.toList; rwa [size_list] at this
  have hz := restI_zero (titleF kind5) s.data.toList
  obtain ⟨ps, hps⟩ : ∃ ps, items s.data.toList = ps := ⟨_, rfl⟩
  obtain ⟨T, hT⟩ : ∃ T, madeS (titleF kind5) s.data.toList = T := ⟨_, rfl⟩
  rw [hps] at hsp hsc hlen hz
  rw [hT] at hz ⊢
  obtain ⟨n, hn⟩ : ∃ n, ps.length = n := ⟨_, rfl⟩
  rw [hn] at hsp hlen
  have hnm : n ≤ 134217728 := by omega
  obtain ⟨B, hB⟩ : ∃ B, w.heap.size = B := ⟨_, rfl⟩
  rw [hB] at hsp ⊢
  obtain ⟨R, hR⟩ : ∃ R, (⟨T.toArray⟩ : ByteArray) = R := ⟨_, rfl⟩
  rw [hR]
  have Hsp := Lib.hid hsp
  have Hsc := Lib.hid hsc
  have Hz := Lib.hid hz
  have Hn := Lib.hid hn
  have HB := Lib.hid hB
  have HR := Lib.hid hR
  have hu1 : (Tryz.prog.underlying 21).isSome = true := by rw [Tryz.underlying21]; rfl
  have Hu1 := Lib.hid hu1
  clear hsp hsc hz hn hB hR hps hT hlen hs hu1
  go_enter Tryz.func9, Tryz.ntmps9
  go_wp2_with fail
  refine Hsp.out.mono ?_
  rintro _ w1 ⟨v0, rfl, own0, b0⟩
  obtain ⟨A0, c0, rfl, _, _⟩ := own_shape own0
  have HB1 : B ≤ w1.heap.size := by have := b0.size; have := HB.out; omega
  have Hb1 := Lib.hid b0
  have R0 := Lib.hid (Rd.own own0)
  clear own0 b0
  go_wp2_with fail
  go_loopw [3, 5] (fun v i wr => ∃ (k : Nat) (W : World) (vv : Value) (acc : List UInt8), W = wr ∧ vv = v ∧ k ≤ n ∧ i = .int .i64 (k : Int) ∧ Hid (W.ownsRow w1.heap.size 5 1 vv acc.length (byteCells' acc)) ∧ Hid (Below w1.heap.size w1 W) ∧ Hid (acc ++ restI (titleF kind5) ps k = T) ∧ acc.length ≤ 8 * k) (fun _ i _ => n - (RowKit.intOf i).toNat)
  case atStart => exact ⟨0, _, _, [], rfl, rfl, Nat.zero_le _, rfl, Lib.hid (World.ownsRow_nil _ _ _ _), Lib.hid (Below.refl _ _), Hz, Nat.zero_le _⟩
  case round =>
    obtain ⟨k, W, vv, acc, hW, hvv, hk, rfl, Hown, HbW, Hacc, hal⟩ := hrel
    subst hW
    subst hvv
    have SW : w1.heap.size ≤ W.heap.size := HbW.out.size
    by_cases hkn : k < n
    · have hki : (k : Int) < (n : Int) := by omega
      have hk0 : (0 : Int) ≤ (k : Int) := by omega
      obtain ⟨p, hp⟩ : ∃ p, ps[k]? = some p := ⟨_, List.getElem?_eq_getElem (by have := Hn.out; omega)⟩
      have hpg := Hsc.out p (List.mem_of_getElem? hp)
      have hrd := R0.out.below HbW.out
      have hrdW : Rd W W.heap.size 3 A0 n (flat encO ps) := hrd.more SW
      have hst := restI_step (titleF kind5) hp
      have h8 := outB_len p (title_two kind5 (ps.take k).reverse p (ps.drop (k + 1)))
      have hnx := Hacc.out
      rw [hst, ← List.append_assoc] at hnx
      have HLt := Lib.hid (letterO_any p W)
      have HCu := Lib.hid (fun V => upper5_any p hpg ⟨#[83, 115]⟩ 115 (by rw [ss_two.1, ss_two.2]; rfl) V)
      have HCl := Lib.hid (fun V (h : Rd V V.heap.size 3 A0 n (flat encO ps)) => lower5_any ps A0 n c0 k p V h Hn.out.symm hp hnm hpg)
      have HP := Lib.hid hp
      have Hnxt := Lib.hid hnx
      have Hh8 := Lib.hid h8
      obtain ⟨a, rfl, hab, k0, k1, k2⟩ := ones5_cells hrdW hp Hn.out.symm
      clear hst hrd hrdW hp hnx h8
      by_cases hk00 : k = 0
      · have hpre : inWord5 kind5 (ps.take k).reverse = false := by rw [hk00]; rfl
        have Hpre := Lib.hid hpre
        have hkg : decide ((0 : Int) < (k : Int)) = false := decide_eq_false (by omega)
        have hkg2 : ¬ ((0 : Int) < (k : Int)) := by omega
        clear hpre hk00
        cases hL : letter5 kind5 p with
        | true =>
          rw [hL] at HLt
          have HL := Lib.hid hL
          clear hL
          go_wp2_with fail
          refine HLt.out.mono ?_
          rintro _ V1 ⟨rfl, bV1⟩
          have HbV1 := Lib.hid (HbW.out.trans (bV1.mono SW))
          have HoV1 := Lib.hid (own_below Hown.out bV1)
          have SV1 : w1.heap.size ≤ V1.heap.size := by have := bV1.size; omega
          have HrV := Lib.hid (show Rd V1 V1.heap.size 3 (some a) n (flat encO ps) from (R0.out.below HbV1.out).more SV1)
          clear bV1 k0 k1 k2
          obtain ⟨a2, ha2, k0, k1, k2⟩ := (show ∃ a2, some a = some a2 ∧ V1.cell? (a2.add (k * 3)) = some (.int .i32 (runeP p)) ∧ V1.cell? ⟨(a2.add (k * 3)).block, (a2.add (k * 3)).off + 1, none⟩ = some (.string ⟨(pieceB p).toArray⟩) ∧ V1.cell? ⟨(a2.add (k * 3)).block, (a2.add (k * 3)).off + 2, none⟩ = some (.bool (p.2.2 != 0)) from by obtain ⟨a3, h3, _, h4, h5, h6⟩ := ones5_cells HrV.out HP.out Hn.out.symm; exact ⟨a3, h3, h4, h5, h6⟩)
          obtain rfl := Option.some.inj ha2
          clear ha2
          have hnx := Hnxt.out
          have h8 := Hh8.out
          have hto := title_up (t := ps.drop (k + 1)) HL.out Hpre.out
          have HC := Lib.hid (HCu.out V1)
          obtain ⟨O, hO⟩ : ∃ O, outB (upZ 115 p) p = O := ⟨_, rfl⟩
          rw [hO] at HC
          rw [hto, hO] at h8 hnx
          have Hnx := Lib.hid hnx
          clear hnx hO hto
          go_wp2_with fail
          refine HC.out.mono ?_
          rintro _ V ⟨rfl, bV⟩
          have HbV := Lib.hid (HbV1.out.trans (bV.mono SV1))
          have HoV := Lib.hid (own_below HoV1.out bV)
          have SV : w1.heap.size ≤ V.heap.size := by have := bV.size; omega
          clear bV
          go_wp2_with (at_builtin; refine Lib.wpList_append_own_string _ rfl _ _ 37 9 rfl w1.heap.size 5 i0 Tryz.underlying37 Tryz.underlying9 hi hz0 hz1 hz2 _ _ _ rfl HoV.out ⟨O.toArray⟩ rfl ?c3 ?c4 ?c5 ?_)
          case c3 => (try rw [ba_size5]); unfold maxLen; omega
          case c4 => (try rw [ba_size5]); omega
          case c5 => exact SV
          intro v9 w9 own9 g9 _
          have hb9 := HbV.out.grown g9 SV (fun q hq => (HoV.out.lt q hq).1)
          rw [strC, ← byteC_append] at own9
          have own9 : w9.ownsRow w1.heap.size 5 1 v9 (acc ++ O).length (byteCells' (acc ++ O)) := by rw [List.length_append]; exact own9
          have Own9 := Lib.hid own9
          have Hb9 := Lib.hid hb9
          clear own9 g9 hb9
          go_wp2_with fail
          go_roundw
          case rel => exact ⟨k + 1, w9, v9, acc ++ O, rfl, rfl, by omega, by go_num, Own9, Hb9, Hnx, by simp; omega⟩
          case measure => simp [RowKit.intOf]; omega
        | false =>
          rw [hL] at HLt
          have HL := Lib.hid hL
          clear hL
          go_wp2_with fail
          refine HLt.out.mono ?_
          rintro _ V1 ⟨rfl, bV1⟩
          have HbV1 := Lib.hid (HbW.out.trans (bV1.mono SW))
          have HoV1 := Lib.hid (own_below Hown.out bV1)
          have SV1 : w1.heap.size ≤ V1.heap.size := by have := bV1.size; omega
          have HrV := Lib.hid (show Rd V1 V1.heap.size 3 (some a) n (flat encO ps) from (R0.out.below HbV1.out).more SV1)
          clear bV1 k0 k1 k2
          obtain ⟨a2, ha2, k0, k1, k2⟩ := (show ∃ a2, some a = some a2 ∧ V1.cell? (a2.add (k * 3)) = some (.int .i32 (runeP p)) ∧ V1.cell? ⟨(a2.add (k * 3)).block, (a2.add (k * 3)).off + 1, none⟩ = some (.string ⟨(pieceB p).toArray⟩) ∧ V1.cell? ⟨(a2.add (k * 3)).block, (a2.add (k * 3)).off + 2, none⟩ = some (.bool (p.2.2 != 0)) from by obtain ⟨a3, h3, _, h4, h5, h6⟩ := ones5_cells HrV.out HP.out Hn.out.symm; exact ⟨a3, h3, h4, h5, h6⟩)
          obtain rfl := Option.some.inj ha2
          clear ha2
          have hnx := Hnxt.out
          have h8 := Hh8.out
          have hto := title_low (pre := (ps.take k).reverse) (t := ps.drop (k + 1)) (.inl HL.out)
          have HC := Lib.hid (HCl.out V1 HrV.out)
          obtain ⟨O, hO⟩ : ∃ O, outB [lowZ kind5 (ps.take k).reverse p (ps.drop (k + 1))] p = O := ⟨_, rfl⟩
          rw [hO] at HC
          rw [hto, hO] at h8 hnx
          have Hnx := Lib.hid hnx
          clear hnx hO hto
          go_wp2_with fail
          refine HC.out.mono ?_
          rintro _ V ⟨rfl, bV⟩
          have HbV := Lib.hid (HbV1.out.trans (bV.mono SV1))
          have HoV := Lib.hid (own_below HoV1.out bV)
          have SV : w1.heap.size ≤ V.heap.size := by have := bV.size; omega
          clear bV
          go_wp2_with (at_builtin; refine Lib.wpList_append_own_string _ rfl _ _ 37 9 rfl w1.heap.size 5 i0 Tryz.underlying37 Tryz.underlying9 hi hz0 hz1 hz2 _ _ _ rfl HoV.out ⟨O.toArray⟩ rfl ?c3 ?c4 ?c5 ?_)
          case c3 => (try rw [ba_size5]); unfold maxLen; omega
          case c4 => (try rw [ba_size5]); omega
          case c5 => exact SV
          intro v9 w9 own9 g9 _
          have hb9 := HbV.out.grown g9 SV (fun q hq => (HoV.out.lt q hq).1)
          rw [strC, ← byteC_append] at own9
          have own9 : w9.ownsRow w1.heap.size 5 1 v9 (acc ++ O).length (byteCells' (acc ++ O)) := by rw [List.length_append]; exact own9
          have Own9 := Lib.hid own9
          have Hb9 := Lib.hid hb9
          clear own9 g9 hb9
          go_wp2_with fail
          go_roundw
          case rel => exact ⟨k + 1, w9, v9, acc ++ O, rfl, rfl, by omega, by go_num, Own9, Hb9, Hnx, by simp; omega⟩
          case measure => simp [RowKit.intOf]; omega
      · obtain ⟨q, hq⟩ : ∃ q, k = q + 1 := ⟨k - 1, by omega⟩
        obtain ⟨p2, hp2⟩ : ∃ p2, ps[q]? = some p2 := ⟨_, List.getElem?_eq_getElem (by have := Hn.out; omega)⟩
        have hkg : decide ((0 : Int) < (k : Int)) = true := decide_eq_true (by omega)
        have hkg2 : (0 : Int) < (k : Int) := by omega
        have hwq : IntKind.i64.wrap ((k : Int) - 1) = (q : Int) := by rw [IntWalk.i64_in _ (by omega)]; omega
        have hq0 : (0 : Int) ≤ (q : Int) := by omega
        have hq1 : (q : Int) < (n : Int) := by omega
        have HP2 := Lib.hid hp2
        have hrv : (ps.take k).reverse = p2 :: (ps.take q).reverse := by rw [hq]; exact prev_rev hp2
        have Hrv := Lib.hid hrv
        have hKd := fun W => refKind_is (runeP p2) W
        have hkd : (cls kindsL (char (runeP p2)) : Nat) = kind5 (runeP p2) := rfl
        rw [hkd] at hKd
        clear hrv hq hp2 hk00 hkd
        by_cases hb : p2.2.2 = 0
        · have hbb : (p2.2.2 != 0) = false := by simp [hb]
          rw [kind_runeP p2 hb] at hKd
          obtain ⟨kk, hkk⟩ : ∃ kk, kind5 p2.1 = kk := ⟨_, rfl⟩
          rw [hkk] at hKd
          have HKd := Lib.hid hKd
          have Hkk := Lib.hid hkk
          have Hbz := Lib.hid hb
          clear hb hKd hkk
          cases hL : letter5 kind5 p with
          | false =>
            rw [hL] at HLt
            have HL := Lib.hid hL
            clear hL
            go_wp2_with fail
            refine HLt.out.mono ?_
            rintro _ V1 ⟨rfl, bV1⟩
            have HbV1 := Lib.hid (HbW.out.trans (bV1.mono SW))
            have HoV1 := Lib.hid (own_below Hown.out bV1)
            have SV1 : w1.heap.size ≤ V1.heap.size := by have := bV1.size; omega
            have HrV := Lib.hid (show Rd V1 V1.heap.size 3 (some a) n (flat encO ps) from (R0.out.below HbV1.out).more SV1)
            clear bV1 k0 k1 k2
            obtain ⟨a2, ha2, k0, k1, k2⟩ := (show ∃ a2, some a = some a2 ∧ V1.cell? (a2.add (k * 3)) = some (.int .i32 (runeP p)) ∧ V1.cell? ⟨(a2.add (k * 3)).block, (a2.add (k * 3)).off + 1, none⟩ = some (.string ⟨(pieceB p).toArray⟩) ∧ V1.cell? ⟨(a2.add (k * 3)).block, (a2.add (k * 3)).off + 2, none⟩ = some (.bool (p.2.2 != 0)) from by obtain ⟨a3, h3, _, h4, h5, h6⟩ := ones5_cells HrV.out HP.out Hn.out.symm; exact ⟨a3, h3, h4, h5, h6⟩)
            obtain rfl := Option.some.inj ha2
            clear ha2
            obtain ⟨b3, hb3, _, j0, _, j2⟩ := ones5_cells HrV.out HP2.out Hn.out.symm
            obtain rfl := Option.some.inj hb3
            clear hb3
            rw [hbb] at j2
            have hnx := Hnxt.out
            have h8 := Hh8.out
            have hto := title_low (pre := (ps.take k).reverse) (t := ps.drop (k + 1)) (.inl HL.out)
            have HC := Lib.hid (HCl.out V1 HrV.out)
            obtain ⟨O, hO⟩ : ∃ O, outB [lowZ kind5 (ps.take k).reverse p (ps.drop (k + 1))] p = O := ⟨_, rfl⟩
            rw [hO] at HC
            rw [hto, hO] at h8 hnx
            have Hnx := Lib.hid hnx
            clear hnx hO hto
            go_wp2_with fail
            refine (HKd.out _).mono ?_
            rintro _ w9 ⟨rfl, h9⟩
            obtain rfl := h9
            go_wp2_with fail
            refine HC.out.mono ?_
            rintro _ V ⟨rfl, bV⟩
            have HbV := Lib.hid (HbV1.out.trans (bV.mono SV1))
            have HoV := Lib.hid (own_below HoV1.out bV)
            have SV : w1.heap.size ≤ V.heap.size := by have := bV.size; omega
            clear bV
            go_wp2_with (at_builtin; refine Lib.wpList_append_own_string _ rfl _ _ 37 9 rfl w1.heap.size 5 i0 Tryz.underlying37 Tryz.underlying9 hi hz0 hz1 hz2 _ _ _ rfl HoV.out ⟨O.toArray⟩ rfl ?c3 ?c4 ?c5 ?_)
            case c3 => (try rw [ba_size5]); unfold maxLen; omega
            case c4 => (try rw [ba_size5]); omega
            case c5 => exact SV
            intro v9 w9 own9 g9 _
            have hb9 := HbV.out.grown g9 SV (fun q hq => (HoV.out.lt q hq).1)
            rw [strC, ← byteC_append] at own9
            have own9 : w9.ownsRow w1.heap.size 5 1 v9 (acc ++ O).length (byteCells' (acc ++ O)) := by rw [List.length_append]; exact own9
            have Own9 := Lib.hid own9
            have Hb9 := Lib.hid hb9
            clear own9 g9 hb9
            go_wp2_with fail
            go_roundw
            case rel => exact ⟨k + 1, w9, v9, acc ++ O, rfl, rfl, by omega, by go_num, Own9, Hb9, Hnx, by simp; omega⟩
            case measure => simp [RowKit.intOf]; omega
          | true =>
            by_cases e3 : kk = 3
            · have hpre : inWord5 kind5 (ps.take k).reverse = true := by rw [Hrv.out]; exact inWord_in Hbz.out (by rw [Hkk.out]; omega)
              have Hpre := Lib.hid hpre
              clear hpre
              subst e3
              rw [hL] at HLt
              have HL := Lib.hid hL
              clear hL
              go_wp2_with fail
              refine HLt.out.mono ?_
              rintro _ V1 ⟨rfl, bV1⟩
              have HbV1 := Lib.hid (HbW.out.trans (bV1.mono SW))
              have HoV1 := Lib.hid (own_below Hown.out bV1)
              have SV1 : w1.heap.size ≤ V1.heap.size := by have := bV1.size; omega
              have HrV := Lib.hid (show Rd V1 V1.heap.size 3 (some a) n (flat encO ps) from (R0.out.below HbV1.out).more SV1)
              clear bV1 k0 k1 k2
              obtain ⟨a2, ha2, k0, k1, k2⟩ := (show ∃ a2, some a = some a2 ∧ V1.cell? (a2.add (k * 3)) = some (.int .i32 (runeP p)) ∧ V1.cell? ⟨(a2.add (k * 3)).block, (a2.add (k * 3)).off + 1, none⟩ = some (.string ⟨(pieceB p).toArray⟩) ∧ V1.cell? ⟨(a2.add (k * 3)).block, (a2.add (k * 3)).off + 2, none⟩ = some (.bool (p.2.2 != 0)) from by obtain ⟨a3, h3, _, h4, h5, h6⟩ := ones5_cells HrV.out HP.out Hn.out.symm; exact ⟨a3, h3, h4, h5, h6⟩)
              obtain rfl := Option.some.inj ha2
              clear ha2
              obtain ⟨b3, hb3, _, j0, _, j2⟩ := ones5_cells HrV.out HP2.out Hn.out.symm
              obtain rfl := Option.some.inj hb3
              clear hb3
              rw [hbb] at j2
              have hnx := Hnxt.out
              have h8 := Hh8.out
              have hto := title_low (p := p) (t := ps.drop (k + 1)) (.inr Hpre.out)
              have HC := Lib.hid (HCl.out V1 HrV.out)
              obtain ⟨O, hO⟩ : ∃ O, outB [lowZ kind5 (ps.take k).reverse p (ps.drop (k + 1))] p = O := ⟨_, rfl⟩
              rw [hO] at HC
              rw [hto, hO] at h8 hnx
              have Hnx := Lib.hid hnx
              clear hnx hO hto
              go_wp2_with fail
              refine (HKd.out _).mono ?_
              rintro _ w9 ⟨rfl, h9⟩
              obtain rfl := h9
              go_wp2_with fail
              refine HC.out.mono ?_
              rintro _ V ⟨rfl, bV⟩
              have HbV := Lib.hid (HbV1.out.trans (bV.mono SV1))
              have HoV := Lib.hid (own_below HoV1.out bV)
              have SV : w1.heap.size ≤ V.heap.size := by have := bV.size; omega
              clear bV
              go_wp2_with (at_builtin; refine Lib.wpList_append_own_string _ rfl _ _ 37 9 rfl w1.heap.size 5 i0 Tryz.underlying37 Tryz.underlying9 hi hz0 hz1 hz2 _ _ _ rfl HoV.out ⟨O.toArray⟩ rfl ?c3 ?c4 ?c5 ?_)
              case c3 => (try rw [ba_size5]); unfold maxLen; omega
              case c4 => (try rw [ba_size5]); omega
              case c5 => exact SV
              intro v9 w9 own9 g9 _
              have hb9 := HbV.out.grown g9 SV (fun q hq => (HoV.out.lt q hq).1)
              rw [strC, ← byteC_append] at own9
              have own9 : w9.ownsRow w1.heap.size 5 1 v9 (acc ++ O).length (byteCells' (acc ++ O)) := by rw [List.length_append]; exact own9
              have Own9 := Lib.hid own9
              have Hb9 := Lib.hid hb9
              clear own9 g9 hb9
              go_wp2_with fail
              go_roundw
              case rel => exact ⟨k + 1, w9, v9, acc ++ O, rfl, rfl, by omega, by go_num, Own9, Hb9, Hnx, by simp; omega⟩
              case measure => simp [RowKit.intOf]; omega
            by_cases e4 : kk = 4
            · have hpre : inWord5 kind5 (ps.take k).reverse = true := by rw [Hrv.out]; exact inWord_in Hbz.out (by rw [Hkk.out]; omega)
              have Hpre := Lib.hid hpre
              clear hpre
              subst e4
              rw [hL] at HLt
              have HL := Lib.hid hL
              clear hL
              go_wp2_with fail
              refine HLt.out.mono ?_
              rintro _ V1 ⟨rfl, bV1⟩
              have HbV1 := Lib.hid (HbW.out.trans (bV1.mono SW))
              have HoV1 := Lib.hid (own_below Hown.out bV1)
              have SV1 : w1.heap.size ≤ V1.heap.size := by have := bV1.size; omega
              have HrV := Lib.hid (show Rd V1 V1.heap.size 3 (some a) n (flat encO ps) from (R0.out.below HbV1.out).more SV1)
              clear bV1 k0 k1 k2
              obtain ⟨a2, ha2, k0, k1, k2⟩ := (show ∃ a2, some a = some a2 ∧ V1.cell? (a2.add (k * 3)) = some (.int .i32 (runeP p)) ∧ V1.cell? ⟨(a2.add (k * 3)).block, (a2.add (k * 3)).off + 1, none⟩ = some (.string ⟨(pieceB p).toArray⟩) ∧ V1.cell? ⟨(a2.add (k * 3)).block, (a2.add (k * 3)).off + 2, none⟩ = some (.bool (p.2.2 != 0)) from by obtain ⟨a3, h3, _, h4, h5, h6⟩ := ones5_cells HrV.out HP.out Hn.out.symm; exact ⟨a3, h3, h4, h5, h6⟩)
              obtain rfl := Option.some.inj ha2
              clear ha2
              obtain ⟨b3, hb3, _, j0, _, j2⟩ := ones5_cells HrV.out HP2.out Hn.out.symm
              obtain rfl := Option.some.inj hb3
              clear hb3
              rw [hbb] at j2
              have hnx := Hnxt.out
              have h8 := Hh8.out
              have hto := title_low (p := p) (t := ps.drop (k + 1)) (.inr Hpre.out)
              have HC := Lib.hid (HCl.out V1 HrV.out)
              obtain ⟨O, hO⟩ : ∃ O, outB [lowZ kind5 (ps.take k).reverse p (ps.drop (k + 1))] p = O := ⟨_, rfl⟩
              rw [hO] at HC
              rw [hto, hO] at h8 hnx
              have Hnx := Lib.hid hnx
              clear hnx hO hto
              go_wp2_with fail
              refine (HKd.out _).mono ?_
              rintro _ w9 ⟨rfl, h9⟩
              obtain rfl := h9
              go_wp2_with fail
              refine HC.out.mono ?_
              rintro _ V ⟨rfl, bV⟩
              have HbV := Lib.hid (HbV1.out.trans (bV.mono SV1))
              have HoV := Lib.hid (own_below HoV1.out bV)
              have SV : w1.heap.size ≤ V.heap.size := by have := bV.size; omega
              clear bV
              go_wp2_with (at_builtin; refine Lib.wpList_append_own_string _ rfl _ _ 37 9 rfl w1.heap.size 5 i0 Tryz.underlying37 Tryz.underlying9 hi hz0 hz1 hz2 _ _ _ rfl HoV.out ⟨O.toArray⟩ rfl ?c3 ?c4 ?c5 ?_)
              case c3 => (try rw [ba_size5]); unfold maxLen; omega
              case c4 => (try rw [ba_size5]); omega
              case c5 => exact SV
              intro v9 w9 own9 g9 _
              have hb9 := HbV.out.grown g9 SV (fun q hq => (HoV.out.lt q hq).1)
              rw [strC, ← byteC_append] at own9
              have own9 : w9.ownsRow w1.heap.size 5 1 v9 (acc ++ O).length (byteCells' (acc ++ O)) := by rw [List.length_append]; exact own9
              have Own9 := Lib.hid own9
              have Hb9 := Lib.hid hb9
              clear own9 g9 hb9
              go_wp2_with fail
              go_roundw
              case rel => exact ⟨k + 1, w9, v9, acc ++ O, rfl, rfl, by omega, by go_num, Own9, Hb9, Hnx, by simp; omega⟩
              case measure => simp [RowKit.intOf]; omega
            by_cases e2 : kk = 2
            · have hpre : inWord5 kind5 (ps.take k).reverse = true := by rw [Hrv.out]; exact inWord_in Hbz.out (by rw [Hkk.out]; omega)
              have Hpre := Lib.hid hpre
              clear hpre
              subst e2
              rw [hL] at HLt
              have HL := Lib.hid hL
              clear hL
              go_wp2_with fail
              refine HLt.out.mono ?_
              rintro _ V1 ⟨rfl, bV1⟩
              have HbV1 := Lib.hid (HbW.out.trans (bV1.mono SW))
              have HoV1 := Lib.hid (own_below Hown.out bV1)
              have SV1 : w1.heap.size ≤ V1.heap.size := by have := bV1.size; omega
              have HrV := Lib.hid (show Rd V1 V1.heap.size 3 (some a) n (flat encO ps) from (R0.out.below HbV1.out).more SV1)
              clear bV1 k0 k1 k2
              obtain ⟨a2, ha2, k0, k1, k2⟩ := (show ∃ a2, some a = some a2 ∧ V1.cell? (a2.add (k * 3)) = some (.int .i32 (runeP p)) ∧ V1.cell? ⟨(a2.add (k * 3)).block, (a2.add (k * 3)).off + 1, none⟩ = some (.string ⟨(pieceB p).toArray⟩) ∧ V1.cell? ⟨(a2.add (k * 3)).block, (a2.add (k * 3)).off + 2, none⟩ = some (.bool (p.2.2 != 0)) from by obtain ⟨a3, h3, _, h4, h5, h6⟩ := ones5_cells HrV.out HP.out Hn.out.symm; exact ⟨a3, h3, h4, h5, h6⟩)
              obtain rfl := Option.some.inj ha2
              clear ha2
              obtain ⟨b3, hb3, _, j0, _, j2⟩ := ones5_cells HrV.out HP2.out Hn.out.symm
              obtain rfl := Option.some.inj hb3
              clear hb3
              rw [hbb] at j2
              have hnx := Hnxt.out
              have h8 := Hh8.out
              have hto := title_low (p := p) (t := ps.drop (k + 1)) (.inr Hpre.out)
              have HC := Lib.hid (HCl.out V1 HrV.out)
              obtain ⟨O, hO⟩ : ∃ O, outB [lowZ kind5 (ps.take k).reverse p (ps.drop (k + 1))] p = O := ⟨_, rfl⟩
              rw [hO] at HC
              rw [hto, hO] at h8 hnx
              have Hnx := Lib.hid hnx
              clear hnx hO hto
              go_wp2_with fail
              refine (HKd.out _).mono ?_
              rintro _ w9 ⟨rfl, h9⟩
              obtain rfl := h9
              go_wp2_with fail
              refine HC.out.mono ?_
              rintro _ V ⟨rfl, bV⟩
              have HbV := Lib.hid (HbV1.out.trans (bV.mono SV1))
              have HoV := Lib.hid (own_below HoV1.out bV)
              have SV : w1.heap.size ≤ V.heap.size := by have := bV.size; omega
              clear bV
              go_wp2_with (at_builtin; refine Lib.wpList_append_own_string _ rfl _ _ 37 9 rfl w1.heap.size 5 i0 Tryz.underlying37 Tryz.underlying9 hi hz0 hz1 hz2 _ _ _ rfl HoV.out ⟨O.toArray⟩ rfl ?c3 ?c4 ?c5 ?_)
              case c3 => (try rw [ba_size5]); unfold maxLen; omega
              case c4 => (try rw [ba_size5]); omega
              case c5 => exact SV
              intro v9 w9 own9 g9 _
              have hb9 := HbV.out.grown g9 SV (fun q hq => (HoV.out.lt q hq).1)
              rw [strC, ← byteC_append] at own9
              have own9 : w9.ownsRow w1.heap.size 5 1 v9 (acc ++ O).length (byteCells' (acc ++ O)) := by rw [List.length_append]; exact own9
              have Own9 := Lib.hid own9
              have Hb9 := Lib.hid hb9
              clear own9 g9 hb9
              go_wp2_with fail
              go_roundw
              case rel => exact ⟨k + 1, w9, v9, acc ++ O, rfl, rfl, by omega, by go_num, Own9, Hb9, Hnx, by simp; omega⟩
              case measure => simp [RowKit.intOf]; omega
            have hpre : inWord5 kind5 (ps.take k).reverse = false := by rw [Hrv.out]; exact inWord_out (by rw [Hkk.out]; exact e2) (by rw [Hkk.out]; exact e3) (by rw [Hkk.out]; exact e4)
            have Hpre := Lib.hid hpre
            have f2 : ((kk : Int) != 2) = true := by simp; omega
            have f3 : ((kk : Int) != 3) = true := by simp; omega
            have f4 : ((kk : Int) != 4) = true := by simp; omega
            clear hpre e2 e3 e4
            rw [hL] at HLt
            have HL := Lib.hid hL
            clear hL
            go_wp2_with fail
            refine HLt.out.mono ?_
            rintro _ V1 ⟨rfl, bV1⟩
            have HbV1 := Lib.hid (HbW.out.trans (bV1.mono SW))
            have HoV1 := Lib.hid (own_below Hown.out bV1)
            have SV1 : w1.heap.size ≤ V1.heap.size := by have := bV1.size; omega
            have HrV := Lib.hid (show Rd V1 V1.heap.size 3 (some a) n (flat encO ps) from (R0.out.below HbV1.out).more SV1)
            clear bV1 k0 k1 k2
            obtain ⟨a2, ha2, k0, k1, k2⟩ := (show ∃ a2, some a = some a2 ∧ V1.cell? (a2.add (k * 3)) = some (.int .i32 (runeP p)) ∧ V1.cell? ⟨(a2.add (k * 3)).block, (a2.add (k * 3)).off + 1, none⟩ = some (.string ⟨(pieceB p).toArray⟩) ∧ V1.cell? ⟨(a2.add (k * 3)).block, (a2.add (k * 3)).off + 2, none⟩ = some (.bool (p.2.2 != 0)) from by obtain ⟨a3, h3, _, h4, h5, h6⟩ := ones5_cells HrV.out HP.out Hn.out.symm; exact ⟨a3, h3, h4, h5, h6⟩)
            obtain rfl := Option.some.inj ha2
            clear ha2
            obtain ⟨b3, hb3, _, j0, _, j2⟩ := ones5_cells HrV.out HP2.out Hn.out.symm
            obtain rfl := Option.some.inj hb3
            clear hb3
            rw [hbb] at j2
            have hnx := Hnxt.out
            have h8 := Hh8.out
            have hto := title_up (t := ps.drop (k + 1)) HL.out Hpre.out
            have HC := Lib.hid (HCu.out V1)
            obtain ⟨O, hO⟩ : ∃ O, outB (upZ 115 p) p = O := ⟨_, rfl⟩
            rw [hO] at HC
            rw [hto, hO] at h8 hnx
            have Hnx := Lib.hid hnx
            clear hnx hO hto
            go_wp2_with fail
            refine (HKd.out _).mono ?_
            rintro _ w9 ⟨rfl, h9⟩
            obtain rfl := h9
            go_wp2_with fail
            refine HC.out.mono ?_
            rintro _ V ⟨rfl, bV⟩
            have HbV := Lib.hid (HbV1.out.trans (bV.mono SV1))
            have HoV := Lib.hid (own_below HoV1.out bV)
            have SV : w1.heap.size ≤ V.heap.size := by have := bV.size; omega
            clear bV
            go_wp2_with (at_builtin; refine Lib.wpList_append_own_string _ rfl _ _ 37 9 rfl w1.heap.size 5 i0 Tryz.underlying37 Tryz.underlying9 hi hz0 hz1 hz2 _ _ _ rfl HoV.out ⟨O.toArray⟩ rfl ?c3 ?c4 ?c5 ?_)
            case c3 => (try rw [ba_size5]); unfold maxLen; omega
            case c4 => (try rw [ba_size5]); omega
            case c5 => exact SV
            intro v9 w9 own9 g9 _
            have hb9 := HbV.out.grown g9 SV (fun q hq => (HoV.out.lt q hq).1)
            rw [strC, ← byteC_append] at own9
            have own9 : w9.ownsRow w1.heap.size 5 1 v9 (acc ++ O).length (byteCells' (acc ++ O)) := by rw [List.length_append]; exact own9
            have Own9 := Lib.hid own9
            have Hb9 := Lib.hid hb9
            clear own9 g9 hb9
            go_wp2_with fail
            go_roundw
            case rel => exact ⟨k + 1, w9, v9, acc ++ O, rfl, rfl, by omega, by go_num, Own9, Hb9, Hnx, by simp; omega⟩
            case measure => simp [RowKit.intOf]; omega
        · have hbb : (p2.2.2 != 0) = true := by simp [hb]
          have hpre : inWord5 kind5 (ps.take k).reverse = false := by rw [Hrv.out]; exact inWord_bad hb
          have Hpre := Lib.hid hpre
          clear hpre hb hKd
          cases hL : letter5 kind5 p with
          | true =>
            rw [hL] at HLt
            have HL := Lib.hid hL
            clear hL
            go_wp2_with fail
            refine HLt.out.mono ?_
            rintro _ V1 ⟨rfl, bV1⟩
            have HbV1 := Lib.hid (HbW.out.trans (bV1.mono SW))
            have HoV1 := Lib.hid (own_below Hown.out bV1)
            have SV1 : w1.heap.size ≤ V1.heap.size := by have := bV1.size; omega
            have HrV := Lib.hid (show Rd V1 V1.heap.size 3 (some a) n (flat encO ps) from (R0.out.below HbV1.out).more SV1)
            clear bV1 k0 k1 k2
            obtain ⟨a2, ha2, k0, k1, k2⟩ := (show ∃ a2, some a = some a2 ∧ V1.cell? (a2.add (k * 3)) = some (.int .i32 (runeP p)) ∧ V1.cell? ⟨(a2.add (k * 3)).block, (a2.add (k * 3)).off + 1, none⟩ = some (.string ⟨(pieceB p).toArray⟩) ∧ V1.cell? ⟨(a2.add (k * 3)).block, (a2.add (k * 3)).off + 2, none⟩ = some (.bool (p.2.2 != 0)) from by obtain ⟨a3, h3, _, h4, h5, h6⟩ := ones5_cells HrV.out HP.out Hn.out.symm; exact ⟨a3, h3, h4, h5, h6⟩)
            obtain rfl := Option.some.inj ha2
            clear ha2
            obtain ⟨b3, hb3, _, j0, _, j2⟩ := ones5_cells HrV.out HP2.out Hn.out.symm
            obtain rfl := Option.some.inj hb3
            clear hb3
            rw [hbb] at j2
            have hnx := Hnxt.out
            have h8 := Hh8.out
            have hto := title_up (t := ps.drop (k + 1)) HL.out Hpre.out
            have HC := Lib.hid (HCu.out V1)
            obtain ⟨O, hO⟩ : ∃ O, outB (upZ 115 p) p = O := ⟨_, rfl⟩
            rw [hO] at HC
            rw [hto, hO] at h8 hnx
            have Hnx := Lib.hid hnx
            clear hnx hO hto
            go_wp2_with fail
            refine HC.out.mono ?_
            rintro _ V ⟨rfl, bV⟩
            have HbV := Lib.hid (HbV1.out.trans (bV.mono SV1))
            have HoV := Lib.hid (own_below HoV1.out bV)
            have SV : w1.heap.size ≤ V.heap.size := by have := bV.size; omega
            clear bV
            go_wp2_with (at_builtin; refine Lib.wpList_append_own_string _ rfl _ _ 37 9 rfl w1.heap.size 5 i0 Tryz.underlying37 Tryz.underlying9 hi hz0 hz1 hz2 _ _ _ rfl HoV.out ⟨O.toArray⟩ rfl ?c3 ?c4 ?c5 ?_)
            case c3 => (try rw [ba_size5]); unfold maxLen; omega
            case c4 => (try rw [ba_size5]); omega
            case c5 => exact SV
            intro v9 w9 own9 g9 _
            have hb9 := HbV.out.grown g9 SV (fun q hq => (HoV.out.lt q hq).1)
            rw [strC, ← byteC_append] at own9
            have own9 : w9.ownsRow w1.heap.size 5 1 v9 (acc ++ O).length (byteCells' (acc ++ O)) := by rw [List.length_append]; exact own9
            have Own9 := Lib.hid own9
            have Hb9 := Lib.hid hb9
            clear own9 g9 hb9
            go_wp2_with fail
            go_roundw
            case rel => exact ⟨k + 1, w9, v9, acc ++ O, rfl, rfl, by omega, by go_num, Own9, Hb9, Hnx, by simp; omega⟩
            case measure => simp [RowKit.intOf]; omega
          | false =>
            rw [hL] at HLt
            have HL := Lib.hid hL
            clear hL
            go_wp2_with fail
            refine HLt.out.mono ?_
            rintro _ V1 ⟨rfl, bV1⟩
            have HbV1 := Lib.hid (HbW.out.trans (bV1.mono SW))
            have HoV1 := Lib.hid (own_below Hown.out bV1)
            have SV1 : w1.heap.size ≤ V1.heap.size := by have := bV1.size; omega
            have HrV := Lib.hid (show Rd V1 V1.heap.size 3 (some a) n (flat encO ps) from (R0.out.below HbV1.out).more SV1)
            clear bV1 k0 k1 k2
            obtain ⟨a2, ha2, k0, k1, k2⟩ := (show ∃ a2, some a = some a2 ∧ V1.cell? (a2.add (k * 3)) = some (.int .i32 (runeP p)) ∧ V1.cell? ⟨(a2.add (k * 3)).block, (a2.add (k * 3)).off + 1, none⟩ = some (.string ⟨(pieceB p).toArray⟩) ∧ V1.cell? ⟨(a2.add (k * 3)).block, (a2.add (k * 3)).off + 2, none⟩ = some (.bool (p.2.2 != 0)) from by obtain ⟨a3, h3, _, h4, h5, h6⟩ := ones5_cells HrV.out HP.out Hn.out.symm; exact ⟨a3, h3, h4, h5, h6⟩)
            obtain rfl := Option.some.inj ha2
            clear ha2
            obtain ⟨b3, hb3, _, j0, _, j2⟩ := ones5_cells HrV.out HP2.out Hn.out.symm
            obtain rfl := Option.some.inj hb3
            clear hb3
            rw [hbb] at j2
            have hnx := Hnxt.out
            have h8 := Hh8.out
            have hto := title_low (pre := (ps.take k).reverse) (t := ps.drop (k + 1)) (.inl HL.out)
            have HC := Lib.hid (HCl.out V1 HrV.out)
            obtain ⟨O, hO⟩ : ∃ O, outB [lowZ kind5 (ps.take k).reverse p (ps.drop (k + 1))] p = O := ⟨_, rfl⟩
            rw [hO] at HC
            rw [hto, hO] at h8 hnx
            have Hnx := Lib.hid hnx
            clear hnx hO hto
            go_wp2_with fail
            refine HC.out.mono ?_
            rintro _ V ⟨rfl, bV⟩
            have HbV := Lib.hid (HbV1.out.trans (bV.mono SV1))
            have HoV := Lib.hid (own_below HoV1.out bV)
            have SV : w1.heap.size ≤ V.heap.size := by have := bV.size; omega
            clear bV
            go_wp2_with (at_builtin; refine Lib.wpList_append_own_string _ rfl _ _ 37 9 rfl w1.heap.size 5 i0 Tryz.underlying37 Tryz.underlying9 hi hz0 hz1 hz2 _ _ _ rfl HoV.out ⟨O.toArray⟩ rfl ?c3 ?c4 ?c5 ?_)
            case c3 => (try rw [ba_size5]); unfold maxLen; omega
            case c4 => (try rw [ba_size5]); omega
            case c5 => exact SV
            intro v9 w9 own9 g9 _
            have hb9 := HbV.out.grown g9 SV (fun q hq => (HoV.out.lt q hq).1)
            rw [strC, ← byteC_append] at own9
            have own9 : w9.ownsRow w1.heap.size 5 1 v9 (acc ++ O).length (byteCells' (acc ++ O)) := by rw [List.length_append]; exact own9
            have Own9 := Lib.hid own9
            have Hb9 := Lib.hid hb9
            clear own9 g9 hb9
            go_wp2_with fail
            go_roundw
            case rel => exact ⟨k + 1, w9, v9, acc ++ O, rfl, rfl, by omega, by go_num, Own9, Hb9, Hnx, by simp; omega⟩
            case measure => simp [RowKit.intOf]; omega
    · obtain rfl : k = n := by omega
      have hfin := Hacc.out
      rw [restI_end (titleF kind5) (by rw [Hn.out]; exact Nat.le_refl _), List.append_nil] at hfin
      subst hfin
      obtain ⟨A2, c2, rfl, _, _⟩ := own_shape Hown.out
      have hcv := bytes_str4 W _ _ c2 A2 acc (Rd.own Hown.out)
      rw [HR.out] at hcv
      have Hfin := Lib.hid (Hb1.out.trans (HbW.out.mono HB1))
      clear Hown HbW Hacc hal
      go_wp2_with fail
      go_ret
      exact ⟨rfl, Hfin.out⟩
end Go.Proofs.YtjkakemlhhieoaaGreatDoor

/- The document's Swap. (Made by tools/mkloops5.py.) -/
namespace Go.Proofs.YtjkakemlhhieoaaGreatDoor
open Go.RowKit Go.Lib

set_option maxRecDepth 100000 in
set_option maxHeartbeats 4000000 in
theorem rSwap_any (s : ByteArray) (w : World) (hs : s.size ≤ 134217728) : Calls Tryz.prog 12 #[.string s] w fun e w' => e = .returned (.string ⟨(madeS swapF s.data.toList).toArray⟩) ∧ Below w.heap.size w w' := by
  obtain ⟨i0, hi, hz0, hz1, hz2⟩ := info_parts byte_info
  have hsp := Split5_any s w hs
  have hsc := items_scal s.data.toList
  have hlen : (items s.data.toList).length ≤ s.size := by have := items_len5 s.data.toList; rwa [size_list] at this
  have hz := restI_zero swapF s.data.toList
  obtain ⟨ps, hps⟩ : ∃ ps, items s.data.toList = ps := ⟨_, rfl⟩
  obtain ⟨T, hT⟩ : ∃ T, madeS swapF s.data.toList = T := ⟨_, rfl⟩
  rw [hps] at hsp hsc hlen hz
  rw [hT] at hz ⊢
  obtain ⟨n, hn⟩ : ∃ n, ps.length = n := ⟨_, rfl⟩
  rw [hn] at hsp hlen
  have hnm : n ≤ 134217728 := by omega
  obtain ⟨B, hB⟩ : ∃ B, w.heap.size = B := ⟨_, rfl⟩
  rw [hB] at hsp ⊢
  obtain ⟨R, hR⟩ : ∃ R, (⟨T.toArray⟩ : ByteArray) = R := ⟨_, rfl⟩
  rw [hR]
  have Hsp := Lib.hid hsp
  have Hsc := Lib.hid hsc
  have Hz := Lib.hid hz
  have Hn := Lib.hid hn
  have HB := Lib.hid hB
  have HR := Lib.hid hR
  have hu1 : (Tryz.prog.underlying 21).isSome = true := by rw [Tryz.underlying21]; rfl
  have Hu1 := Lib.hid hu1
  clear hsp hsc hz hn hB hR hps hT hlen hs hu1
  go_enter Tryz.func12, Tryz.ntmps12
  go_wp2_with fail
  refine Hsp.out.mono ?_
  rintro _ w1 ⟨v0, rfl, own0, b0⟩
  obtain ⟨A0, c0, rfl, _, _⟩ := own_shape own0
  have HB1 : B ≤ w1.heap.size := by have := b0.size; have := HB.out; omega
  have Hb1 := Lib.hid b0
  have R0 := Lib.hid (Rd.own own0)
  clear own0 b0
  go_wp2_with fail
  go_loopw [3, 5] (fun v i wr => ∃ (k : Nat) (W : World) (vv : Value) (acc : List UInt8), W = wr ∧ vv = v ∧ k ≤ n ∧ i = .int .i64 (k : Int) ∧ Hid (W.ownsRow w1.heap.size 5 1 vv acc.length (byteCells' acc)) ∧ Hid (Below w1.heap.size w1 W) ∧ Hid (acc ++ restI swapF ps k = T) ∧ acc.length ≤ 8 * k) (fun _ i _ => n - (RowKit.intOf i).toNat)
  case atStart => exact ⟨0, _, _, [], rfl, rfl, Nat.zero_le _, rfl, Lib.hid (World.ownsRow_nil _ _ _ _), Lib.hid (Below.refl _ _), Hz, Nat.zero_le _⟩
  case round =>
    obtain ⟨k, W, vv, acc, hW, hvv, hk, rfl, Hown, HbW, Hacc, hal⟩ := hrel
    subst hW
    subst hvv
    have SW : w1.heap.size ≤ W.heap.size := HbW.out.size
    by_cases hkn : k < n
    · have hki : (k : Int) < (n : Int) := by omega
      have hk0 : (0 : Int) ≤ (k : Int) := by omega
      obtain ⟨p, hp⟩ : ∃ p, ps[k]? = some p := ⟨_, List.getElem?_eq_getElem (by have := Hn.out; omega)⟩
      have hpg := Hsc.out p (List.mem_of_getElem? hp)
      have hrd := R0.out.below HbW.out
      have hrdW : Rd W W.heap.size 3 A0 n (flat encO ps) := hrd.more SW
      have hst := restI_step swapF hp
      have h8 := outB_len p (swap_two (ps.take k).reverse p (ps.drop (k + 1)))
      have hnx := Hacc.out
      rw [hst, ← List.append_assoc] at hnx
      obtain ⟨a, rfl, hab, k0, k1, k2⟩ := ones5_cells hrdW hp Hn.out.symm
      have Hnxt := Lib.hid hnx
      have Hh8 := Lib.hid h8
      have HP := Lib.hid hp
      clear hst hrd hrdW hp hnx h8
      have HC0 := Lib.hid (fun (V : World) (hV : Below w1.heap.size w1 V) => show V.cell? (a.add (k * 3)) = some (.int .i32 (runeP p)) ∧ V.cell? ⟨(a.add (k * 3)).block, (a.add (k * 3)).off + 1, none⟩ = some (.string ⟨(pieceB p).toArray⟩) ∧ V.cell? ⟨(a.add (k * 3)).block, (a.add (k * 3)).off + 2, none⟩ = some (.bool (p.2.2 != 0)) from by
        obtain ⟨a3, h3, _, h4, h5, h6⟩ := ones5_cells (R0.out.below hV) HP.out Hn.out.symm
        obtain rfl := Option.some.inj h3
        exact ⟨h4, h5, h6⟩)
      have bD : Below W.heap.size W W.drew := below_D5 (Below.refl _ _)
      have HbD := Lib.hid (HbW.out.trans (bD.mono SW))
      have HoD := Lib.hid (own_below Hown.out bD)
      have SD : w1.heap.size ≤ W.drew.heap.size := SW
      have HbDD := Lib.hid bD
      clear bD
      by_cases hb : p.2.2 = 0
      · have HCu := Lib.hid (fun V => upper5_any p hpg ⟨#[83, 83]⟩ 83 (by rw [ss_two.1]; rfl) V)
        have hbb : (p.2.2 != 0) = false := by simp [hb]
        rw [hbb] at k2
        have hs := hpg hb
        have hrx : runeP p = p.1 := by unfold runeP; rw [if_pos hb]
        rw [← hrx] at hs
        have hxb : -2147483648 ≤ runeP p ∧ runeP p ≤ 2147483647 := by have h := hs; unfold Scal at h; omega
        have hnx := Hnxt.out
        have h8 := Hh8.out
        have PR := Lib.hid ((HC0.out _ HbD.out).1)
        have HGr := Lib.hid (fun V => rGreat_any (runeP p) hxb.1 hxb.2 V)
        by_cases h1 : runeP p = 223
        · have h11 : (runeP p == 223) = true := by simp [h1]
          have hto : outB (swapF (ps.take k).reverse p (ps.drop (k + 1))) p = outB (upZ 83 p) p := by unfold swapF; rw [if_pos (.inl (hrx.symm.trans h1))]
          obtain ⟨O, hO⟩ : ∃ O, outB (upZ 83 p) p = O := ⟨_, rfl⟩
          have HC := HCu
          rw [hO] at HC
          rw [hto, hO] at hnx h8
          have Hnx := Lib.hid hnx
          clear hnx hO hto
          clear hs hrx hb h1 hxb hbb
          go_wp2_with fail
          clear k0 k1 k2
          refine wp_region_noPanic ?_
          refine wp_region_held_drew (S := fun W' : World => W'.cell? (a.add (k * 3)) = some (.int .i32 (runeP p))) (by kernel_rfl) (PR.out) (fun hHeld => ?_)
          refine wpAnyH_take (i := 0) (oi := ({ dst := some 37, op := Op.move (Operand.tmp 4), type := 38, pos := "ref.go:166", after := #[], guard := none } : Oper)) (v := ?_) rfl (by kernel_rfl) (by kernel_rfl) (by kernel_rfl) (fun _ _ _ h => h) (Or.inl ⟨by rfl, ?_⟩) (by assumption) ?_
          rotate_left
          · (intro w hSw; (try dsimp only at hSw); go_simp; all_goals (with_reducible rfl))
          try simp only [Act.put, List.setIfInBounds_toArray, List.set_cons_zero, List.set_cons_succ]
          refine wpAnyH_take (i := 1) (oi := ({ dst := some 38, op := Op.move (Operand.tmp 5), type := 3, pos := "ref.go:166", after := #[], guard := none } : Oper)) (v := ?_) rfl (by kernel_rfl) (by kernel_rfl) (by kernel_rfl) (fun _ _ _ h => h) (Or.inl ⟨by rfl, ?_⟩) (by assumption) ?_
          rotate_left
          · (intro w hSw; (try dsimp only at hSw); go_simp; all_goals (with_reducible rfl))
          try simp only [Act.put, List.setIfInBounds_toArray, List.set_cons_zero, List.set_cons_succ]
          refine wpAnyH_take (i := 2) (oi := ({ dst := some 39, op := Op.indexAddr 38 (Operand.tmp 37) (Operand.tmp 38), type := 0, pos := "ref.go:166", after := #[{ on := 0, ground := Ground.data }, { on := 1, ground := Ground.data }], guard := none } : Oper)) (v := ?_) rfl (by kernel_rfl) (by kernel_rfl) (by kernel_rfl) (fun _ _ _ h => h) (Or.inl ⟨by rfl, ?_⟩) (by assumption) ?_
          rotate_left
          · (intro w hSw; (try dsimp only at hSw); go_simp; all_goals (with_reducible rfl))
          try simp only [Act.put, List.setIfInBounds_toArray, List.set_cons_zero, List.set_cons_succ]
          refine wpAnyH_take (i := 3) (oi := ({ dst := some 40, op := Op.fieldAddr 42 (Operand.tmp 39) 0, type := 0, pos := "ref.go:166", after := #[{ on := 2, ground := Ground.data }], guard := none } : Oper)) (v := ?_) rfl (by kernel_rfl) (by kernel_rfl) (by kernel_rfl) (fun _ _ _ h => h) (Or.inl ⟨by rfl, ?_⟩) (by assumption) ?_
          rotate_left
          · (intro w hSw; (try dsimp only at hSw); go_simp; all_goals (with_reducible rfl))
          try simp only [Act.put, List.setIfInBounds_toArray, List.set_cons_zero, List.set_cons_succ]
          refine wpAnyH_take (i := 4) (oi := ({ dst := some 41, op := Op.load 21 (Operand.tmp 40), type := 21, pos := "ref.go:166", after := #[{ on := 3, ground := Ground.data }], guard := none } : Oper)) (v := ?_) rfl (by kernel_rfl) (by kernel_rfl) (by kernel_rfl) (fun _ _ _ h => h) (Or.inl ⟨by rfl, ?_⟩) (by assumption) ?_
          rotate_left
          · (intro w hSw; (try dsimp only at hSw); go_simp; all_goals (with_reducible rfl))
          try simp only [Act.put, List.setIfInBounds_toArray, List.set_cons_zero, List.set_cons_succ]
          refine wpAnyH_take (i := 5) (oi := ({ dst := some 42, op := Op.binOp BinOp.eql 21 (Operand.tmp 41) (Operand.const (Value.int IntKind.i32 223)) 21, type := 4, pos := "ref.go:166", after := #[{ on := 4, ground := Ground.data }], guard := none } : Oper)) (v := ?_) rfl (by kernel_rfl) (by kernel_rfl) (by kernel_rfl) (fun _ _ _ h => h) (Or.inl ⟨by rfl, ?_⟩) (by assumption) ?_
          rotate_left
          · (intro w hSw; (try dsimp only at hSw); go_simp; all_goals (with_reducible rfl))
          try simp only [Act.put, List.setIfInBounds_toArray, List.set_cons_zero, List.set_cons_succ]
          refine wpAnyH_take (i := 6) (oi := ({ dst := some 43, op := Op.move (Operand.tmp 42), type := 4, pos := "ref.go:166", after := #[{ on := 5, ground := Ground.data }], guard := none } : Oper)) (v := ?_) rfl (by kernel_rfl) (by kernel_rfl) (by kernel_rfl) (fun _ _ _ h => h) (Or.inl ⟨by rfl, ?_⟩) (by assumption) ?_
          rotate_left
          · (intro w hSw; (try dsimp only at hSw); go_simp; all_goals (with_reducible rfl))
          try simp only [Act.put, List.setIfInBounds_toArray, List.set_cons_zero, List.set_cons_succ]
          refine wpAnyH_take (i := 7) (oi := ({ dst := some 44, op := Op.move (Operand.tmp 4), type := 38, pos := "ref.go:166", after := #[{ on := 6, ground := Ground.guard }], guard := some (6, false) } : Oper)) (v := undef) rfl (by kernel_rfl) (by kernel_rfl) (by kernel_rfl) (fun _ _ _ h => h) (Or.inr ⟨by rfl, rfl⟩) (by assumption) ?_
          try simp only [Act.put, List.setIfInBounds_toArray, List.set_cons_zero, List.set_cons_succ]
          refine wpAnyH_take (i := 8) (oi := ({ dst := some 45, op := Op.move (Operand.tmp 5), type := 3, pos := "ref.go:166", after := #[{ on := 6, ground := Ground.guard }], guard := some (6, false) } : Oper)) (v := undef) rfl (by kernel_rfl) (by kernel_rfl) (by kernel_rfl) (fun _ _ _ h => h) (Or.inr ⟨by rfl, rfl⟩) (by assumption) ?_
          try simp only [Act.put, List.setIfInBounds_toArray, List.set_cons_zero, List.set_cons_succ]
          refine wpAnyH_take (i := 9) (oi := ({ dst := some 46, op := Op.indexAddr 38 (Operand.tmp 44) (Operand.tmp 45), type := 0, pos := "ref.go:166", after := #[{ on := 7, ground := Ground.data }, { on := 8, ground := Ground.data }, { on := 6, ground := Ground.guard }], guard := some (6, false) } : Oper)) (v := undef) rfl (by kernel_rfl) (by kernel_rfl) (by kernel_rfl) (fun _ _ _ h => h) (Or.inr ⟨by rfl, rfl⟩) (by assumption) ?_
          try simp only [Act.put, List.setIfInBounds_toArray, List.set_cons_zero, List.set_cons_succ]
          refine wpAnyH_take (i := 10) (oi := ({ dst := some 47, op := Op.fieldAddr 42 (Operand.tmp 46) 0, type := 0, pos := "ref.go:166", after := #[{ on := 9, ground := Ground.data }, { on := 6, ground := Ground.guard }], guard := some (6, false) } : Oper)) (v := undef) rfl (by kernel_rfl) (by kernel_rfl) (by kernel_rfl) (fun _ _ _ h => h) (Or.inr ⟨by rfl, rfl⟩) (by assumption) ?_
          try simp only [Act.put, List.setIfInBounds_toArray, List.set_cons_zero, List.set_cons_succ]
          refine wpAnyH_take (i := 11) (oi := ({ dst := some 48, op := Op.load 21 (Operand.tmp 47), type := 21, pos := "ref.go:166", after := #[{ on := 10, ground := Ground.data }, { on := 6, ground := Ground.guard }], guard := some (6, false) } : Oper)) (v := undef) rfl (by kernel_rfl) (by kernel_rfl) (by kernel_rfl) (fun _ _ _ h => h) (Or.inr ⟨by rfl, rfl⟩) (by assumption) ?_
          try simp only [Act.put, List.setIfInBounds_toArray, List.set_cons_zero, List.set_cons_succ]
          refine wpAnyH_take (i := 12) (oi := ({ dst := some 49, op := Op.call { callee := Callee.value (Operand.func 35), args := #[Operand.tmp 48], argTypes := #[21] }, type := 21, pos := "ref.go:166", after := #[{ on := 11, ground := Ground.data }, { on := 6, ground := Ground.chain }, { on := 6, ground := Ground.guard }], guard := some (6, false) } : Oper)) (v := undef) rfl (by kernel_rfl) (by kernel_rfl) (by kernel_rfl) (fun _ _ _ h => h) (Or.inr ⟨by rfl, rfl⟩) (by assumption) ?_
          try simp only [Act.put, List.setIfInBounds_toArray, List.set_cons_zero, List.set_cons_succ]
          refine wpAnyH_take (i := 13) (oi := ({ dst := some 50, op := Op.move (Operand.tmp 4), type := 38, pos := "ref.go:166", after := #[{ on := 6, ground := Ground.guard }], guard := some (6, false) } : Oper)) (v := undef) rfl (by kernel_rfl) (by kernel_rfl) (by kernel_rfl) (fun _ _ _ h => h) (Or.inr ⟨by rfl, rfl⟩) (by assumption) ?_
          try simp only [Act.put, List.setIfInBounds_toArray, List.set_cons_zero, List.set_cons_succ]
          refine wpAnyH_take (i := 14) (oi := ({ dst := some 51, op := Op.move (Operand.tmp 5), type := 3, pos := "ref.go:166", after := #[{ on := 6, ground := Ground.guard }], guard := some (6, false) } : Oper)) (v := undef) rfl (by kernel_rfl) (by kernel_rfl) (by kernel_rfl) (fun _ _ _ h => h) (Or.inr ⟨by rfl, rfl⟩) (by assumption) ?_
          try simp only [Act.put, List.setIfInBounds_toArray, List.set_cons_zero, List.set_cons_succ]
          refine wpAnyH_take (i := 15) (oi := ({ dst := some 52, op := Op.indexAddr 38 (Operand.tmp 50) (Operand.tmp 51), type := 0, pos := "ref.go:166", after := #[{ on := 13, ground := Ground.data }, { on := 14, ground := Ground.data }, { on := 6, ground := Ground.guard }], guard := some (6, false) } : Oper)) (v := undef) rfl (by kernel_rfl) (by kernel_rfl) (by kernel_rfl) (fun _ _ _ h => h) (Or.inr ⟨by rfl, rfl⟩) (by assumption) ?_
          try simp only [Act.put, List.setIfInBounds_toArray, List.set_cons_zero, List.set_cons_succ]
          refine wpAnyH_take (i := 16) (oi := ({ dst := some 53, op := Op.fieldAddr 42 (Operand.tmp 52) 0, type := 0, pos := "ref.go:166", after := #[{ on := 15, ground := Ground.data }, { on := 6, ground := Ground.guard }], guard := some (6, false) } : Oper)) (v := undef) rfl (by kernel_rfl) (by kernel_rfl) (by kernel_rfl) (fun _ _ _ h => h) (Or.inr ⟨by rfl, rfl⟩) (by assumption) ?_
          try simp only [Act.put, List.setIfInBounds_toArray, List.set_cons_zero, List.set_cons_succ]
          refine wpAnyH_take (i := 17) (oi := ({ dst := some 54, op := Op.load 21 (Operand.tmp 53), type := 21, pos := "ref.go:166", after := #[{ on := 16, ground := Ground.data }, { on := 6, ground := Ground.guard }], guard := some (6, false) } : Oper)) (v := undef) rfl (by kernel_rfl) (by kernel_rfl) (by kernel_rfl) (fun _ _ _ h => h) (Or.inr ⟨by rfl, rfl⟩) (by assumption) ?_
          try simp only [Act.put, List.setIfInBounds_toArray, List.set_cons_zero, List.set_cons_succ]
          refine wpAnyH_take (i := 18) (oi := ({ dst := some 55, op := Op.binOp BinOp.neq 21 (Operand.tmp 49) (Operand.tmp 54) 21, type := 4, pos := "ref.go:166", after := #[{ on := 12, ground := Ground.data }, { on := 17, ground := Ground.data }, { on := 6, ground := Ground.guard }], guard := some (6, false) } : Oper)) (v := undef) rfl (by kernel_rfl) (by kernel_rfl) (by kernel_rfl) (fun _ _ _ h => h) (Or.inr ⟨by rfl, rfl⟩) (by assumption) ?_
          try simp only [Act.put, List.setIfInBounds_toArray, List.set_cons_zero, List.set_cons_succ]
          refine wpAnyH_take (i := 19) (oi := ({ dst := some 56, op := Op.pick (Operand.tmp 43) (Operand.const (Value.bool true)) (Operand.tmp 55), type := 4, pos := "ref.go:166", after := #[{ on := 6, ground := Ground.data }, { on := 18, ground := Ground.data }], guard := none } : Oper)) (v := ?_) rfl (by kernel_rfl) (by kernel_rfl) (by kernel_rfl) (fun _ _ _ h => h) (Or.inl ⟨by rfl, ?_⟩) (by assumption) ?_
          rotate_left
          · (intro w hSw; (try dsimp only at hSw); go_simp; all_goals (with_reducible rfl))
          try simp only [Act.put, List.setIfInBounds_toArray, List.set_cons_zero, List.set_cons_succ]
          refine wpAnyH_take (i := 20) (oi := ({ dst := some 36, op := Op.assign (Operand.tmp 56), type := 4, pos := "ref.go:166", after := #[{ on := 19, ground := Ground.data }, { on := 12, ground := Ground.chain }], guard := none } : Oper)) (v := ?_) rfl (by kernel_rfl) (by kernel_rfl) (by kernel_rfl) (fun _ _ _ h => h) (Or.inl ⟨by rfl, ?_⟩) (by assumption) ?_
          rotate_left
          · (intro w hSw; (try dsimp only at hSw); go_simp; all_goals (with_reducible rfl))
          try simp only [Act.put, List.setIfInBounds_toArray, List.set_cons_zero, List.set_cons_succ]
          refine wpAnyH_done (by kernel_rfl) ?_ _
          refine NoPanic.normal ?_
          obtain ⟨l0, l1, l2⟩ := HC0.out _ HbD.out
          go_wp2_with fail
          refine (HC.out _).mono ?_
          rintro _ V ⟨rfl, bV⟩
          have HbV := Lib.hid (HbD.out.trans (bV.mono SD))
          have HoV := Lib.hid (own_below HoD.out bV)
          have SV : w1.heap.size ≤ V.heap.size := by have h1 := bV.size; have h2 := SD; omega
          clear bV
          go_wp2_with (at_builtin; refine Lib.wpList_append_own_string _ rfl _ _ 37 9 rfl w1.heap.size 5 i0 Tryz.underlying37 Tryz.underlying9 hi hz0 hz1 hz2 _ _ _ rfl HoV.out ⟨O.toArray⟩ rfl ?c3 ?c4 ?c5 ?_)
          case c3 => (try rw [ba_size5]); unfold maxLen; omega
          case c4 => (try rw [ba_size5]); omega
          case c5 => exact SV
          intro v9 w9 own9 g9 _
          have hb9 := HbV.out.grown g9 SV (fun q hq => (HoV.out.lt q hq).1)
          rw [strC, ← byteC_append] at own9
          have own9 : w9.ownsRow w1.heap.size 5 1 v9 (acc ++ O).length (byteCells' (acc ++ O)) := by rw [List.length_append]; exact own9
          have Own9 := Lib.hid own9
          have Hb9 := Lib.hid hb9
          clear own9 g9 hb9
          go_wp2_with fail
          go_roundw
          case rel => exact ⟨k + 1, w9, v9, acc ++ O, rfl, rfl, by omega, by go_num, Own9, Hb9, Hnx, by simp; omega⟩
          case measure => simp [RowKit.intOf]; omega
        · have h11 : (runeP p == 223) = false := by simp [h1]
          by_cases h2 : greatF (runeP p) = runeP p
          · have h22 : (greatF (runeP p) != runeP p) = false := by simp [h2]
            have hto : outB (swapF (ps.take k).reverse p (ps.drop (k + 1))) p = Lib.encodeRune (smallF (runeP p)) := by unfold outB swapF; rw [if_pos hb, if_neg (by rw [← hrx]; rintro (h | h); exact h1 h; exact h h2), hrx, List.flatMap_singleton]
            rw [hto] at hnx h8
            have hvs := small_scal hs
            have HS := Lib.hid (fun V => rSmall_any (runeP p) hxb.1 hxb.2 V)
            obtain ⟨O, hO⟩ : ∃ O, Lib.encodeRune (smallF (runeP p)) = O := ⟨_, rfl⟩
            rw [hO] at hnx h8
            have hcv : ∀ V : World, (convert 21 9 (.int .i32 (smallF (runeP p)))).run Tryz.prog V = .ok (.string ⟨O.toArray⟩) V := fun V => by rw [← hO, ← encode_str hvs]; exact run_convert_int_string V _ _ _ _ Hu1.out Tryz.underlying9
            have Hnx := Lib.hid hnx
            clear hnx hO hvs hs hbb hto hrx hb h1 h2 hxb
            go_wp2_with fail
            clear k0 k1 k2
            refine wp_region_noPanic ?_
            refine wp_region_held_drew (S := fun W' : World => W'.cell? (a.add (k * 3)) = some (.int .i32 (runeP p))) (by kernel_rfl) (PR.out) (fun hHeld => ?_)
            refine wpAnyH_take (i := 0) (oi := ({ dst := some 37, op := Op.move (Operand.tmp 4), type := 38, pos := "ref.go:166", after := #[], guard := none } : Oper)) (v := ?_) rfl (by kernel_rfl) (by kernel_rfl) (by kernel_rfl) (fun _ _ _ h => h) (Or.inl ⟨by rfl, ?_⟩) (by assumption) ?_
            rotate_left
            · (intro w hSw; (try dsimp only at hSw); go_simp; all_goals (with_reducible rfl))
            try simp only [Act.put, List.setIfInBounds_toArray, List.set_cons_zero, List.set_cons_succ]
            refine wpAnyH_take (i := 1) (oi := ({ dst := some 38, op := Op.move (Operand.tmp 5), type := 3, pos := "ref.go:166", after := #[], guard := none } : Oper)) (v := ?_) rfl (by kernel_rfl) (by kernel_rfl) (by kernel_rfl) (fun _ _ _ h => h) (Or.inl ⟨by rfl, ?_⟩) (by assumption) ?_
            rotate_left
            · (intro w hSw; (try dsimp only at hSw); go_simp; all_goals (with_reducible rfl))
            try simp only [Act.put, List.setIfInBounds_toArray, List.set_cons_zero, List.set_cons_succ]
            refine wpAnyH_take (i := 2) (oi := ({ dst := some 39, op := Op.indexAddr 38 (Operand.tmp 37) (Operand.tmp 38), type := 0, pos := "ref.go:166", after := #[{ on := 0, ground := Ground.data }, { on := 1, ground := Ground.data }], guard := none } : Oper)) (v := ?_) rfl (by kernel_rfl) (by kernel_rfl) (by kernel_rfl) (fun _ _ _ h => h) (Or.inl ⟨by rfl, ?_⟩) (by assumption) ?_
            rotate_left
            · (intro w hSw; (try dsimp only at hSw); go_simp; all_goals (with_reducible rfl))
            try simp only [Act.put, List.setIfInBounds_toArray, List.set_cons_zero, List.set_cons_succ]
            refine wpAnyH_take (i := 3) (oi := ({ dst := some 40, op := Op.fieldAddr 42 (Operand.tmp 39) 0, type := 0, pos := "ref.go:166", after := #[{ on := 2, ground := Ground.data }], guard := none } : Oper)) (v := ?_) rfl (by kernel_rfl) (by kernel_rfl) (by kernel_rfl) (fun _ _ _ h => h) (Or.inl ⟨by rfl, ?_⟩) (by assumption) ?_
            rotate_left
            · (intro w hSw; (try dsimp only at hSw); go_simp; all_goals (with_reducible rfl))
            try simp only [Act.put, List.setIfInBounds_toArray, List.set_cons_zero, List.set_cons_succ]
            refine wpAnyH_take (i := 4) (oi := ({ dst := some 41, op := Op.load 21 (Operand.tmp 40), type := 21, pos := "ref.go:166", after := #[{ on := 3, ground := Ground.data }], guard := none } : Oper)) (v := ?_) rfl (by kernel_rfl) (by kernel_rfl) (by kernel_rfl) (fun _ _ _ h => h) (Or.inl ⟨by rfl, ?_⟩) (by assumption) ?_
            rotate_left
            · (intro w hSw; (try dsimp only at hSw); go_simp; all_goals (with_reducible rfl))
            try simp only [Act.put, List.setIfInBounds_toArray, List.set_cons_zero, List.set_cons_succ]
            refine wpAnyH_take (i := 5) (oi := ({ dst := some 42, op := Op.binOp BinOp.eql 21 (Operand.tmp 41) (Operand.const (Value.int IntKind.i32 223)) 21, type := 4, pos := "ref.go:166", after := #[{ on := 4, ground := Ground.data }], guard := none } : Oper)) (v := ?_) rfl (by kernel_rfl) (by kernel_rfl) (by kernel_rfl) (fun _ _ _ h => h) (Or.inl ⟨by rfl, ?_⟩) (by assumption) ?_
            rotate_left
            · (intro w hSw; (try dsimp only at hSw); go_simp; all_goals (with_reducible rfl))
            try simp only [Act.put, List.setIfInBounds_toArray, List.set_cons_zero, List.set_cons_succ]
            refine wpAnyH_take (i := 6) (oi := ({ dst := some 43, op := Op.move (Operand.tmp 42), type := 4, pos := "ref.go:166", after := #[{ on := 5, ground := Ground.data }], guard := none } : Oper)) (v := ?_) rfl (by kernel_rfl) (by kernel_rfl) (by kernel_rfl) (fun _ _ _ h => h) (Or.inl ⟨by rfl, ?_⟩) (by assumption) ?_
            rotate_left
            · (intro w hSw; (try dsimp only at hSw); go_simp; all_goals (with_reducible rfl))
            try simp only [Act.put, List.setIfInBounds_toArray, List.set_cons_zero, List.set_cons_succ]
            refine wpAnyH_take (i := 7) (oi := ({ dst := some 44, op := Op.move (Operand.tmp 4), type := 38, pos := "ref.go:166", after := #[{ on := 6, ground := Ground.guard }], guard := some (6, false) } : Oper)) (v := ?_) rfl (by kernel_rfl) (by kernel_rfl) (by kernel_rfl) (fun _ _ _ h => h) (Or.inl ⟨by rfl, ?_⟩) (by assumption) ?_
            rotate_left
            · (intro w hSw; (try dsimp only at hSw); go_simp; all_goals (with_reducible rfl))
            try simp only [Act.put, List.setIfInBounds_toArray, List.set_cons_zero, List.set_cons_succ]
            refine wpAnyH_take (i := 8) (oi := ({ dst := some 45, op := Op.move (Operand.tmp 5), type := 3, pos := "ref.go:166", after := #[{ on := 6, ground := Ground.guard }], guard := some (6, false) } : Oper)) (v := ?_) rfl (by kernel_rfl) (by kernel_rfl) (by kernel_rfl) (fun _ _ _ h => h) (Or.inl ⟨by rfl, ?_⟩) (by assumption) ?_
            rotate_left
            · (intro w hSw; (try dsimp only at hSw); go_simp; all_goals (with_reducible rfl))
            try simp only [Act.put, List.setIfInBounds_toArray, List.set_cons_zero, List.set_cons_succ]
            refine wpAnyH_take (i := 9) (oi := ({ dst := some 46, op := Op.indexAddr 38 (Operand.tmp 44) (Operand.tmp 45), type := 0, pos := "ref.go:166", after := #[{ on := 7, ground := Ground.data }, { on := 8, ground := Ground.data }, { on := 6, ground := Ground.guard }], guard := some (6, false) } : Oper)) (v := ?_) rfl (by kernel_rfl) (by kernel_rfl) (by kernel_rfl) (fun _ _ _ h => h) (Or.inl ⟨by rfl, ?_⟩) (by assumption) ?_
            rotate_left
            · (intro w hSw; (try dsimp only at hSw); go_simp; all_goals (with_reducible rfl))
            try simp only [Act.put, List.setIfInBounds_toArray, List.set_cons_zero, List.set_cons_succ]
            refine wpAnyH_take (i := 10) (oi := ({ dst := some 47, op := Op.fieldAddr 42 (Operand.tmp 46) 0, type := 0, pos := "ref.go:166", after := #[{ on := 9, ground := Ground.data }, { on := 6, ground := Ground.guard }], guard := some (6, false) } : Oper)) (v := ?_) rfl (by kernel_rfl) (by kernel_rfl) (by kernel_rfl) (fun _ _ _ h => h) (Or.inl ⟨by rfl, ?_⟩) (by assumption) ?_
            rotate_left
            · (intro w hSw; (try dsimp only at hSw); go_simp; all_goals (with_reducible rfl))
            try simp only [Act.put, List.setIfInBounds_toArray, List.set_cons_zero, List.set_cons_succ]
            refine wpAnyH_take (i := 11) (oi := ({ dst := some 48, op := Op.load 21 (Operand.tmp 47), type := 21, pos := "ref.go:166", after := #[{ on := 10, ground := Ground.data }, { on := 6, ground := Ground.guard }], guard := some (6, false) } : Oper)) (v := ?_) rfl (by kernel_rfl) (by kernel_rfl) (by kernel_rfl) (fun _ _ _ h => h) (Or.inl ⟨by rfl, ?_⟩) (by assumption) ?_
            rotate_left
            · (intro w hSw; (try dsimp only at hSw); go_simp; all_goals (with_reducible rfl))
            try simp only [Act.put, List.setIfInBounds_toArray, List.set_cons_zero, List.set_cons_succ]
            refine wpAnyH_take (i := 13) (oi := ({ dst := some 50, op := Op.move (Operand.tmp 4), type := 38, pos := "ref.go:166", after := #[{ on := 6, ground := Ground.guard }], guard := some (6, false) } : Oper)) (v := ?_) rfl (by kernel_rfl) (by kernel_rfl) (by kernel_rfl) (fun _ _ _ h => h) (Or.inl ⟨by rfl, ?_⟩) (by assumption) ?_
            rotate_left
            · (intro w hSw; (try dsimp only at hSw); go_simp; all_goals (with_reducible rfl))
            try simp only [Act.put, List.setIfInBounds_toArray, List.set_cons_zero, List.set_cons_succ]
            refine wpAnyH_take (i := 14) (oi := ({ dst := some 51, op := Op.move (Operand.tmp 5), type := 3, pos := "ref.go:166", after := #[{ on := 6, ground := Ground.guard }], guard := some (6, false) } : Oper)) (v := ?_) rfl (by kernel_rfl) (by kernel_rfl) (by kernel_rfl) (fun _ _ _ h => h) (Or.inl ⟨by rfl, ?_⟩) (by assumption) ?_
            rotate_left
            · (intro w hSw; (try dsimp only at hSw); go_simp; all_goals (with_reducible rfl))
            try simp only [Act.put, List.setIfInBounds_toArray, List.set_cons_zero, List.set_cons_succ]
            refine wpAnyH_take (i := 15) (oi := ({ dst := some 52, op := Op.indexAddr 38 (Operand.tmp 50) (Operand.tmp 51), type := 0, pos := "ref.go:166", after := #[{ on := 13, ground := Ground.data }, { on := 14, ground := Ground.data }, { on := 6, ground := Ground.guard }], guard := some (6, false) } : Oper)) (v := ?_) rfl (by kernel_rfl) (by kernel_rfl) (by kernel_rfl) (fun _ _ _ h => h) (Or.inl ⟨by rfl, ?_⟩) (by assumption) ?_
            rotate_left
            · (intro w hSw; (try dsimp only at hSw); go_simp; all_goals (with_reducible rfl))
            try simp only [Act.put, List.setIfInBounds_toArray, List.set_cons_zero, List.set_cons_succ]
            refine wpAnyH_take (i := 16) (oi := ({ dst := some 53, op := Op.fieldAddr 42 (Operand.tmp 52) 0, type := 0, pos := "ref.go:166", after := #[{ on := 15, ground := Ground.data }, { on := 6, ground := Ground.guard }], guard := some (6, false) } : Oper)) (v := ?_) rfl (by kernel_rfl) (by kernel_rfl) (by kernel_rfl) (fun _ _ _ h => h) (Or.inl ⟨by rfl, ?_⟩) (by assumption) ?_
            rotate_left
            · (intro w hSw; (try dsimp only at hSw); go_simp; all_goals (with_reducible rfl))
            try simp only [Act.put, List.setIfInBounds_toArray, List.set_cons_zero, List.set_cons_succ]
            refine wpAnyH_take (i := 17) (oi := ({ dst := some 54, op := Op.load 21 (Operand.tmp 53), type := 21, pos := "ref.go:166", after := #[{ on := 16, ground := Ground.data }, { on := 6, ground := Ground.guard }], guard := some (6, false) } : Oper)) (v := ?_) rfl (by kernel_rfl) (by kernel_rfl) (by kernel_rfl) (fun _ _ _ h => h) (Or.inl ⟨by rfl, ?_⟩) (by assumption) ?_
            rotate_left
            · (intro w hSw; (try dsimp only at hSw); go_simp; all_goals (with_reducible rfl))
            try simp only [Act.put, List.setIfInBounds_toArray, List.set_cons_zero, List.set_cons_succ]
            refine wpAnyH_ready (rs := [12]) (by kernel_rfl) (by simp) ?_
            refine AllReadyH.cons (o := ({ dst := some 49, op := Op.call { callee := Callee.value (Operand.func 35), args := #[Operand.tmp 48], argTypes := #[21] }, type := 21, pos := "ref.go:166", after := #[{ on := 11, ground := Ground.data }, { on := 6, ground := Ground.chain }, { on := 6, ground := Ground.guard }], guard := some (6, false) } : Oper)) rfl (fun K hK => ?_) AllReadyH.nil
            (go_simp; go_at_call 35; refine (HGr.out _).mono ?_; rintro e V0 ⟨rfl, bV0⟩; have HbV0 := Lib.hid (HbD.out.trans (bV0.mono SD)); have HoV0 := Lib.hid (own_below HoD.out bV0); have SV0 : w1.heap.size ≤ V0.heap.size := Nat.le_trans SD bV0.size; clear bV0; (try dsimp only))
            refine hK.out _ _ ((HC0.out _ HbV0.out).1) (fun hHeld => ?_)
            clear hK K
            try simp only [Act.put, List.setIfInBounds_toArray, List.set_cons_zero, List.set_cons_succ]
            refine wpAnyH_take (i := 18) (oi := ({ dst := some 55, op := Op.binOp BinOp.neq 21 (Operand.tmp 49) (Operand.tmp 54) 21, type := 4, pos := "ref.go:166", after := #[{ on := 12, ground := Ground.data }, { on := 17, ground := Ground.data }, { on := 6, ground := Ground.guard }], guard := some (6, false) } : Oper)) (v := ?_) rfl (by kernel_rfl) (by kernel_rfl) (by kernel_rfl) (fun _ _ _ h => h) (Or.inl ⟨by rfl, ?_⟩) (by assumption) ?_
            rotate_left
            · (intro w hSw; (try dsimp only at hSw); go_simp; all_goals (with_reducible rfl))
            try simp only [Act.put, List.setIfInBounds_toArray, List.set_cons_zero, List.set_cons_succ]
            refine wpAnyH_take (i := 19) (oi := ({ dst := some 56, op := Op.pick (Operand.tmp 43) (Operand.const (Value.bool true)) (Operand.tmp 55), type := 4, pos := "ref.go:166", after := #[{ on := 6, ground := Ground.data }, { on := 18, ground := Ground.data }], guard := none } : Oper)) (v := ?_) rfl (by kernel_rfl) (by kernel_rfl) (by kernel_rfl) (fun _ _ _ h => h) (Or.inl ⟨by rfl, ?_⟩) (by assumption) ?_
            rotate_left
            · (intro w hSw; (try dsimp only at hSw); go_simp; all_goals (with_reducible rfl))
            try simp only [Act.put, List.setIfInBounds_toArray, List.set_cons_zero, List.set_cons_succ]
            refine wpAnyH_take (i := 20) (oi := ({ dst := some 36, op := Op.assign (Operand.tmp 56), type := 4, pos := "ref.go:166", after := #[{ on := 19, ground := Ground.data }, { on := 12, ground := Ground.chain }], guard := none } : Oper)) (v := ?_) rfl (by kernel_rfl) (by kernel_rfl) (by kernel_rfl) (fun _ _ _ h => h) (Or.inl ⟨by rfl, ?_⟩) (by assumption) ?_
            rotate_left
            · (intro w hSw; (try dsimp only at hSw); go_simp; all_goals (with_reducible rfl))
            try simp only [Act.put, List.setIfInBounds_toArray, List.set_cons_zero, List.set_cons_succ]
            refine wpAnyH_done (by kernel_rfl) ?_ _
            refine NoPanic.normal ?_
            obtain ⟨l0, l1, l2⟩ := HC0.out _ HbV0.out
            go_wp2_with fail
            refine (HS.out V0).mono ?_
            rintro _ V ⟨rfl, bV⟩
            have HbV := Lib.hid (HbV0.out.trans (bV.mono SV0))
            have HoV := Lib.hid (own_below HoV0.out bV)
            have SV : w1.heap.size ≤ V.heap.size := by have h1 := bV.size; have h2 := SV0; omega
            clear bV
            go_wp2_with (at_builtin; refine Lib.wpList_append_own_string _ rfl _ _ 37 9 rfl w1.heap.size 5 i0 Tryz.underlying37 Tryz.underlying9 hi hz0 hz1 hz2 _ _ _ rfl HoV.out ⟨O.toArray⟩ rfl ?c3 ?c4 ?c5 ?_)
            case c3 => (try rw [ba_size5]); unfold maxLen; omega
            case c4 => (try rw [ba_size5]); omega
            case c5 => exact SV
            intro v9 w9 own9 g9 _
            have hb9 := HbV.out.grown g9 SV (fun q hq => (HoV.out.lt q hq).1)
            rw [strC, ← byteC_append] at own9
            have own9 : w9.ownsRow w1.heap.size 5 1 v9 (acc ++ O).length (byteCells' (acc ++ O)) := by rw [List.length_append]; exact own9
            have Own9 := Lib.hid own9
            have Hb9 := Lib.hid hb9
            clear own9 g9 hb9
            go_wp2_with fail
            go_roundw
            case rel => exact ⟨k + 1, w9, v9, acc ++ O, rfl, rfl, by omega, by go_num, Own9, Hb9, Hnx, by simp; omega⟩
            case measure => simp [RowKit.intOf]; omega
          · have h22 : (greatF (runeP p) != runeP p) = true := by simp [h2]
            have hto : outB (swapF (ps.take k).reverse p (ps.drop (k + 1))) p = outB (upZ 83 p) p := by unfold swapF; rw [if_pos (.inr (by rw [← hrx]; exact h2))]
            obtain ⟨O, hO⟩ : ∃ O, outB (upZ 83 p) p = O := ⟨_, rfl⟩
            have HC := HCu
            rw [hO] at HC
            rw [hto, hO] at hnx h8
            have Hnx := Lib.hid hnx
            clear hnx hO hto
            clear hs hrx hb h1 h2 hxb hbb
            go_wp2_with fail
            clear k0 k1 k2
            refine wp_region_noPanic ?_
            refine wp_region_held_drew (S := fun W' : World => W'.cell? (a.add (k * 3)) = some (.int .i32 (runeP p))) (by kernel_rfl) (PR.out) (fun hHeld => ?_)
            refine wpAnyH_take (i := 0) (oi := ({ dst := some 37, op := Op.move (Operand.tmp 4), type := 38, pos := "ref.go:166", after := #[], guard := none } : Oper)) (v := ?_) rfl (by kernel_rfl) (by kernel_rfl) (by kernel_rfl) (fun _ _ _ h => h) (Or.inl ⟨by rfl, ?_⟩) (by assumption) ?_
            rotate_left
            · (intro w hSw; (try dsimp only at hSw); go_simp; all_goals (with_reducible rfl))
            try simp only [Act.put, List.setIfInBounds_toArray, List.set_cons_zero, List.set_cons_succ]
            refine wpAnyH_take (i := 1) (oi := ({ dst := some 38, op := Op.move (Operand.tmp 5), type := 3, pos := "ref.go:166", after := #[], guard := none } : Oper)) (v := ?_) rfl (by kernel_rfl) (by kernel_rfl) (by kernel_rfl) (fun _ _ _ h => h) (Or.inl ⟨by rfl, ?_⟩) (by assumption) ?_
            rotate_left
            · (intro w hSw; (try dsimp only at hSw); go_simp; all_goals (with_reducible rfl))
            try simp only [Act.put, List.setIfInBounds_toArray, List.set_cons_zero, List.set_cons_succ]
            refine wpAnyH_take (i := 2) (oi := ({ dst := some 39, op := Op.indexAddr 38 (Operand.tmp 37) (Operand.tmp 38), type := 0, pos := "ref.go:166", after := #[{ on := 0, ground := Ground.data }, { on := 1, ground := Ground.data }], guard := none } : Oper)) (v := ?_) rfl (by kernel_rfl) (by kernel_rfl) (by kernel_rfl) (fun _ _ _ h => h) (Or.inl ⟨by rfl, ?_⟩) (by assumption) ?_
            rotate_left
            · (intro w hSw; (try dsimp only at hSw); go_simp; all_goals (with_reducible rfl))
            try simp only [Act.put, List.setIfInBounds_toArray, List.set_cons_zero, List.set_cons_succ]
            refine wpAnyH_take (i := 3) (oi := ({ dst := some 40, op := Op.fieldAddr 42 (Operand.tmp 39) 0, type := 0, pos := "ref.go:166", after := #[{ on := 2, ground := Ground.data }], guard := none } : Oper)) (v := ?_) rfl (by kernel_rfl) (by kernel_rfl) (by kernel_rfl) (fun _ _ _ h => h) (Or.inl ⟨by rfl, ?_⟩) (by assumption) ?_
            rotate_left
            · (intro w hSw; (try dsimp only at hSw); go_simp; all_goals (with_reducible rfl))
            try simp only [Act.put, List.setIfInBounds_toArray, List.set_cons_zero, List.set_cons_succ]
            refine wpAnyH_take (i := 4) (oi := ({ dst := some 41, op := Op.load 21 (Operand.tmp 40), type := 21, pos := "ref.go:166", after := #[{ on := 3, ground := Ground.data }], guard := none } : Oper)) (v := ?_) rfl (by kernel_rfl) (by kernel_rfl) (by kernel_rfl) (fun _ _ _ h => h) (Or.inl ⟨by rfl, ?_⟩) (by assumption) ?_
            rotate_left
            · (intro w hSw; (try dsimp only at hSw); go_simp; all_goals (with_reducible rfl))
            try simp only [Act.put, List.setIfInBounds_toArray, List.set_cons_zero, List.set_cons_succ]
            refine wpAnyH_take (i := 5) (oi := ({ dst := some 42, op := Op.binOp BinOp.eql 21 (Operand.tmp 41) (Operand.const (Value.int IntKind.i32 223)) 21, type := 4, pos := "ref.go:166", after := #[{ on := 4, ground := Ground.data }], guard := none } : Oper)) (v := ?_) rfl (by kernel_rfl) (by kernel_rfl) (by kernel_rfl) (fun _ _ _ h => h) (Or.inl ⟨by rfl, ?_⟩) (by assumption) ?_
            rotate_left
            · (intro w hSw; (try dsimp only at hSw); go_simp; all_goals (with_reducible rfl))
            try simp only [Act.put, List.setIfInBounds_toArray, List.set_cons_zero, List.set_cons_succ]
            refine wpAnyH_take (i := 6) (oi := ({ dst := some 43, op := Op.move (Operand.tmp 42), type := 4, pos := "ref.go:166", after := #[{ on := 5, ground := Ground.data }], guard := none } : Oper)) (v := ?_) rfl (by kernel_rfl) (by kernel_rfl) (by kernel_rfl) (fun _ _ _ h => h) (Or.inl ⟨by rfl, ?_⟩) (by assumption) ?_
            rotate_left
            · (intro w hSw; (try dsimp only at hSw); go_simp; all_goals (with_reducible rfl))
            try simp only [Act.put, List.setIfInBounds_toArray, List.set_cons_zero, List.set_cons_succ]
            refine wpAnyH_take (i := 7) (oi := ({ dst := some 44, op := Op.move (Operand.tmp 4), type := 38, pos := "ref.go:166", after := #[{ on := 6, ground := Ground.guard }], guard := some (6, false) } : Oper)) (v := ?_) rfl (by kernel_rfl) (by kernel_rfl) (by kernel_rfl) (fun _ _ _ h => h) (Or.inl ⟨by rfl, ?_⟩) (by assumption) ?_
            rotate_left
            · (intro w hSw; (try dsimp only at hSw); go_simp; all_goals (with_reducible rfl))
            try simp only [Act.put, List.setIfInBounds_toArray, List.set_cons_zero, List.set_cons_succ]
            refine wpAnyH_take (i := 8) (oi := ({ dst := some 45, op := Op.move (Operand.tmp 5), type := 3, pos := "ref.go:166", after := #[{ on := 6, ground := Ground.guard }], guard := some (6, false) } : Oper)) (v := ?_) rfl (by kernel_rfl) (by kernel_rfl) (by kernel_rfl) (fun _ _ _ h => h) (Or.inl ⟨by rfl, ?_⟩) (by assumption) ?_
            rotate_left
            · (intro w hSw; (try dsimp only at hSw); go_simp; all_goals (with_reducible rfl))
            try simp only [Act.put, List.setIfInBounds_toArray, List.set_cons_zero, List.set_cons_succ]
            refine wpAnyH_take (i := 9) (oi := ({ dst := some 46, op := Op.indexAddr 38 (Operand.tmp 44) (Operand.tmp 45), type := 0, pos := "ref.go:166", after := #[{ on := 7, ground := Ground.data }, { on := 8, ground := Ground.data }, { on := 6, ground := Ground.guard }], guard := some (6, false) } : Oper)) (v := ?_) rfl (by kernel_rfl) (by kernel_rfl) (by kernel_rfl) (fun _ _ _ h => h) (Or.inl ⟨by rfl, ?_⟩) (by assumption) ?_
            rotate_left
            · (intro w hSw; (try dsimp only at hSw); go_simp; all_goals (with_reducible rfl))
            try simp only [Act.put, List.setIfInBounds_toArray, List.set_cons_zero, List.set_cons_succ]
            refine wpAnyH_take (i := 10) (oi := ({ dst := some 47, op := Op.fieldAddr 42 (Operand.tmp 46) 0, type := 0, pos := "ref.go:166", after := #[{ on := 9, ground := Ground.data }, { on := 6, ground := Ground.guard }], guard := some (6, false) } : Oper)) (v := ?_) rfl (by kernel_rfl) (by kernel_rfl) (by kernel_rfl) (fun _ _ _ h => h) (Or.inl ⟨by rfl, ?_⟩) (by assumption) ?_
            rotate_left
            · (intro w hSw; (try dsimp only at hSw); go_simp; all_goals (with_reducible rfl))
            try simp only [Act.put, List.setIfInBounds_toArray, List.set_cons_zero, List.set_cons_succ]
            refine wpAnyH_take (i := 11) (oi := ({ dst := some 48, op := Op.load 21 (Operand.tmp 47), type := 21, pos := "ref.go:166", after := #[{ on := 10, ground := Ground.data }, { on := 6, ground := Ground.guard }], guard := some (6, false) } : Oper)) (v := ?_) rfl (by kernel_rfl) (by kernel_rfl) (by kernel_rfl) (fun _ _ _ h => h) (Or.inl ⟨by rfl, ?_⟩) (by assumption) ?_
            rotate_left
            · (intro w hSw; (try dsimp only at hSw); go_simp; all_goals (with_reducible rfl))
            try simp only [Act.put, List.setIfInBounds_toArray, List.set_cons_zero, List.set_cons_succ]
            refine wpAnyH_take (i := 13) (oi := ({ dst := some 50, op := Op.move (Operand.tmp 4), type := 38, pos := "ref.go:166", after := #[{ on := 6, ground := Ground.guard }], guard := some (6, false) } : Oper)) (v := ?_) rfl (by kernel_rfl) (by kernel_rfl) (by kernel_rfl) (fun _ _ _ h => h) (Or.inl ⟨by rfl, ?_⟩) (by assumption) ?_
            rotate_left
            · (intro w hSw; (try dsimp only at hSw); go_simp; all_goals (with_reducible rfl))
            try simp only [Act.put, List.setIfInBounds_toArray, List.set_cons_zero, List.set_cons_succ]
            refine wpAnyH_take (i := 14) (oi := ({ dst := some 51, op := Op.move (Operand.tmp 5), type := 3, pos := "ref.go:166", after := #[{ on := 6, ground := Ground.guard }], guard := some (6, false) } : Oper)) (v := ?_) rfl (by kernel_rfl) (by kernel_rfl) (by kernel_rfl) (fun _ _ _ h => h) (Or.inl ⟨by rfl, ?_⟩) (by assumption) ?_
            rotate_left
            · (intro w hSw; (try dsimp only at hSw); go_simp; all_goals (with_reducible rfl))
            try simp only [Act.put, List.setIfInBounds_toArray, List.set_cons_zero, List.set_cons_succ]
            refine wpAnyH_take (i := 15) (oi := ({ dst := some 52, op := Op.indexAddr 38 (Operand.tmp 50) (Operand.tmp 51), type := 0, pos := "ref.go:166", after := #[{ on := 13, ground := Ground.data }, { on := 14, ground := Ground.data }, { on := 6, ground := Ground.guard }], guard := some (6, false) } : Oper)) (v := ?_) rfl (by kernel_rfl) (by kernel_rfl) (by kernel_rfl) (fun _ _ _ h => h) (Or.inl ⟨by rfl, ?_⟩) (by assumption) ?_
            rotate_left
            · (intro w hSw; (try dsimp only at hSw); go_simp; all_goals (with_reducible rfl))
            try simp only [Act.put, List.setIfInBounds_toArray, List.set_cons_zero, List.set_cons_succ]
            refine wpAnyH_take (i := 16) (oi := ({ dst := some 53, op := Op.fieldAddr 42 (Operand.tmp 52) 0, type := 0, pos := "ref.go:166", after := #[{ on := 15, ground := Ground.data }, { on := 6, ground := Ground.guard }], guard := some (6, false) } : Oper)) (v := ?_) rfl (by kernel_rfl) (by kernel_rfl) (by kernel_rfl) (fun _ _ _ h => h) (Or.inl ⟨by rfl, ?_⟩) (by assumption) ?_
            rotate_left
            · (intro w hSw; (try dsimp only at hSw); go_simp; all_goals (with_reducible rfl))
            try simp only [Act.put, List.setIfInBounds_toArray, List.set_cons_zero, List.set_cons_succ]
            refine wpAnyH_take (i := 17) (oi := ({ dst := some 54, op := Op.load 21 (Operand.tmp 53), type := 21, pos := "ref.go:166", after := #[{ on := 16, ground := Ground.data }, { on := 6, ground := Ground.guard }], guard := some (6, false) } : Oper)) (v := ?_) rfl (by kernel_rfl) (by kernel_rfl) (by kernel_rfl) (fun _ _ _ h => h) (Or.inl ⟨by rfl, ?_⟩) (by assumption) ?_
            rotate_left
            · (intro w hSw; (try dsimp only at hSw); go_simp; all_goals (with_reducible rfl))
            try simp only [Act.put, List.setIfInBounds_toArray, List.set_cons_zero, List.set_cons_succ]
            refine wpAnyH_ready (rs := [12]) (by kernel_rfl) (by simp) ?_
            refine AllReadyH.cons (o := ({ dst := some 49, op := Op.call { callee := Callee.value (Operand.func 35), args := #[Operand.tmp 48], argTypes := #[21] }, type := 21, pos := "ref.go:166", after := #[{ on := 11, ground := Ground.data }, { on := 6, ground := Ground.chain }, { on := 6, ground := Ground.guard }], guard := some (6, false) } : Oper)) rfl (fun K hK => ?_) AllReadyH.nil
            (go_simp; go_at_call 35; refine (HGr.out _).mono ?_; rintro e V0 ⟨rfl, bV0⟩; have HbV0 := Lib.hid (HbD.out.trans (bV0.mono SD)); have HoV0 := Lib.hid (own_below HoD.out bV0); have SV0 : w1.heap.size ≤ V0.heap.size := Nat.le_trans SD bV0.size; clear bV0; (try dsimp only))
            refine hK.out _ _ ((HC0.out _ HbV0.out).1) (fun hHeld => ?_)
            clear hK K
            try simp only [Act.put, List.setIfInBounds_toArray, List.set_cons_zero, List.set_cons_succ]
            refine wpAnyH_take (i := 18) (oi := ({ dst := some 55, op := Op.binOp BinOp.neq 21 (Operand.tmp 49) (Operand.tmp 54) 21, type := 4, pos := "ref.go:166", after := #[{ on := 12, ground := Ground.data }, { on := 17, ground := Ground.data }, { on := 6, ground := Ground.guard }], guard := some (6, false) } : Oper)) (v := ?_) rfl (by kernel_rfl) (by kernel_rfl) (by kernel_rfl) (fun _ _ _ h => h) (Or.inl ⟨by rfl, ?_⟩) (by assumption) ?_
            rotate_left
            · (intro w hSw; (try dsimp only at hSw); go_simp; all_goals (with_reducible rfl))
            try simp only [Act.put, List.setIfInBounds_toArray, List.set_cons_zero, List.set_cons_succ]
            refine wpAnyH_take (i := 19) (oi := ({ dst := some 56, op := Op.pick (Operand.tmp 43) (Operand.const (Value.bool true)) (Operand.tmp 55), type := 4, pos := "ref.go:166", after := #[{ on := 6, ground := Ground.data }, { on := 18, ground := Ground.data }], guard := none } : Oper)) (v := ?_) rfl (by kernel_rfl) (by kernel_rfl) (by kernel_rfl) (fun _ _ _ h => h) (Or.inl ⟨by rfl, ?_⟩) (by assumption) ?_
            rotate_left
            · (intro w hSw; (try dsimp only at hSw); go_simp; all_goals (with_reducible rfl))
            try simp only [Act.put, List.setIfInBounds_toArray, List.set_cons_zero, List.set_cons_succ]
            refine wpAnyH_take (i := 20) (oi := ({ dst := some 36, op := Op.assign (Operand.tmp 56), type := 4, pos := "ref.go:166", after := #[{ on := 19, ground := Ground.data }, { on := 12, ground := Ground.chain }], guard := none } : Oper)) (v := ?_) rfl (by kernel_rfl) (by kernel_rfl) (by kernel_rfl) (fun _ _ _ h => h) (Or.inl ⟨by rfl, ?_⟩) (by assumption) ?_
            rotate_left
            · (intro w hSw; (try dsimp only at hSw); go_simp; all_goals (with_reducible rfl))
            try simp only [Act.put, List.setIfInBounds_toArray, List.set_cons_zero, List.set_cons_succ]
            refine wpAnyH_done (by kernel_rfl) ?_ _
            refine NoPanic.normal ?_
            obtain ⟨l0, l1, l2⟩ := HC0.out _ HbV0.out
            go_wp2_with fail
            refine (HC.out _).mono ?_
            rintro _ V ⟨rfl, bV⟩
            have HbV := Lib.hid (HbV0.out.trans (bV.mono SV0))
            have HoV := Lib.hid (own_below HoV0.out bV)
            have SV : w1.heap.size ≤ V.heap.size := by have h1 := bV.size; have h2 := SV0; omega
            clear bV
            go_wp2_with (at_builtin; refine Lib.wpList_append_own_string _ rfl _ _ 37 9 rfl w1.heap.size 5 i0 Tryz.underlying37 Tryz.underlying9 hi hz0 hz1 hz2 _ _ _ rfl HoV.out ⟨O.toArray⟩ rfl ?c3 ?c4 ?c5 ?_)
            case c3 => (try rw [ba_size5]); unfold maxLen; omega
            case c4 => (try rw [ba_size5]); omega
            case c5 => exact SV
            intro v9 w9 own9 g9 _
            have hb9 := HbV.out.grown g9 SV (fun q hq => (HoV.out.lt q hq).1)
            rw [strC, ← byteC_append] at own9
            have own9 : w9.ownsRow w1.heap.size 5 1 v9 (acc ++ O).length (byteCells' (acc ++ O)) := by rw [List.length_append]; exact own9
            have Own9 := Lib.hid own9
            have Hb9 := Lib.hid hb9
            clear own9 g9 hb9
            go_wp2_with fail
            go_roundw
            case rel => exact ⟨k + 1, w9, v9, acc ++ O, rfl, rfl, by omega, by go_num, Own9, Hb9, Hnx, by simp; omega⟩
            case measure => simp [RowKit.intOf]; omega
      · have hbb : (p.2.2 != 0) = true := by simp [hb]
        rw [hbb] at k2
        have hnx := Hnxt.out
        have h8 := Hh8.out
        rw [out_bad hb] at hnx h8
        obtain ⟨O, hO⟩ : ∃ O, pieceB p = O := ⟨_, rfl⟩
        rw [hO] at hnx h8 k1
        have Hnx := Lib.hid hnx
        clear hnx hO hb hbb
        go_wp2_with (at_builtin; refine Lib.wpList_append_own_string _ rfl _ _ 37 9 rfl w1.heap.size 5 i0 Tryz.underlying37 Tryz.underlying9 hi hz0 hz1 hz2 _ _ _ rfl Hown.out ⟨O.toArray⟩ rfl ?c3 ?c4 ?c5 ?_)
        case c3 => (try rw [ba_size5]); unfold maxLen; omega
        case c4 => (try rw [ba_size5]); omega
        case c5 => exact SW
        intro v9 w9 own9 g9 _
        have hb9 := HbW.out.grown g9 SW (fun q hq => (Hown.out.lt q hq).1)
        rw [strC, ← byteC_append] at own9
        have own9 : w9.ownsRow w1.heap.size 5 1 v9 (acc ++ O).length (byteCells' (acc ++ O)) := by rw [List.length_append]; exact own9
        have Own9 := Lib.hid own9
        have Hb9 := Lib.hid hb9
        clear own9 g9 hb9
        go_wp2_with fail
        go_roundw
        case rel => exact ⟨k + 1, w9, v9, acc ++ O, rfl, rfl, by omega, by go_num, Own9, Hb9, Hnx, by simp; omega⟩
        case measure => simp [RowKit.intOf]; omega
    · obtain rfl : k = n := by omega
      have hfin := Hacc.out
      rw [restI_end swapF (by rw [Hn.out]; exact Nat.le_refl _), List.append_nil] at hfin
      subst hfin
      obtain ⟨A2, c2, rfl, _, _⟩ := own_shape Hown.out
      have hcv := bytes_str4 W _ _ c2 A2 acc (Rd.own Hown.out)
      rw [HR.out] at hcv
      have Hfin := Lib.hid (Hb1.out.trans (HbW.out.mono HB1))
      clear Hown HbW Hacc hal
      go_wp2_with fail
      go_ret
      exact ⟨rfl, Hfin.out⟩
end Go.Proofs.YtjkakemlhhieoaaGreatDoor

/- FoldTexts, walked. (Made by tools/mktexts5.py.) -/
namespace Go.Proofs.YtjkakemlhhieoaaGreatDoor
open Go.RowKit Go.Lib

set_option maxRecDepth 100000 in
set_option maxHeartbeats 4000000 in
theorem texts5_walk (s t : ByteArray) (w : World) (hs : s.size ≤ 1048576) (ht : t.size ≤ 1048576) (hE : Env5 w) :
    Calls Tryz.prog 3 #[.string s, .string t] w fun e w' => e = .returned (.bool true) ∧ Below w.heap.size w w' := by
  have fs := fine_small s hs
  have PLs := fun W h => Lower_any s W (by omega) h
  have RLs := fun W => rLower_any s W (by omega)
  obtain ⟨xLs, hLs⟩ : ∃ x, (ByteArray.mk (madeS (lowF kind5) s.data.toList).toArray) = x := ⟨_, rfl⟩
  rw [hLs] at PLs RLs
  have PUs := fun W h => Upper_any s W (by omega) h
  have RUs := fun W => rUpper_any s W (by omega)
  obtain ⟨xUs, hUs⟩ : ∃ x, (ByteArray.mk (madeS upF s.data.toList).toArray) = x := ⟨_, rfl⟩
  rw [hUs] at PUs RUs
  have PTs := fun W h => Title_any s W (by omega) h
  have RTs := fun W => rTitle_any s W (by omega)
  obtain ⟨xTs, hTs⟩ : ∃ x, (ByteArray.mk (madeS (titleF kind5) s.data.toList).toArray) = x := ⟨_, rfl⟩
  rw [hTs] at PTs RTs
  have PWs := fun W h => Swap_any s W (by omega) h
  have RWs := fun W => rSwap_any s W (by omega)
  obtain ⟨xWs, hWs⟩ : ∃ x, (ByteArray.mk (madeS swapF s.data.toList).toArray) = x := ⟨_, rfl⟩
  rw [hWs] at PWs RWs
  have PFs := fun W h => Fold_any s W fs h
  have RFs := fun W => rFold_any s W (by omega)
  obtain ⟨xFs, hFs⟩ : ∃ x, (ByteArray.mk (foldS s.data.toList).toArray) = x := ⟨_, rfl⟩
  rw [hFs] at PFs RFs
  have PLt := fun W h => Lower_any t W (by omega) h
  have RLt := fun W => rLower_any t W (by omega)
  obtain ⟨xLt, hLt⟩ : ∃ x, (ByteArray.mk (madeS (lowF kind5) t.data.toList).toArray) = x := ⟨_, rfl⟩
  rw [hLt] at PLt RLt
  have PTt := fun W h => Title_any t W (by omega) h
  have RTt := fun W => rTitle_any t W (by omega)
  obtain ⟨xTt, hTt⟩ : ∃ x, (ByteArray.mk (madeS (titleF kind5) t.data.toList).toArray) = x := ⟨_, rfl⟩
  rw [hTt] at PTt RTt
  have HLs := Lib.hid PLs
  have KLs := Lib.hid RLs
  have HUs := Lib.hid PUs
  have KUs := Lib.hid RUs
  have HTs := Lib.hid PTs
  have KTs := Lib.hid RTs
  have HWs := Lib.hid PWs
  have KWs := Lib.hid RWs
  have HFs := Lib.hid PFs
  have KFs := Lib.hid RFs
  have HLt := Lib.hid PLt
  have KLt := Lib.hid RLt
  have HTt := Lib.hid PTt
  have KTt := Lib.hid RTt
  have HE := Lib.hid hE
  clear fs hs ht hE PLs RLs hLs PUs RUs hUs PTs RTs hTs PWs RWs hWs PFs RFs hFs PLt RLt hLt PTt RTt hTt
  go_enter Tryz.func3, Tryz.ntmps3
  go_wp2_with fail
  refine (HLs.out w HE.out).mono ?_
  rintro _ w1 ⟨rfl, b1⟩
  have HE1 := Lib.hid (HE.out.below b1)
  have Hb1 := Lib.hid (b1)
  clear b1
  go_wp2_with fail
  refine (HUs.out w1 HE1.out).mono ?_
  rintro _ w2 ⟨rfl, b2⟩
  have HE2 := Lib.hid (HE1.out.below b2)
  have Hb2 := Lib.hid (Hb1.out.trans (b2.mono Hb1.out.size))
  clear b2
  go_wp2_with fail
  refine (HTs.out w2 HE2.out).mono ?_
  rintro _ w3 ⟨rfl, b3⟩
  have HE3 := Lib.hid (HE2.out.below b3)
  have Hb3 := Lib.hid (Hb2.out.trans (b3.mono Hb2.out.size))
  clear b3
  go_wp2_with fail
  refine (HLt.out w3 HE3.out).mono ?_
  rintro _ w4 ⟨rfl, b4⟩
  have HE4 := Lib.hid (HE3.out.below b4)
  have Hb4 := Lib.hid (Hb3.out.trans (b4.mono Hb3.out.size))
  clear b4
  go_wp2_with fail
  refine (KLt.out w4).mono ?_
  rintro _ w5 ⟨rfl, b5⟩
  have HE5 := Lib.hid (HE4.out.below b5)
  have Hb5 := Lib.hid (Hb4.out.trans (b5.mono Hb4.out.size))
  clear b5
  go_wp2_with fail
  refine (HTt.out w5 HE5.out).mono ?_
  rintro _ w6 ⟨rfl, b6⟩
  have HE6 := Lib.hid (HE5.out.below b6)
  have Hb6 := Lib.hid (Hb5.out.trans (b6.mono Hb5.out.size))
  clear b6
  go_wp2_with fail
  refine (KTt.out w6).mono ?_
  rintro _ w7 ⟨rfl, b7⟩
  have HE7 := Lib.hid (HE6.out.below b7)
  have Hb7 := Lib.hid (Hb6.out.trans (b7.mono Hb6.out.size))
  clear b7
  go_wp2_with fail
  refine (KLs.out w7).mono ?_
  rintro _ w8 ⟨rfl, b8⟩
  have HE8 := Lib.hid (HE7.out.below b8)
  have Hb8 := Lib.hid (Hb7.out.trans (b8.mono Hb7.out.size))
  clear b8
  go_wp2_with fail
  refine (KUs.out w8).mono ?_
  rintro _ w9 ⟨rfl, b9⟩
  have HE9 := Lib.hid (HE8.out.below b9)
  have Hb9 := Lib.hid (Hb8.out.trans (b9.mono Hb8.out.size))
  clear b9
  go_wp2_with fail
  refine (KTs.out w9).mono ?_
  rintro _ w10 ⟨rfl, b10⟩
  have HE10 := Lib.hid (HE9.out.below b10)
  have Hb10 := Lib.hid (Hb9.out.trans (b10.mono Hb9.out.size))
  clear b10
  go_wp2_with fail
  refine (HWs.out w10 HE10.out).mono ?_
  rintro _ w11 ⟨rfl, b11⟩
  have HE11 := Lib.hid (HE10.out.below b11)
  have Hb11 := Lib.hid (Hb10.out.trans (b11.mono Hb10.out.size))
  clear b11
  go_wp2_with fail
  refine (KWs.out w11).mono ?_
  rintro _ w12 ⟨rfl, b12⟩
  have HE12 := Lib.hid (HE11.out.below b12)
  have Hb12 := Lib.hid (Hb11.out.trans (b12.mono Hb11.out.size))
  clear b12
  go_wp2_with fail
  refine (HFs.out w12 HE12.out).mono ?_
  rintro _ w13 ⟨rfl, b13⟩
  have HE13 := Lib.hid (HE12.out.below b13)
  have Hb13 := Lib.hid (Hb12.out.trans (b13.mono Hb12.out.size))
  clear b13
  go_wp2_with fail
  refine (KFs.out w13).mono ?_
  rintro _ w14 ⟨rfl, b14⟩
  have HE14 := Lib.hid (HE13.out.below b14)
  have Hb14 := Lib.hid (Hb13.out.trans (b14.mono Hb13.out.size))
  clear b14
  go_wp2_with fail
  refine (works5_any w14 HE14.out).mono ?_
  rintro _ w15 ⟨rfl, b15⟩
  have HE15 := Lib.hid (HE14.out.below b15)
  have Hb15 := Lib.hid (Hb14.out.trans (b15.mono Hb14.out.size))
  clear b15
  go_wp2_with fail
  go_ret
  exact ⟨rfl, Hb15.out⟩
end Go.Proofs.YtjkakemlhhieoaaGreatDoor
