/- Layer 12, the law WordAt, over the program's contracts. (Made by tools/mkat12.py.) -/
import Derived.Test.YtiafofekobcifaaDoorHyW
import Derived.Test.YtiafofekobcifaaDoorAtW
set_option linter.unusedSimpArgs false
set_option linter.unusedVariables false
namespace Go.Proofs.YtiafofekobcifaaDoor
open Go.RowKit Go.Shelf Go.Lib

/-- all below Z is as it was -/
def OnW (Z : Nat) (w W : World) : Prop := Below Z w W ∧ Z ≤ W.heap.size
theorem OnW.on {Z : Nat} {w W W' : World} (h : OnW Z w W) (hb : Below W.heap.size W W') : OnW Z w W' := ⟨h.1.trans (hb.mono h.2), Nat.le_trans h.2 hb.size⟩
theorem OnW.drew {Z : Nat} {w W : World} (h : OnW Z w W) : OnW Z w W.drew := ⟨below_DW h.1, h.2⟩
set_option maxRecDepth 100000 in
set_option maxHeartbeats 16000000 in
theorem wordAt_any (H : WordP) (s : ByteArray) (A : Option Addr) (n c : Nat) (zs : List Int) (w : World) (hs : s.size ≤ 1073741824) (hT : Utf8Tabs 0 1 w) (hrd : Rd w w.heap.size 1 A n (zs.map (Value.int .i64))) (hn : n ≤ 1048576) (hnil : A = none → c = 0) :
    Calls Tryd.prog 4 #[.string s, .slice A n c] w fun e w' => e = .returned (.bool true) ∧ Below w.heap.size w w' := by
  obtain ⟨i0, hi, hz0, hz1, hz2⟩ := info_parts rint_info
  have Hal := Lib.hid (fun w hT => alive12_any H w hT)
  have Hat := Lib.hid (fun q w hT => H.at_ s q w hs hT)
  have Hra := Lib.hid (fun q w => rwat_any s q w hs)
  have His := Lib.hid (fun q w hT => H.is_ s q w hs hT)
  have Hri := Lib.hid (fun q w => rwis_any s q w hs)
  have Hnx := Lib.hid (fun q w hT => H.next s q w hs hT)
  have Hrn := Lib.hid (fun q w => rwnext_any s q w hs)
  have Hpv := Lib.hid (fun q w hT => H.prev s q w hs hT)
  have Hrp := Lib.hid (fun q w => rwprev_any s q w hs)
  have HT := Lib.hid hT
  have Hrd := Lib.hid hrd
  have hzl : zs.length = n := by have := hrd.1; simpa using this
  obtain ⟨Q, hQ⟩ : ∃ Q, w.heap.size = Q := ⟨_, rfl⟩
  have HQ := Lib.hid hQ
  have h2Q := tabs_size hT
  rw [hQ] at h2Q ⊢
  have Hzl := Lib.hid hzl
  clear hT hrd hQ hzl
  go_enter Tryd.func4, Tryd.ntmps4
  go_wp2_with (at_builtin; refine wpList_append_rd rfl (.tmp 12) (.tmp 13) 31 rfl Q 3 i0 _ 8 Tryd.underlying31 hi hz0 hz1 hz2 rfl _ 0 [] rfl (World.ownsRow_nil _ _ _ _) _ _ _ _ rfl hnil _ Hrd.out ?c1 ?c2 ?c3 ?c4 ?_)
  case c1 => simp [Value.oneCell']
  case c2 => unfold maxLen; omega
  case c3 => omega
  case c4 => rw [HQ.out]; exact Nat.le_refl _
  intro v2 w2 hown2 hg2
  have hown2 : w2.ownsRow Q 3 1 v2 n (zs.map (Value.int .i64)) := by simpa using hown2
  have hb2 : Below Q w w2 := (Below.refl Q w).grown hg2 (by rw [HQ.out]; exact Nat.le_refl _) (fun k hk => by cases hk)
  have Hown2 := Lib.hid hown2
  have Hb2 := Lib.hid hb2
  clear hown2 hg2 hb2 Hrd
  go_wp2_with fail
  go_loopw [5, 6] (fun v i wr => ∃ (k : Nat) (L : List Int), i = .int .i64 ((k : Int) - 1) ∧ wr.ownsRow Q 3 1 v L.length (L.map (Value.int .i64)) ∧ L.length = n + k ∧ k ≤ s.size + 3 ∧ (k = 0 ∨ s.size < 100) ∧ Below Q w wr) (fun _ i _ => s.size + 5 - (RowKit.intOf i + 1).toNat)
  case atStart => exact ⟨0, zs, rfl, by rw [Hzl.out]; exact Hown2.out, by rw [Hzl.out]; rfl, Nat.zero_le _, .inl rfl, Hb2.out⟩
  case round =>
    obtain ⟨k, L, rfl, hown, hL, hk, hk2, hbw⟩ := hrel
    have HwB : Hid (Q ≤ wr.heap.size) := Lib.hid (by have := hbw.size; have := HQ.out; omega)
    have hwl : IntKind.i64.wrap ((s.size : Int) + 1) = (s.size : Int) + 1 := IntWalk.i64_in _ (by omega)
    have Hown := Lib.hid hown
    have Hbw := Lib.hid hbw
    have HL := Lib.hid hL
    clear hown hbw hL
    have hcase : (((k : Int) - 1 ≤ (s.size : Int) + 1) ∧ ((s.size : Int) < 100)) ∨ (((k : Int) - 1 ≤ (s.size : Int) + 1) ∧ ¬ ((s.size : Int) < 100)) ∨ ¬ ((k : Int) - 1 ≤ (s.size : Int) + 1) := by omega
    rcases hcase with ⟨q1, q2⟩ | hno
    · have hlen : L.length ≤ 1048576 + 300 := by have := HL.out; omega
      go_wp2_with (at_builtin; refine wpList_append_own _ rfl _ _ 31 rfl Q 3 i0 _ 1 8 Tryd.underlying31 hi hz0 hz1 hz2 rfl (by decide) _ _ _ rfl (Hown.out.alloc _) ⟨wr.heap.size, 0, none⟩ 1 1 [.int .i64 ((k : Int) - 1)] rfl rfl ?c1 ?c2 ?c3 ?c4 ?c5 ?_)
      try (case c1 => exact new_cells wr [.int .i64 ((k : Int) - 1)] 3)
      case c2 => simp [Value.oneCell']
      case c3 => unfold maxLen; omega
      case c4 => omega
      case c5 => have := HwB.out; simp; omega
      intro v' w3 hown3 hg3 _
      have Hown3 := Lib.hid hown3
      clear hown3
      have hwk : IntKind.i64.wrap ((k : Int) - 1 + 1) = (((k + 1 : Nat) : Int) - 1) := by rw [IntWalk.i64_in _ (by omega)]; omega
      go_wp2
      go_roundw
      case rel =>
        refine ⟨k + 1, L ++ [(k : Int) - 1], by first | rfl | (congr 1; omega), ?_, by rw [List.length_append, HL.out]; rfl, by omega, .inr (by omega), (Hbw.out.alloc HwB.out _).grown hg3 (by have := HwB.out; simp; omega) (fun k hk => (Hown.out.lt k hk).1)⟩
        rw [List.map_append, List.length_append]
        exact Hown3.out
      case measure => simp only [RowKit.intOf]; omega
    · obtain ⟨Af, cf, rfl, _⟩ := own_shape Hown.out
      obtain ⟨wz, hwz⟩ : ∃ wz, wz = wr := ⟨_, rfl⟩
      subst hwz
      obtain ⟨Z, hZ⟩ : ∃ Z, wz.heap.size = Z := ⟨_, rfl⟩
      have HR := Lib.hid (show Rd wz Z 1 Af L.length (L.map (Value.int .i64)) from by rw [← hZ]; exact Rd.own Hown.out)
      have HTz := Lib.hid (show ∀ W, OnW Z wz W → Utf8Tabs 0 1 W ∧ Below Q w W from fun W h => by
        have hb := Hbw.out.trans (h.1.mono (by rw [← hZ]; exact HwB.out))
        exact ⟨Utf8Tabs_below HT.out (by rw [HQ.out]; exact hb), hb⟩)
      have HO0 := Lib.hid (show OnW Z wz wz from ⟨Below.refl _ _, by omega⟩)
      obtain ⟨M, hM⟩ : ∃ M, L.length = M := ⟨_, rfl⟩
      have hMle : M ≤ 1048576 + s.size + 3 := by rw [← hM, HL.out]; omega
      rw [hM] at HR ⊢
      have HM := Lib.hid hM
      clear hM Hown Hbw HwB HL hk hk2 Hown2 Hb2 hZ
      have hgo : (¬ ((k : Int) - 1 ≤ (s.size : Int) + 1)) ∨ (((k : Int) - 1 ≤ (s.size : Int) + 1) ∧ ¬ ((s.size : Int) < 100)) := by rcases hno with h | h; exact .inr h; exact .inl h
      clear hno
      rcases hgo with q1 | ⟨q1, q2⟩
      all_goals
        go_wp2_with fail
        go_loopw [7] (fun i wv => ∃ (j : Nat) (W : World), W = wv ∧ j ≤ M ∧ i = .int .i64 (j : Int) ∧ Hid (OnW Z wz W)) (fun i _ => M - (RowKit.intOf i).toNat)
        case atStart => exact ⟨0, _, rfl, Nat.zero_le _, rfl, HO0⟩
        case round =>
          clear HO0
          obtain ⟨j, W, hW, hj, rfl, HO⟩ := hrel
          subst hW
          have hcs : ((((j : Int) < (M : Int)) ∧ ((j : Int) < 200) ∧ ((j : Int) < 5)) ∨ (((j : Int) < (M : Int)) ∧ ((j : Int) < 200) ∧ ¬ ((j : Int) < 5) ∧ ((s.size : Int) < 4000))) ∨
              ((((j : Int) < (M : Int)) ∧ ((j : Int) < 200) ∧ ¬ ((j : Int) < 5) ∧ ¬ ((s.size : Int) < 4000)) ∨ (((j : Int) < (M : Int)) ∧ ¬ ((j : Int) < 200)) ∨ ¬ ((j : Int) < (M : Int))) := by omega
          rcases hcs with hgo | hend
          · have hjM : j < M := by omega
            obtain ⟨q, hq⟩ : ∃ q, L[j]? = some q := ⟨_, List.getElem?_eq_getElem (by rw [HM.out]; omega)⟩
            obtain ⟨a, rfl, hab, g0⟩ := Rd.addr HR.out (by omega)
            have Hg := Lib.hid (show ∀ W', OnW Z wz W' → W'.cell? (a.add j) = some (.int .i64 q) from fun W' h => (h.1.cell (p := a.add j) (by rw [add_block]; exact hab)).trans (g0 j (.int .i64 q) (by simp [hq])))
            obtain ⟨xy, hxy⟩ : ∃ xy, atW s q = xy := ⟨_, rfl⟩
            obtain ⟨x, y⟩ := xy
            obtain ⟨bq, hbq⟩ : ∃ b, isW s q = b := ⟨_, rfl⟩
            obtain ⟨nx, hnx⟩ : ∃ b, nextW s q = b := ⟨_, rfl⟩
            obtain ⟨pv, hpv⟩ : ∃ b, prevW s q = b := ⟨_, rfl⟩
            have Fat := Hat.out q
            have Fra := Hra.out q
            have Fis := His.out q
            have Fri := Hri.out q
            have Fnx := Hnx.out q
            have Frn := Hrn.out q
            have Fpv := Hpv.out q
            have Frp := Hrp.out q
            rw [hxy] at Fat Fra
            rw [hbq] at Fis Fri
            rw [hnx] at Fnx Frn
            rw [hpv] at Fpv Frp
            have Fat := Lib.hid Fat
            have Fra := Lib.hid Fra
            have Fis := Lib.hid Fis
            have Fri := Lib.hid Fri
            have Fnx := Lib.hid Fnx
            have Frn := Lib.hid Frn
            have Fpv := Lib.hid Fpv
            have Frp := Lib.hid Frp
            have e1 : ((x : Int) != (x : Int)) = false := by simp
            have e2 : ((y : Int) != (y : Int)) = false := by simp
            have e3 : (x != x) = false := by simp
            have e4 : (y != y) = false := by simp
            have e5 : (bq != bq) = false := by simp
            have e6 : ((nx : Int) != (nx : Int)) = false := by simp
            have e7 : ((pv : Int) != (pv : Int)) = false := by simp
            have e8 : (nx != nx) = false := by simp
            have e9 : (pv != pv) = false := by simp
            have g1 := Hg.out W HO.out
            have hnext : IntKind.i64.wrap ((j : Int) + 1) = (j : Int) + 1 := IntWalk.i64_in _ (by omega)
            clear hq hxy hbq hnx hpv g0
            rcases hgo with ⟨p1, p2, p3⟩ | ⟨p1, p2, p3, p4⟩
            all_goals
              go_wp2_with fail
              refine (Fat.out _ (HTz.out _ HO.out).1).mono ?_
              rintro _ w4 ⟨rfl, b4⟩
              have O := Lib.hid (HO.out.on b4)
              have g2 := Hg.out _ O.out
              clear b4 g1
              go_wp2_with fail
              refine (Fra.out _).mono ?_
              rintro _ w5 ⟨rfl, b5⟩
              have O := Lib.hid (O.out.on b5).drew
              have g3 := Hg.out _ O.out
              clear b5 g2
              go_wp2_with fail
              go_region_held3 (fun W' => W'.cell? (a.add j) = some (.int .i64 q))
                (first | exact Hg.out _ O.out)
                (first
                  | (go_simp; go_at_call 13; with_reducible_and_instances refine (Fis.out _ (HTz.out _ O.out).1).mono ?_; rintro e6 w6 ⟨rfl, b6⟩; have O := Lib.hid (O.out.on b6); clear b6)
                  | (go_simp; go_at_call 14; with_reducible_and_instances refine (Fri.out _).mono ?_; rintro e6 w6 ⟨rfl, b6⟩; have O := Lib.hid (O.out.on b6); clear b6)
                  | (go_simp; go_at_call 15; with_reducible_and_instances refine (Fnx.out _ (HTz.out _ O.out).1).mono ?_; rintro e6 w6 ⟨rfl, b6⟩; have O := Lib.hid (O.out.on b6); clear b6)
                  | (go_simp; go_at_call 16; with_reducible_and_instances refine (Frn.out _).mono ?_; rintro e6 w6 ⟨rfl, b6⟩; have O := Lib.hid (O.out.on b6); clear b6)
                  | (go_simp; go_at_call 17; with_reducible_and_instances refine (Fpv.out _ (HTz.out _ O.out).1).mono ?_; rintro e6 w6 ⟨rfl, b6⟩; have O := Lib.hid (O.out.on b6); clear b6)
                  | (go_simp; go_at_call 18; with_reducible_and_instances refine (Frp.out _).mono ?_; rintro e6 w6 ⟨rfl, b6⟩; have O := Lib.hid (O.out.on b6); clear b6))
              go_wp2_with fail
              go_roundw
              case rel => exact ⟨j + 1, _, rfl, by omega, by first | rfl | go_num, O⟩
              case measure => simp [RowKit.intOf]; omega
          · rcases hend with ⟨p1, p2, p3, p4⟩ | ⟨p1, p2⟩ | p1
            all_goals
              go_wp2_with fail
              refine (Hal.out _ (HTz.out _ HO.out).1).mono ?_
              rintro _ w9 ⟨rfl, b9⟩
              go_wp2_with fail
              go_ret
              exact ⟨rfl, (HTz.out _ (HO.out.on b9)).2⟩
end Go.Proofs.YtiafofekobcifaaDoor
