/- Layer 8, the document: Step whole, Resolve. -/
import Derived.Test.YtajpkidjdebolaaRefE8
set_option linter.unusedSimpArgs false
set_option linter.unusedVariables false
namespace Go.Proofs.Ytajpkidjdebolaa
open Go.RowKit Go.Lib

set_option maxRecDepth 100000 in
set_option maxHeartbeats 2000000 in
theorem rstep1_any (A : Option Addr) (n c : Nat) (s : Int) (zs : List Int) (w : World) (hrd : Rd w w.heap.size 1 A n (i8s zs)) (hn : n ≤ 140737488355328) :
    Calls Try.prog 16 #[.int .i64 1, .slice A n c, .int .i8 s] w (NewAt n (oneZ 1 s zs) w) := by
  have HC := Lib.hid (listed_any A n c zs w hrd hn)
  unfold NewAt at HC ⊢
  obtain ⟨Q, hQ⟩ : ∃ Q, w.heap.size = Q := ⟨_, rfl⟩
  rw [hQ] at HC ⊢
  have HQ := Lib.hid hQ
  clear hrd hQ
  go_enter Try.func16, Try.ntmps16
  go_wp2_with fail
  refine HC.out.mono ?_
  rintro _ w1 ⟨A1, c1, rfl, hown1, hb1⟩
  have HM := Lib.hid (rmarks_any Q A1 n c1 s (cntL zs) w1 hown1)
  have Hk := Lib.hid (fun (w' : World) (hg : w1.grownBy w' (Value.ownBlock (.slice A1 n c1))) => hb1.grown hg (by have := hb1.size; have := HQ.out; omega) (fun k hk => (hown1.lt k hk).1))
  clear hown1 hb1
  go_wp2_with fail
  refine HM.out.mono ?_
  rintro _ w2 ⟨rfl, h2, h3⟩
  have HF := Lib.hid (show _ ∧ _ from ⟨h2, Hk.out w2 h3⟩)
  clear h2 h3
  go_wp2_with fail
  go_ret
  exact ⟨_, _, rfl, HF.out⟩
set_option maxRecDepth 100000 in
set_option maxHeartbeats 2000000 in
theorem rstep5_any (A : Option Addr) (n c : Nat) (s : Int) (zs : List Int) (w : World) (hrd : Rd w w.heap.size 1 A n (i8s zs)) (hn : n ≤ 140737488355328) :
    Calls Try.prog 16 #[.int .i64 5, .slice A n c, .int .i8 s] w (NewAt n (oneZ 5 s zs) w) := by
  have HC := Lib.hid (listed_any A n c zs w hrd hn)
  unfold NewAt at HC ⊢
  obtain ⟨Q, hQ⟩ : ∃ Q, w.heap.size = Q := ⟨_, rfl⟩
  rw [hQ] at HC ⊢
  have HQ := Lib.hid hQ
  clear hrd hQ
  go_enter Try.func16, Try.ntmps16
  go_wp2_with fail
  refine HC.out.mono ?_
  rintro _ w1 ⟨A1, c1, rfl, hown1, hb1⟩
  have HM := Lib.hid (rterms_any Q A1 n c1 (cntL zs) w1 hown1)
  have Hk := Lib.hid (fun (w' : World) (hg : w1.grownBy w' (Value.ownBlock (.slice A1 n c1))) => hb1.grown hg (by have := hb1.size; have := HQ.out; omega) (fun k hk => (hown1.lt k hk).1))
  clear hown1 hb1
  go_wp2_with fail
  refine HM.out.mono ?_
  rintro _ w2 ⟨rfl, h2, h3⟩
  have HF := Lib.hid (show _ ∧ _ from ⟨h2, Hk.out w2 h3⟩)
  clear h2 h3
  go_wp2_with fail
  go_ret
  exact ⟨_, _, rfl, HF.out⟩
theorem rstep_any (k : Int) (A : Option Addr) (n c : Nat) (s : Int) (zs : List Int) (w : World) (hrd : Rd w w.heap.size 1 A n (i8s zs)) (hn : n ≤ 140737488355328) :
    Calls Try.prog 16 #[.int .i64 k, .slice A n c, .int .i8 s] w (NewAt n (oneZ k s zs) w) := by
  by_cases h1 : k = 1
  · subst h1; exact rstep1_any A n c s zs w hrd hn
  by_cases h2 : k = 2
  · subst h2; exact rstep2_any A n c s zs w hrd hn
  by_cases h3 : k = 3
  · subst h3; exact rstep3_any A n c s zs w hrd hn
  by_cases h4 : k = 4
  · subst h4; exact rstep4_any A n c s zs w hrd hn
  by_cases h5 : k = 5
  · subst h5; exact rstep5_any A n c s zs w hrd hn
  by_cases h6 : k = 6
  · subst h6; exact rstep6_any A n c s zs w hrd hn
  by_cases h7 : k = 7
  · subst h7; exact rstep7_any A n c s zs w hrd hn
  have hk : k.toNat = 0 ∨ 7 < k.toNat := by omega
  have e : oneZ k s zs = cntL zs := by unfold oneZ; rw [stepZ_off hk]
  rw [e]
  exact rstepo_any k k.toNat A n c s zs w hrd hn hk (by simpa using h1) (by simpa using h2) (by simpa using h3) (by simpa using h4) (by simpa using h5) (by simpa using h6) (by simpa using h7)
/-- a step of what the rules made by then -/
theorem oneZ_next (i : Nat) (s : Int) (zs : List Int) : oneZ (((i + 1 : Nat) : Int)) s (uptoZ i (sideZ s) (cntL zs)) = uptoZ (i + 1) (sideZ s) (cntL zs) := by
  unfold oneZ
  rw [cntL_id (uptoZ_in i _ (sideZ_two s) _ (cntL_in zs))]
  rfl
set_option maxRecDepth 100000 in
set_option maxHeartbeats 2000000 in
theorem rresolve_any (A : Option Addr) (n c : Nat) (s : Int) (zs : List Int) (w : World) (hrd : Rd w w.heap.size 1 A n (i8s zs)) (hn : n ≤ 140737488355328) :
    Calls Try.prog 9 #[.slice A n c, .int .i8 s] w (NewAt n (resZ s zs) w) := by
  have HC := Lib.hid (listed_any A n c zs w hrd hn)
  obtain ⟨R, hR⟩ : ∃ R, resZ s zs = R := ⟨_, rfl⟩
  have HR7 := Lib.hid (show uptoZ 7 (sideZ s) (cntL zs) = R from hR)
  have HS := Lib.hid (fun (i : Nat) A c w h => rstep_any ((i + 1 : Nat) : Int) A n c s (uptoZ i (sideZ s) (cntL zs)) w h hn)
  rw [hR]
  unfold NewAt at HC HS ⊢
  obtain ⟨Q, hQ⟩ : ∃ Q, w.heap.size = Q := ⟨_, rfl⟩
  rw [hQ] at HC ⊢
  have HQ := Lib.hid hQ
  clear hrd hQ hR
  go_enter Try.func9, Try.ntmps9
  go_wp2_with fail
  refine HC.out.mono ?_
  rintro _ w1 ⟨A1, c1, rfl, hown1, hb1⟩
  have H1 := Lib.hid (show w1.ownsRow Q 23 1 (.slice A1 n c1) n (i8s (uptoZ 0 (sideZ s) (cntL zs))) ∧ Below Q w w1 from ⟨hown1, hb1⟩)
  clear hown1 hb1
  go_wp2_with fail
  go_loopw [5, 6] (fun v x wr => ∃ (i : Nat) (A1 : Option Addr) (c1 : Nat) (W : World), W = wr ∧ v = .slice A1 n c1 ∧ x = .int .i64 ((i + 1 : Nat) : Int) ∧ i ≤ 7 ∧ Hid (W.ownsRow Q 23 1 (.slice A1 n c1) n (i8s (uptoZ i (sideZ s) (cntL zs))) ∧ Below Q w W)) (fun _ x _ => 8 - (RowKit.intOf x).toNat)
  case atStart => exact ⟨0, A1, c1, _, rfl, rfl, rfl, by omega, H1⟩
  case round =>
    obtain ⟨i, A1, c1, W, hW, rfl, rfl, hi, HW⟩ := hrel
    subst hW
    by_cases h7 : i = 7
    · subst h7
      go_wp2_with fail
      go_ret
      refine ⟨_, _, rfl, ?_, HW.out.2⟩
      rw [← HR7.out]
      exact HW.out.1
    · have HSi := Lib.hid (HS.out i A1 c1 W (Rd.own HW.out.1))
      rw [oneZ_next] at HSi
      have hQW : Q ≤ W.heap.size := by have := HW.out.2.size; have := HQ.out; omega
      have HbW := Lib.hid HW.out.2
      obtain ⟨j, hj⟩ : ∃ j, i + 1 = j := ⟨_, rfl⟩
      rw [hj] at HSi ⊢
      have hj7 : (j : Int) ≤ 7 := by omega
      have hwj : IntKind.i64.wrap ((j : Int) + 1) = (j : Int) + 1 := IntWalk.i64_in _ (by omega)
      have hji : j ≤ 7 := by omega
      clear hj h7 hi HW
      go_wp2_with fail
      refine HSi.out.mono ?_
      rintro _ w3 ⟨A3, c3, rfl, h3, h4⟩
      have HN := Lib.hid (show w3.ownsRow Q 23 1 (.slice A3 n c3) n (i8s (uptoZ j (sideZ s) (cntL zs))) ∧ Below Q w w3 from ⟨own_base h3 hQW, HbW.out.trans (h4.mono hQW)⟩)
      clear h3 h4
      go_wp2_with fail
      go_roundw
      case rel => exact ⟨j, A3, c3, _, rfl, rfl, by first | rfl | go_num, hji, HN⟩
      case measure => simp [RowKit.intOf]; omega
end Go.Proofs.Ytajpkidjdebolaa
