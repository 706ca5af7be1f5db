/- Layer 9, the laws' helpers: kinds, letter, resolves, brackets, alive. -/
import Derived.Test.YtkcckophnamajaaPRs9
import Derived.Deep.QuietTactic
import Derived.BigQuiet
import Derived.Maps.AppendAt
import Derived.Laws.IdiomStrings
set_option linter.unusedSimpArgs false
set_option linter.unusedVariables false
namespace Go.Proofs.Ytkcckophnamajaa
open Go.RowKit Go.Lib

def rcap9 (zs : List Int) (W : World) : Nat := grownCap W zs.length 0 21
def rworld9 (zs : List Int) (W : World) : World := W.drew.alloc (.cells ((zs.map (Value.int .i32)).toArray ++ Array.replicate (rcap9 zs W - zs.length) (.int .i32 0)) 21)
theorem conv_lit9 (s : ByteArray) (zs : List Int) (h : Conv.runesFrom s s.size 0 #[] = (zs.map (Value.int .i32)).toArray) (hs : zs.length ≤ 70368744177664) (W : World) : (convert 9 22 (.string s)).run Try.prog W = .ok (.slice (some ⟨W.heap.size, 0, none⟩) zs.length (rcap9 zs W)) (rworld9 zs W) ∧ RdR (rworld9 zs W) (some ⟨W.heap.size, 0, none⟩) zs.length zs ∧ Below W.heap.size W (rworld9 zs W) ∧ zs.length ≤ rcap9 zs W := by
  have hcv := run_runes_of_string (P := Try.prog) W 9 22 21 s Try.underlying9 Try.underlying22 Try.underlying21 (by rw [h]; simpa using hs)
  rw [h] at hcv
  simp only [List.size_toArray, List.length_map] at hcv
  refine ⟨hcv, ⟨by simp, .inr ⟨_, rfl, ?_, fun j u hu => ?_⟩⟩, (Below.refl _ W).drew.alloc (Nat.le_refl _) _, grownCap_ge _ _ _ _⟩
  · show W.heap.size < (W.drew.alloc _).heap.size
    rw [World.size_alloc]
    exact Nat.lt_succ_self _
  · have h1 := new_cells W.drew (zs.map (Value.int .i32) ++ List.replicate (rcap9 zs W - zs.length) (Value.int .i32 0)) 21 j u (by
      rw [List.getElem?_append_left (by have := (List.getElem?_eq_some_iff.1 hu).1; simpa using this)]
      exact hu)
    have e : (zs.map (Value.int .i32) ++ List.replicate (rcap9 zs W - zs.length) (Value.int .i32 0)).toArray = (zs.map (Value.int .i32)).toArray ++ Array.replicate (rcap9 zs W - zs.length) (Value.int .i32 0) := by simp
    rw [e] at h1
    exact h1
/-- what holds between two characters -/
structure KdS (w : World) (Q : Nat) (zs : List Int) (i c : Nat) (A : Option Addr) (W : World) : Prop where
  ow : W.ownsRow Q 33 1 (.slice A i c) i (i8s ((zs.take i).map dz9))
  be : Below Q w W
set_option maxRecDepth 100000 in
set_option maxHeartbeats 2000000 in
theorem kinds_any9 (A : Option Addr) (n c : Nat) (zs : List Int) (w : World) (hr : RdR w A n zs) (hn : n ≤ 1048576) :
    Calls Try.prog 42 #[.slice A n c] w fun e w' => ∃ A' c', e = .returned (.slice A' n c') ∧ n ≤ c' ∧ w'.ownsRow w.heap.size 33 1 (.slice A' n c') n (i8s (zs.map dz9)) ∧ Below w.heap.size w w' := by
  obtain ⟨i0, hi, hz0, hz1, hz2⟩ := info_parts i8_info
  have hl := hr.len
  have HD := Lib.hid (show ∀ x w, Calls Try.prog 63 #[.int .i32 x] w fun e w' => e = .returned (.int .i8 (dz9 x)) ∧ Below w.heap.size w w' from Dir_any)
  obtain ⟨Q, hQ⟩ : ∃ Q, w.heap.size = Q := ⟨_, rfl⟩
  have Hr := Lib.hid (show ∀ W, Below Q w W → RdR W A n zs from fun W hb => hr.below (by rw [hQ]; exact hb))
  have H0 := Lib.hid (show KdS w Q zs 0 0 none w from ⟨World.ownsRow_nil _ _ _ _, Below.refl _ _⟩)
  have HQ := Lib.hid hQ
  rw [hQ]
  obtain ⟨F, hF⟩ : ∃ F, i8s (zs.map dz9) = F := ⟨_, rfl⟩
  rw [hF]
  have HF := Lib.hid hF
  clear hr hQ hF
  go_enter Try.func42, Try.ntmps42
  go_wp2_with fail
  go_loopw [3, 4] (fun y x wr => ∃ (i c' : Nat) (A' : Option Addr) (W : World), W = wr ∧ y = .slice A' i c' ∧ x = .int .i64 (i : Int) ∧ i ≤ n ∧ Hid (KdS w Q zs i c' A' W)) (fun _ x _ => n - (RowKit.intOf x).toNat)
  case atStart => exact ⟨0, 0, none, _, rfl, rfl, rfl, Nat.zero_le _, H0⟩
  case round =>
    obtain ⟨i, c', A', W, hW, rfl, rfl, hin, HI⟩ := hrel
    subst hW
    rcases Nat.lt_or_ge i n with hlt | hge
    · obtain ⟨r, hri⟩ : ∃ r, zs[i]? = some r := ⟨_, List.getElem?_eq_getElem (by omega)⟩
      obtain ⟨ar, hA, _, harb, hcr⟩ := (Hr.out W HI.out.be).at hri
      subst hA
      have hini : (i : Int) < (n : Int) := by omega
      have hnext : IntKind.i64.wrap ((i : Int) + 1) = (i : Int) + 1 := IntWalk.i64_in _ (by omega)
      have HT := Lib.hid (show i8s ((zs.take i).map dz9) ++ [.int .i8 (dz9 r)] = i8s ((zs.take (i + 1)).map dz9) by rw [List.take_add_one, hri]; simp [i8s])
      obtain ⟨d, hd⟩ : ∃ d, dz9 r = d := ⟨_, rfl⟩
      have HDr := Lib.hid (show ∀ W', Calls Try.prog 63 #[.int .i32 r] W' fun e w' => e = .returned (.int .i8 d) ∧ Below W'.heap.size W' w' from fun W' => by have := HD.out r W'; rw [hd] at this; exact this)
      rw [hd] at HT
      have HQW := Lib.hid (show Q ≤ W.heap.size from by have := HI.out.be.size; have := HQ.out; omega)
      clear hri harb hd
      go_wp2_with fail
      refine (HDr.out _).mono ?_
      rintro _ w9 ⟨rfl, h9⟩
      obtain ⟨X, hX⟩ : ∃ X, i8s ((zs.take i).map dz9) = X := ⟨_, rfl⟩
      have H9 := Lib.hid (show w9.ownsRow Q 33 1 (.slice A' i c') i X ∧ Below Q w w9 ∧ Q ≤ w9.heap.size from ⟨by rw [← hX]; exact own_below HI.out.ow h9, HI.out.be.trans (h9.mono HQW.out), by have := h9.size; have := HQW.out; omega⟩)
      rw [hX] at HT
      clear h9 HI hX
      go_wp2_with (at_builtin; refine wpList_append_own_at _ rfl _ _ 23 rfl Q 33 i0 _ 1 1 Try.underlying23 hi hz0 hz1 hz2 rfl (by decide) _ _ _ rfl (H9.out.1.alloc _) ⟨w9.heap.size, 0, none⟩ 1 1 [.int .i8 d] rfl rfl ?d1 ?d2 ?d3 ?d4 ?d5 ?_)
      try (case d1 => exact new_cells w9 [.int .i8 d] 33)
      case d2 => simp [Value.oneCell']
      case d3 => unfold maxLen; omega
      case d4 => omega
      case d5 => rw [World.size_alloc]; have := H9.out.2.2; omega
      intro v2 w2 o2 g2 _ _
      obtain ⟨A2, c2, hv2, _, _⟩ := own_shape o2
      subst hv2
      have HN := Lib.hid (show KdS w Q zs (i + 1) c2 A2 w2 from ⟨by rw [← HT.out]; exact o2, (H9.out.2.1.alloc H9.out.2.2 _).grown g2 (by rw [World.size_alloc]; have := H9.out.2.2; omega) (fun q hq => (H9.out.1.lt q hq).1)⟩)
      clear o2 g2 H9
      go_wp2_with fail
      go_roundw
      case rel => exact ⟨i + 1, c2, A2, _, rfl, rfl, by first | rfl | go_num, hlt, HN⟩
      case measure => simp [RowKit.intOf]; omega
    · obtain rfl : i = n := by omega
      have hnn : ¬ (i : Int) < (i : Int) := by omega
      have HE := Lib.hid (show i ≤ c' ∧ W.ownsRow Q 33 1 (.slice A' i c') i F ∧ Below Q w W from by
        have h := HI.out
        refine ⟨(own_caps h.ow).1, ?_, h.be⟩
        have h1 := h.ow
        rw [← hl, List.take_length, hl, HF.out] at h1
        exact h1)
      clear hin hge HI
      go_wp2_with fail
      go_ret
      exact ⟨_, _, rfl, HE.out⟩
def letZ (k : Int) : Int := if k = 0 then 76 else if k = 1 then 82 else if k = 3 then 69 else if k = 6 then 65 else 63
theorem letter_any9 (k : Int) (w : World) : Calls Try.prog 43 #[.int .i8 k] w fun e w' => e = .returned (.int .u8 (letZ k)) ∧ w' = w := by
  by_cases k0 : k = 0
  · subst k0
    go_enter Try.func43, Try.ntmps43
    go_wp2
    go_ret
    exact ⟨rfl, rfl⟩
  have b0 : (k == 0) = false := by simpa using k0
  by_cases k1 : k = 1
  · subst k1
    go_enter Try.func43, Try.ntmps43
    go_wp2
    go_ret
    exact ⟨rfl, rfl⟩
  have b1 : (k == 1) = false := by simpa using k1
  by_cases k3 : k = 3
  · subst k3
    go_enter Try.func43, Try.ntmps43
    go_wp2
    go_ret
    exact ⟨rfl, rfl⟩
  have b3 : (k == 3) = false := by simpa using k3
  by_cases k6 : k = 6
  · subst k6
    go_enter Try.func43, Try.ntmps43
    go_wp2
    go_ret
    exact ⟨rfl, rfl⟩
  have b6 : (k == 6) = false := by simpa using k6
  have e : letZ k = 63 := by simp [letZ, k0, k1, k3, k6]
  rw [e]
  clear k0 k1 k3 k6 e
  go_enter Try.func43, Try.ntmps43
  go_wp2
  go_ret
  exact ⟨rfl, rfl⟩
set_option maxRecDepth 100000 in
set_option maxHeartbeats 4000000 in
theorem resolves_any9 (s want : ByteArray) (zs L : List Int) (lv sos eos : Int) (h0 : 0 ≤ lv) (hz : Conv.runesFrom s s.size 0 #[] = (zs.map (Value.int .i32)).toArray) (hzl : zs.length ≤ 1048576) (hL : rsZ pairOf nsm9 zs (zs.map dz9) lv sos eos = L) (hw : want.size = zs.length)
    (hx : ∀ (i : Nat) k, L[i]? = some k → ∀ W, (Instr.index 9 (.string want) (.int .i64 (i : Int))).run Try.prog W = .ok (.int .u8 (letZ k)) W) (w : World) :
    Calls Try.prog 27 #[.string s, .int .u8 lv, .int .i8 sos, .int .i8 eos, .string want] w fun e w' => e = .returned (.bool true) ∧ Below w.heap.size w w' := by
  have HLe := Lib.hid letter_any9
  obtain ⟨hcv, hrd, hbe, hrc⟩ := conv_lit9 s zs hz (by omega) w
  have hcvN := hcv
  obtain ⟨n, hn⟩ : ∃ n, zs.length = n := ⟨_, rfl⟩
  rw [hn] at hcvN hrd hrc hzl hw
  obtain ⟨cr, hcr⟩ : ∃ cr, rcap9 zs w = cr := ⟨_, rfl⟩
  rw [hcr] at hcvN hrc
  obtain ⟨V, hV⟩ : ∃ V, rworld9 zs w = V := ⟨_, rfl⟩
  rw [hV] at hcvN hrd hbe
  have hLl : L.length = n := by rw [← hL, rsZ_len, List.length_map, Nat.min_self, hn]
  obtain ⟨Q, hQ⟩ : ∃ Q, w.heap.size = Q := ⟨_, rfl⟩
  rw [hQ] at hcvN hrd hbe ⊢
  have HK := Lib.hid (kinds_any9 (some ⟨Q, 0, none⟩) n cr zs V hrd hzl)
  have HRs := Lib.hid (fun (W : World) (A : Option Addr) (c : Nat) (hr : RdR W (some ⟨Q, 0, none⟩) n zs) (hk : RdK W A n (zs.map dz9)) (hc : n ≤ c) => presolve_any9 (some ⟨Q, 0, none⟩) A n cr n c zs (zs.map dz9) lv sos eos W hr hk (by omega) hrc hc h0)
  rw [hL] at HRs
  have HV := Lib.hid (show Below Q w V ∧ RdR V (some ⟨Q, 0, none⟩) n zs ∧ Q ≤ V.heap.size from ⟨hbe, hrd, by have := hbe.size; omega⟩)
  have HX := Lib.hid hx
  have HLl := Lib.hid hLl
  have hwi : ((n : Int) != (want.size : Int)) = false := by rw [hw]; simp
  have Hw := Lib.hid hw
  have hcv9 : (convert 9 22 (.string s)).run Try.prog w = .ok (.slice (some ⟨Q, 0, none⟩) n cr) V := hcvN
  clear hcv hcvN hrd hbe hrc hcr hV hn hL hx hLl hQ hz hw
  go_enter Try.func27, Try.ntmps27
  go_wp2_with fail
  refine (HK.out).mono ?_
  rintro _ w1 ⟨A1, c1, rfl, hnc1, o1, b1⟩
  have H1 := Lib.hid (show Below Q w w1 ∧ RdR w1 (some ⟨Q, 0, none⟩) n zs ∧ RdK w1 A1 n (zs.map dz9) ∧ Q ≤ w1.heap.size from ⟨HV.out.1.trans (b1.mono HV.out.2.2), HV.out.2.1.below b1, RdK.own o1, by have := b1.size; have := HV.out.2.2; omega⟩)
  have HRv := Lib.hid (HRs.out w1 A1 c1 H1.out.2.1 H1.out.2.2.1 hnc1)
  rw [Nat.min_self] at HRv
  clear o1 b1 HRs
  go_wp2_with fail
  refine (HRv.out).mono ?_
  rintro _ w2 ⟨A2, c2, rfl, o2, b2⟩
  have H2 := Lib.hid (show Below Q w w2 ∧ RdK w2 A2 n L from ⟨H1.out.1.trans (b2.mono H1.out.2.2.2), RdK.own o2⟩)
  clear o2 b2 H1 HRv
  go_wp2_with fail
  go_loopw [13] (fun x wr => ∃ (i : Nat) (W : World), W = wr ∧ x = .int .i64 (i : Int) ∧ i ≤ n ∧ Hid (Below Q w W ∧ RdK W A2 n L)) (fun x _ => n - (RowKit.intOf x).toNat)
  case atStart => exact ⟨0, _, rfl, rfl, Nat.zero_le _, H2⟩
  case round =>
    obtain ⟨i, W, hW, rfl, hin, HI⟩ := hrel
    subst hW
    rcases Nat.lt_or_ge i n with hlt | hge
    · obtain ⟨k, hk⟩ : ∃ k, L[i]? = some k := ⟨_, List.getElem?_eq_getElem (by rw [HLl.out]; exact hlt)⟩
      obtain ⟨ak, hA, _, _, hck⟩ := HI.out.2.get hk
      subst hA
      have hidx := HX.out i k hk
      have HLk := Lib.hid (fun W' => HLe.out k W')
      obtain ⟨z, hz⟩ : ∃ z, letZ k = z := ⟨_, rfl⟩
      rw [hz] at hidx HLk
      have hckD : W.drew.cell? (ak.add i) = some (.int .i8 k) := hck
      have hzz : (z != z) = false := by simp
      have hini : (i : Int) < (n : Int) := by omega
      have hnext : IntKind.i64.wrap ((i : Int) + 1) = (i : Int) + 1 := IntWalk.i64_in _ (by omega)
      clear hk hz
      go_wp2_with fail
      go_region_with (first | (go_at_call 43; refine (HLk.out _).mono ?_; rintro e3 w3 ⟨rfl, h3⟩; obtain rfl := h3.symm))
      all_goals (
        go_wp2_with fail
        go_roundw
        case rel => exact ⟨i + 1, _, rfl, by first | rfl | go_num, hlt, Lib.hid ⟨below_DD HI.out.1, HI.out.2⟩⟩
        case measure => simp [RowKit.intOf]; omega)
    · obtain rfl : i = n := by omega
      have hnn : ¬ (i : Int) < (i : Int) := by omega
      clear hin hge
      go_wp2_with fail
      go_ret
      exact ⟨rfl, HI.out.1⟩
end Go.Proofs.Ytkcckophnamajaa
