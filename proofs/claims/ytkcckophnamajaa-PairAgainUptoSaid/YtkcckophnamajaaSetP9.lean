/- Layer 9, the program: settlePair. (Made by tools/mkset9.py.) -/
import Derived.Test.YtkcckophnamajaaPgA9
import Derived.Test.YtkcckophnamajaaInst9
set_option linter.unusedSimpArgs false
set_option linter.unusedVariables false
namespace Go.Proofs.Ytkcckophnamajaa
open Go.RowKit Go.Lib

theorem grown_of_below {w W W' : World} {row : Option Nat} (h : w.grownBy W row) (hb : Below W.heap.size W W') : w.grownBy W' row :=
  h.trans ⟨hb.os, hb.tape, hb.output, hb.size, fun q hq _ => hb.block q hq⟩
theorem grown_N {w V : World} {row : Option Nat} (h : w.grownBy V row) (k : Nat) : w.grownBy (V.drewN k) row := ⟨h.os, h.tape, h.output, h.size, h.block⟩
theorem grown_D {w V : World} {row : Option Nat} (h : w.grownBy V row) : w.grownBy V.drew row := ⟨h.os, h.tape, h.output, h.size, h.block⟩
/-- neutral kinds are one -/
def Nrm (l : List Int) : Prop := ∀ k ∈ l, k = 13 ↔ neuZ k = true
theorem nrm_bec {nsm : Int → Bool} {rs l : List Int} {i : Nat} {v : Int} (hv : v = 0 ∨ v = 1) (h : Nrm l) : Nrm (becZ nsm rs l i v) := by
  have hvn : v = 13 ↔ neuZ v = true := by rcases hv with rfl | rfl <;> decide
  intro k hk
  obtain ⟨j, hj⟩ := List.getElem?_of_mem hk
  rcases becZ_at nsm rs l i v j with h1 | ⟨_, _, h1⟩ | ⟨_, _, _, h1⟩
  · rw [h1] at hj
    exact h k (List.mem_of_getElem? hj)
  · rw [h1] at hj
    injection hj with hj
    rw [← hj]; exact hvn
  · rw [h1] at hj
    injection hj with hj
    rw [← hj]; exact hvn
theorem becZ_parts (nsm : Int → Bool) (rs p t : List Int) (x v : Int) {i : Nat} (hi : p.length = i) : becZ nsm rs (p ++ x :: t) i v = p ++ v :: runZ nsm v (rs.drop (i + 1)) t := by
  unfold becZ
  rw [← hi, List.take_left, List.drop_left]
theorem at_parts {l : List Int} {i : Nat} (h : i < l.length) : ∃ p x t, l = p ++ x :: t ∧ p.length = i :=
  ⟨l.take i, l[i], l.drop (i + 1), by rw [← List.drop_eq_getElem_cons h, List.take_append_drop], by rw [List.length_take]; omega⟩
/-- what holds between the marks -/
structure MkS (w : World) (B g n c : Nat) (P : List Int) (v : Int) (rs RT : List Int) (j m : Nat) (T : List Int) (W : World) : Prop where
  ow : W.ownsRow B 33 1 (.slice (some ⟨g, 0, none⟩) n c) n (i8s (P ++ v :: (List.replicate m v ++ T)))
  gr : w.grownBy W (some g)
  rt : List.replicate m v ++ runZ nsm9 v (rs.drop (j + m)) T = RT
  nr : Nrm T
set_option maxRecDepth 100000 in
set_option maxHeartbeats 4000000 in
theorem settlePair_any9 (B g : Nat) (Ar : Option Addr) (nr cr n c : Nat) (rs K : List Int) (a b : Nat) (v : Int) (hv : v = 0 ∨ v = 1) (w : World) (hr : Rd w B 1 Ar nr (i32s rs)) (h : w.ownsRow B 33 1 (.slice (some ⟨g, 0, none⟩) n c) n (i8s K)) (hK : Nrm K) (hn : n ≤ nr) (ha : a < n) (hb : b < n) :
    Calls Try.prog 46 #[.slice (some ⟨g, 0, none⟩) n c, .slice Ar nr cr, .agg #[.int .i64 (a : Int), .int .i64 (b : Int)], .int .i8 v] w
      (RuleAt B (some ⟨g, 0, none⟩) n c (becZ nsm9 rs (becZ nsm9 rs K a v) b v) w) := by
  have hrl : rs.length = nr := by have := hr.1; simpa using this
  have hl : K.length = n := by have := h.1; simpa using this
  have HDir := Lib.hid (show ∀ x w, Calls Try.prog 63 #[.int .i32 x] w fun e w' => e = .returned (.int .i8 (dz9 x)) ∧ Below w.heap.size w w' from Dir_any)
  obtain ⟨Q, hQ⟩ : ∃ Q, w.heap.size = Q := ⟨_, rfl⟩
  obtain ⟨W0, hW0⟩ : ∃ W0, w.alloc (.cells #[.int .i64 (a : Int), .int .i64 (b : Int)] 29) = W0 := ⟨_, rfl⟩
  have hcs : W0.heap[Q]? = some (.cells #[.int .i64 (a : Int), .int .i64 (b : Int)] 29 (0, 0)) := by rw [← hW0, ← hQ]; exact heap_alloc_new w _
  have hca : W0.cell? ⟨Q, 0, none⟩ = some (.int .i64 (a : Int)) := cell_of_row W0 Q 0 _ _ (0, 0) hcs
  have hcb : W0.cell? ⟨Q, 1, none⟩ = some (.int .i64 (b : Int)) := cell_of_row W0 Q 1 _ _ (0, 0) hcs
  have hgr0 : w.grownBy W0 (some g) := by rw [← hW0]; exact World.grownBy_alloc w _ _
  have how0 : W0.ownsRow B 33 1 (.slice (some ⟨g, 0, none⟩) n c) n (i8s K) := by rw [← hW0]; exact h.alloc _
  have hgB := h.lt g rfl
  have Hrd := Lib.hid (show ∀ W', w.grownBy W' (some g) → Rd W' B 1 Ar nr (i32s rs) from fun W' hg => hr.keep fun q hq => World.cell?_of_block (hg.block q.block (by omega) (fun e => by injection e with e; omega)))
  have H0 := Lib.hid (show W0.ownsRow B 33 1 (.slice (some ⟨g, 0, none⟩) n c) n (i8s K) ∧ w.grownBy W0 (some g) from ⟨how0, hgr0⟩)
  obtain ⟨K1, hK1⟩ : ∃ K1, becZ nsm9 rs K a v = K1 := ⟨_, rfl⟩
  obtain ⟨K2, hK2⟩ : ∃ K2, becZ nsm9 rs K1 b v = K2 := ⟨_, rfl⟩
  have hK1l : K1.length = n := by rw [← hK1, becZ_len, hl]
  have hK1n : Nrm K1 := by rw [← hK1]; exact nrm_bec hv hK
  have HK1 := Lib.hid hK1
  have HK2 := Lib.hid hK2
  have HKn := Lib.hid (show Nrm K ∧ K.length = n from ⟨hK, hl⟩)
  have HK1n := Lib.hid (show Nrm K1 ∧ K1.length = n from ⟨hK1n, hK1l⟩)
  rw [hK1, hK2]
  have hcm : c ≤ maxLen := (own_caps h).2
  have hnc : n ≤ c := (own_caps h).1
  unfold maxLen at hcm
  have HWw := Lib.hid hW0
  have HQ := Lib.hid hQ
  have hrn : n ≤ rs.length := by omega
  clear h hr hK hl hcs hgr0 how0 hgB hK1 hK2 hK1l hK1n hW0 hQ hv hrl
  go_enter Try.func46, Try.ntmps46
  go_wp2_with fail
  rw [HWw.out, HQ.out]
  go_wp2_with fail
  go_loopw [11] (fun x wr => ∃ (i : Nat) (L : List Int) (W : World), W = wr ∧ x = .int .i64 (i : Int) ∧ i ≤ 2 ∧ Hid (L = (if i = 0 then K else if i = 1 then K1 else K2)) ∧ Hid (W.ownsRow B 33 1 (.slice (some ⟨g, 0, none⟩) n c) n (i8s L) ∧ w.grownBy W (some g))) (fun x _ => 2 - (RowKit.intOf x).toNat)
  case atStart => exact ⟨0, K, _, rfl, rfl, by omega, Lib.hid rfl, H0⟩
  case round =>
    obtain ⟨i, L, W, hW, rfl, hi2, HL, HW⟩ := hrel
    subst hW
    rcases i with _ | _ | _ | i
    · have hLK : K = L := HL.out.symm
      subst hLK
      have hidx : (Instr.index 29 (.agg #[.int .i64 (a : Int), .int .i64 (b : Int)]) (.int .i64 0)).run Try.prog W = .ok (.int .i64 (a : Int)) W := by kernel_rfl
      obtain ⟨P, x, T0, hLp, hPl⟩ := at_parts (show a < List.length K by have := HKn.out.2; omega)
      have hrow := HW.out.1
      rw [hLp] at hrow
      obtain ⟨g', hA, hin, _, _, hcell, hfz, hset⟩ := row_at hrow
      injection hA with hA
      injection hA with hA
      subst hA
      rw [hPl] at hin hcell hfz hset
      have hlt := HKn.out.2
      rw [hLp, List.length_append, List.length_cons, hPl] at hlt
      have hnext : IntKind.i64.wrap ((a : Int) + 1) = ((a + 1 : Nat) : Int) := by rw [IntWalk.i64_in _ (by omega)]; omega
      obtain ⟨RT, hRT⟩ : ∃ RT, runZ nsm9 v (rs.drop (a + 1)) T0 = RT := ⟨_, rfl⟩
      have HKF := Lib.hid (show K1 = P ++ v :: RT by rw [← HK1.out, hLp, becZ_parts _ _ _ _ _ _ hPl, hRT])
      obtain ⟨j, hj⟩ : ∃ j, a + 1 = j := ⟨_, rfl⟩
      rw [hj] at hnext hRT
      have HI0 := Lib.hid (show MkS w B g n c P v rs RT j 0 T0 (W.setCell ⟨g, a, none⟩ (.int .i8 v)) from ⟨(hset v).1, HW.out.2.trans (hset v).2, by rw [Nat.add_zero, ← hRT]; rfl, fun k hk => HKn.out.1 k (by rw [hLp]; simp [hk])⟩)
      have hjT : j + T0.length = n := by omega
      have haj : (a : Int) < (n : Int) := by omega
      have HJ := Lib.hid (show P.length + 1 = j by omega)
      clear hrow hset hLp hRT hj hlt HL HW hPl
      go_wp2_with fail
      go_loopw [9] (fun y wr => ∃ (m : Nat) (T : List Int) (W : World), W = wr ∧ y = .int .i64 ((j + m : Nat) : Int) ∧ j + m + T.length = n ∧ Hid (MkS w B g n c P v rs RT j m T W)) (fun y _ => n - (RowKit.intOf y).toNat)
      case atStart => exact ⟨0, T0, _, rfl, rfl, by omega, HI0⟩
      case round =>
        obtain ⟨m, T, W, hW, rfl, hmT, HI⟩ := hrel
        subst hW
        rcases T with _ | ⟨k, T⟩
        · have hq : j + m = n := by simpa using hmT
          rw [hq]
          have hnn : ¬ (n : Int) < (n : Int) := by omega
          have HF := Lib.hid (show W.ownsRow B 33 1 (.slice (some ⟨g, 0, none⟩) n c) n (i8s K1) ∧ w.grownBy W (some g) from by
            have h := HI.out
            refine ⟨?_, h.gr⟩
            rw [HKF.out, ← h.rt, runZ_nil]
            exact h.ow)
          clear HI hmT hq HI0
          go_wp2_with fail
          go_roundw
          case rel => exact ⟨1, K1, _, rfl, by first | rfl | go_num, by omega, Lib.hid rfl, HF⟩
          case measure => simp [RowKit.intOf]
        · rw [List.length_cons] at hmT
          obtain ⟨r, hrr⟩ : ∃ r, rs[j + m]? = some r := ⟨_, List.getElem?_eq_getElem (by omega)⟩
          have hdr : rs.drop (j + m) = r :: rs.drop (j + m + 1) := by
            have hlt2 : j + m < rs.length := by omega
            rw [List.drop_eq_getElem_cons hlt2]
            congr 1
            rw [List.getElem?_eq_getElem hlt2] at hrr
            exact Option.some.inj hrr
          have hII := HI.out
          have h3 := hII.rt
          rw [hdr] at h3
          have h1' := hII.ow
          have e1 : P ++ v :: (List.replicate m v ++ k :: T) = (P ++ v :: List.replicate m v) ++ k :: T := by simp
          rw [e1] at h1'
          obtain ⟨g', hA, hin', _, _, hcell', hfz', hset'⟩ := row_at h1'
          injection hA with hA
          injection hA with hA
          subst hA
          have e2 : (P ++ v :: List.replicate m v).length = j + m := by have := HJ.out; simp; omega
          rw [e2] at hin' hcell' hfz' hset'
          have hkk := hII.nr k (by simp)
          obtain ⟨q, hq⟩ : ∃ q, j + m = q := ⟨_, rfl⟩
          rw [hq] at hin' hcell' hfz' hset' hmT h3 hrr ⊢
          have hqi : (q : Int) < (n : Int) := by omega
          have hqir : (q : Int) < (nr : Int) := by omega
          have hwq : IntKind.i64.wrap ((q : Int) + 1) = (q : Int) + 1 := IntWalk.i64_in _ (by omega)
          have Hq := Lib.hid hq
          by_cases hk13 : k = 13
          · have hkn : neuZ k = true := hkk.1 hk13
            obtain ⟨ar, hAr, hab, hcr⟩ := (Hrd.out W hII.gr).at_ (k := q) (by simp; omega)
            subst hAr
            have hcr2 : W.cell? (ar.add q) = some (.int .i32 r) := by
              rw [hcr]
              have hrr' := List.getElem?_eq_some_iff.1 hrr
              simp [hrr'.2]
            subst hk13
            have Hno := Lib.hid (show nsm9 r = false → ∀ W', Below W.heap.size W W' → W'.ownsRow B 33 1 (.slice (some ⟨g, 0, none⟩) n c) n (i8s K1) ∧ w.grownBy W' (some g) from fun hc W' hb => by
              rw [runZ_no (by rw [hc]; rfl)] at h3
              refine ⟨?_, grown_of_below hII.gr hb⟩
              rw [HKF.out, ← h3]
              exact own_below hII.ow hb)
            have Hyes := Lib.hid (show nsm9 r = true → ∀ W', Below W.heap.size W W' → MkS w B g n c P v rs RT j (m + 1) T (W'.setCell ⟨g, q, none⟩ (.int .i8 v)) ∧ W'.cell? ⟨g, q, none⟩ = some (.int .i8 13) ∧ W'.frozen? ⟨g, q, none⟩ = false from fun hc W' hb => by
              rw [runZ_yes (by rw [hc]; rfl)] at h3
              obtain ⟨g2, hA2, _, _, _, kc, kf, ks⟩ := row_at (own_below h1' hb)
              injection hA2 with hA2
              injection hA2 with hA2
              subst hA2
              rw [e2, hq] at kc kf ks
              refine ⟨⟨?_, (grown_of_below hII.gr hb).trans (ks v).2, ?_, fun z hz => hII.nr z (by simp [hz])⟩, kc, kf⟩
              · have := (ks v).1
                rw [show P ++ v :: (List.replicate (m + 1) v ++ T) = (P ++ v :: List.replicate m v) ++ v :: T by rw [List.replicate_succ']; simp]
                exact this
              · rw [← h3, List.replicate_succ', ← Nat.add_assoc, hq]
                simp)
            clear HI hII h1' h3 hset' e1 e2 hdr hrr hq HI0 hcr hkk
            by_cases h8 : dz9 r = 8
            · have hns : nsm9 r = true := by unfold nsm9; simpa using h8
              have HY := Lib.hid (Hyes.out hns)
              have H8 := Lib.hid h8
              clear Hno Hyes h8 hns hkn
              go_wp2_with fail
              refine (HDir.out _ _).mono ?_
              rintro _ w9 ⟨rfl, hb9⟩
              rw [H8.out]
              obtain ⟨hm9, hc9, hf9⟩ := HY.out w9 hb9
              have HM9 := Lib.hid hm9
              clear hm9 hb9
              go_wp2_with fail
              go_roundw
              case rel => exact ⟨m + 1, T, _, rfl, by rw [← Nat.add_assoc, Hq.out]; first | rfl | go_num, by have := Hq.out; omega, HM9⟩
              case measure => simp [RowKit.intOf]; omega
            · have hns : nsm9 r = false := by unfold nsm9; simpa using h8
              have HY := Lib.hid (Hno.out hns)
              have b8 : (dz9 r == 8) = false := by simpa using h8
              obtain ⟨z, hz⟩ : ∃ z, dz9 r = z := ⟨_, rfl⟩
              rw [hz] at b8
              have Hz := Lib.hid hz
              clear Hno Hyes h8 hns hkn hz
              go_wp2_with fail
              refine (HDir.out _ _).mono ?_
              rintro _ w9 ⟨rfl, hb9⟩
              rw [Hz.out]
              have HF := Lib.hid (HY.out w9 hb9)
              clear hb9
              go_wp2_with fail
              go_roundw
              case rel => exact ⟨1, K1, _, rfl, by first | rfl | go_num, by omega, Lib.hid rfl, HF⟩
              case measure => simp [RowKit.intOf]
          · have hkn : neuZ k = false := by
              cases e : neuZ k with
              | false => rfl
              | true => exact absurd (hkk.2 e) hk13
            have b13 : (k == 13) = false := by simpa using hk13
            have HF := Lib.hid (show W.ownsRow B 33 1 (.slice (some ⟨g, 0, none⟩) n c) n (i8s K1) ∧ w.grownBy W (some g) from by
              rw [runZ_no (by rw [hkn]; simp)] at h3
              refine ⟨?_, hII.gr⟩
              rw [HKF.out, ← h3]
              exact hII.ow)
            clear HI hII h1' h3 hset' e1 e2 hdr hrr hq HI0 hkk hk13 hkn
            go_wp2_with fail
            go_roundw
            case rel => exact ⟨1, K1, _, rfl, by first | rfl | go_num, by omega, Lib.hid rfl, HF⟩
            case measure => simp [RowKit.intOf]
    · have hLK : K1 = L := HL.out.symm
      subst hLK
      have hidx : (Instr.index 29 (.agg #[.int .i64 (a : Int), .int .i64 (b : Int)]) (.int .i64 1)).run Try.prog W = .ok (.int .i64 (b : Int)) W := by kernel_rfl
      obtain ⟨P, x, T0, hLp, hPl⟩ := at_parts (show b < List.length K1 by have := HK1n.out.2; omega)
      have hrow := HW.out.1
      rw [hLp] at hrow
      obtain ⟨g', hA, hin, _, _, hcell, hfz, hset⟩ := row_at hrow
      injection hA with hA
      injection hA with hA
      subst hA
      rw [hPl] at hin hcell hfz hset
      have hlt := HK1n.out.2
      rw [hLp, List.length_append, List.length_cons, hPl] at hlt
      have hnext : IntKind.i64.wrap ((b : Int) + 1) = ((b + 1 : Nat) : Int) := by rw [IntWalk.i64_in _ (by omega)]; omega
      obtain ⟨RT, hRT⟩ : ∃ RT, runZ nsm9 v (rs.drop (b + 1)) T0 = RT := ⟨_, rfl⟩
      have HKF := Lib.hid (show K2 = P ++ v :: RT by rw [← HK2.out, hLp, becZ_parts _ _ _ _ _ _ hPl, hRT])
      obtain ⟨j, hj⟩ : ∃ j, b + 1 = j := ⟨_, rfl⟩
      rw [hj] at hnext hRT
      have HI0 := Lib.hid (show MkS w B g n c P v rs RT j 0 T0 (W.setCell ⟨g, b, none⟩ (.int .i8 v)) from ⟨(hset v).1, HW.out.2.trans (hset v).2, by rw [Nat.add_zero, ← hRT]; rfl, fun k hk => HK1n.out.1 k (by rw [hLp]; simp [hk])⟩)
      have hjT : j + T0.length = n := by omega
      have haj : (b : Int) < (n : Int) := by omega
      have HJ := Lib.hid (show P.length + 1 = j by omega)
      clear hrow hset hLp hRT hj hlt HL HW hPl
      go_wp2_with fail
      go_loopw [9] (fun y wr => ∃ (m : Nat) (T : List Int) (W : World), W = wr ∧ y = .int .i64 ((j + m : Nat) : Int) ∧ j + m + T.length = n ∧ Hid (MkS w B g n c P v rs RT j m T W)) (fun y _ => n - (RowKit.intOf y).toNat)
      case atStart => exact ⟨0, T0, _, rfl, rfl, by omega, HI0⟩
      case round =>
        obtain ⟨m, T, W, hW, rfl, hmT, HI⟩ := hrel
        subst hW
        rcases T with _ | ⟨k, T⟩
        · have hq : j + m = n := by simpa using hmT
          rw [hq]
          have hnn : ¬ (n : Int) < (n : Int) := by omega
          have HF := Lib.hid (show W.ownsRow B 33 1 (.slice (some ⟨g, 0, none⟩) n c) n (i8s K2) ∧ w.grownBy W (some g) from by
            have h := HI.out
            refine ⟨?_, h.gr⟩
            rw [HKF.out, ← h.rt, runZ_nil]
            exact h.ow)
          clear HI hmT hq HI0
          go_wp2_with fail
          go_roundw
          case rel => exact ⟨2, K2, _, rfl, by first | rfl | go_num, by omega, Lib.hid rfl, HF⟩
          case measure => simp [RowKit.intOf]
        · rw [List.length_cons] at hmT
          obtain ⟨r, hrr⟩ : ∃ r, rs[j + m]? = some r := ⟨_, List.getElem?_eq_getElem (by omega)⟩
          have hdr : rs.drop (j + m) = r :: rs.drop (j + m + 1) := by
            have hlt2 : j + m < rs.length := by omega
            rw [List.drop_eq_getElem_cons hlt2]
            congr 1
            rw [List.getElem?_eq_getElem hlt2] at hrr
            exact Option.some.inj hrr
          have hII := HI.out
          have h3 := hII.rt
          rw [hdr] at h3
          have h1' := hII.ow
          have e1 : P ++ v :: (List.replicate m v ++ k :: T) = (P ++ v :: List.replicate m v) ++ k :: T := by simp
          rw [e1] at h1'
          obtain ⟨g', hA, hin', _, _, hcell', hfz', hset'⟩ := row_at h1'
          injection hA with hA
          injection hA with hA
          subst hA
          have e2 : (P ++ v :: List.replicate m v).length = j + m := by have := HJ.out; simp; omega
          rw [e2] at hin' hcell' hfz' hset'
          have hkk := hII.nr k (by simp)
          obtain ⟨q, hq⟩ : ∃ q, j + m = q := ⟨_, rfl⟩
          rw [hq] at hin' hcell' hfz' hset' hmT h3 hrr ⊢
          have hqi : (q : Int) < (n : Int) := by omega
          have hqir : (q : Int) < (nr : Int) := by omega
          have hwq : IntKind.i64.wrap ((q : Int) + 1) = (q : Int) + 1 := IntWalk.i64_in _ (by omega)
          have Hq := Lib.hid hq
          by_cases hk13 : k = 13
          · have hkn : neuZ k = true := hkk.1 hk13
            obtain ⟨ar, hAr, hab, hcr⟩ := (Hrd.out W hII.gr).at_ (k := q) (by simp; omega)
            subst hAr
            have hcr2 : W.cell? (ar.add q) = some (.int .i32 r) := by
              rw [hcr]
              have hrr' := List.getElem?_eq_some_iff.1 hrr
              simp [hrr'.2]
            subst hk13
            have Hno := Lib.hid (show nsm9 r = false → ∀ W', Below W.heap.size W W' → W'.ownsRow B 33 1 (.slice (some ⟨g, 0, none⟩) n c) n (i8s K2) ∧ w.grownBy W' (some g) from fun hc W' hb => by
              rw [runZ_no (by rw [hc]; rfl)] at h3
              refine ⟨?_, grown_of_below hII.gr hb⟩
              rw [HKF.out, ← h3]
              exact own_below hII.ow hb)
            have Hyes := Lib.hid (show nsm9 r = true → ∀ W', Below W.heap.size W W' → MkS w B g n c P v rs RT j (m + 1) T (W'.setCell ⟨g, q, none⟩ (.int .i8 v)) ∧ W'.cell? ⟨g, q, none⟩ = some (.int .i8 13) ∧ W'.frozen? ⟨g, q, none⟩ = false from fun hc W' hb => by
              rw [runZ_yes (by rw [hc]; rfl)] at h3
              obtain ⟨g2, hA2, _, _, _, kc, kf, ks⟩ := row_at (own_below h1' hb)
              injection hA2 with hA2
              injection hA2 with hA2
              subst hA2
              rw [e2, hq] at kc kf ks
              refine ⟨⟨?_, (grown_of_below hII.gr hb).trans (ks v).2, ?_, fun z hz => hII.nr z (by simp [hz])⟩, kc, kf⟩
              · have := (ks v).1
                rw [show P ++ v :: (List.replicate (m + 1) v ++ T) = (P ++ v :: List.replicate m v) ++ v :: T by rw [List.replicate_succ']; simp]
                exact this
              · rw [← h3, List.replicate_succ', ← Nat.add_assoc, hq]
                simp)
            clear HI hII h1' h3 hset' e1 e2 hdr hrr hq HI0 hcr hkk
            by_cases h8 : dz9 r = 8
            · have hns : nsm9 r = true := by unfold nsm9; simpa using h8
              have HY := Lib.hid (Hyes.out hns)
              have H8 := Lib.hid h8
              clear Hno Hyes h8 hns hkn
              go_wp2_with fail
              refine (HDir.out _ _).mono ?_
              rintro _ w9 ⟨rfl, hb9⟩
              rw [H8.out]
              obtain ⟨hm9, hc9, hf9⟩ := HY.out w9 hb9
              have HM9 := Lib.hid hm9
              clear hm9 hb9
              go_wp2_with fail
              go_roundw
              case rel => exact ⟨m + 1, T, _, rfl, by rw [← Nat.add_assoc, Hq.out]; first | rfl | go_num, by have := Hq.out; omega, HM9⟩
              case measure => simp [RowKit.intOf]; omega
            · have hns : nsm9 r = false := by unfold nsm9; simpa using h8
              have HY := Lib.hid (Hno.out hns)
              have b8 : (dz9 r == 8) = false := by simpa using h8
              obtain ⟨z, hz⟩ : ∃ z, dz9 r = z := ⟨_, rfl⟩
              rw [hz] at b8
              have Hz := Lib.hid hz
              clear Hno Hyes h8 hns hkn hz
              go_wp2_with fail
              refine (HDir.out _ _).mono ?_
              rintro _ w9 ⟨rfl, hb9⟩
              rw [Hz.out]
              have HF := Lib.hid (HY.out w9 hb9)
              clear hb9
              go_wp2_with fail
              go_roundw
              case rel => exact ⟨2, K2, _, rfl, by first | rfl | go_num, by omega, Lib.hid rfl, HF⟩
              case measure => simp [RowKit.intOf]
          · have hkn : neuZ k = false := by
              cases e : neuZ k with
              | false => rfl
              | true => exact absurd (hkk.2 e) hk13
            have b13 : (k == 13) = false := by simpa using hk13
            have HF := Lib.hid (show W.ownsRow B 33 1 (.slice (some ⟨g, 0, none⟩) n c) n (i8s K2) ∧ w.grownBy W (some g) from by
              rw [runZ_no (by rw [hkn]; simp)] at h3
              refine ⟨?_, hII.gr⟩
              rw [HKF.out, ← h3]
              exact hII.ow)
            clear HI hII h1' h3 hset' e1 e2 hdr hrr hq HI0 hkk hk13 hkn
            go_wp2_with fail
            go_roundw
            case rel => exact ⟨2, K2, _, rfl, by first | rfl | go_num, by omega, Lib.hid rfl, HF⟩
            case measure => simp [RowKit.intOf]
    · have hLK : K2 = L := HL.out.symm
      subst hLK
      clear HL
      go_wp2_with fail
      go_end0
      exact ⟨rfl, HW.out⟩
    · omega
end Go.Proofs.Ytkcckophnamajaa
