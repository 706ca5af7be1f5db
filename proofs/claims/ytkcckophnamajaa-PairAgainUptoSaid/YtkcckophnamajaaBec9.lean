/- Layer 9, the document: become, within. -/
import Derived.Test.YtkcckophnamajaaRd9
set_option linter.unusedSimpArgs false
set_option linter.unusedVariables false
namespace Go.Proofs.Ytkcckophnamajaa
open Go.RowKit Go.Lib

abbrev i32s (l : List Int) : List Value := l.map (Value.int .i32)
/-- characters that are read -/
def RdR (w : World) (A : Option Addr) (n : Nat) (xs : List Int) : Prop := Rd w w.heap.size 1 A n (i32s xs)
theorem RdR.below {w w' : World} {A : Option Addr} {n : Nat} {xs : List Int} (h : RdR w A n xs) (hb : Below w.heap.size w w') : RdR w' A n xs := (Rd.below h hb).more hb.size
theorem RdR.len {w : World} {A : Option Addr} {n : Nat} {xs : List Int} (h : RdR w A n xs) : xs.length = n := by have := h.1; simpa using this
theorem RdR.at {w : World} {n : Nat} {A : Option Addr} {xs : List Int} (h : RdR w A n xs) {i : Nat} {r : Int} (hr : xs[i]? = some r) : ∃ a, A = some a ∧ i < n ∧ a.block < w.heap.size ∧ w.cell? (a.add i) = some (.int .i32 r) := by
  have hl := h.len
  have hi := (List.getElem?_eq_some_iff.1 hr).1
  obtain ⟨a, e, hb, hc⟩ := Rd.addr h (by omega)
  exact ⟨a, e, by omega, hb, hc i _ (by rw [List.getElem?_map, hr]; rfl)⟩
theorem runZ_no {nsm : Int → Bool} {v r k : Int} {rs ks : List Int} (h : (nsm r && neuZ k) = false) : runZ nsm v (r :: rs) (k :: ks) = k :: ks := by
  rw [runZ, if_neg (by rw [h]; decide)]
theorem runZ_yes {nsm : Int → Bool} {v r k : Int} {rs ks : List Int} (h : (nsm r && neuZ k) = true) : runZ nsm v (r :: rs) (k :: ks) = v :: runZ nsm v rs ks := by
  rw [runZ, if_pos h]
theorem runZ_nil {nsm : Int → Bool} {v : Int} (rs : List Int) : runZ nsm v rs [] = [] := by cases rs <;> (unfold runZ; rfl)
set_option maxRecDepth 100000 in
set_option maxHeartbeats 2000000 in
theorem become_any9 (dz : Int → Int) (HDir : Hid (∀ x w, Calls Try.prog 50 #[.int .i32 x] w fun e w' => e = .returned (.int .i8 (dz x)) ∧ w' = w))
    (B : Nat) (Ar A : Option Addr) (nr cr n c : Nat) (rs p t : List Int) (x v : Int) (w : World) (hr : Rd w B 1 Ar nr (i32s rs)) (h : w.ownsRow B 33 1 (.slice A n c) n (i8s (p ++ x :: t))) (hn : n ≤ nr) (i : Nat) (hi : p.length = i) :
    Calls Try.prog 35 #[.slice Ar nr cr, .slice A n c, .int .i64 (i : Int), .int .i8 v] w
      (RuleAt B A n c (becZ (fun r => dz r == 8) rs (p ++ x :: t) i v) w) := by
  have hrl : rs.length = nr := by have := hr.1; simpa using this
  have hl : (p ++ x :: t).length = n := by have := h.1; simpa using this
  rw [List.length_append, List.length_cons, hi] at hl
  have HN := Lib.hid Neutral_any
  obtain ⟨g, hA, hin, hnc, hcm, hcell, hfz, hset⟩ := row_at h
  rw [hi] at hin hcell hfz hset
  subst hA
  have hbec : becZ (fun r => dz r == 8) rs (p ++ x :: t) i v = p ++ v :: runZ (fun r => dz r == 8) v (rs.drop (i + 1)) t := by
    unfold becZ
    rw [← hi, List.take_left, List.drop_left]
  obtain ⟨RT, hRT⟩ : ∃ RT, runZ (fun r => dz r == 8) v (rs.drop (i + 1)) t = RT := ⟨_, rfl⟩
  rw [hbec, hRT]
  have hnext : IntKind.i64.wrap ((i : Int) + 1) = ((i + 1 : Nat) : Int) := by unfold maxLen at hcm; rw [IntWalk.i64_in _ (by omega)]; omega
  obtain ⟨j, hj⟩ : ∃ j, i + 1 = j := ⟨_, rfl⟩
  rw [hj] at hnext hRT
  have Hset := Lib.hid (hset v)
  obtain ⟨W0, hW0⟩ : ∃ W0, w.setCell ⟨g, i, none⟩ (.int .i8 v) = W0 := ⟨_, rfl⟩
  rw [hW0] at Hset
  have H0 := Lib.hid (show ∃ T, t = List.replicate 0 v ++ T ∨ True from ⟨t, .inr trivial⟩)
  have Hr := Lib.hid hr
  have HB := Lib.hid (show ∀ W', w.grownBy W' (some g) → Rd W' B 1 Ar nr (i32s rs) from fun W' hg => hr.keep fun q hq => World.cell?_of_block (hg.block q.block (by
      have := (h.lt g rfl).1
      have := (h.lt g rfl).2
      omega) (fun e => by injection e with e; have := (h.lt g rfl).1; omega)))
  have HI0 := Lib.hid (show W0.ownsRow B 33 1 (.slice (some ⟨g, 0, none⟩) n c) n (i8s (p ++ v :: (List.replicate 0 v ++ t))) ∧ w.grownBy W0 (some g) ∧ List.replicate 0 v ++ runZ (fun r => dz r == 8) v (rs.drop (j + 0)) t = RT from ⟨Hset.out.1, Hset.out.2, by rw [Nat.add_zero, ← hRT]; rfl⟩)
  have Hj := Lib.hid hj
  have Hpl := Lib.hid hi
  have HWw := Lib.hid hW0
  have hlt : j + t.length = n := by omega
  have hrn : n ≤ rs.length := by omega
  clear hset Hset h hr hi hj hbec hRT hW0 H0 hl
  go_enter Try.func35, Try.ntmps35
  go_wp2_with fail
  rw [HWw.out]
  go_loopw [8] (fun y wr => ∃ (m : Nat) (T : List Int) (W : World), W = wr ∧ y = .int .i64 ((j + m : Nat) : Int) ∧ j + m + T.length = n ∧ Hid (W.ownsRow B 33 1 (.slice (some ⟨g, 0, none⟩) n c) n (i8s (p ++ v :: (List.replicate m v ++ T))) ∧ w.grownBy W (some g) ∧ List.replicate m v ++ runZ (fun r => dz r == 8) v (rs.drop (j + m)) T = RT)) (fun y _ => n - (RowKit.intOf y).toNat)
  case atStart => exact ⟨0, t, _, rfl, rfl, by omega, HI0⟩
  case round =>
    obtain ⟨m, T, W, hW, rfl, hmT, HI⟩ := hrel
    subst hW
    rcases T with _ | ⟨k, T⟩
    · have hq : j + m = n := by simpa using hmT
      rw [hq]
      have hnn : ¬ (n : Int) < (n : Int) := by omega
      have HF := Lib.hid (show W.ownsRow B 33 1 (.slice (some ⟨g, 0, none⟩) n c) n (i8s (p ++ v :: RT)) ∧ w.grownBy W (some g) from by
        obtain ⟨h1, h2, h3⟩ := HI.out
        rw [← h3, runZ_nil]
        exact ⟨h1, h2⟩)
      clear HI hmT hq HI0
      go_wp2_with fail
      go_end0
      exact ⟨rfl, HF.out⟩
    · rw [List.length_cons] at hmT
      obtain ⟨r, hrr⟩ : ∃ r, rs[j + m]? = some r := ⟨_, List.getElem?_eq_getElem (by omega)⟩
      have hdr : rs.drop (j + m) = r :: rs.drop (j + m + 1) := by
        have hlt2 : j + m < rs.length := by omega
        rw [List.drop_eq_getElem_cons hlt2]
        congr 1
        rw [List.getElem?_eq_getElem hlt2] at hrr
        exact Option.some.inj hrr
      obtain ⟨h1, h2, h3⟩ := HI.out
      rw [hdr] at h3
      have e1 : p ++ v :: (List.replicate m v ++ k :: T) = (p ++ v :: List.replicate m v) ++ k :: T := by simp
      have h1' := h1
      rw [e1] at h1'
      obtain ⟨g', hA, hin', _, _, hcell', hfz', hset'⟩ := row_at h1'
      injection hA with hA
      injection hA with hA
      subst hA
      have e2 : (p ++ v :: List.replicate m v).length = j + m := by have := Hj.out; have := Hpl.out; simp; omega
      rw [e2] at hin' hcell' hfz' hset'
      have hrc := HB.out W h2
      obtain ⟨a, hAr, _, hca⟩ := Rd.addr hrc (by omega)
      have hcr := hca (j + m) (.int .i32 r) (by rw [List.getElem?_map, hrr]; rfl)
      obtain ⟨q, hq⟩ : ∃ q, j + m = q := ⟨_, rfl⟩
      rw [hq] at hin' hcell' hfz' hset' hcr hmT h3 ⊢
      subst hAr
      have hqr : q < nr := by omega
      have hqi : (q : Int) < (n : Int) := by omega
      have hqir : (q : Int) < (nr : Int) := by omega
      have hwq : IntKind.i64.wrap ((q : Int) + 1) = (q : Int) + 1 := by unfold maxLen at hcm; exact IntWalk.i64_in _ (by omega)
      have Hno := Lib.hid (show (dz r == 8 && neuZ k) = false → W.ownsRow B 33 1 (.slice (some ⟨g, 0, none⟩) n c) n (i8s (p ++ v :: RT)) ∧ w.grownBy W (some g) from fun hc => by
        rw [runZ_no (nsm := fun r => dz r == 8) hc] at h3
        rw [← h3]
        exact ⟨h1, h2⟩)
      have Hyes := Lib.hid (show (dz r == 8 && neuZ k) = true → (W.setCell ⟨g, q, none⟩ (.int .i8 v)).ownsRow B 33 1 (.slice (some ⟨g, 0, none⟩) n c) n (i8s (p ++ v :: (List.replicate (m + 1) v ++ T))) ∧ w.grownBy (W.setCell ⟨g, q, none⟩ (.int .i8 v)) (some g) ∧ List.replicate (m + 1) v ++ runZ (fun r => dz r == 8) v (rs.drop (q + 1)) T = RT from fun hc => by
        rw [runZ_yes (nsm := fun r => dz r == 8) hc] at h3
        refine ⟨?_, h2.trans (hset' v).2, ?_⟩
        · have := (hset' v).1
          rw [show p ++ v :: (List.replicate (m + 1) v ++ T) = (p ++ v :: List.replicate m v) ++ v :: T by rw [List.replicate_succ']; simp]
          exact this
        · rw [← h3, List.replicate_succ']
          simp)
      have Hq := Lib.hid hq
      clear HI h1 h1' h2 h3 hset' e1 e2 hdr hrc hca hrr hq HI0
      by_cases h8 : dz r = 8
      · have b8 : (dz r == 8) = true := by simpa using h8
        rw [b8, Bool.true_and] at Hno Hyes
        by_cases hk : neuZ k = true
        · have HY := Lib.hid (Hyes.out hk)
          have Hk := Lib.hid hk
          have H8 := Lib.hid h8
          clear Hno Hyes hk h8 b8
          go_wp2_with fail
          refine (HDir.out _ _).mono ?_
          rintro _ w9 ⟨rfl, h9⟩
          obtain rfl := h9.symm
          rw [H8.out]
          go_wp2_with fail
          refine (HN.out _ _).mono ?_
          rintro _ w9 ⟨rfl, h9⟩
          obtain rfl := h9.symm
          rw [Hk.out]
          go_wp2_with fail
          go_roundw
          case rel => exact ⟨m + 1, T, _, rfl, by rw [← Nat.add_assoc, Hq.out]; first | rfl | go_num, by have := Hq.out; omega, Lib.hid ⟨HY.out.1, HY.out.2.1, by rw [← Nat.add_assoc, Hq.out]; exact HY.out.2.2⟩⟩
          case measure => simp [RowKit.intOf]; omega
        · have hkf : neuZ k = false := by simpa using hk
          have HY := Lib.hid (Hno.out hkf)
          have Hk := Lib.hid hkf
          have H8 := Lib.hid h8
          clear Hno Hyes hk hkf h8 b8
          go_wp2_with fail
          refine (HDir.out _ _).mono ?_
          rintro _ w9 ⟨rfl, h9⟩
          obtain rfl := h9.symm
          rw [H8.out]
          go_wp2_with fail
          refine (HN.out _ _).mono ?_
          rintro _ w9 ⟨rfl, h9⟩
          obtain rfl := h9.symm
          rw [Hk.out]
          go_wp2_with fail
          go_end0
          exact ⟨rfl, HY.out⟩
      · have b8 : (dz r == 8) = false := by simpa using h8
        have HY := Lib.hid (Hno.out (by rw [b8]; rfl))
        obtain ⟨z, hz⟩ : ∃ z, dz r = z := ⟨_, rfl⟩
        rw [hz] at b8
        have Hz := Lib.hid hz
        clear Hno Hyes h8 hz
        go_wp2_with fail
        refine (HDir.out _ _).mono ?_
        rintro _ w9 ⟨rfl, h9⟩
        obtain rfl := h9.symm
        rw [Hz.out]
        go_wp2_with fail
        go_end0
        exact ⟨rfl, HY.out⟩
end Go.Proofs.Ytkcckophnamajaa
