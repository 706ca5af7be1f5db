/- Layer 8, the program: terminators. (Made by tools/mkterm8.py.) -/
import Derived.Test.YtajpkidjdebolaaRulesB
import Derived.Test.YtajpkidjdebolaaScope
import Derived.Laws.Slices
set_option linter.unusedSimpArgs false
set_option linter.unusedVariables false
namespace Go.Proofs.Ytajpkidjdebolaa
open Go.RowKit Go.Lib

/-- does a DirEN stand at the end? -/
def lastE (d : List Int) : Bool := d.getLast? == some 3
theorem lastE_snoc (d : List Int) (k : Int) : lastE (d ++ [k]) = (k == 3) := by simp [lastE]
/-- what stands behind a row -/
def OkT (t : List Int) : Prop := t = [] ∨ ∃ k t', t = k :: t' ∧ k ≠ 5
def hd3 (t : List Int) : Bool := t.head? == some 3
theorem tZ_row (en : Bool) (t : List Int) : ∀ (r c : Nat), tZ en c (List.replicate r 5 ++ t) = tZ en (c + r) t
  | 0, c => by simp
  | r + 1, c => by
    rw [List.replicate_succ, List.cons_append]
    have e : tZ en c (5 :: (List.replicate r 5 ++ t)) = tZ en (c + 1) (List.replicate r 5 ++ t) := by
      rw [tZ]
      exact if_pos rfl
    rw [e, tZ_row en t r (c + 1), show c + 1 + r = c + (r + 1) by omega]
theorem tZ_off {t : List Int} (h : OkT t) (en e : Bool) (c : Nat) : tZ en c t = List.replicate c (if en || hd3 t then 3 else 5) ++ tZ e 0 t := by
  rcases h with rfl | ⟨k, t', rfl, hk⟩
  · simp [tZ, hd3]
  · simp [tZ, hd3, hk]
theorem row_split : ∀ l : List Int, ∃ r t, l = List.replicate r 5 ++ t ∧ OkT t
  | [] => ⟨0, [], rfl, .inl rfl⟩
  | k :: t => by
    by_cases h : k = 5
    · obtain ⟨r, t', e, ho⟩ := row_split t
      exact ⟨r + 1, t', by rw [h, List.replicate_succ, List.cons_append, ← e], ho⟩
    · exact ⟨0, k :: t, rfl, .inr ⟨k, t, rfl, h⟩⟩
theorem lastE_rep (d : List Int) (r : Nat) (v : Int) (hr : 1 ≤ r) : lastE (d ++ List.replicate r v) = (v == 3) := by
  obtain ⟨q, rfl⟩ : ∃ q, r = q + 1 := ⟨r - 1, by omega⟩
  rw [List.replicate_succ', ← List.append_assoc, lastE_snoc]
/-- a row that is over -/
theorem row_done {d t : List Int} {r : Nat} (h : OkT t) (hr : 1 ≤ r) (v : Int) (hv : v = if lastE d || hd3 t then 3 else 5) :
    d ++ tZ (lastE d) 0 (List.replicate r 5 ++ t) = (d ++ List.replicate r v) ++ tZ (lastE (d ++ List.replicate r v)) 0 t := by
  rw [lastE_rep d r v hr, tZ_row, Nat.zero_add, tZ_off h _ (v == 3), ← hv, List.append_assoc]
theorem seek_done {d t : List Int} {k : Int} (hk : k ≠ 5) : d ++ tZ (lastE d) 0 (k :: t) = (d ++ [k]) ++ tZ (lastE (d ++ [k])) 0 t := by
  rw [lastE_snoc]
  simp [tZ, hk]
theorem enAt_back (d t : List Int) : enAt (d ++ t) ((d.length : Int) - 1) = lastE d := by
  unfold enAt lastE
  rcases List.eq_nil_or_concat d with rfl | ⟨d', k, rfl⟩
  · simp
  · have e : (((d' ++ [k]).length : Int) - 1) = (d'.length : Int) := by simp
    simp only [List.concat_eq_append] at *
    rw [e]
    simp
theorem enAt_on (d t : List Int) : enAt (d ++ t) (d.length : Int) = hd3 t := by
  unfold enAt hd3
  cases t <;> simp

def TInv (w0 : World) (B : Nat) (A : Option Addr) (n c : Nat) (R : List Int) (W : World) (d t : List Int) : Prop :=
  W.ownsRow B 23 1 (.slice A n c) n (i8s (d ++ t)) ∧ w0.grownBy W (Value.ownBlock (.slice A n c)) ∧ d ++ tZ (lastE d) 0 t = R
def termJ (w0 : World) (B : Nat) (A : Option Addr) (n c : Nat) (s : Int) (R : List Int) (l : Nat) (a : Act) (w : World) : Prop :=
  ∃ u2 u3 u6 u7 u8 u9 u10 u11 u12 u13 u14 u15 u16 u17 u18 u19 u20 u21 u22 u23 u24 u25 u26 u27 u28 u29 u30 u31 u32 u33 u34 u35 u36 u37 u38 u39 u40 u41 u42 u43 u44 u45 u46 u47 u48 u49 u50 u51 u52 u53 u54, ∃ f t' : Nat, a = { tmps := #[.slice A n c, .int .i8 s, u2, u3, .int .i64 (f : Int), .int .i64 (t' : Int), u6, u7, u8, u9, u10, u11, u12, u13, u14, u15, u16, u17, u18, u19, u20, u21, u22, u23, u24, u25, u26, u27, u28, u29, u30, u31, u32, u33, u34, u35, u36, u37, u38, u39, u40, u41, u42, u43, u44, u45, u46, u47, u48, u49, u50, u51, u52, u53, u54], defers := [] } ∧ match l with
    | 0 => ∃ d t, t' = d.length ∧ TInv w0 B A n c R w d t
    | 1 => ∃ (d : List Int) (r j : Nat) (t2 : List Int), f = d.length ∧ t' = d.length + j ∧ 1 ≤ j ∧ j ≤ r ∧ OkT t2 ∧ TInv w0 B A n c R w d (List.replicate r 5 ++ t2)
    | _ => False
def toAt (a : Act) : Nat := (RowKit.intOf (a.tmps[5]!)).toNat
theorem slice_i8 (W : World) (A : Option Addr) (n c f k : Nat) (h1 : f ≤ k) (h2 : k ≤ c) : (Instr.slice 22 (.slice A n c) (some (.int .i64 (f : Int))) (some (.int .i64 (k : Int))) none).run Try.prog W = .ok (sliced A f k c 1) W := by
  have h := run_slice_lh (P := Try.prog) W 22 A n c (show Try.prog.underlying 22 = some (.slice (Try.prog.elem 22)) from Try.underlying22) .i64 .i64 (f : Int) (k : Int) (by omega) (by omega) (by omega)
  rw [h]
  have hs : (sizeOf (Try.prog.elem 22)).run Try.prog W = .ok 1 W := by rfl
  rw [hs]
  simp
theorem sliced_len (A : Option Addr) (f k c z : Nat) : ∃ A' c', sliced A f k c z = .slice A' (k - f) c' := by
  unfold sliced
  split
  · exact ⟨_, _, rfl⟩
  · exact ⟨_, _, rfl⟩
set_option maxRecDepth 100000 in
set_option maxHeartbeats 4000000 in
theorem wterms_any (B : Nat) (A : Option Addr) (n c : Nat) (s : Int) (xs : List Int) (w : World) (h : w.ownsRow B 23 1 (.slice A n c) n (i8s xs)) :
    Calls Try.prog 33 #[.slice A n c, .int .i8 s] w (RuleAt B A n c (tZ false 0 xs) w) := by
  obtain ⟨hnc, hcm⟩ := own_caps h
  obtain ⟨R, hR⟩ : ∃ R, tZ false 0 xs = R := ⟨_, rfl⟩
  rw [hR]
  have HS := Lib.hid (show TInv w B A n c R w [] xs from ⟨h, World.grownBy.refl _ _, hR⟩)
  have HD := Lib.hid (fun (W : World) (l : List Int) (j : Int) hh => isDigit_any B A n c j l W hh)
  have HSl := Lib.hid (fun W f k a b => slice_i8 W A n c f k a b)
  clear h hR
  go_enter Try.func33, Try.ntmps33
  go_wp2_with fail
  refine scope_found (termJ w B A n c s R) (fun l a _ => 2 * (n - toAt a) + l) ?found ?first ?pass
  case found =>
    rintro l a w ⟨u2, u3, u6, u7, u8, u9, u10, u11, u12, u13, u14, u15, u16, u17, u18, u19, u20, u21, u22, u23, u24, u25, u26, u27, u28, u29, u30, u31, u32, u33, u34, u35, u36, u37, u38, u39, u40, u41, u42, u43, u44, u45, u46, u47, u48, u49, u50, u51, u52, u53, u54, f, t', rfl, hl⟩
    match l, hl with
    | 0, _ => rfl
    | 1, _ => rfl
  case first =>
    go_wp2_with fail
    go_step3
    obtain ⟨d, t, hd0, HI⟩ : ∃ (d t : List Int), 0 = d.length ∧ Hid (TInv w B A n c R w d t) := ⟨[], xs, rfl, HS⟩
    have Ht := Lib.hid hd0
    clear hd0
    have ht' := Ht.out
    have hl : (d ++ t).length = n := by have := HI.out.1.1; simpa using this
    rw [List.length_append] at hl
    rcases t with _ | ⟨k, t⟩
    · have hn' : 0 = n := by simp at hl; omega
      subst hn'
      have Hfin : Hid (w.ownsRow B 23 1 (.slice A 0 c) 0 (i8s R) ∧ w.grownBy w (Value.ownBlock (.slice A 0 c))) := Lib.hid (by
        obtain ⟨h1, h2, h3⟩ := HI.out
        rw [← h3]
        exact ⟨by simpa [tZ] using h1, h2⟩)
      clear hl ht' HI Ht
      go_wp2_with fail
      refine bodyPost_ret (results_none rfl _ _ _) rfl ?_
      exact ⟨rfl, Hfin.out⟩
    · simp only [List.length_cons] at hl
      have htn : ((0 : Int) == (n : Int)) = false := by simp; omega
      obtain ⟨g, hA, hin, _, _, hcell, _, _⟩ := row_at HI.out.1
      rw [← ht'] at hin hcell
      subst hA
      have hnext := i64_next hin hnc hcm
      have hini : (0 : Int) < (n : Int) := by omega
      by_cases k5 : k = 5
      · subst k5
        obtain ⟨r, t2, et, ho⟩ := row_split t
        have HJ : Hid (∃ (d : List Int) (r j : Nat) (t2 : List Int), 0 = d.length ∧ 0 + 1 = d.length + j ∧ 1 ≤ j ∧ j ≤ r ∧ OkT t2 ∧ TInv w B (some ⟨g, 0, none⟩) n c R w d (List.replicate r 5 ++ t2)) := Lib.hid ⟨d, r + 1, 1, t2, ht', by omega, Nat.le_refl _, by omega, ho, by
          rw [List.replicate_succ, List.cons_append, ← et]
          exact HI.out⟩
        clear hl ht' HI Ht et ho
        go_wp2_with fail
        go_step3
        go_wp2_with fail
        go_step3
        exact ⟨_, _, _, _, _, _, _, _, _, _, _, _, _, _, _, _, _, _, _, _, _, _, _, _, _, _, _, _, _, _, _, _, _, _, _, _, _, _, _, _, _, _, _, _, _, _, _, _, _, _, _, 0, 1, rfl, HJ.out⟩
      · have b5 : (k != 5) = true := by simpa using k5
        have HJ : Hid (∃ (d t : List Int), 0 + 1 = d.length ∧ TInv w B (some ⟨g, 0, none⟩) n c R w d t) := Lib.hid ⟨d ++ [k], t, by rw [List.length_append, ← ht']; rfl, by
          obtain ⟨h1, h2, h3⟩ := HI.out
          refine ⟨by rw [List.append_assoc]; exact h1, h2, ?_⟩
          rw [← seek_done k5]
          exact h3⟩
        clear hl ht' HI Ht
        go_wp2_with fail
        go_step3
        exact ⟨_, _, _, _, _, _, _, _, _, _, _, _, _, _, _, _, _, _, _, _, _, _, _, _, _, _, _, _, _, _, _, _, _, _, _, _, _, _, _, _, _, _, _, _, _, _, _, _, _, _, _, 0, 1, rfl, HJ.out⟩
  case pass =>
    rintro l a W rest ⟨u2, u3, u6, u7, u8, u9, u10, u11, u12, u13, u14, u15, u16, u17, u18, u19, u20, u21, u22, u23, u24, u25, u26, u27, u28, u29, u30, u31, u32, u33, u34, u35, u36, u37, u38, u39, u40, u41, u42, u43, u44, u45, u46, u47, u48, u49, u50, u51, u52, u53, u54, f, t', rfl, hl⟩ hf
    match l, hl, hf with
    | 0, hl, hf =>
      obtain ⟨d, t, ht', HI⟩ := hl
      have HI := Lib.hid HI
      have Ht := Lib.hid ht'
      clear ht'
      simp only [findLabel, Nat.reduceBEq, Bool.false_eq_true, if_true, if_false, reduceIte] at hf
      injection hf with hf
      subst hf
      have ht' := Ht.out
      have hl : (d ++ t).length = n := by have := HI.out.1.1; simpa using this
      rw [List.length_append] at hl
      rcases t with _ | ⟨k, t⟩
      · have hn' : t' = n := by simp at hl; omega
        subst hn'
        have Hfin : Hid (W.ownsRow B 23 1 (.slice A t' c) t' (i8s R) ∧ w.grownBy W (Value.ownBlock (.slice A t' c))) := Lib.hid (by
          obtain ⟨h1, h2, h3⟩ := HI.out
          rw [← h3]
          exact ⟨by simpa [tZ] using h1, h2⟩)
        clear hl ht' HI Ht
        go_wp2_with fail
        refine bodyPost_ret (results_none rfl _ _ _) rfl ?_
        exact ⟨rfl, Hfin.out⟩
      · simp only [List.length_cons] at hl
        have htn : ((t' : Int) == (n : Int)) = false := by simp; omega
        obtain ⟨g, hA, hin, _, _, hcell, _, _⟩ := row_at HI.out.1
        rw [← ht'] at hin hcell
        subst hA
        have hnext := i64_next hin hnc hcm
        have hini : (t' : Int) < (n : Int) := by omega
        by_cases k5 : k = 5
        · subst k5
          obtain ⟨r, t2, et, ho⟩ := row_split t
          have HJ : Hid (∃ (d : List Int) (r j : Nat) (t2 : List Int), t' = d.length ∧ t' + 1 = d.length + j ∧ 1 ≤ j ∧ j ≤ r ∧ OkT t2 ∧ TInv w B (some ⟨g, 0, none⟩) n c R W d (List.replicate r 5 ++ t2)) := Lib.hid ⟨d, r + 1, 1, t2, ht', by omega, Nat.le_refl _, by omega, ho, by
            rw [List.replicate_succ, List.cons_append, ← et]
            exact HI.out⟩
          clear hl ht' HI Ht et ho
          go_wp2_with fail
          go_step3
          go_wp2_with fail
          go_step3
          refine ⟨⟨_, _, _, _, _, _, _, _, _, _, _, _, _, _, _, _, _, _, _, _, _, _, _, _, _, _, _, _, _, _, _, _, _, _, _, _, _, _, _, _, _, _, _, _, _, _, _, _, _, _, _, _, _, rfl, HJ.out⟩, ?_⟩
          simp [toAt, RowKit.intOf] <;> omega
        · have b5 : (k != 5) = true := by simpa using k5
          have HJ : Hid (∃ (d t : List Int), t' + 1 = d.length ∧ TInv w B (some ⟨g, 0, none⟩) n c R W d t) := Lib.hid ⟨d ++ [k], t, by simp; omega, by
            obtain ⟨h1, h2, h3⟩ := HI.out
            refine ⟨by rw [List.append_assoc]; exact h1, h2, ?_⟩
            rw [← seek_done k5]
            exact h3⟩
          clear hl ht' HI Ht
          go_wp2_with fail
          go_step3
          refine ⟨⟨_, _, _, _, _, _, _, _, _, _, _, _, _, _, _, _, _, _, _, _, _, _, _, _, _, _, _, _, _, _, _, _, _, _, _, _, _, _, _, _, _, _, _, _, _, _, _, _, _, _, _, _, _, rfl, HJ.out⟩, ?_⟩
          simp [toAt, RowKit.intOf] <;> omega
    | 1, hl, hf =>
      simp only [findLabel, Nat.reduceBEq, Bool.false_eq_true, if_true, if_false, reduceIte] at hf
      injection hf with hf
      subst hf
      obtain ⟨d, r, j, t2, hf', ht', h1, h2, ho, HI⟩ := hl
      have hl : (d ++ (List.replicate r 5 ++ t2)).length = n := by have := HI.1.1; simpa using this
      simp only [List.length_append, List.length_replicate] at hl
      by_cases hjr : j < r
      · obtain ⟨q, hq⟩ : ∃ q, r - j = q + 1 := ⟨r - j - 1, by omega⟩
        have el : d ++ (List.replicate r 5 ++ t2) = (d ++ List.replicate j 5) ++ 5 :: (List.replicate q 5 ++ t2) := by
          rw [show r = j + (q + 1) by omega, ← List.replicate_append_replicate, List.replicate_succ]
          simp
        have hown := HI.1
        rw [el] at hown
        obtain ⟨g, hA, hin, _, _, hcell, _, _⟩ := row_at hown
        rw [List.length_append, List.length_replicate, ← ht'] at hin hcell
        subst hA
        have hnext := i64_next hin hnc hcm
        have hini : (t' : Int) < (n : Int) := by omega
        have HJ : Hid (∃ (d : List Int) (r j : Nat) (t2 : List Int), f = d.length ∧ t' + 1 = d.length + j ∧ 1 ≤ j ∧ j ≤ r ∧ OkT t2 ∧ TInv w B (some ⟨g, 0, none⟩) n c R W d (List.replicate r 5 ++ t2)) := Lib.hid ⟨d, r, j + 1, t2, hf', by omega, by omega, by omega, ho, HI⟩
        clear hl ht' HI el hown ho hf' hjr hq h1 h2
        go_wp2_with fail
        go_step3
        refine ⟨⟨_, _, _, _, _, _, _, _, _, _, _, _, _, _, _, _, _, _, _, _, _, _, _, _, _, _, _, _, _, _, _, _, _, _, _, _, _, _, _, _, _, _, _, _, _, _, _, _, _, _, _, _, _, rfl, HJ.out⟩, ?_⟩
        simp [toAt, RowKit.intOf] <;> omega
      · obtain rfl : j = r := by omega
        have hown := HI.1
        have hgr := HI.2.1
        have hen1 := enAt_back d (List.replicate j 5 ++ t2)
        have hen2 := enAt_on (d ++ List.replicate j 5) t2
        rw [List.append_assoc, List.length_append, List.length_replicate] at hen2
        have hw1 : IntKind.i64.wrap ((f : Int) - 1) = (f : Int) - 1 := by unfold maxLen at hcm; exact IntWalk.i64_in _ (by omega)
        rw [← hf'] at hen1
        rw [show ((d.length + j : Nat) : Int) = (t' : Int) by omega] at hen2
        have hD1 := Lib.hid (HD.out W _ ((f : Int) - 1) hown)
        have hD2 := Lib.hid (HD.out W _ (t' : Int) hown)
        rw [hen1] at hD1
        rw [hen2] at hD2
        have hst : t' < n → ∃ g k, A = some ⟨g, 0, none⟩ ∧ W.cell? ⟨g, t', none⟩ = some (.int .i8 k) ∧ (k == 5) = false := fun hn => by
          rcases ho with rfl | ⟨k, t3, rfl, hk⟩
          · simp at hl; omega
          · have e : d ++ (List.replicate j 5 ++ k :: t3) = (d ++ List.replicate j 5) ++ k :: t3 := by simp
            have hown' := hown
            rw [e] at hown'
            obtain ⟨g, hA, _, _, _, hcell, _, _⟩ := row_at hown'
            rw [List.length_append, List.length_replicate, ← ht'] at hcell
            exact ⟨g, k, hA, hcell, by simpa using hk⟩
        have HK := Lib.hid (show (lastE d || hd3 t2) = false → ∃ d2 t3, t' = d2.length ∧ TInv w B A n c R W d2 t3 from fun e => ⟨d ++ List.replicate j 5, t2, by simp; omega, by rw [List.append_assoc]; exact hown, hgr, by
          rw [← row_done ho h1 5 (by rw [e]; rfl)]
          exact HI.2.2⟩)
        have HF := Lib.hid (show (lastE d || hd3 t2) = true → ∀ W', W'.ownsRow B 23 1 (.slice A n c) n (i8s ((d ++ List.replicate j 3) ++ t2)) → w.grownBy W' (Value.ownBlock (.slice A n c)) → ∃ d2 t3, t' = d2.length ∧ TInv w B A n c R W' d2 t3 from fun e W' a b => ⟨d ++ List.replicate j 3, t2, by simp; omega, a, b, by
          rw [← row_done ho h1 3 (by rw [e]; rfl)]
          exact HI.2.2⟩)
        obtain ⟨b1, hb1⟩ : ∃ b1, lastE d = b1 := ⟨_, rfl⟩
        obtain ⟨b2, hb2⟩ : ∃ b2, hd3 t2 = b2 := ⟨_, rfl⟩
        rw [hb1] at hD1 HK HF
        rw [hb2] at hD2 HK HF
        obtain ⟨A', c', hsl⟩ := sliced_len A f t' c 1
        have Hsl1 := Lib.hid (HSl.out W f t' (by omega) (by omega))
        rw [hsl, show t' - f = j by omega] at Hsl1
        have Hf := Lib.hid hf'
        have hfb : f + j ≤ n := by omega
        have hfb' := Lib.hid hfb
        have htn' := Lib.hid (show t' ≤ n by omega)
        clear hsl hfb
        clear hen1 hen2 hb1 hb2 HI ht' hf' hl
        by_cases htn : t' < n
        · obtain ⟨g0, k0, hA0, hk0, hb0⟩ := hst htn
          clear hst
          have hti : (t' : Int) < (n : Int) := by omega
          subst hA0
          go_wp2_with fail
          refine hD1.out.mono ?_
          rintro _ w9 ⟨rfl, h9⟩
          obtain rfl := h9.symm
          rcases b1 with _ | _
          · go_wp2_with fail
            refine hD2.out.mono ?_
            rintro _ w9 ⟨rfl, h9⟩
            obtain rfl := h9.symm
            rcases b2 with _ | _
            · have HJ := Lib.hid (HK.out rfl)
              clear HK HF hown hgr hD1 hD2
              go_wp2_with fail
              go_step3
              refine ⟨⟨_, _, _, _, _, _, _, _, _, _, _, _, _, _, _, _, _, _, _, _, _, _, _, _, _, _, _, _, _, _, _, _, _, _, _, _, _, _, _, _, _, _, _, _, _, _, _, _, _, _, _, _, _, rfl, HJ.out⟩, ?_⟩
              simp [toAt, RowKit.intOf] <;> omega
            ·
              have hsl1 := Hsl1.out
              clear Hsl1
              go_wp2_with fail
              go_loopw [46] (fun x wr => ∃ (m q : Nat) (W' : World), W' = wr ∧ x = .int .i64 (m : Int) ∧ m + q = j ∧ Hid (W'.ownsRow B 23 1 (.slice (some ⟨g0, 0, none⟩) n c) n (i8s ((d ++ List.replicate m 3) ++ (List.replicate q 5 ++ t2))) ∧ w.grownBy W' (Value.ownBlock (.slice (some ⟨g0, 0, none⟩) n c)))) (fun x _ => j - (RowKit.intOf x).toNat)
              case atStart => exact ⟨0, j, _, rfl, rfl, by omega, Lib.hid ⟨by simpa using hown, hgr⟩⟩
              case round =>
                obtain ⟨m, q, W', hW', rfl, hmq, HW⟩ := hrel
                subst hW'
                rcases q with _ | q
                · obtain rfl : m = j := by omega
                  have hmm : ¬ (m : Int) < (m : Int) := by omega
                  have HJ := Lib.hid (HF.out rfl W' (by have := HW.out.1; simpa using this) HW.out.2)
                  clear HW HK HF hown hgr hD1 hD2
                  go_wp2_with fail
                  go_step3
                  refine ⟨⟨_, _, _, _, _, _, _, _, _, _, _, _, _, _, _, _, _, _, _, _, _, _, _, _, _, _, _, _, _, _, _, _, _, _, _, _, _, _, _, _, _, _, _, _, _, _, _, _, _, _, _, _, _, rfl, HJ.out⟩, ?_⟩
                  simp [toAt, RowKit.intOf] <;> omega
                · have hmj : (m : Int) < (j : Int) := by omega
                  obtain ⟨h3, h4⟩ := HW.out
                  rw [List.replicate_succ, List.cons_append] at h3
                  obtain ⟨g, hA, hin, _, _, hcell, hfz, hset⟩ := row_at h3
                  rw [List.length_append, List.length_replicate, ← Hf.out] at hin hcell hfz hset
                  injection hA with hA; injection hA with hA; subst hA
                  obtain ⟨i, hi⟩ : ∃ i, f + m = i := ⟨_, rfl⟩
                  rw [hi] at hin hcell hfz hset
                  have hwi : IntKind.i64.wrap ((f : Int) + (m : Int)) = (i : Int) := by rw [IntWalk.i64_in _ (by unfold maxLen at hcm; omega)]; omega
                  have hwm : IntKind.i64.wrap ((m : Int) + 1) = (m : Int) + 1 := IntWalk.i64_in _ (by unfold maxLen at hcm; omega)
                  have Hn := Lib.hid (show _ ∧ _ from ⟨(hset 3).1, h4.trans (hset 3).2⟩)
                  clear HW h3 h4 hset HK HF hown hgr hD1 hD2
                  go_wp2_with fail
                  go_roundw
                  case rel =>
                    refine ⟨m + 1, q, _, rfl, by first | rfl | go_num, by omega, Lib.hid ⟨?_, Hn.out.2⟩⟩
                    have := Hn.out.1
                    rw [List.replicate_succ', ← List.append_assoc d, List.append_assoc (d ++ List.replicate m 3)]
                    exact this
                  case measure => simp [RowKit.intOf]; omega
          ·
            have hsl1 := Hsl1.out
            clear Hsl1
            go_wp2_with fail
            go_loopw [46] (fun x wr => ∃ (m q : Nat) (W' : World), W' = wr ∧ x = .int .i64 (m : Int) ∧ m + q = j ∧ Hid (W'.ownsRow B 23 1 (.slice (some ⟨g0, 0, none⟩) n c) n (i8s ((d ++ List.replicate m 3) ++ (List.replicate q 5 ++ t2))) ∧ w.grownBy W' (Value.ownBlock (.slice (some ⟨g0, 0, none⟩) n c)))) (fun x _ => j - (RowKit.intOf x).toNat)
            case atStart => exact ⟨0, j, _, rfl, rfl, by omega, Lib.hid ⟨by simpa using hown, hgr⟩⟩
            case round =>
              obtain ⟨m, q, W', hW', rfl, hmq, HW⟩ := hrel
              subst hW'
              rcases q with _ | q
              · obtain rfl : m = j := by omega
                have hmm : ¬ (m : Int) < (m : Int) := by omega
                have HJ := Lib.hid (HF.out rfl W' (by have := HW.out.1; simpa using this) HW.out.2)
                clear HW HK HF hown hgr hD1 hD2
                go_wp2_with fail
                go_step3
                refine ⟨⟨_, _, _, _, _, _, _, _, _, _, _, _, _, _, _, _, _, _, _, _, _, _, _, _, _, _, _, _, _, _, _, _, _, _, _, _, _, _, _, _, _, _, _, _, _, _, _, _, _, _, _, _, _, rfl, HJ.out⟩, ?_⟩
                simp [toAt, RowKit.intOf] <;> omega
              · have hmj : (m : Int) < (j : Int) := by omega
                obtain ⟨h3, h4⟩ := HW.out
                rw [List.replicate_succ, List.cons_append] at h3
                obtain ⟨g, hA, hin, _, _, hcell, hfz, hset⟩ := row_at h3
                rw [List.length_append, List.length_replicate, ← Hf.out] at hin hcell hfz hset
                injection hA with hA; injection hA with hA; subst hA
                obtain ⟨i, hi⟩ : ∃ i, f + m = i := ⟨_, rfl⟩
                rw [hi] at hin hcell hfz hset
                have hwi : IntKind.i64.wrap ((f : Int) + (m : Int)) = (i : Int) := by rw [IntWalk.i64_in _ (by unfold maxLen at hcm; omega)]; omega
                have hwm : IntKind.i64.wrap ((m : Int) + 1) = (m : Int) + 1 := IntWalk.i64_in _ (by unfold maxLen at hcm; omega)
                have Hn := Lib.hid (show _ ∧ _ from ⟨(hset 3).1, h4.trans (hset 3).2⟩)
                clear HW h3 h4 hset HK HF hown hgr hD1 hD2
                go_wp2_with fail
                go_roundw
                case rel =>
                  refine ⟨m + 1, q, _, rfl, by first | rfl | go_num, by omega, Lib.hid ⟨?_, Hn.out.2⟩⟩
                  have := Hn.out.1
                  rw [List.replicate_succ', ← List.append_assoc d, List.append_assoc (d ++ List.replicate m 3)]
                  exact this
                case measure => simp [RowKit.intOf]; omega
        · have hti : ¬ (t' : Int) < (n : Int) := by omega
          clear hst
          go_wp2_with fail
          refine hD1.out.mono ?_
          rintro _ w9 ⟨rfl, h9⟩
          obtain rfl := h9.symm
          rcases b1 with _ | _
          · go_wp2_with fail
            refine hD2.out.mono ?_
            rintro _ w9 ⟨rfl, h9⟩
            obtain rfl := h9.symm
            rcases b2 with _ | _
            · have HJ := Lib.hid (HK.out rfl)
              clear HK HF hown hgr hD1 hD2
              go_wp2_with fail
              go_step3
              refine ⟨⟨_, _, _, _, _, _, _, _, _, _, _, _, _, _, _, _, _, _, _, _, _, _, _, _, _, _, _, _, _, _, _, _, _, _, _, _, _, _, _, _, _, _, _, _, _, _, _, _, _, _, _, _, _, rfl, HJ.out⟩, ?_⟩
              simp [toAt, RowKit.intOf] <;> omega
            ·
              have hsl1 := Hsl1.out
              clear Hsl1
              go_wp2_with fail
              go_loopw [46] (fun x wr => ∃ (m q : Nat) (W' : World), W' = wr ∧ x = .int .i64 (m : Int) ∧ m + q = j ∧ Hid (W'.ownsRow B 23 1 (.slice A n c) n (i8s ((d ++ List.replicate m 3) ++ (List.replicate q 5 ++ t2))) ∧ w.grownBy W' (Value.ownBlock (.slice A n c)))) (fun x _ => j - (RowKit.intOf x).toNat)
              case atStart => exact ⟨0, j, _, rfl, rfl, by omega, Lib.hid ⟨by simpa using hown, hgr⟩⟩
              case round =>
                obtain ⟨m, q, W', hW', rfl, hmq, HW⟩ := hrel
                subst hW'
                rcases q with _ | q
                · obtain rfl : m = j := by omega
                  have hmm : ¬ (m : Int) < (m : Int) := by omega
                  have HJ := Lib.hid (HF.out rfl W' (by have := HW.out.1; simpa using this) HW.out.2)
                  clear HW HK HF hown hgr hD1 hD2
                  go_wp2_with fail
                  go_step3
                  refine ⟨⟨_, _, _, _, _, _, _, _, _, _, _, _, _, _, _, _, _, _, _, _, _, _, _, _, _, _, _, _, _, _, _, _, _, _, _, _, _, _, _, _, _, _, _, _, _, _, _, _, _, _, _, _, _, rfl, HJ.out⟩, ?_⟩
                  simp [toAt, RowKit.intOf] <;> omega
                · have hmj : (m : Int) < (j : Int) := by omega
                  obtain ⟨h3, h4⟩ := HW.out
                  rw [List.replicate_succ, List.cons_append] at h3
                  obtain ⟨g, hA, hin, _, _, hcell, hfz, hset⟩ := row_at h3
                  rw [List.length_append, List.length_replicate, ← Hf.out] at hin hcell hfz hset
                  subst hA
                  obtain ⟨i, hi⟩ : ∃ i, f + m = i := ⟨_, rfl⟩
                  rw [hi] at hin hcell hfz hset
                  have hwi : IntKind.i64.wrap ((f : Int) + (m : Int)) = (i : Int) := by rw [IntWalk.i64_in _ (by unfold maxLen at hcm; omega)]; omega
                  have hwm : IntKind.i64.wrap ((m : Int) + 1) = (m : Int) + 1 := IntWalk.i64_in _ (by unfold maxLen at hcm; omega)
                  have Hn := Lib.hid (show _ ∧ _ from ⟨(hset 3).1, h4.trans (hset 3).2⟩)
                  clear HW h3 h4 hset HK HF hown hgr hD1 hD2
                  go_wp2_with fail
                  go_roundw
                  case rel =>
                    refine ⟨m + 1, q, _, rfl, by first | rfl | go_num, by omega, Lib.hid ⟨?_, Hn.out.2⟩⟩
                    have := Hn.out.1
                    rw [List.replicate_succ', ← List.append_assoc d, List.append_assoc (d ++ List.replicate m 3)]
                    exact this
                  case measure => simp [RowKit.intOf]; omega
          ·
            have hsl1 := Hsl1.out
            clear Hsl1
            go_wp2_with fail
            go_loopw [46] (fun x wr => ∃ (m q : Nat) (W' : World), W' = wr ∧ x = .int .i64 (m : Int) ∧ m + q = j ∧ Hid (W'.ownsRow B 23 1 (.slice A n c) n (i8s ((d ++ List.replicate m 3) ++ (List.replicate q 5 ++ t2))) ∧ w.grownBy W' (Value.ownBlock (.slice A n c)))) (fun x _ => j - (RowKit.intOf x).toNat)
            case atStart => exact ⟨0, j, _, rfl, rfl, by omega, Lib.hid ⟨by simpa using hown, hgr⟩⟩
            case round =>
              obtain ⟨m, q, W', hW', rfl, hmq, HW⟩ := hrel
              subst hW'
              rcases q with _ | q
              · obtain rfl : m = j := by omega
                have hmm : ¬ (m : Int) < (m : Int) := by omega
                have HJ := Lib.hid (HF.out rfl W' (by have := HW.out.1; simpa using this) HW.out.2)
                clear HW HK HF hown hgr hD1 hD2
                go_wp2_with fail
                go_step3
                refine ⟨⟨_, _, _, _, _, _, _, _, _, _, _, _, _, _, _, _, _, _, _, _, _, _, _, _, _, _, _, _, _, _, _, _, _, _, _, _, _, _, _, _, _, _, _, _, _, _, _, _, _, _, _, _, _, rfl, HJ.out⟩, ?_⟩
                simp [toAt, RowKit.intOf] <;> omega
              · have hmj : (m : Int) < (j : Int) := by omega
                obtain ⟨h3, h4⟩ := HW.out
                rw [List.replicate_succ, List.cons_append] at h3
                obtain ⟨g, hA, hin, _, _, hcell, hfz, hset⟩ := row_at h3
                rw [List.length_append, List.length_replicate, ← Hf.out] at hin hcell hfz hset
                subst hA
                obtain ⟨i, hi⟩ : ∃ i, f + m = i := ⟨_, rfl⟩
                rw [hi] at hin hcell hfz hset
                have hwi : IntKind.i64.wrap ((f : Int) + (m : Int)) = (i : Int) := by rw [IntWalk.i64_in _ (by unfold maxLen at hcm; omega)]; omega
                have hwm : IntKind.i64.wrap ((m : Int) + 1) = (m : Int) + 1 := IntWalk.i64_in _ (by unfold maxLen at hcm; omega)
                have Hn := Lib.hid (show _ ∧ _ from ⟨(hset 3).1, h4.trans (hset 3).2⟩)
                clear HW h3 h4 hset HK HF hown hgr hD1 hD2
                go_wp2_with fail
                go_roundw
                case rel =>
                  refine ⟨m + 1, q, _, rfl, by first | rfl | go_num, by omega, Lib.hid ⟨?_, Hn.out.2⟩⟩
                  have := Hn.out.1
                  rw [List.replicate_succ', ← List.append_assoc d, List.append_assoc (d ++ List.replicate m 3)]
                  exact this
                case measure => simp [RowKit.intOf]; omega
end Go.Proofs.Ytajpkidjdebolaa
