/- Layer 12, the program: All, Is, Next, Prev; what its functions answer. -/
import Derived.Test.YtiafofekobcifaaDoorPgAG
import Derived.Test.YtiafofekobcifaaDoorHyW
set_option linter.unusedSimpArgs false
set_option linter.unusedVariables false
namespace Go.Proofs.YtiafofekobcifaaDoor
open Go.RowKit Go.Shelf Go.Lib
attribute [local go_sem] Oper.semAt_some

theorem bord_zero (s : ByteArray) : BordWd s 0 0 0 := ⟨Nat.zero_le _, hbw_zero s, .inl rfl, rfl, rfl, rfl⟩
/-- two boxes laid, one behind the other -/
theorem two_boxes (w : World) (B : Nat) (hB : w.heap.size = B) (s : ByteArray) (p : Int) : Boxed ((w.alloc (.cells #[.string s] 9)).alloc (.cells #[.int .i64 p] 3)) B 9 (.string s) ∧
    Boxed ((w.alloc (.cells #[.string s] 9)).alloc (.cells #[.int .i64 p] 3)) (B + 1) 3 (.int .i64 p) ∧ ((w.alloc (.cells #[.string s] 9)).alloc (.cells #[.int .i64 p] 3)).heap.size = B + 2 ∧
    Below w.heap.size w ((w.alloc (.cells #[.string s] 9)).alloc (.cells #[.int .i64 p] 3)) := by
  have h := Boxed.new w 9 (.string s)
  have h' := Boxed.new (w.alloc (.cells #[.string s] 9)) 3 (.int .i64 p)
  rw [hB] at h
  rw [World.size_alloc, hB] at h'
  exact ⟨h.alloc _, h', by simp [hB], ((Below.refl _ w).alloc (Nat.le_refl _) _).alloc (by simp) _⟩
/-- where a place lies among the segments -/
theorem seg_has (s : ByteArray) (p : Nat) (hp : p < s.size) : ∃ (n : Nat) (y : Nat × ByteArray), (wds s)[n]? = some y ∧ y.1 ≤ p ∧ p < y.1 + y.2.size := by
  have key : ∀ m j, (wds s).length - j ≤ m → sumB ((wds s).take j) ≤ p → ∃ (n : Nat) (y : Nat × ByteArray), (wds s)[n]? = some y ∧ y.1 ≤ p ∧ p < y.1 + y.2.size := by
    intro m
    induction m with
    | zero =>
      intro j hj h
      rw [List.take_of_length_le (by omega), wds_sum] at h
      omega
    | succ m ih =>
      intro j hj h
      rcases Nat.lt_or_ge j (wds s).length with hl | hl
      · obtain ⟨y, hy⟩ : ∃ y, (wds s)[j]? = some y := ⟨_, List.getElem?_eq_getElem hl⟩
        have hc := (wds_chain s j y hy).1
        rcases Nat.lt_or_ge p (y.1 + y.2.size) with h1 | h1
        · exact ⟨j, y, hy, by omega, h1⟩
        · refine ih (j + 1) (by omega) ?_
          rw [take_snoc _ _ _ hy, sumB_snoc]
          omega
      · rw [List.take_of_length_le hl, wds_sum] at h
        omega
  exact key _ 0 (Nat.le_refl _) (by rw [List.take_zero]; exact Nat.zero_le _)
theorem at_bord (s : ByteArray) (p : Nat) (hp : p ≤ s.size) : ∃ n i, BordWd s n i (atF p s.size (wds s)).1 ∧ (atF p s.size (wds s)).1 ≤ p := by
  rcases Nat.lt_or_ge p s.size with h | h
  · obtain ⟨n, y, hy, h1, h2⟩ := seg_has s p h
    obtain ⟨i, hb⟩ := seg_bord s n y hy
    rw [at_seg s p n y hy h1 h2]
    exact ⟨n, i, hb, h1⟩
  · have : p = s.size := by omega
    subst this
    rw [at_last]
    obtain ⟨i, q, hb⟩ := wsplit s (wds s).length (Nat.le_refl _)
    have := wcut_end s i q hb
    subst this
    exact ⟨_, i, hb, Nat.le_refl _⟩
/-- where a place's cluster ends: what is told backward from there -/
def BackAt (s : ByteArray) (p b : Nat) : Prop := ∃ e, BordCl s e b ∧ prvB p (bckW s e b) = prevF p 0 (wds s)
theorem back_in (s : ByteArray) (p a b : Nat) (h : Around s p a b) : BackAt s p b := by
  obtain ⟨k, x, hx, _, hxb, _, hpb⟩ := around_get s p a b h
  refine ⟨k + 1, by rw [← hxb]; exact bordCl_end s k x hx, ?_⟩
  show prvB p (remW s b k) = _
  rw [← hxb]
  exact prev_seg s p k x hx (by omega)
theorem back_end (s : ByteArray) : BackAt s s.size s.size := by
  rcases Nat.eq_zero_or_pos (pcs s).length with h | h
  · have h0 : pcs s = [] := List.eq_nil_of_length_eq_zero h
    have hz : s.size = 0 := by have := pcs_sum s; rw [h0] at this; exact this.symm
    refine ⟨0, by rw [hz]; exact bordCl_empty s hz, ?_⟩
    have hw : wds s = [] := by unfold wds; rw [h0]; rfl
    rw [hw]
    rfl
  · obtain ⟨x, hx⟩ : ∃ x, (pcs s)[(pcs s).length - 1]? = some x := ⟨_, List.getElem?_eq_getElem (by omega)⟩
    have hl := pcs_last hx (by omega)
    have hb := bordCl_end s _ x hx
    rw [hl] at hb
    refine ⟨_, hb, ?_⟩
    show prvB s.size (remW s s.size ((pcs s).length - 1)) = _
    have := prev_seg s s.size _ x hx (by omega)
    rw [hl] at this
    exact this
theorem pclat_any (s : ByteArray) (p : Nat) (w : World) (hp : p ≤ s.size) (hs : s.size ≤ 1073741824) (hT : Utf8Tabs 0 1 w) :
    Calls Tryd.prog 29 #[.string s, .int .i64 (p : Int)] w fun e w' => ∃ a b : Nat, e = .returned (.tuple #[.int .i64 (a : Int), .int .i64 (b : Int)]) ∧ BackAt s p b ∧ Below w.heap.size w w' := by
  rcases Nat.lt_or_ge p s.size with h | h
  · refine (at_any s (p : Int) p w (by omega) h hs hT).mono ?_
    rintro _ w' ⟨⟨a, b, rfl, har⟩, hb⟩
    exact ⟨a, b, rfl, back_in s p a b har, hb⟩
  · have : p = s.size := by omega
    subst this
    refine (at_end s (s.size : Int) w (by omega) hs).mono ?_
    rintro _ w' ⟨rfl, hb⟩
    exact ⟨s.size, s.size, rfl, back_end s, hb⟩
set_option maxRecDepth 100000 in
set_option maxHeartbeats 1000000 in
theorem pis_any (s : ByteArray) (q : Int) (w : World) (hs : s.size ≤ 1073741824) (hT : Utf8Tabs 0 1 w) :
    Calls Tryd.prog 13 #[.string s, .int .i64 q] w fun e w' => e = .returned (.bool (isW s q)) ∧ Below w.heap.size w w' := by
  have HA := Lib.hid (pat_any s q w hs hT)
  have HV := Lib.hid (show isW s q = (((atW s q).1 : Int) == q) from by
    have hpl : intoW s q ≤ s.size := by unfold intoW; omega
    have hAt : atW s q = atF (intoW s q) s.size (wds s) := rfl
    rw [hAt]
    by_cases hpe : intoW s q = s.size
    · rw [is_end s q hpe, hpe, at_last]
    · obtain ⟨n, y, hy, h1, h2⟩ := seg_has s (intoW s q) (by omega)
      rw [is_seg s q n y hy h1 h2, at_seg s _ n y hy h1 h2])
  obtain ⟨v, hv⟩ : ∃ v, isW s q = v := ⟨_, rfl⟩
  obtain ⟨a, ha⟩ : ∃ a, (atW s q).1 = a := ⟨_, rfl⟩
  obtain ⟨b, hb⟩ : ∃ b, (atW s q).2 = b := ⟨_, rfl⟩
  rw [ha, hb] at HA
  rw [hv, ha] at HV
  rw [hv]
  clear hT hv ha hb
  go_enter Tryd.func13, Tryd.ntmps13
  go_wp2_with fail
  refine HA.out.mono ?_
  rintro _ w1 ⟨rfl, b1⟩
  have B1 := Lib.hid b1
  clear b1 HA
  go_wp2_with fail
  go_ret
  exact ⟨by rw [HV.out] <;> rfl, B1.out⟩
set_option maxRecDepth 100000 in
set_option maxHeartbeats 1000000 in
theorem pnext_any (s : ByteArray) (q : Int) (w : World) (hs : s.size ≤ 1073741824) (hT : Utf8Tabs 0 1 w) :
    Calls Tryd.prog 15 #[.string s, .int .i64 q] w fun e w' => e = .returned (.int .i64 (nextW s q : Nat)) ∧ Below w.heap.size w w' := by
  obtain ⟨B, hB⟩ : ∃ B, w.heap.size = B := ⟨_, rfl⟩
  have h2 := tabs_size hT
  have HI := Lib.hid (fun W => pinto_any s q W hs)
  have hpl : intoW s q ≤ s.size := by unfold intoW; omega
  have hN : nextW s q = nextF (intoW s q) s.size (wds s) := rfl
  rw [hN]
  clear hN
  obtain ⟨p, hp⟩ : ∃ p, intoW s q = p := ⟨_, rfl⟩
  rw [hp] at HI hpl ⊢
  rw [hB] at h2 ⊢
  obtain ⟨n, i, hbd, hle⟩ := at_bord s p hpl
  have hAt : atW s (p : Int) = atF p s.size (wds s) := by unfold atW; rw [intoW_nat s p hpl]
  have HA := Lib.hid (fun W hT => pat_any s (p : Int) W hs hT)
  rw [hAt] at HA
  have hV : nextF p s.size (wds s) = fstW (fun b => decide (p < b)) s.size ((wds s).drop n) := by
    rw [fst_next]
    exact nextF_drop s p n (by have := hbd.sm; omega)
  rw [hV]
  obtain ⟨f, hf⟩ : ∃ f, (atF p s.size (wds s)).1 = f := ⟨_, rfl⟩
  obtain ⟨g, hg⟩ : ∃ g, (atF p s.size (wds s)).2 = g := ⟨_, rfl⟩
  rw [hf, hg] at HA
  rw [hf] at hbd hle
  have HO := Lib.hid (fun W => on_mk s (f : Int) W)
  have HT := Lib.hid hT
  clear hT hV hp hAt hf hg
  go_enter Tryd.func15, Tryd.ntmps15
  obtain ⟨Wa, hWa⟩ : ∃ Wa, w.alloc (.cells #[.int .i64 q] 3) = Wa := ⟨_, rfl⟩
  have b0 : Boxed Wa B 3 (.int .i64 q) := by rw [← hWa, ← hB]; exact Boxed.new w _ _
  have hBa : Below B w Wa := by rw [← hWa]; exact (Below.refl B w).alloc (by omega) _
  have b0c := b0.cell
  go_wp2_with fail
  clear hWa
  refine (HI.out Wa).mono ?_
  rintro _ w1 ⟨rfl, r1⟩
  have c0 := boxed_below b0 r1
  have hB1 : Below B w w1 := hBa.trans (r1.mono (Nat.le_of_lt b0.lt))
  have c0c := c0.cell
  have c0f := c0.frozen
  obtain ⟨w2, hw2⟩ : ∃ w2, w1.setCell ⟨B, 0, none⟩ (.int .i64 (p : Int)) = w2 := ⟨_, rfl⟩
  have d0 : Boxed w2 B 3 (.int .i64 (p : Int)) := by rw [← hw2]; exact c0.set _
  have hB2 : Below B w w2 := by rw [← hw2]; exact hB1.setCell (p := ⟨B, 0, none⟩) (Nat.le_refl _) _
  have d0c := d0.cell
  have T2 := Lib.hid (Utf8Tabs_below HT.out (by rw [hB]; exact hB2))
  have D0 := Lib.hid d0
  clear r1 b0 hBa HI c0 d0 b0c hB1
  go_wp2_with fail
  refine (HA.out _ T2.out).mono ?_
  rintro _ w3 ⟨rfl, r3⟩
  have e0 := boxed_below D0.out r3
  have hB3 : Below B w w3 := hB2.trans (r3.mono (Nat.le_of_lt D0.out.lt))
  have T3 := Lib.hid (Utf8Tabs_below T2.out r3)
  clear hw2 r3 T2 D0 HA hB2 d0c c0c c0f
  go_wp2_with fail
  refine (HO.out _).mono ?_
  obtain ⟨C, hC⟩ : ∃ C, w3.heap.size = C := ⟨_, rfl⟩
  obtain ⟨m0, m1, z4, r4⟩ := two_boxes w3 C hC s (f : Int)
  rintro _ w4 ⟨rfl, hw4⟩
  rw [hC]
  rw [← hw4] at m0 m1 z4 r4
  have f0 := boxed_below e0 r4
  have T4 := Utf8Tabs_below T3.out r4
  have hB4 : Below B w w4 := hB3.trans (r4.mono (Nat.le_of_lt e0.lt))
  have hBC := e0.lt
  have Hbeg := Lib.hid (pbeg_any 43 33 #[.pointer (some ⟨C + 1, 0, none⟩), .pointer (some ⟨C, 0, none⟩)] ((wds s).drop n) (fun k => k < w4.heap.size) B (fun b => decide (p < b)) s.size w4
    (enters_of Tryd.func43 (by kernel_rfl) rfl) (seqOn 8 (by omega) (C + 1) C (fun k => k < w4.heap.size) s n i f hbd w4 (by omega) (by omega) (by omega) (by omega) m1.cell m0.cell hs T4) (fun _ h => h)
    (enters_of Tryd.func33 (by kernel_rfl) rfl) (by omega) (fun x W hb => pnext1_any B p x W ((hb.cell (p := ⟨B, 0, none⟩) (by show B < w4.heap.size; omega)).trans f0.cell)) T4)
  have HB4 := Lib.hid hB4
  have hs4 : B ≤ w4.heap.size := by omega
  clear hw4 m0 m1 r4 f0 T4 hB4 e0 T3 HO hbd hB3
  go_wp2_with fail
  refine Hbeg.out.mono ?_
  rintro _ w5 ⟨rfl, r5⟩
  have B5 := Lib.hid (HB4.out.trans (r5.mono hs4))
  clear r5 Hbeg HB4
  go_wp2_with fail
  go_ret
  exact ⟨rfl, B5.out⟩
set_option maxRecDepth 100000 in
set_option maxHeartbeats 1000000 in
theorem pprev_any (s : ByteArray) (q : Int) (w : World) (hs : s.size ≤ 1073741824) (hT : Utf8Tabs 0 1 w) :
    Calls Tryd.prog 17 #[.string s, .int .i64 q] w fun e w' => e = .returned (.int .i64 (prevW s q : Nat)) ∧ Below w.heap.size w w' := by
  obtain ⟨B, hB⟩ : ∃ B, w.heap.size = B := ⟨_, rfl⟩
  have h2 := tabs_size hT
  have HI := Lib.hid (fun W => pinto_any s q W hs)
  have hpl : intoW s q ≤ s.size := by unfold intoW; omega
  have hN : prevW s q = prevF (intoW s q) 0 (wds s) := rfl
  rw [hN]
  clear hN
  obtain ⟨p, hp⟩ : ∃ p, intoW s q = p := ⟨_, rfl⟩
  rw [hp] at HI hpl ⊢
  rw [hB] at h2 ⊢
  obtain ⟨v, hv⟩ : ∃ v, prevF p 0 (wds s) = v := ⟨_, rfl⟩
  have HA := Lib.hid (fun W hT => pclat_any s p W hpl hs hT)
  rw [hv]
  have Hv := Lib.hid hv
  have HT := Lib.hid hT
  clear hT hp hv
  go_enter Tryd.func17, Tryd.ntmps17
  obtain ⟨Wa, hWa⟩ : ∃ Wa, w.alloc (.cells #[.int .i64 q] 3) = Wa := ⟨_, rfl⟩
  have b0 : Boxed Wa B 3 (.int .i64 q) := by rw [← hWa, ← hB]; exact Boxed.new w _ _
  have hBa : Below B w Wa := by rw [← hWa]; exact (Below.refl B w).alloc (by omega) _
  have b0c := b0.cell
  go_wp2_with fail
  clear hWa
  refine (HI.out Wa).mono ?_
  rintro _ w1 ⟨rfl, r1⟩
  have c0 := boxed_below b0 r1
  have hB1 : Below B w w1 := hBa.trans (r1.mono (Nat.le_of_lt b0.lt))
  have c0c := c0.cell
  have c0f := c0.frozen
  obtain ⟨w2, hw2⟩ : ∃ w2, w1.setCell ⟨B, 0, none⟩ (.int .i64 (p : Int)) = w2 := ⟨_, rfl⟩
  have d0 : Boxed w2 B 3 (.int .i64 (p : Int)) := by rw [← hw2]; exact c0.set _
  have hB2 : Below B w w2 := by rw [← hw2]; exact hB1.setCell (p := ⟨B, 0, none⟩) (Nat.le_refl _) _
  have d0c := d0.cell
  have T2 := Lib.hid (Utf8Tabs_below HT.out (by rw [hB]; exact hB2))
  have D0 := Lib.hid d0
  clear r1 b0 hBa HI c0 d0 b0c hB1
  go_wp2_with fail
  refine (HA.out _ T2.out).mono ?_
  rintro _ w3 ⟨a, b, rfl, ⟨u, hbd, hval⟩, r3⟩
  have e0 := boxed_below D0.out r3
  have hB3 : Below B w w3 := hB2.trans (r3.mono (Nat.le_of_lt D0.out.lt))
  have T3 := Lib.hid (Utf8Tabs_below T2.out r3)
  have HO := Lib.hid (fun W => bk_mk s (b : Int) W)
  have Hval := Lib.hid hval
  clear hw2 r3 T2 D0 HA hB2 d0c c0c c0f hval
  go_wp2_with fail
  refine (HO.out _).mono ?_
  obtain ⟨C, hC⟩ : ∃ C, w3.heap.size = C := ⟨_, rfl⟩
  obtain ⟨m0, m1, z4, r4⟩ := two_boxes w3 C hC s (b : Int)
  rintro _ w4 ⟨rfl, hw4⟩
  rw [hC]
  rw [← hw4] at m0 m1 z4 r4
  have f0 := boxed_below e0 r4
  have T4 := Utf8Tabs_below T3.out r4
  have hB4 : Below B w w4 := hB3.trans (r4.mono (Nat.le_of_lt e0.lt))
  have hBC := e0.lt
  have Hbeg := Lib.hid (pbeg_any 49 35 #[.pointer (some ⟨C + 1, 0, none⟩), .pointer (some ⟨C, 0, none⟩)] (bckW s u b) (fun k => k < w4.heap.size) B (fun b => decide (b < p)) 0 w4
    (enters_of Tryd.func49 (by kernel_rfl) rfl) (seqBk 8 (by omega) (C + 1) C (fun k => k < w4.heap.size) s u b hbd w4 (by omega) (by omega) (by omega) (by omega) m1.cell m0.cell hs T4) (fun _ h => h)
    (enters_of Tryd.func35 (by kernel_rfl) rfl) (by omega) (fun x W hb => pprev1_any B p x W ((hb.cell (p := ⟨B, 0, none⟩) (by show B < w4.heap.size; omega)).trans f0.cell)) T4)
  rw [fst_prev, Hval.out, Hv.out] at Hbeg
  rw [show ((0 : Nat) : Int) = 0 from rfl] at Hbeg
  have HB4 := Lib.hid hB4
  have hs4 : B ≤ w4.heap.size := by omega
  clear hw4 m0 m1 r4 f0 T4 hB4 e0 T3 HO hbd hB3
  go_wp2_with fail
  refine Hbeg.out.mono ?_
  rintro _ w5 ⟨rfl, r5⟩
  have B5 := Lib.hid (HB4.out.trans (r5.mono hs4))
  clear r5 Hbeg HB4
  go_wp2_with fail
  go_ret
  exact ⟨rfl, B5.out⟩
set_option maxRecDepth 100000 in
set_option maxHeartbeats 1000000 in
theorem pall_any (s : ByteArray) (w : World) (hs : s.size ≤ 1073741824) (hT : Utf8Tabs 0 1 w) :
    Calls Tryd.prog 9 #[.string s] w (AllW s w) := by
  obtain ⟨C, hC⟩ : ∃ C, w.heap.size = C := ⟨_, rfl⟩
  obtain ⟨m0, m1, z4, r4⟩ := two_boxes w C hC s ((0 : Nat) : Int)
  have HO := Lib.hid (on_mk s 0 w)
  obtain ⟨w4, hw4⟩ : ∃ w4, (w.alloc (.cells #[.string s] 9)).alloc (.cells #[.int .i64 ((0 : Nat) : Int)] 3) = w4 := ⟨_, rfl⟩
  have hfin : AllW s w (.returned (.func (.func 43) #[] #[.pointer (some ⟨C + 1, 0, none⟩), .pointer (some ⟨C, 0, none⟩)])) w4 := by
    rw [hw4] at m0 m1 z4 r4
    refine ⟨_, _, rfl, r4, enters_of Tryd.func43 (by kernel_rfl) rfl, fun W => rfl, ?_⟩
    intro N₀ W h0 h1 hN hK
    have k0 := hK.cell (p := ⟨C, 0, none⟩) (.inl (hN C (by omega) (by omega))) m0.cell
    have k1 := hK.cell (p := ⟨C + 1, 0, none⟩) (.inl (hN (C + 1) (by omega) (by omega))) m1.cell
    have hTW := hK.u8 (.inl h0) (.inl h1) (Utf8Tabs_below hT r4)
    exact seqOn 8 (by omega) (C + 1) C N₀ s 0 0 0 (bord_zero s) W (hN _ (by omega) (by omega)) (hN _ (by omega) (by omega)) h0 h1 k1 k0 hs hTW
  have Hfin := Lib.hid hfin
  clear hfin m0 m1 z4 r4 hT
  go_enter Tryd.func9, Tryd.ntmps9
  go_wp2_with fail
  refine HO.out.mono ?_
  rintro _ _ ⟨rfl, rfl⟩
  rw [hC]
  have HW := Lib.hid hw4
  clear HO hw4
  go_wp2_with fail
  go_ret
  have h := Hfin.out
  rw [← HW.out] at h
  exact h
theorem wordP_is : WordP := ⟨pall_any, pis_any, pnext_any, pprev_any, pat_any⟩
end Go.Proofs.YtiafofekobcifaaDoor
