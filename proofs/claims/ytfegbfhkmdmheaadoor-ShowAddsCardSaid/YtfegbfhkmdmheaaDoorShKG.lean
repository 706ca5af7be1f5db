/- Clusters are small: 128 bytes at most. -/
import Derived.Test.YtfegbfhkmdmheaaDoorRowG
import Derived.Test.YtfegbfhkmdmheaaDoorShJG
import Derived.Test.YtfegbfhkmdmheaaDoorShGG
import Derived.Test.YtfegbfhkmdmheaaDoorSeqNG
set_option linter.unusedSimpArgs false
set_option linter.unusedVariables false
namespace Go.Proofs.YtfegbfhkmdmheaaDoor
open Go.RowKit Go.Lib

/-- a cluster has 128 bytes at most -/
theorem total_le4 : ∀ (l : List (Nat × Nat)), (∀ d ∈ l, d.2 ≤ 4) → total l ≤ 4 * l.length
  | [], _ => by simp [total]
  | d :: t, h => by
    have h1 := h d (by simp)
    have h2 := total_le4 t fun c hc => h c (by simp [hc])
    have : total (d :: t) = d.2 + total t := by simp [total]
    rw [this, List.length_cons]
    omega
theorem segs_le4 (l : List UInt8) : ∀ d ∈ segs l, d.2 ≤ 4 := by
  refine walk_ind (p := fun l => ∀ d ∈ segs l, d.2 ≤ 4) (by rw [segs_nil]; intro d h; cases h) (fun l hl ih d hd => ?_) l
  rw [segs_cons l hl] at hd
  rcases List.mem_cons.1 hd with rfl | hd
  · exact (dec_facts l hl).2.1
  · exact ih d hd
theorem pcs_small (s : ByteArray) (i : Nat) (x : Nat × ByteArray) (h : (pcs s)[i]? = some x) : x.2.size ≤ 128 := by
  have hj := (List.getElem?_eq_some_iff.1 h).1
  obtain ⟨k, hk, hd⟩ := split_at s i (by omega)
  obtain ⟨hkc, hx⟩ := drop_at s i k hd hj
  rw [h] at hx
  obtain rfl := Option.some.inj hx
  have h1 := pc_size s k
  have h2 : placeAt s (clEnd s k) = placeAt s k + total (((segs s.data.toList).drop k).take (clD ((segs s.data.toList).drop k))) := by
    show placeAt s (k + clD _) = _
    rw [placeAt_add]
  have hl : ((segs s.data.toList).drop k).length = chars s - k := by rw [List.length_drop]; rfl
  have h3 := clD_bounds (ds := (segs s.data.toList).drop k) (by omega)
  have h4 := total_le4 (((segs s.data.toList).drop k).take (clD ((segs s.data.toList).drop k))) (fun d hd => segs_le4 _ d (List.mem_of_mem_drop (List.mem_of_mem_take hd)))
  rw [List.length_take, Nat.min_eq_left h3.2.1] at h4
  show (s.extract (placeAt s k) (placeAt s (clEnd s k))).size ≤ 128
  omega
end Go.Proofs.YtfegbfhkmdmheaaDoor

/- What is shown of a text's first cluster: show.Text, walked. -/
namespace Go.Proofs.YtfegbfhkmdmheaaDoor
open Go.RowKit Go.Shelf Go.Lib

theorem ext_all6 (s : ByteArray) : s.extract 0 s.size = s := ba6 (by rw [take_list, List.take_of_length_le (by rw [size_list]; exact Nat.le_refl _)])
theorem first_ext (s : ByteArray) : (s.extract 0 (placeAt s (clEnd s 0))).data.toList = firstK s.data.toList := by
  rw [take_list]
  unfold firstK placeAt clEnd
  simp
theorem pnext6 (s : ByteArray) (w : World) (hT : Utf8Tabs 0 1 w) (hs : s.size ≤ 1073741824) :
    Calls Tryd.prog 48 #[.string s] w fun e w' => e = .returned (.int .i64 ((placeAt s (clEnd s 0) : Nat) : Int)) ∧ Below w.heap.size w w' := by
  have h := cnext_rest s 0 w (Nat.zero_le _) hT (by omega)
  rw [placeAt_zero, ext_all6] at h
  exact h
set_option maxRecDepth 100000 in
set_option maxHeartbeats 1000000 in
theorem ptext_any (s : ByteArray) (col tb : Int) (wd : Bool) (wt : Int) (jn rz : Bool) (w : World) (hs : s.size ≤ 1073741824) (h0 : -9223372036854775808 ≤ col) (h1 : col ≤ 9223372036854775807) (hT : Utf8Tabs 0 1 w) :
    Calls Tryd.prog 79 #[.string s, .int .i64 col, lookV tb wd wt jn rz] w fun e w' =>
      e = .returned (.tuple #[.string ⟨(textZ rz wd tb col.toNat s.data.toList).1.toArray⟩, .int .i64 (((textZ rz wd tb col.toNat s.data.toList).2 : Nat) : Int)]) ∧ Below w.heap.size w w' := by
  obtain ⟨B, hB⟩ : ∃ B, w.heap.size = B := ⟨_, rfl⟩
  have HN := Lib.hid (fun W hT => pnext6 s W hT hs)
  have hfe := first_ext s
  have hle := placeAt_le s (clEnd s 0)
  obtain ⟨E, hE⟩ : ∃ E, placeAt s (clEnd s 0) = E := ⟨_, rfl⟩
  rw [hE] at HN hfe hle
  have hc := fun W hT => ofCl_any (s.extract 0 E) col tb wd wt jn rz W (by simp; omega) h0 h1 hT
  rw [hfe] at hc
  unfold textZ
  obtain ⟨X, hX⟩ : ∃ X, oneZ (circP (firstK s.data.toList)) rz wd (stopZ (tabN tb) col.toNat) (firstK s.data.toList) = X := ⟨_, rfl⟩
  rw [hX] at hc ⊢
  obtain ⟨X1, X2⟩ := X
  have HC := Lib.hid hc
  clear hc hX hfe hE
  have hL := LookAt.new w 46 tb wd wt jn rz
  have hTW : Utf8Tabs 0 1 (w.alloc (.cells #[.int .i64 tb, .bool wd, .int .i8 wt, .bool jn, .bool rz] 46)) := Utf8Tabs_below hT ((Below.refl _ w).alloc (Nat.le_refl _) _)
  have hb : Below w.heap.size w (w.alloc (.cells #[.int .i64 tb, .bool wd, .int .i8 wt, .bool jn, .bool rz] 46)) := (Below.refl _ w).alloc (Nat.le_refl _) _
  obtain ⟨W, hW⟩ : ∃ W, w.alloc (.cells #[.int .i64 tb, .bool wd, .int .i8 wt, .bool jn, .bool rz] 46) = W := ⟨_, rfl⟩
  have hsz : w.heap.size < W.heap.size := by rw [← hW]; simp
  rw [hW] at hL hb hTW
  rw [hB] at hL hb hsz ⊢
  have hei : (E : Int) ≤ (s.size : Int) := by omega
  go_enter Tryd.func79, Tryd.ntmps79
  go_wp2_with fail
  try rw [hW]
  clear hW
  have hTd : Hid (Utf8Tabs 0 1 W.drew) := Lib.hid hTW
  have hLd : LookAt W.drew B tb wd wt jn rz := ⟨hL.c0, hL.c1, hL.c2, hL.c3, hL.c4⟩
  have hlt : B < W.drew.heap.size := hsz
  have HLd := Lib.hid hLd
  have Hb := Lib.hid hb
  clear hL hLd hb hTW
  go_region_held3 (fun w' => w'.cell? ⟨B, 0, none⟩ = some (.int .i64 tb) ∧ w'.cell? ⟨B, 1, none⟩ = some (.bool wd) ∧ w'.cell? ⟨B, 2, none⟩ = some (.int .i8 wt) ∧ w'.cell? ⟨B, 3, none⟩ = some (.bool jn) ∧ w'.cell? ⟨B, 4, none⟩ = some (.bool rz))
    (first
      | exact ⟨HLd.out.c0, HLd.out.c1, HLd.out.c2, HLd.out.c3, HLd.out.c4⟩
      | exact ⟨(HLd.out.below b2 hlt).c0, (HLd.out.below b2 hlt).c1, (HLd.out.below b2 hlt).c2, (HLd.out.below b2 hlt).c3, (HLd.out.below b2 hlt).c4⟩
      | exact ⟨((HLd.out.below b2 hlt).below b3 (by have := b2.size; omega)).c0, ((HLd.out.below b2 hlt).below b3 (by have := b2.size; omega)).c1, ((HLd.out.below b2 hlt).below b3 (by have := b2.size; omega)).c2, ((HLd.out.below b2 hlt).below b3 (by have := b2.size; omega)).c3, ((HLd.out.below b2 hlt).below b3 (by have := b2.size; omega)).c4⟩)
    (first
      | (go_at_call 48; refine (HN.out _ hTd.out).mono ?_; rintro e w2 ⟨rfl, b2⟩)
      | (go_at_call 45; refine (HC.out _ (Utf8Tabs_below hTd.out b2)).mono ?_; rintro e w3 ⟨rfl, b3⟩))
  have hfin : Below B w w3 := (Hb.out.drew.trans (b2.mono (by omega))).trans (b3.mono (by have := b2.size; omega))
  go_wp2
  go_ret2
  exact ⟨rfl, hfin⟩
end Go.Proofs.YtfegbfhkmdmheaaDoor

/- How many columns a text takes: show.Wide, walked. -/
namespace Go.Proofs.YtfegbfhkmdmheaaDoor
open Go.RowKit Go.Shelf Go.Lib
attribute [local go_sem] Oper.semAt_some

theorem pcsF_size (s : ByteArray) : ∀ (f i : Nat) (x : Nat × ByteArray), x ∈ pcsF s f i → x.2.size ≤ s.size
  | 0, _, _, h => by simp [pcsF] at h
  | f + 1, i, x, h => by
    unfold pcsF at h
    by_cases hi : i < chars s
    · rw [if_pos hi] at h
      rcases List.mem_cons.1 h with rfl | h
      · simp only [ByteArray.size_extract]; omega
      · exact pcsF_size s f _ x h
    · rw [if_neg hi] at h
      simp at h
theorem tabs_low6 {w w' : World} {B : Nat} (hT : Utf8Tabs 0 1 w) (hb : Below B w w') (h1 : 0 < B) (h2 : 1 < B) : Utf8Tabs 0 1 w' :=
  ⟨fun c hc => (hb.cell (p := ⟨0, c, none⟩) h1).trans (hT.1 c hc), fun i hi => ⟨(hb.cell (p := ⟨1, 2 * i, none⟩) h2).trans (hT.2 i hi).1, (hb.cell (p := ⟨1, 2 * i + 1, none⟩) h2).trans (hT.2 i hi).2⟩⟩
/-- the bytes of clusters -/
abbrev kB (L : List (Nat × ByteArray)) : List (List UInt8) := L.map fun x => x.2.data.toList
theorem kB_snoc (L : List (Nat × ByteArray)) (x : Nat × ByteArray) : kB (L ++ [x]) = kB L ++ [x.2.data.toList] := by simp [kB]
theorem clu_answer (rz wd : Bool) (T c : Nat) (k : List UInt8) : (oneZ (circP k) rz wd (stopZ T c) k).2 = wOf rz wd (stopZ T c) k := one_wide _ _ _ _ _
set_option maxRecDepth 100000 in
set_option maxHeartbeats 2000000 in
theorem pwide_any (s : ByteArray) (col tb : Int) (wd : Bool) (wt : Int) (jn rz : Bool) (w : World) (hs : s.size ≤ 140737488351232) (h0 : -9223372036854775808 ≤ col) (h1 : col ≤ 9223372036854775807) (hT : Utf8Tabs 0 1 w) :
    Calls Tryd.prog 19 #[.string s, .int .i64 col, lookV tb wd wt jn rz] w fun e w' => e = .returned (.int .i64 ((wideZ rz wd tb s col.toNat : Nat) : Int)) ∧ Below w.heap.size w w' := by
  obtain ⟨B, hB⟩ : ∃ B, w.heap.size = B := ⟨_, rfl⟩
  have h2 : 2 ≤ w.heap.size := tabs_size hT
  have hpl := pcs_len s
  have htb := tabN_bounds tb
  have hmx := max_col col h0 h1
  have Hcl := Lib.hid (fun k c W hk h0 h1 hT => ofCl_any k c tb wd wt jn rz W hk h0 h1 hT)
  have HTb := Lib.hid (fun W => tab_any tb wd wt jn rz W)
  have hsb := fun L c => sumW_bound rz wd tb L c
  have hL0 := LookAt.new w 46 tb wd wt jn rz
  have hb0 : Below w.heap.size w (w.alloc (.cells #[.int .i64 tb, .bool wd, .int .i8 wt, .bool jn, .bool rz] 46)) := (Below.refl _ w).alloc (Nat.le_refl _) _
  obtain ⟨W0, hW0⟩ : ∃ W, w.alloc (.cells #[.int .i64 tb, .bool wd, .int .i8 wt, .bool jn, .bool rz] 46) = W := ⟨_, rfl⟩
  have hsz0 : w.heap.size < W0.heap.size := by rw [← hW0]; simp
  rw [hW0] at hL0 hb0
  unfold wideZ
  obtain ⟨c, hc⟩ : ∃ c, col.toNat = c := ⟨_, rfl⟩
  rw [hc] at hmx ⊢
  rw [show sumW rz wd (tabN tb) (clsB s) c = sumW rz wd (tabN tb) (clsB s) (c % tabN tb) from sumW_mod rz wd (tabN tb) _ _ _ (by rw [Nat.mod_mod])]
  have hml : c % tabN tb < tabN tb := Nat.mod_lt _ (by omega)
  obtain ⟨T0, hT0⟩ : ∃ T, tabN tb = T := ⟨_, rfl⟩
  rw [hT0] at HTb Hcl htb hml hsb ⊢
  obtain ⟨q, hq⟩ : ∃ q, c % T0 = q := ⟨_, rfl⟩
  have hrem : Int.tmod (c : Int) (T0 : Int) = (q : Int) := by rw [← hq]; exact (Int.ofNat_tmod c T0).symm
  rw [hq] at hml ⊢
  have hT00 : ((T0 : Int) == 0) = false := by simp; omega
  have Hmk := Lib.hid (fun W => cl_mk s W)
  have HT := Lib.hid hT
  rw [hB] at h2 hb0 hsz0 hL0 ⊢
  have HL0 := Lib.hid hL0
  clear hT hT0 hq hc hL0
  refine (callsIn_wide (n := 9)).1 ?_
  refine callsIn_of_wp_marks Tryd.func19 rfl trivial ?_ rfl
  refine wpIn_wide.2 ?_
  simp only [Tryd.ntmps19, List.size_toArray, List.length_cons, List.length_nil, Nat.reduceAdd, Nat.reduceSub, Array.replicate_succ, Array.replicate_zero, List.push_toArray, List.append_toArray, List.nil_append, List.cons_append]
  obtain ⟨c0, c1, c2, c3, c4⟩ := HL0.out
  go_wp2_with fail
  try rw [hW0]
  clear hW0
  refine (HTb.out _).mono ?_
  rintro _ w1 ⟨rfl, b1⟩
  have HL1 := Lib.hid (HL0.out.below b1 hsz0)
  have hb1 := hb0.trans (b1.mono (by omega))
  have hs1 : B < w1.heap.size := by have := b1.size; omega
  clear b1 hb0 c0 c1 c2 c3 c4
  obtain ⟨B1, hB1⟩ : ∃ B1, w1.heap.size = B1 := ⟨_, rfl⟩
  go_wp2_with fail
  refine (Hmk.out _).mono ?_
  rintro _ w2 ⟨rfl, rfl⟩
  obtain ⟨Wa, hWa⟩ : ∃ Wa, ((w1.alloc (.cells #[.int .i64 q] 3)).alloc (.cells #[.int .i64 0] 3)).alloc (.cells #[.string s] 9) = Wa := ⟨_, rfl⟩
  have hsz : Wa.heap.size = B1 + 3 := by rw [← hWa]; simp [hB1]
  have x0 : Boxed Wa B1 3 (.int .i64 q) := by rw [← hWa]; simp only [Boxed, alloc_get, World.size_alloc, hB1]; rw [if_neg (by omega), if_neg (by omega)]; simp
  have x1 : Boxed Wa (B1 + 1) 3 (.int .i64 0) := by rw [← hWa]; simp only [Boxed, alloc_get, World.size_alloc, hB1]; rw [if_neg (by omega)]; simp
  have x2 : Boxed Wa (B1 + 1 + 1) 9 (.string s) := by rw [← hWa]; simp only [Boxed, alloc_get, World.size_alloc, hB1]; simp
  have hBa1 : Below B1 w1 Wa := by rw [← hWa]; exact (((Below.refl B1 w1).alloc (by omega) _).alloc (by simp; omega) _).alloc (by simp; omega) _
  rw [hB1] at hs1
  have hBa : Below B w Wa := hb1.trans (hBa1.mono (by omega))
  have hLa := HL1.out.below hBa1 hs1
  have hTa : Utf8Tabs 0 1 Wa := Utf8Tabs_below HT.out (by rw [hB]; exact hBa)
  have HLa := Lib.hid hLa
  have HTa := Lib.hid hTa
  clear hLa
  go_wp2_with fail
  clear hWa
  refine (wpIn_wide (n := 9)).1 ?_
  refine range_N1 rfl (by omega) (gf := 46) (lb := #[.pointer (some ⟨B1 + 1 + 1, 0, none⟩)]) rfl trivial (enters_of Tryd.func46 (by kernel_rfl) rfl)
    (seqCl 8 (by omega) (B1 + 1 + 1) (fun k => k < B1 + 3 ∧ k ≠ B1 + 1) s Wa (by omega) (by omega) (by omega) x2.cell hs hTa) (fun k hk => by omega) (fun _ => rfl)
    (fun pre T W => Boxed W (B1 + 1) 3 (.int .i64 ((sumW rz wd T0 (kB pre) q : Nat) : Int)) ∧ Boxed W B1 3 (.int .i64 (q : Int)) ∧ Below B1 Wa W)
    (fun _ _ _ _ => False)
    ?hI (fun _ _ _ _ _ _ h _ _ _ => h)
    ⟨x1, x0, Below.refl _ _⟩
    ?a1 ?assign ?body ?done ?stop
  case assign =>
    intro l x W K hK
    gi_wp2
    exact hK
  case stop =>
    rintro D c pre T W _ _ _ h _
    exact h.elim
  case hI =>
    rintro pre T T' W1 W2 ⟨h1, h2', hb⟩ hT hm hg
    exact ⟨(hm.block _ h1.lt (fun e => by have := (hT _ e).1; omega)).trans h1, (hm.block _ h2'.lt (fun e => by have := (hT _ e).1; omega)).trans h2', hb.trans ⟨hm.os, hm.tape, hm.output, hm.size, fun k hk => hm.block k (by have := hb.size; omega) (fun e => by have := (hT _ e).1; omega)⟩⟩
  case body =>
    rintro l pre x T W hl hT hr ⟨h1, h2', hb⟩ hlen hsp
    have hget := prefix_get hsp
    have hmem := List.mem_of_getElem? hget
    have hxs := pcs_small s _ x hget
    have hsm := hsb (kB pre) q
    rw [List.length_map] at hsm
    have hsn := sumW_snoc rz wd T0 (kB pre) x.2.data.toList q
    rw [← kB_snoc] at hsn
    obtain ⟨S, hS⟩ : ∃ S, sumW rz wd T0 (kB pre) q = S := ⟨_, rfl⟩
    rw [hS] at h1 hsm hsn
    have hLW := HLa.out.below hb hs1
    have hTW := tabs_low6 HTa.out hb (by omega) (by omega)
    have hcl := Hcl.out x.2 ((q : Int) + (S : Int)) W (by omega) (by omega) (by omega) hTW
    rw [show ((q : Int) + (S : Int)).toNat = q + S by omega, clu_answer] at hcl
    obtain ⟨v, hv⟩ : ∃ v, wOf rz wd (stopZ T0 (q + S)) x.2.data.toList = v := ⟨_, rfl⟩
    have hvb : v ≤ 16 := by rw [← hv]; exact wOf_le _ _ _ _ (by unfold stopZ; omega)
    rw [hv] at hcl hsn
    have hw : IntKind.i64.wrap ((q : Int) + (S : Int)) = (q : Int) + (S : Int) := IntWalk.i64_in _ (by omega)
    have hw2 : IntKind.i64.wrap ((S : Int) + (v : Int)) = ((S + v : Nat) : Int) := by rw [IntWalk.i64_in _ (by omega)]; omega
    have hBW : B1 + 3 ≤ W.heap.size := by have := hb.size; omega
    have Hcl2 := Lib.hid hcl
    have H1 := Lib.hid h1
    have H2 := Lib.hid h2'
    have Hb := Lib.hid hb
    have Hsn := Lib.hid hsn
    have k1 := h1.cell
    have k2 := h2'.cell
    obtain ⟨c0, c1, c2, c3, c4⟩ := hLW
    clear h1 h2' hb hcl hsn hS hv hTW hget hmem hsp
    gi_wp2_with fail
    refine ⟨trivial, (CallsIn.inRound l (callsIn_wide.2 Hcl2.out)).mono ?_⟩
    rintro _ w3 ⟨rfl, b3⟩
    have m1 := boxed_below H1.out b3
    have m2 := boxed_below H2.out b3
    have k3 := m1.cell
    have k3f := m1.frozen
    have hs3 := b3.size
    have Hf := Lib.hid (show _ ∧ _ ∧ _ ∧ _ from ⟨(KeepN.of_below (fun k => k < B1 + 3 ∧ k ≠ B1 + 1) T b3).trans (KeepN.setCell (fun k => k < B1 + 3 ∧ k ≠ B1 + 1) T w3 (B1 + 1) 0 (.int .i64 ((S + v : Nat) : Int)) (fun e => e.2 rfl) (fun e => by have := (hT _ e).1; omega)), m1.set (.int .i64 ((S + v : Nat) : Int)), m2.other (B' := B1 + 1) (by omega) (.int .i64 ((S + v : Nat) : Int)), (Hb.out.trans (b3.mono (by omega))).setCell (p := ⟨B1 + 1, 0, none⟩) (by show B1 ≤ B1 + 1; omega) (.int .i64 ((S + v : Nat) : Int))⟩)
    clear b3 m1 m2
    gi_wp2
    refine ⟨Hf.out.1, ?_, Hf.out.2.2.1, Hf.out.2.2.2⟩
    rw [Hsn.out]
    exact Hf.out.2.1
  case done =>
    rintro D ys T W hD hT rfl ⟨h1, h2', hb⟩ hK
    have k1 := h1.cell
    have HK := Lib.hid hK
    have Hb := Lib.hid hb
    clear h1 h2' hK hb
    go_wp2
    have hD1 := hT D hD
    refine ⟨by simp, .inl ⟨_, _, rfl, run_takeDeferred HK.out, ?_⟩⟩
    exact ⟨_, results_tmp rfl _ _ _, rfl, (hBa.trans (Hb.out.mono (by omega))).trans (belowK_b (w := w) (by omega) _ D _ (.deferred none) (by omega) HK.out rfl rfl)⟩
end Go.Proofs.YtfegbfhkmdmheaaDoor

/- How much of a text has place: show.Cut, walked. -/
namespace Go.Proofs.YtfegbfhkmdmheaaDoor
open Go.RowKit Go.Shelf Go.Lib
attribute [local go_sem] Oper.semAt_some

theorem pre_take {L pre : List (Nat × ByteArray)} {x : Nat × ByteArray} (h : pre ++ [x] <+: L) : (pre ++ [x]) = L.take (pre.length + 1) := by
  have := List.prefix_iff_eq_take.1 h
  simpa using this
theorem pre_take0 {L pre : List (Nat × ByteArray)} {x : Nat × ByteArray} (h : pre ++ [x] <+: L) : pre = L.take pre.length := by
  have : pre <+: L := (List.prefix_append pre [x]).trans h
  exact List.prefix_iff_eq_take.1 this
/-- the round at which it ends -/
theorem cut_here6 (rz wd : Bool) (tb : Int) (s : ByteArray) (wl : Int) (n : Nat) (x : Nat × ByteArray) (hx : (pcs s)[n]? = some x) (hf : n ≤ fitN rz wd (tabN tb) wl (clsB s) 0) (hS : wl < ((sumW rz wd (tabN tb) ((clsB s).take (n + 1)) 0 : Nat) : Int)) : cutZ rz wd tb s wl = x.1 := by
  have hn : n < (pcs s).length := (List.getElem?_eq_some_iff.1 hx).1
  have h := fitN_is rz wd (tabN tb) wl (clsB s) 0 (n + 1) (by omega) (by rw [clsB_len]; omega)
  rw [Nat.zero_add] at h
  have hfe : fitN rz wd (tabN tb) wl (clsB s) 0 = n := by
    have : ¬ n + 1 ≤ fitN rz wd (tabN tb) wl (clsB s) 0 := fun e => by have := h.2 e; omega
    omega
  unfold cutZ
  rw [hfe, hx]
theorem cut_on6 (rz wd : Bool) (tb : Int) (s : ByteArray) (wl : Int) (n : Nat) (hn : n < (pcs s).length) (hS : ¬ wl < ((sumW rz wd (tabN tb) ((clsB s).take (n + 1)) 0 : Nat) : Int)) : n + 1 ≤ fitN rz wd (tabN tb) wl (clsB s) 0 := by
  have h := fitN_is rz wd (tabN tb) wl (clsB s) 0 (n + 1) (by omega) (by rw [clsB_len]; omega)
  rw [Nat.zero_add] at h
  exact h.1 (by omega)
theorem cut_end6 (rz wd : Bool) (tb : Int) (s : ByteArray) (wl : Int) (hf : (pcs s).length ≤ fitN rz wd (tabN tb) wl (clsB s) 0) : cutZ rz wd tb s wl = s.size := by
  unfold cutZ
  rw [List.getElem?_eq_none hf]
theorem clsB_take (s : ByteArray) (n : Nat) : (clsB s).take n = kB ((pcs s).take n) := by
  unfold clsB kB
  rw [List.map_take]
set_option maxRecDepth 100000 in
set_option maxHeartbeats 2000000 in
theorem pcut_any (s : ByteArray) (wl tb : Int) (wd : Bool) (wt : Int) (jn rz : Bool) (w : World) (hs : s.size ≤ 140737488351232) (hT : Utf8Tabs 0 1 w) :
    Calls Tryd.prog 22 #[.string s, .int .i64 wl, lookV tb wd wt jn rz] w fun e w' => e = .returned (.int .i64 ((cutZ rz wd tb s wl : Nat) : Int)) ∧ Below w.heap.size w w' := by
  obtain ⟨B, hB⟩ : ∃ B, w.heap.size = B := ⟨_, rfl⟩
  have h2 : 2 ≤ w.heap.size := tabs_size hT
  have hpl := pcs_len s
  have htb := tabN_bounds tb
  have Hcl := Lib.hid (fun k c W hk h0 h1 hT => ofCl_any k c tb wd wt jn rz W hk h0 h1 hT)
  have hsb := fun L c => sumW_bound rz wd tb L c
  have Hhere := Lib.hid (cut_here6 rz wd tb s wl)
  have Hon := Lib.hid (cut_on6 rz wd tb s wl)
  have Hend := Lib.hid (cut_end6 rz wd tb s wl)
  have Hck := Lib.hid (fun n => clsB_take s n)
  obtain ⟨T0, hT0⟩ : ∃ T, tabN tb = T := ⟨_, rfl⟩
  rw [hT0] at Hcl htb hsb Hhere Hon Hend
  obtain ⟨C, hC⟩ : ∃ C, cutZ rz wd tb s wl = C := ⟨_, rfl⟩
  rw [hC] at Hhere Hend ⊢
  obtain ⟨F, hF⟩ : ∃ F, fitN rz wd T0 wl (clsB s) 0 = F := ⟨_, rfl⟩
  rw [hF] at Hhere Hon Hend
  have Hmk := Lib.hid (fun W => cl_mk s W)
  have HT := Lib.hid hT
  rw [hB] at h2 ⊢
  clear hT hT0 hC hF
  refine (callsIn_wide (n := 9)).1 ?_
  refine callsIn_of_wp_marks Tryd.func22 rfl trivial ?_ rfl
  refine wpIn_wide.2 ?_
  simp only [Tryd.ntmps22, List.size_toArray, List.length_cons, List.length_nil, Nat.reduceAdd, Nat.reduceSub, Array.replicate_succ, Array.replicate_zero, List.push_toArray, List.append_toArray, List.nil_append, List.cons_append]
  go_wp2_with fail
  refine (Hmk.out _).mono ?_
  rintro _ w2 ⟨rfl, rfl⟩
  obtain ⟨Wa, hWa⟩ : ∃ Wa, ((((w.alloc (.cells #[.int .i64 wl] 3)).alloc (.cells #[.int .i64 tb, .bool wd, .int .i8 wt, .bool jn, .bool rz] 46)).alloc (.cells #[.int .i64 0] 3)).alloc (.cells #[.int .i64 0] 3)).alloc (.cells #[.string s] 9) = Wa := ⟨_, rfl⟩
  have hsz : Wa.heap.size = B + 5 := by rw [← hWa]; simp [hB]
  have hLa : LookAt Wa (B + 1) tb wd wt jn rz := by
    have hl := LookAt.new (w.alloc (.cells #[.int .i64 wl] 3)) 46 tb wd wt jn rz
    rw [show (w.alloc (.cells #[.int .i64 wl] 3)).heap.size = B + 1 by simp [hB]] at hl
    rw [← hWa]
    refine hl.below (B := B + 2) ?_ (by omega)
    exact (((Below.refl _ _).alloc (by simp; omega) _).alloc (by simp; omega) _).alloc (by simp; omega) _
  have x0 : Boxed Wa B 3 (.int .i64 wl) := by rw [← hWa]; simp only [Boxed, alloc_get, World.size_alloc, hB]; rw [if_neg (by omega), if_neg (by omega), if_neg (by omega), if_neg (by omega)]; simp
  have x2 : Boxed Wa (B + 1 + 1) 3 (.int .i64 0) := by rw [← hWa]; simp only [Boxed, alloc_get, World.size_alloc, hB]; rw [if_neg (by omega), if_neg (by omega)]; simp
  have x3 : Boxed Wa (B + 1 + 1 + 1) 3 (.int .i64 0) := by rw [← hWa]; simp only [Boxed, alloc_get, World.size_alloc, hB]; rw [if_neg (by omega)]; simp
  have x4 : Boxed Wa (B + 1 + 1 + 1 + 1) 9 (.string s) := by rw [← hWa]; simp only [Boxed, alloc_get, World.size_alloc, hB]; simp
  have hBa : Below B w Wa := by rw [← hWa]; exact (((((Below.refl B w).alloc (by omega) _).alloc (by simp; omega) _).alloc (by simp; omega) _).alloc (by simp; omega) _).alloc (by simp; omega) _
  have hTa : Utf8Tabs 0 1 Wa := Utf8Tabs_below HT.out (by rw [hB]; exact hBa)
  have HLa := Lib.hid hLa
  have HTa := Lib.hid hTa
  have HX0 := Lib.hid x0
  clear hLa
  go_wp2_with fail
  clear hWa
  refine (wpIn_wide (n := 9)).1 ?_
  refine range_N1 rfl (by omega) (gf := 46) (lb := #[.pointer (some ⟨B + 1 + 1 + 1 + 1, 0, none⟩)]) rfl trivial (enters_of Tryd.func46 (by kernel_rfl) rfl)
    (seqCl 8 (by omega) (B + 1 + 1 + 1 + 1) (fun k => k < B + 5 ∧ k ≠ B + 2 ∧ k ≠ B + 3) s Wa (by omega) (by omega) (by omega) x4.cell hs hTa) (fun k hk => by omega) (fun _ => rfl)
    (fun pre T W => (Boxed W (B + 1 + 1 + 1) 3 (.int .i64 ((sumW rz wd T0 (kB pre) 0 : Nat) : Int)) ∧ Boxed W (B + 1 + 1) 3 (.int .i64 0) ∧ Below (B + 2) Wa W) ∧ pre.length ≤ F)
    (fun c pre T W => c = .ret ∧ Boxed W (B + 1 + 1) 3 (.int .i64 (C : Int)) ∧ Below (B + 2) Wa W)
    ?hI ?hIx
    ⟨⟨x3, x2, Below.refl _ _⟩, Nat.zero_le _⟩
    ?a1 ?assign ?body ?done ?stop
  case assign =>
    intro l x W K hK
    gi_wp2
    exact hK
  case hI =>
    rintro pre T T' W1 W2 ⟨⟨h1, h2', hb⟩, hr⟩ hT hm hg
    exact ⟨⟨(hm.block _ h1.lt (fun e => by have := (hT _ e).1; omega)).trans h1, (hm.block _ h2'.lt (fun e => by have := (hT _ e).1; omega)).trans h2', hb.trans ⟨hm.os, hm.tape, hm.output, hm.size, fun k hk => hm.block k (by have := hb.size; omega) (fun e => by have := (hT _ e).1; omega)⟩⟩, hr⟩
  case hIx =>
    rintro cd pre T T' W1 W2 ⟨rfl, h2', hb⟩ hT hm hg
    exact ⟨rfl, (hm.block _ h2'.lt (fun e => by have := (hT _ e).1; omega)).trans h2', hb.trans ⟨hm.os, hm.tape, hm.output, hm.size, fun k hk => hm.block k (by have := hb.size; omega) (fun e => by have := (hT _ e).1; omega)⟩⟩
  case body =>
    rintro l pre x T W hl hT hr0 ⟨⟨h1, h2', hb⟩, hr⟩ hlen hsp
    have hget := prefix_get hsp
    have hmem := List.mem_of_getElem? hget
    have hxs := pcs_small s _ x hget
    have hsm := hsb (kB pre) 0
    rw [List.length_map] at hsm
    have hsn := sumW_snoc rz wd T0 (kB pre) x.2.data.toList 0
    rw [← kB_snoc, Nat.zero_add] at hsn
    have hhere := Hhere.out pre.length x hget hr
    have hon := Hon.out pre.length hlen
    rw [Hck.out, ← pre_take hsp, hsn] at hhere hon
    obtain ⟨S, hS⟩ : ∃ S, sumW rz wd T0 (kB pre) 0 = S := ⟨_, rfl⟩
    rw [hS] at h1 hsm hsn hhere hon
    have hLW := HLa.out.below hb (by omega)
    have hTW := tabs_low6 HTa.out hb (by omega) (by omega)
    have hx0 : Boxed W B 3 (.int .i64 wl) := (hb.block B (by omega)).trans HX0.out
    have hcl := Hcl.out x.2 (S : Int) W (by omega) (by omega) (by omega) hTW
    rw [show ((S : Int)).toNat = S by omega, clu_answer] at hcl
    obtain ⟨v, hv⟩ : ∃ v, wOf rz wd (stopZ T0 S) x.2.data.toList = v := ⟨_, rfl⟩
    have hvb : v ≤ 16 := by rw [← hv]; exact wOf_le _ _ _ _ (by unfold stopZ; omega)
    rw [hv] at hcl hsn hhere hon
    have hw2 : IntKind.i64.wrap ((S : Int) + (v : Int)) = ((S + v : Nat) : Int) := by rw [IntWalk.i64_in _ (by omega)]; omega
    have hBW : B + 5 ≤ W.heap.size := by have := hb.size; omega
    obtain ⟨S', hS'⟩ : ∃ S', S + v = S' := ⟨_, rfl⟩
    rw [hS'] at hw2 hsn hhere hon
    have Hcl2 := Lib.hid hcl
    have H1 := Lib.hid h1
    have H2 := Lib.hid h2'
    have H0 := Lib.hid hx0
    have Hb := Lib.hid hb
    have Hsn := Lib.hid hsn
    have Hhere2 := Lib.hid hhere
    have Hon2 := Lib.hid hon
    have k1 := h1.cell
    have k0 := hx0.cell
    obtain ⟨c0, c1, c2, c3, c4⟩ := hLW
    have hnT : ∀ k, k < B + 5 → ¬ T k := fun k hk e => by have := (hT _ e).1; omega
    clear h1 h2' hx0 hb hcl hsn hhere hon hS hv hTW hget hmem hsp hS'
    gi_wp2_with fail
    refine ⟨trivial, (CallsIn.inRound l (callsIn_wide.2 Hcl2.out)).mono ?_⟩
    rintro _ w3 ⟨rfl, b3⟩
    have m1 := boxed_below H1.out b3
    have m2 := boxed_below H2.out b3
    have m0 := boxed_below H0.out b3
    have k3 := m1.cell
    have k3f := m1.frozen
    have hs3 := b3.size
    have m1' := m1.set (.int .i64 (S' : Int))
    have m2' := m2.other (B' := B + 1 + 1 + 1) (by omega) (.int .i64 (S' : Int))
    have m0' := m0.other (B' := B + 1 + 1 + 1) (by omega) (.int .i64 (S' : Int))
    have hkN : KeepN (fun k => k < B + 5 ∧ k ≠ B + 2 ∧ k ≠ B + 3) T W (w3.setCell ⟨B + 1 + 1 + 1, 0, none⟩ (.int .i64 (S' : Int))) := (KeepN.of_below _ T b3).trans (KeepN.setCell _ T w3 (B + 1 + 1 + 1) 0 _ (fun e => e.2.2 rfl) (hnT _ (by omega)))
    have hbb : Below (B + 2) Wa (w3.setCell ⟨B + 1 + 1 + 1, 0, none⟩ (.int .i64 (S' : Int))) := (Hb.out.trans (b3.mono (by omega))).setCell (p := ⟨B + 1 + 1 + 1, 0, none⟩) (by show B + 2 ≤ B + 1 + 1 + 1; omega) _
    obtain ⟨W4, hW4⟩ : ∃ W4, w3.setCell ⟨B + 1 + 1 + 1, 0, none⟩ (.int .i64 (S' : Int)) = W4 := ⟨_, rfl⟩
    rw [hW4] at m1' m2' m0' hkN hbb
    have q1 := m1'.cell
    have q0 := m0'.cell
    have q2 := m2'.cell
    have q2f := m2'.frozen
    have HkN := Lib.hid hkN
    have Hbb := Lib.hid hbb
    have M1 := Lib.hid m1'
    have M2 := Lib.hid m2'
    clear b3 m1 m2 m0 m1' m2' m0' hkN hbb
    by_cases hgt : wl < (S' : Int)
    · have hC := Lib.hid (Hhere2.out hgt)
      gi_wp2_with fail
      refine ⟨HkN.out.trans (KeepN.setCell _ T W4 (B + 1 + 1) 0 _ (fun e => e.2.1 rfl) (hnT _ (by omega))), rfl, ?_, Hbb.out.setCell (p := ⟨B + 1 + 1, 0, none⟩) (by show B + 2 ≤ B + 1 + 1; omega) _⟩
      rw [hC.out]
      exact M2.out.set _
    · gi_wp2_with fail
      refine ⟨HkN.out, ⟨?_, M2.out, Hbb.out⟩, ?_⟩
      · rw [Hsn.out]
        exact M1.out
      · rw [List.length_append]
        exact Hon2.out hgt
  case done =>
    rintro D ys T W hD hT rfl ⟨⟨h1, h2', hb⟩, hr⟩ hK
    have hC := Hend.out hr
    have k2 := h2'.cell
    have k2f := h2'.frozen
    have HK := Lib.hid hK
    have Hb := Lib.hid hb
    have hne : D ≠ B + 1 + 1 := fun e => by have := (hT D hD).1; omega
    have M2 := Lib.hid (h2'.set (.int .i64 (s.size : Int)))
    have HK2 : Hid ((W.setCell ⟨B + 1 + 1, 0, none⟩ (.int .i64 (s.size : Int))).heap[D]? = some (.deferred (some []))) := Lib.hid ((Below.heap_setCell _ _ _ _ hne).trans hK)
    have Hb2 := Lib.hid (hb.setCell (p := ⟨B + 1 + 1, 0, none⟩) (show B + 2 ≤ B + 1 + 1 by omega) (.int .i64 (s.size : Int)))
    clear h1 h2' hK hb
    go_wp2
    have hD1 := hT D hD
    have hc7 := cell_kept M2.out.cell (grownBy_putObj' _ D (.deferred none)) (fun r e => by cases e; exact ⟨_, HK2.out, rfl⟩)
    refine ⟨by simp, .inl ⟨_, _, rfl, run_takeDeferred HK2.out, ?_⟩⟩
    refine ⟨_, ?_, rfl, (hBa.trans (Hb2.out.mono (by omega))).trans (belowK_b (w := w) (by omega) _ D _ (.deferred none) (by omega) HK2.out rfl rfl)⟩
    rw [hC]
    simp [results, Tryd.f22, go_sem, hc7]
  case stop =>
    rintro D c pre T W hD hT _ ⟨rfl, h2', hb⟩ hK
    have HK := Lib.hid hK
    have H2 := Lib.hid h2'
    have Hb := Lib.hid hb
    clear hK h2' hb
    gi_wp2
    have hD1 := hT D hD
    have hc7 := cell_kept H2.out.cell (grownBy_putObj' _ D (.deferred none)) (fun r e => by cases e; exact ⟨_, HK.out, rfl⟩)
    refine ⟨by simp, .inl ⟨_, _, rfl, run_takeDeferred HK.out, ?_⟩⟩
    refine ⟨_, ?_, rfl, (hBa.trans (Hb.out.mono (by omega))).trans (belowK_b (w := w) (by omega) _ D _ (.deferred none) (by omega) HK.out rfl rfl)⟩
    simp [results, Tryd.f22, go_sem, hc7]
end Go.Proofs.YtfegbfhkmdmheaaDoor
