/- Layer 12, the laws' helpers that ask the program: its functions' contracts as a premise (to be taken off where they are walked). -/
import Derived.Test.YtiafofekobcifaaDoorRefWG
import Derived.Test.YtiafofekobcifaaDoorPcsC
import Derived.Test.YtiafofekobcifaaDoorRowG
import Derived.Test.YtiafofekobcifaaDoorAliveC
set_option linter.unusedSimpArgs false
set_option linter.unusedVariables false
namespace Go.Proofs.YtiafofekobcifaaDoor
open Go.RowKit Go.Shelf Go.Lib
attribute [local go_sem] Oper.semAt_some

/-- what word.All hands back: an iterator of the segments -/
def AllW (s : ByteArray) (w : World) (e : Ending) (w' : World) : Prop := ∃ gf lb, e = .returned (.func (.func gf) #[] lb) ∧ Below w.heap.size w w' ∧
  (∀ args w, (callFunc gf args).run Tryd.prog w = .ok (.enter gf args) w) ∧
  (∀ W, (binOp .eql 25 (.func (.func gf) #[] lb) .nilFunc).run Tryd.prog W = .ok (.bool false) W) ∧
  ∀ (N₀ : Bl) (W : World), N₀ 0 → N₀ 1 → (∀ k, w.heap.size ≤ k → k < w'.heap.size → N₀ k) → KeepN N₀ (fun _ => False) w' W →
    SeqN Fence.wide 8 Tryd.prog gf lb encCl (fun ys => ys = wds s) (fun pre => pre <+: wds s) (wds s).length N₀ W
/-- what the program's functions answer -/
structure WordP : Prop where
  all : ∀ (s : ByteArray) (w : World), s.size ≤ 1073741824 → Utf8Tabs 0 1 w → Calls Tryd.prog 9 #[.string s] w (AllW s w)
  is_ : ∀ (s : ByteArray) (q : Int) (w : World), s.size ≤ 1073741824 → Utf8Tabs 0 1 w → Calls Tryd.prog 13 #[.string s, .int .i64 q] w fun e w' => e = .returned (.bool (isW s q)) ∧ Below w.heap.size w w'
  next : ∀ (s : ByteArray) (q : Int) (w : World), s.size ≤ 1073741824 → Utf8Tabs 0 1 w → Calls Tryd.prog 15 #[.string s, .int .i64 q] w fun e w' => e = .returned (.int .i64 (nextW s q : Nat)) ∧ Below w.heap.size w w'
  prev : ∀ (s : ByteArray) (q : Int) (w : World), s.size ≤ 1073741824 → Utf8Tabs 0 1 w → Calls Tryd.prog 17 #[.string s, .int .i64 q] w fun e w' => e = .returned (.int .i64 (prevW s q : Nat)) ∧ Below w.heap.size w w'
  at_ : ∀ (s : ByteArray) (q : Int) (w : World), s.size ≤ 1073741824 → Utf8Tabs 0 1 w → Calls Tryd.prog 11 #[.string s, .int .i64 q] w fun e w' => e = .returned (.tuple #[.int .i64 ((atW s q).1 : Nat), .int .i64 ((atW s q).2 : Nat)]) ∧ Below w.heap.size w w'
theorem piece12_info : (Tryd.prog.info? 39).map (fun i => (i.zero, i.size, i.bytes)) = some (some (.agg #[.int .i64 0, .string ByteArray.empty]), 2, 24) := by kernel_rfl

set_option maxRecDepth 100000 in
set_option maxHeartbeats 1000000 in
theorem pieces12_any (H : WordP) (s : ByteArray) (w : World) (hs : s.size ≤ 1073741824) (hT : Utf8Tabs 0 1 w) :
    Calls Tryd.prog 19 #[.string s] w fun e w' => ∃ A c, e = .returned (.slice A (wds s).length c) ∧ w'.ownsRow w.heap.size 39 2 (.slice A (wds s).length c) (wds s).length (pcCells (wds s)) ∧ Below w.heap.size w w' := by
  have hL := wds_len1 s hs
  have HAl := Lib.hid (fun W hT => H.all s W hs hT)
  obtain ⟨L, hLe⟩ : ∃ L, wds s = L := ⟨_, rfl⟩
  unfold AllW at HAl
  rw [hLe] at hL HAl ⊢
  have HT := Lib.hid hT
  have h2 := tabs_size hT
  clear hLe hT
  obtain ⟨ii, hii, hiz0, hiz1, hiz2⟩ := info_parts piece12_info
  obtain ⟨B, hB⟩ : ∃ B, w.heap.size = B := ⟨_, rfl⟩
  rw [hB] at h2 ⊢
  refine (callsIn_wide (n := 9)).1 ?_
  refine callsIn_of_wp_marks Tryd.func19 rfl trivial ?_ rfl
  refine wpIn_wide.2 ?_
  simp only [Tryd.ntmps19, List.size_toArray, List.length_cons, List.length_nil, Nat.reduceAdd, Nat.reduceSub, Array.replicate_succ, Array.replicate_zero, List.push_toArray, List.append_toArray, List.nil_append, List.cons_append]
  go_wp2_with fail
  have hb0 : Below B w (w.alloc (.cells #[.slice none 0 0] 36)) := by rw [← hB]; exact (Below.refl _ w).alloc (Nat.le_refl _) _
  have hbx : Boxed (w.alloc (.cells #[.slice none 0 0] 36)) B 36 (.slice none 0 0) := by rw [← hB]; exact Boxed.new w _ _
  have hsx : (w.alloc (.cells #[.slice none 0 0] 36)).heap.size = B + 1 := by rw [World.size_alloc, hB]
  refine (HAl.out _ (Utf8Tabs_below HT.out (by rw [hB]; exact hb0))).mono ?_
  rintro _ Wa ⟨gf, lb, rfl, b1, hgf, hnil, hseq⟩
  rw [hsx] at b1 hseq
  have hsz : B + 1 ≤ Wa.heap.size := by have := b1.size; omega
  have b0 : Boxed Wa B 36 (.slice none 0 0) := (b1.block B (by omega)).trans hbx
  have hBa : Below B w Wa := hb0.trans (b1.mono (by omega))
  have Hseq := Lib.hid (hseq (fun k => k ≠ B ∧ k < Wa.heap.size) Wa ⟨by omega, by omega⟩ ⟨by omega, by omega⟩ (fun k h1 h3 => ⟨by omega, h3⟩) (KeepN.refl _ _ _))
  clear hseq b1 hbx hb0 hsx
  go_wp2_with fail
  refine (wpIn_wide (n := 9)).1 ?_
  refine range_N1 rfl (by omega) (gf := gf) (lb := lb) rfl trivial hgf Hseq.out (fun k hk => hk.2) (fun _ => rfl)
    (fun pre T W => (∃ A c, Col T W B 36 39 2 Wa.heap.size (.slice A pre.length c) pre.length (pcCells pre)) ∧ Below B Wa W)
    (fun _ _ _ _ => False)
    ?hI (fun _ _ _ _ _ _ h _ _ _ => h)
    ⟨⟨none, 0, ⟨b0, World.ownsRow_nil _ _ _ _, fun _ h => by cases h⟩⟩, Below.refl _ _⟩
    ?a1 ?assign ?body ?done ?stop
  case assign =>
    intro l x W K hK
    gi_wp2
    exact hK
  case stop =>
    rintro D c pre T W _ _ _ h _
    exact h.elim
  case hI =>
    rintro pre T T' W1 W2 ⟨⟨A, c, h1⟩, hb⟩ hT hm hg
    exact ⟨⟨A, c, h1.tc (fun e => by have := (hT _ e).1; omega) hm hg⟩, hb.trans ⟨hm.os, hm.tape, hm.output, hm.size, fun k hk => hm.block k (by have := hb.size; omega) (fun e => by have := (hT _ e).1; omega)⟩⟩
  case body =>
    rintro l pre x T W hl hT hr ⟨⟨A, c, h1⟩, hb⟩ hlen _
    have hc1 := h1.box.cell
    have hm1 : pre.length + 1 ≤ maxLen := by unfold maxLen; omega
    have hm2 : (pre.length + 1) * 24 ≤ 140737488355328 := by omega
    have hT1 : ∀ k, T k → k < W.heap.size := fun k hk => (hT k hk).2
    have hTa : ¬ T B := fun e => by have := (hT _ e).1; omega
    have hbs : Wa.heap.size ≤ W.heap.size := by have := hb.size; omega
    have hplen : (pre ++ [x]).length = pre.length + 1 := by simp
    have H1 := Lib.hid h1
    have Hb := Lib.hid hb
    clear h1 hb
    gi_wp2_with (gi_at_builtin; refine Hid.out ?_)
    refine Lib.hid ?_
    refine wpListIn_append_own_at _ rfl _ _ 36 rfl Wa.heap.size 39 ii (.agg #[.int .i64 0, .string ByteArray.empty]) 2 24 Tryd.underlying36 hii hiz0 hiz1 hiz2 rfl (by decide) _ _ _ rfl (H1.out.row.alloc _) ⟨W.heap.size, 0, none⟩ 1 1 [.int .i64 (x.1 : Int), .string x.2] rfl rfl (new_cells W [.int .i64 (x.1 : Int), .string x.2] 39) (by simp [Value.oneCell']) hm1 hm2 (by simp; omega) ?_
    intro v1' w1 hown1 hgrow1 _ hblk1
    obtain ⟨g1, cap1, rfl⟩ := ownsRow_succ hown1
    obtain ⟨hv1, hcol1, hk1, hs1, ho1, ht1, hu1⟩ := H1.out.appended (by decide) hT1 hTa hown1 hgrow1 hblk1
    have hc1' := hv1.cell
    have hf1' := hv1.frozen
    have hfin : ∀ W8, W8 = w1.setCell ⟨B, 0, none⟩ (.slice (some ⟨g1, 0, none⟩) (pre.length + 1) cap1) → KeepN (fun k => k ≠ B ∧ k < Wa.heap.size) T W W8 ∧ (∃ A c, Col T W8 B 36 39 2 Wa.heap.size (.slice A (pre ++ [x]).length c) (pre ++ [x]).length (pcCells (pre ++ [x]))) ∧ Below B Wa W8 := by
      rintro W8 rfl
      have hne : ∀ k, k ≠ B ∧ k < Wa.heap.size ∨ T k → (Value.slice A pre.length c).ownBlock ≠ some k ∧ k ≠ B := fun k hk => by
        refine ⟨fun e => ?_, fun e => ?_⟩
        · rcases hk with hk | hk
          · have := (H1.out.row.lt k e).1; omega
          · exact H1.out.apart k e hk
        · rcases hk with hk | hk
          · omega
          · exact hTa (e ▸ hk)
      refine ⟨⟨hs1, fun k hk ho => hk1 k hk (hne k ho).1 (hne k ho).2⟩, ⟨some ⟨g1, 0, none⟩, cap1, ?_⟩, Hb.out.trans ⟨ho1, ht1, hu1, hs1, fun k hk => hk1 k (by omega) (hne k (.inl ⟨by omega, by omega⟩)).1 (hne k (.inl ⟨by omega, by omega⟩)).2⟩⟩
      rw [hplen, pcCells_snoc]
      exact hcol1
    have Hfin := Lib.hid hfin
    clear hcol1 hk1 hs1 ho1 ht1 hu1 hown1 hgrow1 hblk1 hfin hv1
    gi_wp2
    exact Hfin.out _ rfl
  case done =>
    rintro D ys T W hD hT rfl ⟨⟨A, c, h1⟩, hb⟩ hK
    have c1 := h1.box.cell
    have HK := Lib.hid hK
    have H1 := Lib.hid h1
    have Hb := Lib.hid hb
    clear h1 hK hb
    go_wp2
    have hD1 := hT D hD
    refine ⟨by simp, .inl ⟨_, _, rfl, run_takeDeferred HK.out, ?_⟩⟩
    refine ⟨_, results_tmp rfl _ _ _, A, c, rfl, ?_, (hBa.trans Hb.out).trans (belowK_b (w := w) (by omega) _ D _ (.deferred none) (by omega) HK.out rfl rfl)⟩
    exact own_base (row_same H1.out.row (fun k hk => World.putObj_heap_other (fun e => H1.out.apart k hk (e ▸ hD)))) (by omega)

set_option maxRecDepth 100000 in
set_option maxHeartbeats 1000000 in
theorem row12_true (H : WordP) (s : ByteArray) (w : World) (A : Option Addr) (n c : Nat) (ws : List ByteArray) (hA : Rd w w.heap.size 1 A n (ws.map Value.string)) (hp : (wds s).map (·.2) = ws) (hs : s.size ≤ 1073741824) (hT : Utf8Tabs 0 1 w) :
    Calls Tryd.prog 23 #[.string s, .slice A n c] w fun e w' => e = .returned (.bool true) ∧ Below w.heap.size w w' := by
  have hpl := wds_len1 s hs
  obtain ⟨B, hB⟩ : ∃ B, w.heap.size = B := ⟨_, rfl⟩
  rw [hB] at hA ⊢
  have hwl : ws.length = n := by have := hA.1; simpa using this
  obtain ⟨L, hL⟩ : ∃ L, wds s = L := ⟨_, rfl⟩
  have hLn : L.length = n := by rw [← hwl, ← hp, List.length_map, hL]
  have Hpc := Lib.hid (pieces12_any H s w hs hT)
  have Hch := Lib.hid (fun i x h => wds_chain s i x h)
  rw [hL] at Hpc Hch hpl hp
  rw [hB] at Hpc
  rw [hLn] at hpl Hpc
  have Hp := Lib.hid hp
  have HA := Lib.hid hA
  have HT := Lib.hid hT
  have Hwl := Lib.hid hwl
  have HLn := Lib.hid hLn
  have HB := Lib.hid hB
  clear hp hA hT hL hwl hLn hB
  have hne : ((n : Int) != n) = false := by simp
  go_enter Tryd.func23, Tryd.ntmps23
  go_wp2_with fail
  refine Hpc.out.mono ?_
  rintro _ w2 ⟨C, d, rfl, hown, hb2⟩
  have HR : Hid (RdP w2 w2.heap.size C L) := Lib.hid (by have := Rd.own hown; rw [← HLn.out] at this; exact this)
  have Hb2 := Lib.hid hb2
  have HA2 := Lib.hid (HA.out.below Hb2.out)
  clear hown hb2
  go_wp2_with fail
  go_loopw [6, 7] (fun x i wr => ∃ k q : Nat, k ≤ n ∧ i = .int .i64 k ∧ x = .int .i64 (sumB (L.take k) : Nat) ∧ wr = w2.drewN q) (fun _ i _ => n - (intOf i).toNat)
  case atStart => exact ⟨0, 0, Nat.zero_le _, rfl, rfl, rfl⟩
  case round =>
    obtain ⟨k, q, hk, rfl, rfl, rfl⟩ := hrel
    by_cases hkn : k < n
    · obtain ⟨x, hxe⟩ : ∃ x, L[k]? = some x := ⟨_, List.getElem?_eq_getElem (by rw [HLn.out]; exact hkn)⟩
      have hwe : ws[k]? = some x.2 := by rw [← Hp.out, List.getElem?_map, hxe]; rfl
      obtain ⟨a, rfl, _, ha1, ha2⟩ := HR.out.at_ hxe
      obtain ⟨b, rfl, _, hb⟩ := Rd.addr HA2.out (by omega)
      have hb1 := hb k _ (strs_at ws k x.2 hwe)
      obtain ⟨e1, e2, e3, -⟩ := Hch.out k x hxe
      have hsn : sumB (L.take (k + 1)) = sumB (L.take k) + x.2.size := by rw [take_snoc L k x hxe, sumB_snoc]
      rw [← e1] at hsn ⊢
      rw [add_next] at ha2
      have Hsn := Lib.hid hsn
      have hw : IntKind.i64.wrap ((x.1 : Int) + (x.2.size : Int)) = ((x.1 + x.2.size : Nat) : Int) := by rw [IntWalk.i64_in _ (by omega)]; omega
      have hb2' : ((x.1 : Int) != (x.1 : Int)) = false := by simp
      have hb3' : (x.1 != x.1) = false := by simp
      clear hxe hwe hb e1 e2 e3 hsn
      go_wp2_with fail
      go_quiet (fail)
      go_wp2
      go_roundw
      case rel => exact ⟨k + 1, _, by omega, by go_num, by rw [Hsn.out]; rfl, rfl⟩
      case measure => simp [intOf]; omega
    · go_wp2
      go_ret
      exact ⟨rfl, below_N Hb2.out _⟩
set_option maxRecDepth 100000 in
set_option maxHeartbeats 1000000 in
theorem same12_true (w : World) (X Y : Nat) (A B : Option Addr) (c d : Nat) (xs ys : List (Nat × ByteArray)) (from_ : Nat) (hx : RdP w X A xs) (hy : RdP w Y B ys) (hn : xs.length = ys.length) (hm : xs.length ≤ 1073741824)
    (h : ∀ (i : Nat) (x y : Nat × ByteArray), xs[i]? = some x → ys[i]? = some y → x.2 = y.2 ∧ x.1 = y.1 + from_ ∧ x.1 ≤ 1073741824) :
    Calls Tryd.prog 21 #[.slice A xs.length c, .slice B ys.length d, .int .i64 (from_ : Int)] w fun e w' => e = .returned (.bool true) ∧ Below w.heap.size w w' := by
  obtain ⟨n, hxl⟩ : ∃ n, xs.length = n := ⟨_, rfl⟩
  have hyl : ys.length = n := by omega
  have Hx := Lib.hid hx
  have Hy := Lib.hid hy
  have H := Lib.hid h
  rw [hxl, hyl]
  rw [hxl] at hm
  have Hxl := Lib.hid hxl
  have Hyl := Lib.hid hyl
  clear hx hy h hxl hyl hn
  have hne : ((n : Int) != n) = false := by simp
  go_enter Tryd.func21, Tryd.ntmps21
  go_wp2
  go_loopw [7] (fun i wr => ∃ k q : Nat, k ≤ n ∧ i = .int .i64 k ∧ wr = w.drewN q) (fun i _ => n - (intOf i).toNat)
  case atStart => exact ⟨0, 0, Nat.zero_le _, rfl, rfl⟩
  case round =>
    obtain ⟨k, q, hk, rfl, rfl⟩ := hrel
    by_cases hkn : k < n
    · obtain ⟨x, hxe⟩ : ∃ x, xs[k]? = some x := ⟨_, List.getElem?_eq_getElem (by rw [Hxl.out]; exact hkn)⟩
      obtain ⟨y, hye⟩ : ∃ y, ys[k]? = some y := ⟨_, List.getElem?_eq_getElem (by rw [Hyl.out]; exact hkn)⟩
      obtain ⟨a, rfl, _, ha1, ha2⟩ := Hx.out.at_ hxe
      obtain ⟨b, rfl, _, hb1, hb2⟩ := Hy.out.at_ hye
      obtain ⟨e1, e2, e3⟩ := H.out k x y hxe hye
      have hw : IntKind.i64.wrap ((y.1 : Int) + (from_ : Int)) = (x.1 : Int) := by rw [IntWalk.i64_in _ (by omega)]; omega
      rw [e1] at ha2
      rw [add_next] at ha2 hb2
      clear hxe hye e1 e2
      have hb2' : ((x.1 : Int) != (x.1 : Int)) = false := by simp
      have hb3' : (x.1 != x.1) = false := by simp
      go_wp2_with fail
      go_quiet (fail)
      go_wp2
      go_roundw
      case rel => exact ⟨k + 1, _, by omega, by go_num, rfl⟩
      case measure => simp [intOf]; omega
    · go_wp2
      go_ret
      exact ⟨rfl, below_N (Below.refl _ _) _⟩
section texts12
theorem w_row : (wds ⟨#[100, 111, 110, 39, 116, 32, 115, 116, 111, 112, 46]⟩).map (·.2) = [⟨#[100, 111, 110, 39, 116]⟩, ⟨#[32]⟩, ⟨#[115, 116, 111, 112]⟩, ⟨#[46]⟩] := by decide +kernel
theorem w_at : atW ⟨#[97, 32, 98, 99]⟩ 3 = (2, 4) := by decide +kernel
theorem w_next : nextW ⟨#[97, 32, 98]⟩ 0 = 2 := by decide +kernel
theorem w_prev : prevW ⟨#[97, 32, 98]⟩ 3 = 2 := by decide +kernel
theorem w_is1 : isW ⟨#[97, 32, 98]⟩ 1 = true := by decide +kernel
theorem w_is2 : isW ⟨#[97, 98]⟩ 1 = false := by decide +kernel
end texts12
set_option maxRecDepth 100000 in
set_option maxHeartbeats 1000000 in
theorem alive12_any (H : WordP) (w : World) (hT : Utf8Tabs 0 1 w) : Calls Tryd.prog 10 #[] w fun e w' => e = .returned (.bool true) ∧ Below w.heap.size w w' := by
  have h1 := fun w hT => H.at_ ⟨#[97, 32, 98, 99]⟩ 3 w (by decide) hT
  rw [w_at] at h1
  have h2 := fun w A n c hA hT => row12_true H ⟨#[100, 111, 110, 39, 116, 32, 115, 116, 111, 112, 46]⟩ w A n c _ hA w_row (by decide) hT
  have h3 := fun w hT => H.next ⟨#[97, 32, 98]⟩ 0 w (by decide) hT
  rw [w_next] at h3
  have h4 := fun w hT => H.prev ⟨#[97, 32, 98]⟩ 3 w (by decide) hT
  rw [w_prev] at h4
  have h5 := fun w hT => H.is_ ⟨#[97, 32, 98]⟩ 1 w (by decide) hT
  rw [w_is1] at h5
  have h6 := fun w hT => H.is_ ⟨#[97, 98]⟩ 1 w (by decide) hT
  rw [w_is2] at h6
  have H1 := Lib.hid h1
  have H2 := Lib.hid h2
  have H3 := Lib.hid h3
  have H4 := Lib.hid h4
  have H5 := Lib.hid h5
  have H6 := Lib.hid h6
  have HT := Lib.hid hT
  clear h1 h2 h3 h4 h5 h6 hT
  go_enter Tryd.func10, Tryd.ntmps10
  go_wp2_with fail
  refine (H1.out _ HT.out).mono ?_
  rintro _ w1 ⟨rfl, b1⟩
  have HT1 := Lib.hid (Utf8Tabs_below HT.out b1)
  have B1 := Lib.hid b1
  clear b1
  go_wp2_with fail
  obtain ⟨w2, hw2⟩ : ∃ w2, w1.alloc (.cells #[.string ⟨#[100, 111, 110, 39, 116]⟩, .string ⟨#[32]⟩, .string ⟨#[115, 116, 111, 112]⟩, .string ⟨#[46]⟩] 9) = w2 := ⟨_, rfl⟩
  have hR2 : Rd w2 w2.heap.size 1 (some ⟨w1.heap.size, 0, none⟩) 4 (([⟨#[100, 111, 110, 39, 116]⟩, ⟨#[32]⟩, ⟨#[115, 116, 111, 112]⟩, ⟨#[46]⟩] : List ByteArray).map Value.string) := by
    refine ⟨rfl, .inr ⟨_, rfl, by rw [← hw2]; simp, fun j u hu => ?_⟩⟩
    rw [← hw2]
    exact new_cells w1 [.string ⟨#[100, 111, 110, 39, 116]⟩, .string ⟨#[32]⟩, .string ⟨#[115, 116, 111, 112]⟩, .string ⟨#[46]⟩] 9 j u hu
  have b2 : Below w1.heap.size w1 w2 := by rw [← hw2]; exact (Below.refl _ w1).alloc (Nat.le_refl _) _
  have HT2 := Lib.hid (Utf8Tabs_below HT1.out b2)
  have B2 := Lib.hid (B1.out.trans (b2.mono B1.out.size))
  have HR2 := Lib.hid hR2
  clear b2 hR2
  rw [hw2]
  clear hw2
  refine (H2.out w2 _ _ 4 HR2.out HT2.out).mono ?_
  rintro _ w3 ⟨rfl, b3⟩
  have HT3 := Lib.hid (Utf8Tabs_below HT2.out b3)
  have B3 := Lib.hid (B2.out.trans (b3.mono B2.out.size))
  clear b3
  go_wp2_with fail
  refine (H3.out _ HT3.out).mono ?_
  rintro _ w4 ⟨rfl, b4⟩
  have HT4 := Lib.hid (Utf8Tabs_below HT3.out b4)
  have B4 := Lib.hid (B3.out.trans (b4.mono B3.out.size))
  clear b4
  go_wp2_with fail
  refine (H4.out _ HT4.out).mono ?_
  rintro _ w5 ⟨rfl, b5⟩
  have HT5 := Lib.hid (Utf8Tabs_below HT4.out b5)
  have B5 := Lib.hid (B4.out.trans (b5.mono B4.out.size))
  clear b5
  go_wp2_with fail
  refine (H5.out _ HT5.out).mono ?_
  rintro _ w6 ⟨rfl, b6⟩
  have HT6 := Lib.hid (Utf8Tabs_below HT5.out b6)
  have B6 := Lib.hid (B5.out.trans (b6.mono B5.out.size))
  clear b6
  go_wp2_with fail
  refine (H6.out _ HT6.out).mono ?_
  rintro _ w7 ⟨rfl, b7⟩
  have HT7 := Lib.hid (Utf8Tabs_below HT6.out b7)
  have B7 := Lib.hid (B6.out.trans (b7.mono B6.out.size))
  clear b7
  go_wp2_with fail
  go_ret
  exact ⟨rfl, B7.out⟩
end Go.Proofs.YtiafofekobcifaaDoor
