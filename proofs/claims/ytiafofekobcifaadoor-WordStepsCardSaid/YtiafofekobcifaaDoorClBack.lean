/- Ranging over cluster.Back: the iterator's contract. -/
import Derived.Test.YtiafofekobcifaaDoorBackG
import Derived.Maps.OwnIn
set_option linter.unusedSimpArgs false
set_option linter.unusedVariables false
namespace Go.Proofs.YtiafofekobcifaaDoor
open Go.RowKit Go.Shelf Go.Lib
attribute [local go_sem] Oper.semAt_some

theorem int_infoB : (Tryd.prog.info? 3).map (fun i => (i.zero, i.size, i.bytes)) = some (some (.int .i64 0), 1, 8) := by kernel_rfl

set_option maxRecDepth 100000 in
set_option maxHeartbeats 1000000 in
theorem seqClBack (n : Nat) (hn : 6 ≤ n) (Bn : Nat) (N₀ : Bl) (s : ByteArray) (w : World) (hBn : N₀ Bn) (hN0 : N₀ 0) (hN1 : N₀ 1) (hc : w.cell? ⟨Bn, 0, none⟩ = some (.string s)) (hs : s.size ≤ 1073741824) (hT : Utf8Tabs 0 1 w) :
    SeqN Fence.wide n Tryd.prog 70 #[.pointer (some ⟨Bn, 0, none⟩)] encCl (fun ys => ys = (pcs s).reverse) (fun pre => pre <+: (pcs s).reverse) (pcs s).length N₀ w := by
  intro l J Jx W hW hJ hJx hY h0
  have hcW : W.cell? ⟨Bn, 0, none⟩ = some (.string s) := (hW.cell (p := ⟨Bn, 0, none⟩) (cell_ltN hc)).trans hc
  have hTW : Utf8Tabs 0 1 W := Utf8Tabs_below hT hW
  have h2 := tabs_size hTW
  obtain ⟨B, hB⟩ : ∃ B, W.heap.size = B := ⟨_, rfl⟩
  have hBnB : Bn < B := by rw [← hB]; exact cell_ltN hcW
  rw [hB] at hJ hJx hY h2 ⊢
  have Hy := Lib.hid hY
  have HTW := Lib.hid hTW
  have Hbm := Lib.hid (fun W => back_maker s W)
  have HC := Lib.hid (fun j W hj hT => cert_any s j W hj hs hT)
  clear hc hW hT hY hTW
  refine callsIn_of_wp_marks Tryd.func70 rfl trivial ?_ rfl
  refine wpIn_wide.2 ?_
  simp only [Tryd.ntmps70, List.size_toArray, List.length_cons, List.length_nil, Nat.reduceAdd, Nat.reduceSub, Array.replicate_succ, Array.replicate_zero, List.push_toArray, List.append_toArray, List.nil_append, List.cons_append]
  obtain ⟨W3, hW3⟩ : ∃ W3, ((W.alloc (.cells #[.func (.yield l) #[] #[]] 60)).alloc (.cells #[.int .i64 (s.size : Int)] 3)).alloc (.cells #[.slice none 0 0] 31) = W3 := ⟨_, rfl⟩
  have hc3 : W3.cell? ⟨Bn, 0, none⟩ = some (.string s) := by
    have : Below B W W3 := by rw [← hW3]; exact (((Below.refl B W).alloc (by omega) _).alloc (by simp; omega) _).alloc (by simp; omega) _
    exact (this.cell (p := ⟨Bn, 0, none⟩) hBnB).trans hcW
  go_wp2_with fail
  refine (Hbm.out _).mono ?_
  rintro _ w1 ⟨rfl, rfl⟩
  obtain ⟨Wa, hWa⟩ : ∃ Wa, W3.alloc (.cells #[.string s] 9) = Wa := ⟨_, rfl⟩
  have hs3 : W3.heap.size = B + 1 + 1 + 1 := by rw [← hW3]; simp [hB]
  rw [hs3]
  have hWb := hWa
  rw [← hW3] at hWb
  clear hW3
  have hsz : Wa.heap.size = B + 4 := by rw [← hWb]; simp [hB]
  have b0 : Boxed Wa B 60 (.func (.yield l) #[] #[]) := by rw [← hWb]; simp only [Boxed, alloc_get, World.size_alloc, hB]; rw [if_neg (by omega), if_neg (by omega), if_neg (by omega)]; simp
  have b1 : Boxed Wa (B + 1) 3 (.int .i64 (s.size : Int)) := by rw [← hWb]; simp only [Boxed, alloc_get, World.size_alloc, hB]; rw [if_neg (by omega), if_neg (by omega)]; simp
  have b2 : Boxed Wa (B + 1 + 1) 31 (.slice none 0 0) := by rw [← hWb]; simp only [Boxed, alloc_get, World.size_alloc, hB]; rw [if_neg (by omega)]; simp
  have b3 : Boxed Wa (B + 1 + 1 + 1) 9 (.string s) := by rw [← hWb]; simp only [Boxed, alloc_get, World.size_alloc, hB]; simp
  have hBa : Below B W Wa := by rw [← hWb]; exact ((((Below.refl B W).alloc (by omega) _).alloc (by simp; omega) _).alloc (by simp; omega) _).alloc (by simp; omega) _
  have hca : Wa.cell? ⟨Bn, 0, none⟩ = some (.string s) := (hBa.cell (p := ⟨Bn, 0, none⟩) hBnB).trans hcW
  have hTa : Utf8Tabs 0 1 Wa := Utf8Tabs_below HTW.out (by rw [hB]; exact hBa)
  have hJa : J [] (fun k => B ≤ k ∧ k < B + 4) Wa := hJ _ _ _ _ _ h0 (fun _ h => h.elim) (.of_below _ (by rw [hB]; exact hBa)) ⟨fun _ h => h.elim, fun k hk => .inr (by omega)⟩
  have hsW3 := Lib.hid hs3
  clear hWb hc3 hs3
  go_wp2_with fail
  clear hWa
  refine (wpIn_wide (n := n)).1 ?_
  refine range_N rfl (by omega) (gf := 83) (lb := #[.pointer (some ⟨B + 1 + 1 + 1, 0, none⟩)]) rfl trivial (enters_of Tryd.func83 (by kernel_rfl) rfl)
    (seqBackN (n - 1) (by omega) (B + 1 + 1 + 1) (fun k => (N₀ k ∧ k < B) ∨ k = B + 1 + 1 + 1) s Wa (.inr rfl) (.inl ⟨hN0, by omega⟩) (.inl ⟨hN1, by omega⟩) b3.cell (by unfold maxLen; omega) hTa) (fun k hk => by omega) (fun _ => rfl)
    (RI s l B Bn J) (RX s B Jx) (by rw [hsz]; exact RI.tc hJ h2 hBnB) (fun c => by rw [hsz]; exact RX.tc hJx c)
    ⟨⟨b0, hca, hTa, Nat.le_of_eq hsz.symm⟩, chars s, .slice none 0 0, [], fun k => B ≤ k ∧ k < B + 4, ⟨isBord_all s, by simp⟩, by rw [placeAt_all]; exact b1, fun j h1 h2 _ => by simp at h1; omega, ⟨b2, World.ownsRow_nil _ _ _ _, fun _ h => by cases h⟩, ⟨fun k hk => by omega, fun _ h => h.elim, fun k h1 h2 => ⟨h1, h2⟩⟩, (fun k h => by cases h), by rw [pcsF_end s _ _ (Nat.le_refl _)]; exact hJa⟩
    (AX B ?a1) (fun x a' => by rw [hsz]; exact AX.tc x a') ?assign ?body ?done ?stop
  case assign =>
    intro l1 pre x T W1 K hi hT1 hl1 hK
    obtain ⟨b, hb⟩ : ∃ b, W1.heap.size = b := ⟨_, rfl⟩
    rw [hsz] at hT1
    have hbB : B + 4 ≤ b := by rw [← hb]; exact hi.1.2.2.2
    have hnT : ¬ T b := fun e => by have := (hT1 _ e).2; omega
    have hi2 : RI s l B Bn J pre T (W1.alloc (.cells #[.int .i64 (x.1 : Int)] 3)) := RI.tc hJ h2 hBnB _ _ _ _ _ hi hT1 (Moves.alloc _ _ _) ⟨fun _ h => h, fun _ h => .inl h⟩
    have hkn : ∀ N : Bl, KeepN N T W1 (W1.alloc (.cells #[.int .i64 (x.1 : Int)] 3)) := fun N => ⟨by simp, fun k hk _ => Below.heap_alloc W1 _ k hk⟩
    have hbx := Boxed.new W1 3 (.int .i64 (x.1 : Int))
    rw [hb] at hbx
    have hov : ∀ v, Boxed (W1.alloc (.cells #[.int .i64 (x.1 : Int)] 3)) (B + 1 + 1) 31 v → v.ownBlock ≠ some b := by
      intro v hv hb2
      obtain ⟨_, e, v0, xs, U, _, _, _, hcol, _⟩ := hi
      have h1 := hcol.box.alloc (.cells #[.int .i64 (x.1 : Int)] 3)
      have h2 : some (Obj.cells #[v] 31) = some (Obj.cells #[v0] 31) := (show _ = _ from hv).symm.trans h1
      simp only [Option.some.injEq, Obj.cells.injEq, Array.mk.injEq, List.cons.injEq, and_true] at h2
      subst h2
      have := hcol.lt hb2
      omega
    have Hov := Lib.hid hov
    have HK := Lib.hid (fun a' (h : AX B _ x a' T (W1.alloc (.cells #[.int .i64 (x.1 : Int)] 3))) => hK a' _ (hkn _) hi2 h)
    have Hbx := Lib.hid hbx
    clear hK hi hi2 hkn hbx hov
    gi_wp2_with fail
    refine HK.out _ ⟨b, ?_, hnT, hbB, Hbx.out, Hov.out⟩
    first
      | exact Eq.refl _
      | rfl
      | apply Eq.refl
  case body =>
    rintro l1 pre x _ T W1 hl1 hT1 hr1 hi ⟨b, rfl, hnTb, hbB, hbx, hbv⟩ hlen hsp
    rw [hsz] at hT1
    have hplen : (places s).length = chars s := places_len s
    obtain ⟨q, hq⟩ : ∃ q, pre.length = q := ⟨_, rfl⟩
    have hget := prefix_get hsp
    rw [hq, hplen] at hlen
    rw [hq, List.getElem?_reverse (by rw [hplen]; exact hlen), hplen, place_is s (by omega)] at hget
    have hx := (Option.some.inj hget).symm
    obtain ⟨j, hj⟩ : ∃ j, chars s - 1 - q = j := ⟨_, rfl⟩
    have hjc : j < chars s := by omega
    have hn1 : 1 ≤ n - 1 - 1 := by omega
    rw [hj] at hx
    have hxp : (x.1 : Int) = ((placeAt s j : Nat) : Int) := by rw [hx]
    obtain ⟨⟨i1, i2, i3, i4⟩, e, v, xs, U, i5, i6, i7, i8, i9, i10, i11⟩ := hi
    rw [hq] at i7 i5
    have hcc := HC.out j W1 hjc i3
    rw [hxp] at hbx
    have c2 := hbx.cell
    have Hcc := Lib.hid hcc
    have G1 := Lib.hid i1
    have G3 := Lib.hid i3
    have G5 := Lib.hid i5
    have G6 := Lib.hid i6
    have G7 := Lib.hid i7
    have G8 := Lib.hid i8
    have G9 := Lib.hid i9
    have G10 := Lib.hid i10
    have G11 := Lib.hid i11
    have Hbx := Lib.hid hbx
    have Hbv := Lib.hid hbv
    clear hbv hcc hget hsp hx i1 i3 i5 i6 i7 i8 i9 i10 i11 hbx hJa b0 b1 b2 b3 hBa hca hTa h0 hcW
    dsimp only
    rw [hxp]
    clear hxp
    gi_wp2_with fail
    refine ⟨trivial, (CallsIn.inRound l1 (callsIn_wide.2 Hcc.out)).mono ?_⟩
    rintro _ w3 ⟨rfl, b3⟩
    by_cases hce : certB s j = true
    · rw [hce]
      have hbj : IsBord s j := cert_bord s j hjc hce
      have hje : j < e := by have := G5.out.2; omega
      have hsz3 := b3.size
      have hcol3 := G8.out.same (T' := T) (b3.block _ G8.out.box.lt) (fun k hk => b3.block k (G8.out.lt hk)) G8.out.apart
      obtain ⟨A, c, rfl, hcole⟩ := hcol3.emptied (by decide)
      have k0 := boxed_below G1.out b3
      have k6 := boxed_below G6.out b3
      have kx := boxed_below Hbx.out b3
      have kc := (b3.cell (p := ⟨Bn, 0, none⟩) (show Bn < W1.heap.size by omega)).trans i2
      have d2 := hcol3.box.cell
      have d2f := hcol3.box.frozen
      obtain ⟨W4, hW4⟩ : ∃ W4, w3.setCell ⟨B + 1 + 1, 0, none⟩ (.slice A 0 c) = W4 := ⟨_, rfl⟩
      rw [hW4] at hcole
      have m6 : Boxed W4 (B + 1) 3 (.int .i64 (placeAt s e : Int)) := by rw [← hW4]; exact k6.other (by omega) _
      have mx : Boxed W4 b 3 (.int .i64 (placeAt s j : Int)) := by rw [← hW4]; exact kx.other (by omega) _
      have mc : W4.cell? ⟨Bn, 0, none⟩ = some (.string s) := by
        rw [← hW4]
        exact (KeepN.setCell (fun k => k = Bn) (fun _ => False) w3 (B + 1 + 1) 0 (.slice A 0 c) (by omega) (fun h => h)).cell (p := ⟨Bn, 0, none⟩) (.inl rfl) kc
      have m6c := m6.cell
      have mxc := mx.cell
      have hp1 : ((placeAt s j : Nat) : Int) ≤ ((placeAt s e : Nat) : Int) := by have := placeAt_mono s (Nat.le_of_lt hje); omega
      have hp2 : ((placeAt s e : Nat) : Int) ≤ (s.size : Int) := by have := placeAt_le s e; omega
      have Hcole := Lib.hid hcole
      have K0 := Lib.hid k0
      have M6 := Lib.hid m6
      have Mx := Lib.hid mx
      have B3 := Lib.hid b3
      have Hmk := Lib.hid (fun t W => cl_mk t W)
      clear hcole hcol3 k0 k6 kx m6 mx b3
      have hl5 : ∃ r, W4.heap[l1]? = some (.loop r) := by
        obtain ⟨r, hr⟩ := hr1
        have h1 := hT1 _ hl1
        refine ⟨r, ?_⟩
        rw [← hW4, Below.heap_setCell w3 ⟨B + 1 + 1, 0, none⟩ _ l1 (show l1 ≠ B + 1 + 1 by omega), B3.out.block l1 h1.2]
        exact hr
      gi_wp2_with fail
      refine ⟨trivial, (CallsIn.inRound l1 (callsIn_wide.2 (Hmk.out _ _))).mono ?_⟩
      rintro _ w5 ⟨rfl, hw5⟩
      obtain ⟨ii, hii, hiz0, hiz1, hiz2⟩ := info_parts int_infoB
      obtain ⟨b5, hb5⟩ : ∃ b5, W4.heap.size = b5 := ⟨_, rfl⟩
      obtain ⟨b1, hb1⟩ : ∃ b1, W1.heap.size = b1 := ⟨_, rfl⟩
      have hs4 : w3.heap.size = W4.heap.size := by rw [← hW4]; simp
      have hb15 : b1 ≤ b5 := by omega
      have hBb1 : B + 4 ≤ b1 := by omega
      have hbb1 : b < b1 := by have := Hbx.out.lt; omega
      have hU1 : ∀ k, U k → B ≤ k ∧ k < b1 := fun k hk => by have := G9.out.inn k hk; omega
      have hs5 : w5.heap.size = b5 + 1 := by rw [hw5]; simp [hb5]
      have hB45 : Below b5 W4 w5 := by rw [hw5]; exact (Below.refl b5 W4).alloc (by omega) _
      have hx5 : Boxed w5 b5 9 (.string (s.extract (placeAt s j) (placeAt s e))) := by rw [hw5, ← hb5]; exact Boxed.new W4 _ _
      have hTB2 : ¬ T (B + 1 + 1) := fun e => by have := (hT1 _ e).1; omega
      have hk4 : KeepN (fun k => (N₀ k ∧ k < B) ∨ k = B + 1 + 1 + 1) T W1 W4 := by
        rw [← hW4]
        exact (KeepN.of_below _ _ B3.out).trans (KeepN.setCell _ _ _ _ _ _ (by omega) hTB2)
      have hk5 : KeepN (fun k => (N₀ k ∧ k < B) ∨ k = B + 1 + 1 + 1) T W1 w5 := hk4.trans (KeepN.of_below _ _ (by rw [hb5]; exact hB45))
      have hmv4 : Moves (fun k => k = B + 1 + 1) W1 W4 := by
        rw [← hW4]
        exact (Moves.of_below _ B3.out).trans' ⟨rfl, rfl, rfl, by simp, fun k _ hk => Below.heap_setCell _ _ _ k (fun e => hk e)⟩
      have hmv5 : Moves (fun k => k = B + 1 + 1) W1 w5 := hmv4.trans' (Moves.of_below _ (by rw [hb5]; exact hB45))
      have hT5 : Utf8Tabs 0 1 w5 := hk5.u8 (.inl (.inl ⟨hN0, by omega⟩)) (.inl (.inl ⟨hN1, by omega⟩)) G3.out
      have hl5' : ∃ r, w5.heap[l1]? = some (.loop r) := by
        obtain ⟨r, hr⟩ := hl5
        exact ⟨r, (hB45.block l1 (by have := (Array.getElem?_eq_some_iff.1 hr).1; omega)).trans hr⟩
      obtain ⟨r5, hr5⟩ := hl5'
      have hcol5 : Col (fun _ => False) w5 (B + 1 + 1) 31 3 1 (B + 4) (.slice A 0 c) 0 [] :=
        Hcole.out.same (hB45.block _ (by omega)) (fun k hk => hB45.block k (by have := Hcole.out.lt hk; omega)) (fun _ _ h => h)
      have hown : ∀ k, (Value.slice A 0 c).ownBlock = some k → k < b1 ∧ ¬ T k ∧ B + 4 ≤ k ∧ U k ∧ k ≠ b := fun k hk => by
        have hk2 : (Value.slice A xs.length c).ownBlock = some k := by rw [← hk]; cases A <;> rfl
        have hu := G10.out k hk2
        exact ⟨(hU1 k hu).2, Hcole.out.apart k hk, (hcol5.row.lt k hk).1, hu, fun e => Hbv.out _ G8.out.box (e ▸ hk2)⟩
      obtain ⟨m, hm0, hme, hmi, hml, hmx⟩ := cut_it s j e hbj G5.out.1 hje
      have hmle : m ≤ 1073741824 := by
        have := pcs_len (s.extract (placeAt s j) (placeAt s e))
        rw [hml] at this
        simp at this
        omega
      have Hown := Lib.hid hown
      have Hk5 := Lib.hid hk5
      have Hmv5 := Lib.hid hmv5
      have Hcol5 := Lib.hid hcol5
      have HT5 := Lib.hid hT5
      have Hmi := Lib.hid hmi
      have Hmx := Lib.hid hmx
      have Hx5 := Lib.hid hx5
      have Hmx5 : Hid (Boxed w5 b 3 (.int .i64 (placeAt s j : Int))) := Lib.hid ((hB45.block b (by omega)).trans Mx.out)
      have Hm65 : Hid (Boxed w5 (B + 1) 3 (.int .i64 (placeAt s e : Int))) := Lib.hid ((hB45.block _ (by omega)).trans M6.out)
      clear hown hk5 hmv5 hcol5 hT5 hmi hmx hx5 hk4 hmv4 hl5 hB45 mxc m6c mc d2 d2f kc hw5 Hmk
      rw [hb5]
      gi_wp2_with fail
      refine range_NN1 (l₀ := l1) rfl hr5 hn1 (gf := 60) (lb := #[.pointer (some ⟨b5, 0, none⟩)]) rfl trivial (enters_of Tryd.func60 (by kernel_rfl) rfl)
        ((seqCl (n - 1 - 1 - 1) (by omega) b5 (fun k => k = b5 ∨ k < 1 + 1) (s.extract (placeAt s j) (placeAt s e)) w5 (.inl rfl) (.inr (by omega)) (.inr (by omega)) Hx5.out.cell (by simp; omega) HT5.out).inRound l1) (fun k hk => by omega) (fun _ => rfl)
        (I5 s j B (b5 + 1) A c w5) (fun _ _ _ _ => False) (by rw [hs5]; exact I5.tc hs5 (by omega)) (fun _ _ _ _ _ _ h _ _ _ => h)
        ⟨⟨A, c, Hcol5.out, fun k hk => .inl hk⟩, Moves.refl _ _⟩
        ?a15 ?assign5 ?body5 ?done5 ?stop5
      case assign5 =>
        intro l x W K hK
        gi_wp2
        exact hK
      case stop5 =>
        rintro c pre T W _ _ h
        exact h.elim
      case body5 =>
        rintro l3 pre3 x3 T3 W6 hl3 hT3 hr3 ⟨⟨A', c', hc3, ho3⟩, hm3⟩ hlen3 hsp3
        have hget3 := Hmx.out _ _ (prefix_get hsp3)
        rw [hs5] at hT3
        rw [hml] at hlen3
        have hplen : (pre3 ++ [x3]).length = pre3.length + 1 := by simp
        have hbx6 : Boxed W6 b 3 (.int .i64 (placeAt s j : Int)) := (hm3.block b (by omega) (fun h => by
          rcases h with h | h
          · omega
          · exact (Hown.out b h).2.2.2.2 rfl)).trans Hmx5.out
        have hc6 := hc3.box.cell
        have hcb6 := hbx6.cell
        have hpi := placeAt_le s (it s j pre3.length)
        have hwr : IntKind.i64.wrap (((placeAt s j : Nat) : Int) + (x3.1 : Int)) = ((placeAt s (it s j pre3.length) : Nat) : Int) := by rw [IntWalk.i64_in _ (by omega)]; omega
        have hT36 : ∀ k, T3 k → k < W6.heap.size := fun k hk => (hT3 k hk).2
        have hT3b : ¬ T3 (B + 1 + 1) := fun e => by have := (hT3 _ e).1; omega
        have hm1 : pre3.length + 1 ≤ maxLen := by unfold maxLen; omega
        have hm2 : (pre3.length + 1) * 8 ≤ 140737488355328 := by omega
        have hs56 : b5 + 1 ≤ W6.heap.size := by have := hm3.size; omega
        have Hc3 := Lib.hid hc3
        have Ho3 := Lib.hid ho3
        have Hm3 := Lib.hid hm3
        clear hc3 ho3 hm3 hbx6 hsp3 hget3
        gi_wp2_with (gi_at_builtin; refine Hid.out ?_)
        refine Lib.hid ?_
        refine wpListIn_append_own_at _ rfl _ _ 31 rfl (B + 4) 3 ii (.int .i64 0) 1 8 Tryd.underlying31 hii hiz0 hiz1 hiz2 rfl (by decide) _ _ _ rfl (Hc3.out.row.alloc _) ⟨W6.heap.size, 0, none⟩ 1 1 [.int .i64 ((placeAt s (it s j pre3.length) : Nat) : Int)] rfl rfl (cell_one_new _ _ _) (by simp [Value.oneCell']) hm1 hm2 (by simp; omega) ?_
        intro v1' w7 hown7 hgrow7 _ hblk7
        obtain ⟨g7, cap7, rfl⟩ := ownsRow_succ hown7
        obtain ⟨hv7, hcol7, hk7, hs7, ho7, ht7, hu7⟩ := Hc3.out.appended (by decide) hT36 hT3b hown7 hgrow7 hblk7
        have hc7' := hv7.cell
        have hf7' := hv7.frozen
        have hfin : ∀ W8, W8 = w7.setCell ⟨B + 1 + 1, 0, none⟩ (.slice (some ⟨g7, 0, none⟩) (pre3.length + 1) cap7) → KeepN (fun k => k = b5 ∨ k < 1 + 1) T3 W6 W8 ∧ I5 s j B (b5 + 1) A c w5 (pre3 ++ [x3]) T3 W8 := by
          rintro W8 rfl
          have hne : ∀ k, (k = b5 ∨ k < 1 + 1) ∨ T3 k → (Value.slice A' pre3.length c').ownBlock ≠ some k ∧ k ≠ B + 1 + 1 := fun k hk => by
            refine ⟨fun e => ?_, fun e => ?_⟩
            · rcases hk with hk | hk
              · rcases Ho3.out k e with h | h
                · have := Hown.out k h; omega
                · omega
              · exact Hc3.out.apart k e hk
            · rcases hk with hk | hk
              · omega
              · exact hT3b (e ▸ hk)
          refine ⟨⟨hs7, fun k hk ho => hk7 k hk (hne k ho).1 (hne k ho).2⟩, ⟨some ⟨g7, 0, none⟩, cap7, ?_, ?_⟩, ?_⟩
          · rw [hplen, atCells_succ]
            exact hcol7
          · intro k hk
            rw [hplen] at hk
            rcases hblk7 with h | h
            · exact Ho3.out k (h.symm.trans hk)
            · rw [h] at hk
              have := Option.some.inj hk
              simp at this
              exact .inr (by omega)
          · refine ⟨ho7.trans Hm3.out.os, ht7.trans Hm3.out.tape, hu7.trans Hm3.out.output, Nat.le_trans Hm3.out.size hs7, fun k hk hn => (hk7 k (by have := Hm3.out.size; omega) (fun e => ?_) (fun e => hn (.inl e))).trans (Hm3.out.block k hk hn)⟩
            rcases Ho3.out k e with h | h
            · exact hn (.inr h)
            · omega
        have Hfin := Lib.hid hfin
        clear hcol7 hk7 hs7 ho7 ht7 hu7 hown7 hgrow7 hblk7 hfin hv7
        gi_wp2
        exact Hfin.out _ rfl
      case done5 =>
        rintro ys T3 W6 hT3 rfl ⟨⟨A', c', hc3, ho3⟩, hm3⟩
        rw [hml] at hc3 ho3
        obtain ⟨g, cg, hv, hg4, hgo, _, hcells⟩ := row_read hc3.row hm0
        injection hv with hA _ hcc
        subst hA hcc
        rw [hs5] at hT3
        have hog : (Value.slice (some ⟨g, 0, none⟩) m c').ownBlock = some g := rfl
        obtain ⟨b6, hb6⟩ : ∃ b6, W6.heap.size = b6 := ⟨_, rfl⟩
        have hb56 : b5 + 1 ≤ b6 := by have := hm3.size; omega
        have hgb6 : g < b6 := by have := hc3.lt hog; omega
        have hgU : U g ∨ (b1 ≤ g ∧ g < b6 + 1) := by
          rcases ho3 g hog with h | h
          · exact .inl (Hown.out g h).2.2.2.1
          · exact .inr (by omega)
        have hgne : g ≠ B ∧ g ≠ B + 1 ∧ g ≠ B + 1 + 1 ∧ g ≠ B + 1 + 1 + 1 ∧ ¬ T g := by
          refine ⟨by omega, by omega, by omega, by omega, fun e => ?_⟩
          rcases ho3 g hog with h | h
          · exact (Hown.out g h).2.1 e
          · have := (hT1 g e).2; omega
        have hk6 : KeepN (fun k => (N₀ k ∧ k < B) ∨ k = B + 1 + 1 + 1) T W1 W6 := Hk5.out.trans ⟨hm3.size, fun k hk ho => hm3.block k hk (fun h => by
          rcases h with h | h
          · rcases ho with ho | ho
            · omega
            · exact hTB2 (h ▸ ho)
          · have h1 := Hown.out k h
            rcases ho with ho | ho
            · omega
            · exact h1.2.1 ho)⟩
        have hmv6 : Moves U W1 W6 := (Hmv5.out.mono (fun k hk => by subst hk; exact G9.out.four _ (by omega) (by omega))).trans' (hm3.mono (fun k hk => by
          rcases hk with hk | hk
          · subst hk; exact G9.out.four _ (by omega) (by omega)
          · exact (Hown.out k hk).2.2.2.1))
        have hm66 : Boxed W6 (B + 1) 3 (.int .i64 (placeAt s e : Int)) := (hm3.block (B + 1) (by omega) (fun h => by
          rcases h with h | h
          · omega
          · have := (Hown.out _ h); omega)).trans Hm65.out
        have h06 : Boxed W6 B 60 (.func (.yield l) #[] #[]) := (hm3.block B (by omega) (fun h => by
          rcases h with h | h
          · omega
          · have := (Hown.out _ h); omega)).trans ((Hmv5.out.block B (by omega) (by omega)).trans G1.out)
        have hc6 := hc3.box.cell
        have Hbw := Lib.hid (bw_mk (some ⟨g, 0, none⟩) m c' W6)
        have Hc3 := Lib.hid hc3
        have Ho3 := Lib.hid ho3
        have Hk6 := Lib.hid hk6
        have Hmv6 := Lib.hid hmv6
        have Hm66 := Lib.hid hm66
        have H06 := Lib.hid h06
        have Hcells := Lib.hid hcells
        clear hc3 ho3 hm3 hk6 hmv6 hm66 h06 hcells Hk5 Hmv5 Hcol5 HT5 Hmx Hx5 Hmx5 Hm65 hr5
        gi_wp2_with fail
        refine ⟨trivial, (CallsIn.inRound l1 (callsIn_wide.2 Hbw.out)).mono ?_⟩
        rintro _ W7 ⟨rfl, hw7⟩
        have hs7 : W7.heap.size = b6 + 1 := by rw [hw7]; simp [hb6]
        have hB67 : Below b6 W6 W7 := by rw [hw7]; exact (Below.refl b6 W6).alloc (by omega) _
        have hx7 : Boxed W7 b6 31 (.slice (some ⟨g, 0, none⟩) m c') := by rw [hw7, ← hb6]; exact Boxed.new W6 _ _
        have hk7 : KeepN (fun k => (N₀ k ∧ k < B) ∨ k = B + 1 + 1 + 1) T W1 W7 := Hk6.out.trans (KeepN.of_below _ _ (by rw [hb6]; exact hB67))
        have hmv7 : Moves U W1 W7 := Hmv6.out.trans' (Moves.of_below _ (by rw [hb6]; exact hB67))
        have hm67 : Boxed W7 (B + 1) 3 (.int .i64 (placeAt s e : Int)) := (hB67.block _ (by omega)).trans Hm66.out
        have h07 : Boxed W7 B 60 (.func (.yield l) #[] #[]) := (hB67.block _ (by omega)).trans H06.out
        have hcol7 : Col T W7 (B + 1 + 1) 31 3 1 (B + 4) (.slice (some ⟨g, 0, none⟩) m c') m (atCells s j m) :=
          Hc3.out.same (hB67.block _ (by omega)) (fun k hk => hB67.block k (by have := Hc3.out.lt hk; omega)) (fun k hk e => by
            rw [hog] at hk
            exact hgne.2.2.2.2 ((Option.some.inj hk) ▸ e))
        have hcells7 : ∀ (i x : Nat), (ats s j m)[i]? = some x → W7.cell? ((⟨g, 0, none⟩ : Addr).add i) = some (.int .i64 (x : Int)) := fun i x hx => by
          have := Hcells.out i x hx
          exact (hB67.cell (p := (⟨g, 0, none⟩ : Addr).add i) (by rw [add_block]; exact hgb6)).trans this
        have hl7 : ∃ r, W7.heap[l1]? = some (.loop r) := by
          obtain ⟨r, hr⟩ := hr1
          exact ⟨r, (hk7.block l1 (by have := (hT1 _ hl1).2; omega) (.inr hl1)).trans hr⟩
        obtain ⟨r7, hr7⟩ := hl7
        have hJ7 : J (pcsF s (chars s) (it s j (m - 0))).reverse (fun k => U k ∨ (b1 ≤ k ∧ k < b6 + 1) ∨ False) W7 := by
          rw [Nat.sub_zero, hme]
          exact hJ _ _ _ _ _ G11.out (fun k hk => by have := hU1 k hk; omega) hmv7 ⟨fun k hk => .inl hk, fun k hk => by
            rcases hk with hk | hk | hk
            · exact .inl hk
            · exact .inr (by omega)
            · exact hk.elim⟩
        have HJ7 := Lib.hid hJ7
        have Hk7 := Lib.hid hk7
        have Hm67 := Lib.hid hm67
        have H07 := Lib.hid h07
        have Hcol7 := Lib.hid hcol7
        clear hJ7 hk7 hmv7 hm67 h07 hcol7 Hbw Hc3 Ho3 Hk6 Hmv6 Hm66 H06 Hcells hw7
        rw [hb6]
        gi_wp2_with fail
        refine range_NN1 (l₀ := l1) rfl hr7 hn1 (gf := 86) (lb := #[.pointer (some ⟨b6, 0, none⟩)]) rfl trivial (enters_of Tryd.func86 (by kernel_rfl) rfl)
          ((seqBw (n - 1 - 1 - 1) (by omega) b6 (fun k => k = b6 ∨ k = g) (ats s j m) m c' ⟨g, 0, none⟩ W7 (by simp [ats]) (by unfold maxLen; omega) (.inl rfl) (.inr rfl) hx7.cell hcells7).inRound l1) (fun k hk => by omega) (fun _ => rfl)
          (I7 s j m B b1 (b6 + 1) g N₀ T U J W1 W7) (Ix7 s B b1 (b6 + 1) N₀ T U Jx W1) (by rw [hs7]; exact I7.tc hJ hU1 hb1 (by omega) hBb1 (by omega)) (fun cd => by rw [hs7]; exact Ix7.tc hJx hU1 hb1 (by omega) hBb1 cd)
          ⟨Hk7.out, fun _ _ => rfl, Nat.zero_le _, by rw [List.length_nil, Nat.sub_zero, hme]; exact Hm67.out, by omega, HJ7.out⟩
          ?a2 ?assign2 ?body2 ?done2 ?stop2
        case assign2 =>
          intro l x W K hK
          gi_wp2
          exact hK
        case body2 =>
          rintro l2 pre2 x2 T8 W8 hl8 hT8 hr8 ⟨h1, h2, h3, h4, h5, h6⟩ hlen8 hsp8
          rw [hs7] at hT8
          obtain ⟨q2, hq2⟩ : ∃ q2, pre2.length = q2 := ⟨_, rfl⟩
          have hil : (idx (ats s j m)).length = m := by rw [idx_len]; simp [ats]
          have hget8 := prefix_get hsp8
          have hpl2 : (pre2 ++ [x2]).length = q2 + 1 := by simp [hq2]
          rw [hq2] at hget8 hlen8 h3 h4 h6
          obtain ⟨i, hi⟩ : ∃ i, m - 1 - q2 = i := ⟨_, rfl⟩
          have him : i < m := by omega
          rw [List.getElem?_reverse (by rw [hil]; exact hlen8), hil, idx_get, hi] at hget8
          simp only [ats, List.getElem?_map, List.getElem?_range him, Option.map_some] at hget8
          have hx2 := (Option.some.inj hget8).symm
          obtain ⟨hie, hib⟩ := Hmi.out i him
          rw [show m - q2 = i + 1 by omega, show it s j (i + 1) = clEnd s (it s j i) from rfl] at h4 h6
          have hmi : m - (q2 + 1) = i := by omega
          obtain ⟨k, hk⟩ : ∃ k, it s j i = k := ⟨_, rfl⟩
          rw [hk] at h4 h6 hie hib hx2
          have hkc : k < chars s := by have := isBord_le G5.out.1; omega
          have hbd := clEnd_bounds hkc
          have hpP := placeAt_lt s hbd.1 hbd.2
          have hPs := placeAt_le s (clEnd s k)
          have hstep := pcsF_step s k hkc
          obtain ⟨p, hp⟩ : ∃ p, placeAt s k = p := ⟨_, rfl⟩
          obtain ⟨P, hP⟩ : ∃ P, placeAt s (clEnd s k) = P := ⟨_, rfl⟩
          rw [hp] at hpP hstep hx2
          rw [hP] at hpP hstep hPs h4
          subst hx2
          have hpre : (pcsF s (chars s) (clEnd s k)).reverse ++ [(p, s.extract p P)] = (pcsF s (chars s) k).reverse := by rw [hstep, List.reverse_cons]
          have hpfx : (pcsF s (chars s) (clEnd s k)).reverse ++ [(p, s.extract p P)] <+: (pcs s).reverse := by rw [hpre]; exact pcs_suffix s k hib
          have hlen : (pcsF s (chars s) (clEnd s k)).reverse.length < (pcs s).length := by
            have := hpfx.length_le
            simp only [List.length_append, List.length_reverse, List.length_cons, List.length_nil] at this ⊢
            omega
          have hin : InT B (fun k => U k ∨ (b1 ≤ k ∧ k < b6 + 1) ∨ T8 k) W8.drew := fun k hk => by
            show B ≤ k ∧ k < W8.heap.size
            rcases hk with hk | hk | hk
            · have := hU1 k hk; omega
            · omega
            · have := hT8 k hk; omega
          have hJ8 : J (pcsF s (chars s) (clEnd s k)).reverse (fun k => U k ∨ (b1 ≤ k ∧ k < b6 + 1) ∨ T8 k) W8.drew := hJ.of h6 hin ⟨rfl, rfl, rfl, Nat.le_refl _, fun _ _ _ => rfl⟩
          obtain ⟨fn, tmps, assign, body, hy, hR⟩ := Hy.out _ (p, s.extract p P) _ W8.drew hJ8 hin hlen hpfx
          dsimp only [encCl] at hy
          have hR2 := Lib.hid (roundIn_wide (m' := n - 1 - 1 - 1 - 1 - 1) (l' := l2) (hR.mono (R' := fun e W' => ∃ b : Bool, e = .returned (.bool b) ∧ (b = true → J ((pcsF s (chars s) (clEnd s k)).reverse ++ [(p, s.extract p P)]) (fun k => U k ∨ (b1 ≤ k ∧ k < b6 + 1) ∨ T8 k) W') ∧ (b = false → Jx ((pcsF s (chars s) (clEnd s k)).reverse ++ [(p, s.extract p P)]) (fun k => U k ∨ (b1 ≤ k ∧ k < b6 + 1) ∨ T8 k) W') ∧ KeepN N₀ (fun k => U k ∨ (b1 ≤ k ∧ k < b6 + 1) ∨ T8 k) W8.drew W') (by
            rintro e W' (⟨rfl, h1, h2⟩ | ⟨rfl, h1, h2⟩)
            · exact ⟨true, rfl, fun _ => h1, fun e => (by cases e), h2⟩
            · exact ⟨false, rfl, fun e => (by cases e), fun _ => h1, h2⟩)))
          have h08 : Boxed W8 B 60 (.func (.yield l) #[] #[]) := (h2 B (.inl rfl)).trans H07.out
          have m1d : W8.drew.cell? ⟨B, 0, none⟩ = some (.func (.yield l) #[] #[]) := h08.cell
          have m5d : W8.drew.cell? ⟨B + 1, 0, none⟩ = some (.int .i64 (P : Int)) := h4.cell
          have mcd : W8.drew.cell? ⟨Bn, 0, none⟩ = some (.string s) := h1.cell (p := ⟨Bn, 0, none⟩) (.inl (.inl ⟨hBn, hBnB⟩)) i2
          have hn2 : 1 ≤ n - 1 - 1 - 1 - 1 := by omega
          have hps : p ≤ s.size := by omega
          have hps1 : (p : Int) ≤ (s.size : Int) := by omega
          have hPs1 : (P : Int) ≤ (s.size : Int) := by omega
          have hpP1 : (p : Int) ≤ (P : Int) := by omega
          have K1 := Lib.hid h1
          have K2 := Lib.hid h2
          have K4 := Lib.hid h4
          have Hpre := Lib.hid hpre
          have Hpfx := Lib.hid hpfx
          clear hR h1 h2 h4 h6 hJ8 hpre hpfx hlen hstep hsp8 hget8
          dsimp only
          gi_wp2_with fail
          refine region_read 6 [(38, .func (.yield l) #[] #[]), (39, .int .i64 (p : Int)), (40, .string s), (41, .int .i64 (p : Int)), (42, .int .i64 (P : Int)), (43, .string (s.extract p P))] (by kernel_rfl) (by kernel_rfl) (by simp) ?hread ?hfin
          case hread =>
            clear Hy Hbm HC HTW Hmi Hown HJ7 Hk7 Hm67 H07 Hcol7 K1 K2 K4 Hpre Hpfx hR2 hy hin hT8 hr8 hl8 hJ hJx G1 G3 G5 G6 G7 G8 G9 G10 G11 Hbx Hbv Hcc Hcole K0 M6 Mx B3 h08 hx7 hcells7 hU1 hT1 hl1 hr1 hr7
            dsimp only [List.take, readRuns, puts, Act.put]
            refine ⟨?_, ?_, ?_, ?_, ?_, ?_, trivial⟩
            all_goals go_simp
          case hfin =>
            simp only [puts, Act.put]
            refine wpAnyIn_ready (rs := [6]) (by kernel_rfl) (by simp) ?_
            refine AllReadyIn.cons rfl (fun K hK => ?_) AllReadyIn.nil
            go_simp
            refine hR2.out.mono ?_
            rintro _ W9 ⟨bb, rfl, hbt, hbf, hk9⟩
            have hbt' := Lib.hid hbt
            have hbf' := Lib.hid hbf
            have Hk9 := Lib.hid hk9
            clear hbt hbf hk9
            refine hK _ _ ?_
            refine wpAnyIn_ready (rs := [7]) (by kernel_rfl) (by simp) ?_
            refine AllReadyIn.cons rfl (fun Kc hK2 => ?_) AllReadyIn.nil
            go_simp
            refine hK2 _ _ ?_
            refine wpAnyIn_done (by kernel_rfl) ?_ _
            clear hK hK2
            have hs89 : W8.heap.size ≤ W9.heap.size := Hk9.out.size
            have hUs : ∀ k, (k = b6 ∨ k = g ∨ k = B ∨ k = B + 1 ∨ k = B + 1 + 1 ∨ k = B + 1 + 1 + 1 ∨ T k ∨ T8 k) → U k ∨ (b1 ≤ k ∧ k < b6 + 1) ∨ T8 k := fun k hk => by
              rcases hk with hk | hk | hk | hk | hk | hk | hk | hk
              · exact .inr (.inl (by omega))
              · rw [hk]
                rcases hgU with h | h
                · exact .inl h
                · exact .inr (.inl h)
              · exact .inl (G9.out.four k (by omega) (by omega))
              · exact .inl (G9.out.four k (by omega) (by omega))
              · exact .inl (G9.out.four k (by omega) (by omega))
              · exact .inl (G9.out.four k (by omega) (by omega))
              · exact .inl (G9.out.sub k hk)
              · exact .inr (.inr hk)
            have hb19 : Boxed W9 (B + 1) 3 (.int .i64 (P : Int)) := (Hk9.out.block (B + 1) (show B + 1 < W8.heap.size by omega) (.inr (hUs _ (by simp)))).trans K4.out
            have hkb : KeepN (fun k => k = b6 ∨ k = g) T8 W8 W9 := ⟨hs89, fun k hk ho => Hk9.out.block k hk (.inr (hUs k (by rcases ho with (ho | ho) | ho; exact .inl ho; exact .inr (.inl ho); simp [ho])))⟩
            have hko : KeepN (fun k => (N₀ k ∧ k < B) ∨ k = B + 1 + 1 + 1) T W8 W9 := ⟨hs89, fun k hk ho => Hk9.out.block k hk (by
              rcases ho with (ho | ho) | ho
              · exact .inl ho.1
              · exact .inr (hUs k (by simp [ho]))
              · exact .inr (hUs k (by simp [ho])))⟩
            have hnT : ¬ T (B + 1) := fun e => by have := (hT1 _ e).1; omega
            have hnT8 : ¬ T8 (B + 1) := fun e => by have := (hT8 _ e).1; omega
            have hnT0 : ¬ (N₀ (B + 1) ∧ B + 1 < B) := by omega
            cases bb with
            | true =>
              have hfin : ∀ W10, W10 = W9.setCell ⟨B + 1, 0, none⟩ (.int .i64 (p : Int)) → KeepN (fun k => k = b6 ∨ k = g) T8 W8 W10 ∧ I7 s j m B b1 (b6 + 1) g N₀ T U J W1 W7 (pre2 ++ [(i, p)]) T8 W10 := by
                rintro W10 rfl
                refine ⟨hkb.trans (KeepN.setCell _ _ _ _ _ _ (by omega) hnT8), (K1.out.trans hko).trans (KeepN.setCell _ _ _ _ _ _ (by omega) hnT), fun k hk => ?_, by rw [hpl2]; omega, ?_, by simp; omega, ?_⟩
                · refine (Below.heap_setCell W9 ⟨B + 1, 0, none⟩ _ k (show k ≠ B + 1 by omega)).trans ?_
                  refine (Hk9.out.block k (show k < W8.heap.size by omega) (.inr (hUs k (by rcases hk with hk | hk | hk <;> simp [hk])))).trans (K2.out k hk)
                · rw [hpl2, hmi, hk, hp]
                  exact hb19.set _
                · rw [hpl2, hmi, hk, ← Hpre.out]
                  exact hJ.of (hbt'.out rfl) (fun k hk => by have := hin k hk; have h : W8.drew.heap.size = W8.heap.size := rfl; omega) ⟨rfl, rfl, rfl, by simp, fun k _ hk => Below.heap_setCell _ _ _ k (fun e => hk (hUs k (by have e : k = B + 1 := e; simp [e])))⟩
              have hc19 := hb19.cell
              have hf19 := hb19.frozen
              have Hfin := Lib.hid hfin
              clear hfin hkb hko hb19 hUs
              gi_wp2_with fail
              exact Hfin.out _ rfl
            | false =>
              have Hfin : Hid (KeepN (fun k => k = b6 ∨ k = g) T8 W8 W9 ∧ Ix7 s B b1 (b6 + 1) N₀ T U Jx W1 .ret (pre2 ++ [(i, p)]) T8 W9) := Lib.hid ⟨hkb, rfl, K1.out.trans hko, by omega, _, Hpfx.out, hbf'.out rfl⟩
              clear hkb hko hb19 hUs
              gi_wp2_with fail
              exact Hfin.out
        case done2 =>
          rintro ys T8 W8 hT8 rfl ⟨h1, h2, h3, h4, h5, h6⟩
          rw [hs7] at hT8
          have hlm : (idx (ats s j m)).reverse.length = m := by rw [List.length_reverse, idx_len]; simp [ats]
          rw [hlm, Nat.sub_self] at h4 h6
          have hfin : RI s l B Bn J (pre ++ [x]) T W8 := by
            refine ⟨⟨(h2 B (.inl rfl)).trans H07.out, h1.cell (p := ⟨Bn, 0, none⟩) (.inl (.inl ⟨hBn, hBnB⟩)) i2, h1.u8 (.inl (.inl ⟨hN0, by omega⟩)) (.inl (.inl ⟨hN1, by omega⟩)) G3.out, by omega⟩, j, .slice (some ⟨g, 0, none⟩) m c', atCells s j m, (fun k => U k ∨ (b1 ≤ k ∧ k < b6 + 1) ∨ T8 k), ⟨hbj, by simp; omega⟩, h4, fun r hr1 _ _ => by simp at hr1; omega, ?_, ⟨fun k hk => ?_, fun k hk => .inl (G9.out.sub k hk), fun k h1 h2 => .inl (G9.out.four k h1 h2)⟩, fun k hk => ?_, h6⟩
            · have : (atCells s j m).length = m := by simp [atCells, ats]
              rw [this]
              exact Hcol7.out.same (h2 _ (.inr (.inl rfl))) (fun k hk => h2 k (.inr (.inr ((Option.some.inj hk).symm)))) Hcol7.out.apart
            · rcases hk with hk | hk | hk
              · have := hU1 k hk; omega
              · omega
              · have := hT8 k hk; omega
            · have : g = k := Option.some.inj hk
              subst this
              rcases hgU with h | h
              · exact .inl h
              · exact .inr (.inl h)
          have Hfin := Lib.hid (And.intro h1 hfin)
          clear h1 h2 h4 h6 hfin
          gi_wp2_with fail
          exact Hfin.out
        case stop2 =>
          rintro cd pre8 T8 W8 hT8 _ ⟨rfl, h1, h2, q8, h3, h4⟩
          rw [hs7] at hT8
          have Hfin : Hid (KeepN (fun k => (N₀ k ∧ k < B) ∨ k = B + 1 + 1 + 1) T W1 W8 ∧ RX s B Jx .ret (pre ++ [x]) T W8) := Lib.hid ⟨h1, rfl, by omega, q8, _, h3, ⟨fun k hk => by
            rcases hk with hk | hk | hk
            · have := hU1 k hk; omega
            · omega
            · have := hT8 k hk; omega, fun k hk => .inl (G9.out.sub k hk), fun k h1 h2 => .inl (G9.out.four k h1 h2)⟩, h4⟩
          clear h1 h3 h4
          gi_wp2_with fail
          exact Hfin.out
    · have hcf : certB s j = false := by simpa using hce
      rw [hcf]
      have hlt3 : InT W1.heap.size (fun _ => False) W1 := fun _ h => h.elim
      have hmv : Moves (fun _ => False) W1 w3 := Moves.of_below _ b3
      have hin : InT (B + 4) (fun _ => False) W1 := fun _ h => h.elim
      have hJ2 : J (pcsF s (chars s) e).reverse U w3 := hJ.of G11.out G9.out.inn (hmv.mono fun _ h => h.elim)
      have hsz3 := b3.size
      have hkeep : ∀ N : Bl, KeepN N T W1 w3 := fun N => KeepN.of_below _ _ b3
      have hfin : RI s l B Bn J (pre ++ [x]) T w3 := ⟨⟨boxed_below G1.out b3, (b3.cell (p := ⟨Bn, 0, none⟩) (show Bn < W1.heap.size by omega)).trans i2, Utf8Tabs_below G3.out b3, by omega⟩, e, v, xs, U, ⟨G5.out.1, by have := G5.out.2; simp [hq]; omega⟩, boxed_below G6.out b3, (fun r h1 h2 h3 => by
          rcases Nat.lt_or_ge r (chars s - q) with h | h
          · have : r = j := by simp [hq] at h1; omega
            subst this
            rw [hcf] at h3
            cases h3
          · exact G7.out r h h2 h3), G8.out.same (b3.block _ G8.out.box.lt) (fun k hk => b3.block k (G8.out.lt hk)) G8.out.apart, ⟨fun k hk => by have := G9.out.inn k hk; omega, G9.out.sub, G9.out.four⟩, G10.out, hJ2⟩
      have Hfin := Lib.hid hfin
      have Hkeep := Lib.hid hkeep
      clear hfin hkeep hJ2 hmv b3
      gi_wp2_with fail
      exact ⟨Hkeep.out _, Hfin.out⟩
  case done =>
    rintro D ys T W2 hD hT2 rfl hi hK
    rw [hsz] at hT2
    obtain ⟨U, ho, hj⟩ := hi.all
    have hmv := Moves.putObj U W2 D (.deferred none) (ho.sub D hD)
    have hJf := hJ.of hj ho.inn hmv
    have hinf : InT B U _ := (show InT B U W2 from ho.inn).more hmv.size
    have HK := Lib.hid hK
    clear hi hj hK
    gi_wp2_with fail
    refine ⟨by simp, .inl ⟨_, _, rfl, run_takeDeferred HK.out, ?_⟩⟩
    exact ⟨_, results_none rfl _ _ _, ⟨_, rfl⟩, .inl ⟨_, U, rfl, hJf, hinf⟩⟩
  case stop =>
    rintro D c pre T W2 hD hT2 _ ⟨rfl, hsA, q, U, hq, ho, hj⟩ hK
    have hmv := Moves.putObj U W2 D (.deferred none) (ho.sub D hD)
    have hJf := hJx.of hj ho.inn hmv
    have hinf : InT B U _ := (show InT B U W2 from ho.inn).more hmv.size
    have HK := Lib.hid hK
    clear hj hK
    gi_wp2_with fail
    refine ⟨by simp, .inl ⟨_, _, rfl, run_takeDeferred HK.out, ?_⟩⟩
    exact ⟨_, results_none rfl _ _ _, ⟨_, rfl⟩, .inr ⟨q, U, hq, hJf, hinf⟩⟩
end Go.Proofs.YtiafofekobcifaaDoor
