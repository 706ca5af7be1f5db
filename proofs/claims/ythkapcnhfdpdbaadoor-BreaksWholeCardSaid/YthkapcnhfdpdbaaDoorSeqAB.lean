/- The iterators of scan.All and scan.Back, what a round keeps being any set. -/
import Derived.Test.YthkapcnhfdpdbaaDoorSeqN
import Derived.Test.YthkapcnhfdpdbaaDoorSeqB
set_option linter.unusedSimpArgs false
set_option linter.unusedVariables false
namespace Go.Proofs.YthkapcnhfdpdbaaDoor
open Go.RowKit Go.Shelf Go.Lib
attribute [local go_sem] Oper.semAt_some

theorem cell_ltN {w : World} {a : Addr} {v : Value} (h : w.cell? a = some v) : a.block < w.heap.size := by
  rcases Nat.lt_or_ge a.block w.heap.size with h' | h'
  · exact h'
  · simp [World.cell?, Array.getElem?_eq_none h'] at h

set_option maxRecDepth 100000 in
set_option maxHeartbeats 1000000 in
theorem seqAllN (F : Fence) (n : Nat) (h6 : F.fn 61) (hro : F.round = none) (hn : 1 ≤ n) (Bn : Nat) (N₀ : Bl) (s : ByteArray) (w : World) (hc : w.cell? ⟨Bn, 0, none⟩ = some (.string s)) :
    SeqN F n Tryd.prog 61 #[.pointer (some ⟨Bn, 0, none⟩)] encPlace (fun ys => ys = places s) (fun pre => pre <+: places s) (places s).length N₀ w := by
  intro l J Jx W hW hJ hJx hY h0
  have hcW : W.cell? ⟨Bn, 0, none⟩ = some (.string s) := (hW.cell (p := ⟨Bn, 0, none⟩) (cell_ltN hc)).trans hc
  clear hc hW
  refine callsIn_of_wp Tryd.func61 rfl h6 ?_ hro
  simp only [Tryd.ntmps61, List.size_toArray, List.length_cons, List.length_nil, Nat.reduceAdd, Nat.reduceSub, Array.replicate_succ, Array.replicate_zero, List.push_toArray, List.append_toArray, List.nil_append, List.cons_append]
  gi_wp2
  obtain ⟨Bi, hBi⟩ : ∃ Bi, W.heap.size = Bi := ⟨_, rfl⟩
  have hit0 : (W.iter s 0).heap[Bi]? = some (.stringIter s 0) := by rw [← hBi]; exact World.iter_heap W s 0
  have hsz0 : (W.iter s 0).heap.size = Bi + 1 := by rw [← hBi]; exact World.size_alloc _ _
  have hJ0 : J [] (fun k => k = Bi) (W.iter s 0) := hJ _ _ _ _ _ h0 (fun _ h => h.elim) (Moves.alloc _ _ _) ⟨fun _ h => h.elim, fun k hk => .inr (by subst hk; omega)⟩
  rw [hBi] at hJ hJx hY ⊢
  gi_loopw [3] (fun _ wr => ∃ (pos : Nat) (pre : List (Nat × Nat)), wr.heap[Bi]? = some (.stringIter s pos) ∧ Hid (pre ++ placesF s s.size pos = places s) ∧ J pre (fun k => k = Bi) wr)
    (fun _ wr => s.size - wr.iterPos Bi)
  case atStart => exact ⟨0, [], hit0, by unfold Hid; rfl, hJ0⟩
  case round =>
    obtain ⟨pos, pre, hit, hpl, hJs⟩ := hrel
    by_cases hp : pos < s.size
    · have hd2 := decode_pos s pos
      have hnx : ∀ ty, (Instr.next (.pointer (some ⟨Bi, 0, none⟩)) true ty).run Tryd.prog wr = .ok (.tuple #[.bool true, .int .i64 pos, .int .i32 (Utf8.decode s pos).1]) (wr.iterAt Bi s (pos + (Utf8.decode s pos).2)) := fun ty => Lib.run_next_any_at wr Bi s pos ty hit hp
      have hpl2 := hpl.out
      rw [placesF_step s pos hp] at hpl2
      revert hd2 hnx hpl2
      generalize Utf8.decode s pos = d
      intro hd2 hnx hpl2
      have hlen : pre.length < (places s).length := by rw [← hpl2]; simp
      have hit2 := Lib.iterAt_heap wr Bi s pos (pos + d.2) hit
      have hlt : Bi < wr.heap.size := (Array.getElem?_eq_some_iff.1 hit).1
      have hmv : Moves (fun k => k = Bi) wr (wr.iterAt Bi s (pos + d.2)) := ⟨rfl, rfl, rfl, by rw [Lib.iterAt_size]; exact Nat.le_refl _, fun i _ hne => Lib.iterAt_other wr Bi i s (pos + d.2) hne⟩
      have hJ2 : J pre (fun k => k = Bi) (wr.iterAt Bi s (pos + d.2)) := hJ.of hJs (fun k hk => by subst hk; exact ⟨Nat.le_refl _, hlt⟩) hmv
      have hpl3 : (pre ++ [(pos, d.1)]) ++ placesF s s.size (pos + d.2) = places s := by rw [← hpl2]; simp
      have Hpl := Lib.hid hpl3
      have Hpos := Lib.hid (iterPos_at hit)
      have hpre : pre ++ [(pos, d.1)] <+: places s := ⟨_, hpl3⟩
      have Hpre := Lib.hid hpre
      clear hpl hpl2 hpl3 hit hJs hpre hlt hmv
      obtain ⟨w1, hw1⟩ : ∃ w1, wr.iterAt Bi s (pos + d.2) = w1 := ⟨_, rfl⟩
      rw [hw1] at hnx hit2 hJ2
      clear hw1
      have hin1 : InT Bi (fun k => k = Bi) w1 := fun k hk => by subst hk; exact ⟨Nat.le_refl _, (Array.getElem?_eq_some_iff.1 hit2).1⟩
      obtain ⟨fn, tmps, assign, body, hy, hR⟩ := hY pre (pos, d.1) _ w1 hJ2 hin1 hlen Hpre.out
      dsimp only [encPlace] at hy
      gi_wp2
      refine hR.mono ?_
      rintro e W3 (⟨rfl, hJ3, hk3⟩ | ⟨rfl, hJx3, hk3⟩)
      · have hit3 := (hk3.block Bi (hin1 Bi rfl).2 (.inr rfl)).trans hit2
        gi_wp2
        go_roundw
        case rel => exact ⟨pos + d.2, pre ++ [(pos, d.1)], hit3, Hpl, hJ3⟩
        case measure => rw [Hpos.out, iterPos_at hit3]; omega
      · gi_wp2
        refine bodyPost_ret (results_none rfl _ _ _) rfl ?_
        exact ⟨⟨_, rfl⟩, .inr ⟨pre ++ [(pos, d.1)], _, Hpre.out, hJx3, by rw [hBi]; exact hin1.more hk3.size⟩⟩
    · have hnx : ∀ ty, (Instr.next (.pointer (some ⟨Bi, 0, none⟩)) true ty).run Tryd.prog wr = _ := fun ty => Lib.run_next_end_at wr Bi s pos ty hit hp
      have hpl2 := hpl.out
      rw [placesF_end s _ _ hp, List.append_nil] at hpl2
      have Hpl := Lib.hid hpl2
      have Hin : Hid (InT Bi (fun k => k = Bi) wr) := Lib.hid (fun k hk => by subst hk; exact ⟨Nat.le_refl _, (Array.getElem?_eq_some_iff.1 hit).1⟩)
      clear hpl hpl2 hit
      gi_wp2
      go_end0
      exact ⟨⟨_, rfl⟩, .inl ⟨pre, _, Hpl.out, hJs, by rw [hBi]; exact Hin.out⟩⟩
set_option maxRecDepth 100000 in
set_option maxHeartbeats 1000000 in
theorem seqBackN (n : Nat) (hn : 1 ≤ n) (Bn : Nat) (N₀ : Bl) (s : ByteArray) (w : World) (hBn : N₀ Bn) (hN0 : N₀ 0) (hN1 : N₀ 1) (hc : w.cell? ⟨Bn, 0, none⟩ = some (.string s)) (hs : s.size ≤ maxLen) (hT : Utf8Tabs 0 1 w) :
    SeqN Fence.wide n Tryd.prog 80 #[.pointer (some ⟨Bn, 0, none⟩)] encPlace (fun ys => ys = (places s).reverse) (fun pre => pre <+: (places s).reverse) (places s).length N₀ w := by
  intro l J Jx W hW hJ hJx hY h0
  have hk0 : KeepN N₀ (fun _ => False) w W := ⟨hW.size, fun k hk _ => hW.block k hk⟩
  have hcW : W.cell? ⟨Bn, 0, none⟩ = some (.string s) := hk0.cell (.inl hBn) hc
  have hTW : Utf8Tabs 0 1 W := hk0.u8 (.inl hN0) (.inl hN1) hT
  clear hc hW hk0 hT
  have hlast := fun (k : Nat) (hk : k ≤ s.size) (W : World) (hT : Utf8Tabs 0 1 W) => (callsIn_wide (n := n - 1)).2 (last_any (s.extract 0 k) W (by simp; omega) hT)
  simp only [take_list] at hlast
  have Hlast := Lib.hid hlast
  clear hlast
  refine callsIn_of_wp Tryd.func80 rfl trivial ?_ rfl
  simp only [Tryd.ntmps80, List.size_toArray, List.length_cons, List.length_nil, Nat.reduceAdd, Nat.reduceSub, Array.replicate_succ, Array.replicate_zero, List.push_toArray, List.append_toArray, List.nil_append, List.cons_append]
  gi_wp2
  gi_loopw [3] (fun v wr => ∃ (p : Nat) (pre : List (Nat × Nat)), v = .int .i64 (p : Int) ∧ p ≤ s.size ∧ wr.cell? ⟨Bn, 0, none⟩ = some (.string s) ∧ Utf8Tabs 0 1 wr ∧ Hid (offs 0 (segs (s.data.toList.take p)) ++ pre.reverse = places s) ∧ J pre (fun _ => False) wr)
    (fun v _ => (RowKit.intOf v).toNat)
  case atStart => exact ⟨s.size, [], rfl, Nat.le_refl _, hcW, hTW, by unfold Hid; rw [← size_list, List.take_length, places_offs]; simp, h0⟩
  case round =>
    obtain ⟨p, pre, rfl, hps, hcs, hTs, hpl, hJs⟩ := hrel
    by_cases hp : 0 < p
    · have hpi : (0 : Int) < (p : Int) := by omega
      obtain ⟨hd1, hd2, hst⟩ := back_step s.data.toList p hp (by rw [size_list]; exact hps)
      have hl := Hlast.out p hps wr hTs
      revert hd1 hd2 hst hl
      generalize decodeLastL (s.data.toList.take p) = d
      intro hd1 hd2 hst hl
      have hpl2 := hpl.out
      rw [hst, List.append_assoc] at hpl2
      have hlen : pre.length < (places s).length := by rw [← hpl2]; simp; omega
      have hw : IntKind.i64.wrap ((p : Int) - (d.2 : Int)) = ((p - d.2 : Nat) : Int) := by
        rw [IntWalk.i64_in _ (by unfold maxLen at hs; omega)]
        omega
      have hsl : p ≤ s.size := hps
      have hpre : pre ++ [(p - d.2, d.1)] <+: (places s).reverse := by rw [← hpl2]; simp
      have Hpre := Lib.hid hpre
      clear hpre
      have Hl := Lib.hid hl
      have Hpl := Lib.hid hpl2
      have Hd1 := Lib.hid hd1
      have Hd2 := Lib.hid hd2
      have HJ := Lib.hid hJs
      have HT := Lib.hid hTs
      clear hl hpl2 hpl hst hd1 hd2 hJs hTs
      gi_wp2
      refine ⟨trivial, Hl.out.mono ?_⟩
      rintro e w2 ⟨rfl, hb2⟩
      have hc2 := (hb2.cell (p := ⟨Bn, 0, none⟩) (show Bn < wr.heap.size from ?lt)).trans hcs
      case lt =>
        rcases Nat.lt_or_ge Bn wr.heap.size with h' | h'
        · exact h'
        · simp [World.cell?, Array.getElem?_eq_none h'] at hcs
      have hT2 := Utf8Tabs_below HT.out hb2
      have hJ2 : J pre (fun _ => False) w2 := hJ.of HJ.out (fun _ h => h.elim) (.of_below _ hb2)
      have HT2 := Lib.hid hT2
      obtain ⟨fn, tmps, assign, body, hy, hR⟩ := hY pre (p - d.2, d.1) _ w2 hJ2 (fun _ h => h.elim) hlen Hpre.out
      dsimp only [encPlace] at hy
      clear hJ2 hb2 hT2 hcs
      gi_wp2
      refine hR.mono ?_
      rintro e W3 (⟨rfl, hJ3, hk3⟩ | ⟨rfl, hJx3, hk3⟩)
      · have hc3 := hk3.cell (p := ⟨Bn, 0, none⟩) (.inl hBn) hc2
        have hT3 := Lib.hid (hk3.u8 (.inl hN0) (.inl hN1) HT2.out)
        clear hk3
        gi_wp2
        go_roundw
        case rel => exact ⟨p - d.2, pre ++ [(p - d.2, d.1)], rfl, by omega, hc3, hT3.out, by unfold Hid; rw [← Hpl.out]; simp, hJ3⟩
        case measure => have := Hd1.out; have := Hd2.out; simp only [RowKit.intOf]; omega
      · gi_wp2
        refine bodyPost_ret (results_none rfl _ _ _) rfl ?_
        refine ⟨⟨_, rfl⟩, .inr ⟨pre ++ [(p - d.2, d.1)], _, Hpre.out, hJx3, fun _ h => h.elim⟩⟩
    · have hp0 : p = 0 := by omega
      subst hp0
      have Hpl := Lib.hid hpl.out
      clear hpl hTs hcs
      gi_wp2
      go_end0
      refine ⟨⟨_, rfl⟩, .inl ⟨pre, _, ?_, hJs, fun _ h => h.elim⟩⟩
      have := Hpl.out
      rw [List.take_zero, segs_nil] at this
      rw [← this]
      simp [offs]
end Go.Proofs.YthkapcnhfdpdbaaDoor
