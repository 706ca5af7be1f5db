/- Ranging over scan.All: the iterator's contract over blocks of its own. -/
import Derived.Test.YthkapcnhfdpdbaaDoorIterA
import Derived.Test.YthkapcnhfdpdbaaDoorSeqT
import Derived.Test.YthkapcnhfdpdbaaDoorShelf
set_option linter.unusedSimpArgs false
set_option linter.unusedVariables false
namespace Go.Proofs.YthkapcnhfdpdbaaDoor
open Go.RowKit Go.Shelf Go.Lib
attribute [local go_sem] Oper.semAt_some

theorem all_mk (s : ByteArray) (w : World) : Calls Tryd.prog 35 #[.string s] w fun e w' => e = .returned (.func (.func 61) #[] #[.pointer (some ⟨w.heap.size, 0, none⟩)]) ∧ w' = w.alloc (.cells #[.string s] 9) := by
  go_enter Tryd.func35, Tryd.ntmps35
  go_wp2
  go_ret
  exact ⟨rfl, rfl⟩
theorem KeepT.cell {n₀ : Nat} {T : Bl} {A B : World} (h : KeepT n₀ T A B) {p : Addr} {v : Value} (hp : p.block < n₀ ∨ T p.block) (hc : A.cell? p = some v) : B.cell? p = some v := by
  have hlt : p.block < A.heap.size := by
    rcases Nat.lt_or_ge p.block A.heap.size with h' | h'
    · exact h'
    · simp [World.cell?, Array.getElem?_eq_none h'] at hc
  have := h.block _ hlt hp
  unfold World.cell? at hc ⊢
  rw [this]
  exact hc
theorem tabs_size {w : World} (hT : Utf8Tabs 0 1 w) : 1 + 1 ≤ w.heap.size := by
  rcases Nat.lt_or_ge 1 w.heap.size with h | h
  · exact h
  · have := (hT.2 0 (by omega)).1
    simp [World.cell?, Array.getElem?_eq_none h] at this
theorem KeepT.u8 {n₀ : Nat} {T : Bl} {A B : World} (h : KeepT n₀ T A B) (h2 : 1 + 1 ≤ n₀) (hT : Utf8Tabs 0 1 A) : Utf8Tabs 0 1 B :=
  ⟨fun c hc => h.cell (.inl (show 0 < n₀ by omega)) (hT.1 c hc), fun i hi => ⟨h.cell (.inl (show 1 < n₀ by omega)) (hT.2 i hi).1, h.cell (.inl (show 1 < n₀ by omega)) (hT.2 i hi).2⟩⟩

set_option maxRecDepth 100000 in
set_option maxHeartbeats 1000000 in
theorem seqAll (F : Fence) (n : Nat) (h6 : F.fn 61) (hro : F.round = none) (hn : 1 ≤ n) (Bn n₀ : Nat) (s : ByteArray) (w : World) (hBn : Bn < n₀) (hc : w.cell? ⟨Bn, 0, none⟩ = some (.string s)) :
    SeqT F n Tryd.prog 61 #[.pointer (some ⟨Bn, 0, none⟩)] encPlace (fun ys => ys = places s) (fun pre => pre <+: places s) (places s).length n₀ w := by
  intro l J Jx W hW hJ hJx hY h0
  have hcW : W.cell? ⟨Bn, 0, none⟩ = some (.string s) := (hW.cell (p := ⟨Bn, 0, none⟩) hBn).trans hc
  clear hc hW
  refine callsIn_of_wp Tryd.func61 rfl h6 ?_ hro
  simp only [Tryd.ntmps61, List.size_toArray, List.length_cons, List.length_nil, Nat.reduceAdd, Nat.reduceSub, Array.replicate_succ, Array.replicate_zero, List.push_toArray, List.append_toArray, List.nil_append, List.cons_append]
  gi_wp2
  obtain ⟨Bi, hBi⟩ : ∃ Bi, W.heap.size = Bi := ⟨_, rfl⟩
  have hit0 : (W.iter s 0).heap[Bi]? = some (.stringIter s 0) := by rw [← hBi]; exact World.iter_heap W s 0
  have hsz0 : (W.iter s 0).heap.size = Bi + 1 := by rw [← hBi]; exact World.size_alloc _ _
  have hJ0 : J [] (fun k => k = Bi) (W.iter s 0) := hJ _ _ _ _ _ h0 (fun _ h => h.elim) (Moves.alloc _ _ _) ⟨fun _ h => h.elim, fun k hk => .inr (by subst hk; omega)⟩
  rw [hBi] at hJ hJx hY ⊢
  gi_loopw [3] (fun _ wr => ∃ (pos : Nat) (pre : List (Nat × Nat)), wr.heap[Bi]? = some (.stringIter s pos) ∧ Hid (pre ++ placesF s s.size pos = places s) ∧ J pre (fun k => k = Bi) wr)
    (fun _ wr => s.size - wr.iterPos Bi)
  case atStart => exact ⟨0, [], hit0, by unfold Hid; rfl, hJ0⟩
  case round =>
    obtain ⟨pos, pre, hit, hpl, hJs⟩ := hrel
    by_cases hp : pos < s.size
    · have hd2 := decode_pos s pos
      have hnx : ∀ ty, (Instr.next (.pointer (some ⟨Bi, 0, none⟩)) true ty).run Tryd.prog wr = .ok (.tuple #[.bool true, .int .i64 pos, .int .i32 (Utf8.decode s pos).1]) (wr.iterAt Bi s (pos + (Utf8.decode s pos).2)) := fun ty => Lib.run_next_any_at wr Bi s pos ty hit hp
      have hpl2 := hpl.out
      rw [placesF_step s pos hp] at hpl2
      revert hd2 hnx hpl2
      generalize Utf8.decode s pos = d
      intro hd2 hnx hpl2
      have hlen : pre.length < (places s).length := by rw [← hpl2]; simp
      have hit2 := Lib.iterAt_heap wr Bi s pos (pos + d.2) hit
      have hlt : Bi < wr.heap.size := (Array.getElem?_eq_some_iff.1 hit).1
      have hmv : Moves (fun k => k = Bi) wr (wr.iterAt Bi s (pos + d.2)) := ⟨rfl, rfl, rfl, by rw [Lib.iterAt_size]; exact Nat.le_refl _, fun i _ hne => Lib.iterAt_other wr Bi i s (pos + d.2) hne⟩
      have hJ2 : J pre (fun k => k = Bi) (wr.iterAt Bi s (pos + d.2)) := hJ.of hJs (fun k hk => by subst hk; exact ⟨Nat.le_refl _, hlt⟩) hmv
      have hpl3 : (pre ++ [(pos, d.1)]) ++ placesF s s.size (pos + d.2) = places s := by rw [← hpl2]; simp
      have Hpl := Lib.hid hpl3
      have Hpos := Lib.hid (iterPos_at hit)
      have hpre : pre ++ [(pos, d.1)] <+: places s := ⟨_, hpl3⟩
      have Hpre := Lib.hid hpre
      clear hpl hpl2 hpl3 hit hJs hpre hlt hmv
      obtain ⟨w1, hw1⟩ : ∃ w1, wr.iterAt Bi s (pos + d.2) = w1 := ⟨_, rfl⟩
      rw [hw1] at hnx hit2 hJ2
      clear hw1
      have hin1 : InT Bi (fun k => k = Bi) w1 := fun k hk => by subst hk; exact ⟨Nat.le_refl _, (Array.getElem?_eq_some_iff.1 hit2).1⟩
      obtain ⟨fn, tmps, assign, body, hy, hR⟩ := hY pre (pos, d.1) _ w1 hJ2 hin1 hlen Hpre.out
      dsimp only [encPlace] at hy
      gi_wp2
      refine hR.mono ?_
      rintro e W3 (⟨rfl, hJ3, hk3⟩ | ⟨rfl, hJx3, hk3⟩)
      · have hit3 := (hk3.block Bi (hin1 Bi rfl).2 (.inr rfl)).trans hit2
        gi_wp2
        go_roundw
        case rel => exact ⟨pos + d.2, pre ++ [(pos, d.1)], hit3, Hpl, hJ3⟩
        case measure => rw [Hpos.out, iterPos_at hit3]; omega
      · gi_wp2
        refine bodyPost_ret (results_none rfl _ _ _) rfl ?_
        exact ⟨⟨_, rfl⟩, .inr ⟨pre ++ [(pos, d.1)], _, Hpre.out, hJx3, by rw [hBi]; exact hin1.more hk3.size⟩⟩
    · have hnx : ∀ ty, (Instr.next (.pointer (some ⟨Bi, 0, none⟩)) true ty).run Tryd.prog wr = _ := fun ty => Lib.run_next_end_at wr Bi s pos ty hit hp
      have hpl2 := hpl.out
      rw [placesF_end s _ _ hp, List.append_nil] at hpl2
      have Hpl := Lib.hid hpl2
      have Hin : Hid (InT Bi (fun k => k = Bi) wr) := Lib.hid (fun k hk => by subst hk; exact ⟨Nat.le_refl _, (Array.getElem?_eq_some_iff.1 hit).1⟩)
      clear hpl hpl2 hit
      gi_wp2
      go_end0
      exact ⟨⟨_, rfl⟩, .inl ⟨pre, _, Hpl.out, hJs, by rw [hBi]; exact Hin.out⟩⟩
end Go.Proofs.YthkapcnhfdpdbaaDoor
