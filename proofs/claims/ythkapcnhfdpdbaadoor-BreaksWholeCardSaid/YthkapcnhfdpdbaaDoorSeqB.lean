/- Ranging over scan.Back: the iterator's contract. -/
import Derived.Test.YthkapcnhfdpdbaaDoorSeqA
import Derived.Test.YthkapcnhfdpdbaaDoorScanA
set_option linter.unusedSimpArgs false
set_option linter.unusedVariables false
namespace Go.Proofs.YthkapcnhfdpdbaaDoor
open Go.RowKit Go.Shelf Go.Lib
attribute [local go_sem] Oper.semAt_some

/-- places out of sizes -/
def offs : Nat → List (Nat × Nat) → List (Nat × Nat)
  | _, [] => []
  | p, x :: t => (p, x.1) :: offs (p + x.2) t
def total (l : List (Nat × Nat)) : Nat := (l.map (·.2)).sum
theorem offs_append : ∀ (a b : List (Nat × Nat)) (p : Nat), offs p (a ++ b) = offs p a ++ offs (p + total a) b
  | [], b, p => by simp [offs, total]
  | x :: a, b, p => by
    rw [List.cons_append, offs, offs, offs_append a b, List.cons_append]
    simp [total, Nat.add_assoc]
theorem total_append (a b : List (Nat × Nat)) : total (a ++ b) = total a + total b := by simp [total]
theorem total_segs : ∀ l : List UInt8, total (segs l) = l.length := walk_ind (by simp [segs_nil, total]) fun l h ih => by
  rw [segs_cons l h]
  have := dec_le l h
  simp only [total, List.map_cons, List.sum_cons] at ih ⊢
  rw [ih, List.length_drop]
  omega
theorem placesF_offs (s : ByteArray) : ∀ (f p : Nat), s.size - p ≤ f → p ≤ s.size → placesF s f p = offs p (segs (s.data.toList.drop p))
  | 0, p, h, hp => by
    rw [placesF_end s 0 p (by omega), List.drop_of_length_le (by rw [size_list]; omega)]
    rfl
  | f + 1, p, h, hp => by
    by_cases hlt : p < s.size
    · have hd := decode_dec s p hp
      have hne : s.data.toList.drop p ≠ [] := by
        intro e
        have := congrArg List.length e
        rw [List.length_drop, size_list] at this
        simp at this
        omega
      have hpos := decode_pos s p
      have hle := dec_le _ hne
      rw [← hd, List.length_drop, size_list] at hle
      unfold placesF
      rw [if_pos hlt, placesF_offs s f _ (by omega) (by omega), segs_cons _ hne, ← hd, List.drop_drop]
      rfl
    · rw [placesF_end s _ p hlt, List.drop_of_length_le (by rw [size_list]; omega)]
      rfl
theorem places_offs (s : ByteArray) : places s = offs 0 (segs s.data.toList) := placesF_offs s s.size 0 (by omega) (Nat.zero_le _)
theorem last_size (l : List UInt8) (h : l ≠ []) : 0 < (decodeLastL l).2 ∧ (decodeLastL l).2 ≤ l.length := by
  have hs := decodeLast_segs l h
  have ht := congrArg total hs
  rw [total_append, total_segs, total_segs, List.length_take] at ht
  simp only [total, List.map_cons, List.map_nil, List.sum_cons, List.sum_nil, Nat.add_zero] at ht
  have hne : 0 < l.length := by cases l with | nil => exact absurd rfl h | cons => simp
  constructor
  · rcases Nat.eq_zero_or_pos (decodeLastL l).2 with h0 | h0
    · rw [h0] at hs
      have := congrArg List.length hs
      rw [Nat.sub_zero, List.take_length] at this
      simp at this
    · exact h0
  · omega
theorem back_step (l : List UInt8) (at' : Nat) (h0 : 0 < at') (hl : at' ≤ l.length) : 0 < (decodeLastL (l.take at')).2 ∧ (decodeLastL (l.take at')).2 ≤ at' ∧
    offs 0 (segs (l.take at')) = offs 0 (segs (l.take (at' - (decodeLastL (l.take at')).2))) ++ [(at' - (decodeLastL (l.take at')).2, (decodeLastL (l.take at')).1)] := by
  have hlen : (l.take at').length = at' := by rw [List.length_take]; omega
  have hne : l.take at' ≠ [] := by intro e; rw [e] at hlen; simp at hlen; omega
  obtain ⟨h1, h2⟩ := last_size _ hne
  rw [hlen] at h2
  refine ⟨h1, h2, ?_⟩
  have hs := decodeLast_segs _ hne
  rw [hlen, List.take_take, Nat.min_eq_left (by omega)] at hs
  conv => lhs; rw [hs]
  rw [offs_append, total_segs, List.length_take, Nat.min_eq_left (by omega), Nat.zero_add]
  rfl

theorem back_maker (s : ByteArray) (w : World) : Calls Tryd.prog 67 #[.string s] w fun e w' => e = .returned (.func (.func 80) #[] #[.pointer (some ⟨w.heap.size, 0, none⟩)]) ∧ w' = w.alloc (.cells #[.string s] 9) := by
  go_enter Tryd.func67, Tryd.ntmps67
  go_wp2
  go_ret
  exact ⟨rfl, rfl⟩

set_option maxRecDepth 100000 in
set_option maxHeartbeats 1000000 in
theorem seqBack (n : Nat) (hn : 1 ≤ n) (Bn n₀ : Nat) (s : ByteArray) (w : World) (hBn : Bn < n₀) (h2 : 1 + 1 ≤ n₀) (hc : w.cell? ⟨Bn, 0, none⟩ = some (.string s)) (hs : s.size ≤ maxLen) (hT : Utf8Tabs 0 1 w) :
    SeqT Fence.wide n Tryd.prog 80 #[.pointer (some ⟨Bn, 0, none⟩)] encPlace (fun ys => ys = (places s).reverse) (fun pre => pre <+: (places s).reverse) (places s).length n₀ w := by
  intro l J Jx W hW hJ hJx hY h0
  have hk0 : KeepT n₀ (fun _ => False) w W := ⟨hW.size, fun k _ hk => hW.block k (hk.elim id False.elim)⟩
  have hcW : W.cell? ⟨Bn, 0, none⟩ = some (.string s) := hk0.cell (.inl hBn) hc
  have hTW : Utf8Tabs 0 1 W := hk0.u8 h2 hT
  clear hc hW hk0 hT
  have hlast := fun (k : Nat) (hk : k ≤ s.size) (W : World) (hT : Utf8Tabs 0 1 W) => (callsIn_wide (n := n - 1)).2 (last_any (s.extract 0 k) W (by simp; omega) hT)
  simp only [take_list] at hlast
  have Hlast := Lib.hid hlast
  clear hlast
  refine callsIn_of_wp Tryd.func80 rfl trivial ?_ rfl
  simp only [Tryd.ntmps80, List.size_toArray, List.length_cons, List.length_nil, Nat.reduceAdd, Nat.reduceSub, Array.replicate_succ, Array.replicate_zero, List.push_toArray, List.append_toArray, List.nil_append, List.cons_append]
  gi_wp2
  gi_loopw [3] (fun v wr => ∃ (p : Nat) (pre : List (Nat × Nat)), v = .int .i64 (p : Int) ∧ p ≤ s.size ∧ wr.cell? ⟨Bn, 0, none⟩ = some (.string s) ∧ Utf8Tabs 0 1 wr ∧ Hid (offs 0 (segs (s.data.toList.take p)) ++ pre.reverse = places s) ∧ J pre (fun _ => False) wr)
    (fun v _ => (RowKit.intOf v).toNat)
  case atStart => exact ⟨s.size, [], rfl, Nat.le_refl _, hcW, hTW, by unfold Hid; rw [← size_list, List.take_length, places_offs]; simp, h0⟩
  case round =>
    obtain ⟨p, pre, rfl, hps, hcs, hTs, hpl, hJs⟩ := hrel
    by_cases hp : 0 < p
    · have hpi : (0 : Int) < (p : Int) := by omega
      obtain ⟨hd1, hd2, hst⟩ := back_step s.data.toList p hp (by rw [size_list]; exact hps)
      have hl := Hlast.out p hps wr hTs
      revert hd1 hd2 hst hl
      generalize decodeLastL (s.data.toList.take p) = d
      intro hd1 hd2 hst hl
      have hpl2 := hpl.out
      rw [hst, List.append_assoc] at hpl2
      have hlen : pre.length < (places s).length := by rw [← hpl2]; simp; omega
      have hw : IntKind.i64.wrap ((p : Int) - (d.2 : Int)) = ((p - d.2 : Nat) : Int) := by
        rw [IntWalk.i64_in _ (by unfold maxLen at hs; omega)]
        omega
      have hsl : p ≤ s.size := hps
      have hpre : pre ++ [(p - d.2, d.1)] <+: (places s).reverse := by rw [← hpl2]; simp
      have Hpre := Lib.hid hpre
      clear hpre
      have Hl := Lib.hid hl
      have Hpl := Lib.hid hpl2
      have Hd1 := Lib.hid hd1
      have Hd2 := Lib.hid hd2
      have HJ := Lib.hid hJs
      have HT := Lib.hid hTs
      clear hl hpl2 hpl hst hd1 hd2 hJs hTs
      gi_wp2
      refine ⟨trivial, Hl.out.mono ?_⟩
      rintro e w2 ⟨rfl, hb2⟩
      have hc2 := (hb2.cell (p := ⟨Bn, 0, none⟩) (show Bn < wr.heap.size from ?lt)).trans hcs
      case lt =>
        rcases Nat.lt_or_ge Bn wr.heap.size with h' | h'
        · exact h'
        · simp [World.cell?, Array.getElem?_eq_none h'] at hcs
      have hT2 := Utf8Tabs_below HT.out hb2
      have hJ2 : J pre (fun _ => False) w2 := hJ.of HJ.out (fun _ h => h.elim) (.of_below _ hb2)
      have HT2 := Lib.hid hT2
      obtain ⟨fn, tmps, assign, body, hy, hR⟩ := hY pre (p - d.2, d.1) _ w2 hJ2 (fun _ h => h.elim) hlen Hpre.out
      dsimp only [encPlace] at hy
      clear hJ2 hb2 hT2 hcs
      gi_wp2
      refine hR.mono ?_
      rintro e W3 (⟨rfl, hJ3, hk3⟩ | ⟨rfl, hJx3, hk3⟩)
      · have hc3 := hk3.cell (p := ⟨Bn, 0, none⟩) (.inl hBn) hc2
        have hT3 := Lib.hid (hk3.u8 h2 HT2.out)
        clear hk3
        gi_wp2
        go_roundw
        case rel => exact ⟨p - d.2, pre ++ [(p - d.2, d.1)], rfl, by omega, hc3, hT3.out, by unfold Hid; rw [← Hpl.out]; simp, hJ3⟩
        case measure => have := Hd1.out; have := Hd2.out; simp only [RowKit.intOf]; omega
      · gi_wp2
        refine bodyPost_ret (results_none rfl _ _ _) rfl ?_
        refine ⟨⟨_, rfl⟩, .inr ⟨pre ++ [(p - d.2, d.1)], _, Hpre.out, hJx3, fun _ h => h.elim⟩⟩
    · have hp0 : p = 0 := by omega
      subst hp0
      have Hpl := Lib.hid hpl.out
      clear hpl hTs hcs
      gi_wp2
      go_end0
      refine ⟨⟨_, rfl⟩, .inl ⟨pre, _, ?_, hJs, fun _ h => h.elim⟩⟩
      have := Hpl.out
      rw [List.take_zero, segs_nil] at this
      rw [← this]
      simp [offs]
end Go.Proofs.YthkapcnhfdpdbaaDoor
