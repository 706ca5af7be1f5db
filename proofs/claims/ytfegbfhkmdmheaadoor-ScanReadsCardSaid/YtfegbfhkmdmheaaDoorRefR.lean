/- The document's reader: Feed, End, Held, at every text held and every piece. -/
import Derived.Test.YtfegbfhkmdmheaaDoorReader
import Derived.Test.YtfegbfhkmdmheaaDoorRefCD
import Derived.Test.YtfegbfhkmdmheaaDoorOne
set_option linter.unusedSimpArgs false
set_option linter.unusedVariables false
namespace Go.Proofs.YtfegbfhkmdmheaaDoor
open Go.RowKit Go.Lib

def strLen (v : Value) : Nat := match v with | .string S => S.size | _ => 0
theorem strLen_at (S : ByteArray) : strLen (.string S) = S.size := rfl

theorem set_end {w wr : World} {Q g : Nat} {e : TypeId} {n : Nat} {v : Value} {xs : List Value} {held R : ByteArray} (hQ : w.heap.size = Q) (hg : g < Q) (hc : wr.cell? ⟨g, 0, none⟩ = some (.string held)) (hf : wr.frozen? ⟨g, 0, none⟩ = false)
    (hb : Below Q w wr) (hown : wr.ownsRow Q e 1 v n xs) :
    (wr.setCell ⟨g, 0, none⟩ (.string R)).ownsRow Q e 1 v n xs ∧ (wr.setCell ⟨g, 0, none⟩ (.string R)).cell? ⟨g, 0, none⟩ = some (.string R) ∧
    (wr.setCell ⟨g, 0, none⟩ (.string R)).frozen? ⟨g, 0, none⟩ = false ∧ w.grownBy (wr.setCell ⟨g, 0, none⟩ (.string R)) (some g) := by
  have h2 := grown_set wr ⟨g, 0, none⟩ (.string R)
  refine ⟨hown.kept h2 (.inr fun e => ?_), World.cell?_setCell_same' _ _ _ (by rw [hc]; rfl), by rw [World.frozen?_setCell]; exact hf, ?_⟩
  · have := (hown.lt g e).1
    omega
  · subst hQ
    exact ⟨hb.os, hb.tape, hb.output, Nat.le_trans hb.size h2.size, fun k hk hne => (h2.block k (Nat.lt_of_lt_of_le hk hb.size) hne).trans (hb.block k hk)⟩

set_option maxRecDepth 100000 in
set_option maxHeartbeats 4000000 in
theorem refFeed_any (w : World) (g B n c : Nat) (A : Option Addr) (held : ByteArray) (bs : List UInt8) (hc : w.cell? ⟨g, 0, none⟩ = some (.string held)) (hf : w.frozen? ⟨g, 0, none⟩ = false) (hg : g < w.heap.size)
    (hR : Rd w B 1 A n (byteCells' bs)) (hsz : held.size + bs.length ≤ 1073741824) :
    Calls Tryd.prog 24 #[.pointer (some ⟨g, 0, none⟩), .slice A n c] w fun e w' => ∃ v t, ∃ R : ByteArray, Fed (held.data.toList ++ bs) t R.data.toList ∧ e = .returned v ∧ w'.ownsRow w.heap.size 21 1 v t.length (runeCells' t) ∧
      w'.cell? ⟨g, 0, none⟩ = some (.string R) ∧ w'.frozen? ⟨g, 0, none⟩ = false ∧ w.grownBy w' (some g) := by
  obtain ⟨i0, hi, hz0, hz1, hz2⟩ := info_parts rune_info
  have hcv := bytes_string w.drew B n c A bs hR
  obtain ⟨b, hb⟩ : ∃ b : ByteArray, ⟨bs.toArray⟩ = b := ⟨_, rfl⟩
  have hbl : b.data.toList = bs := by rw [← hb]
  have hbs : b.size = bs.length := by rw [← hbl, size_list]
  rw [hb] at hcv
  rw [← hbl]
  rw [← hbs] at hsz
  clear hbl hbs hb hR
  have hl : ¬ (9223372036854775807 < held.size + b.size) := by omega
  obtain ⟨Q, hQ⟩ : ∃ Q, w.heap.size = Q := ⟨_, rfl⟩
  have hTl : (held ++ b).data.toList = held.data.toList ++ b.data.toList := by simp
  have hTs : (held ++ b).size = held.size + b.size := by simp
  rw [← hTl]
  obtain ⟨T, hT'⟩ : ∃ T, held ++ b = T := ⟨_, rfl⟩
  rw [hT'] at hTl hTs ⊢
  have hTm : T.size ≤ 1073741824 := by omega
  obtain ⟨L, hL⟩ : ∃ L, T.data.toList = L := ⟨_, rfl⟩
  have HL := Lib.hid hL
  have HQ := Lib.hid hQ
  have HT' := Lib.hid hT'
  have hb0 : Below Q w w.drew := below_N (Below.refl Q w) 1
  have Hb0 := Lib.hid hb0
  rw [hL, hQ]
  rw [hQ] at hg
  clear hTl hTs hL hT' hb0 hsz hQ
  go_enter Tryd.func24, Tryd.ntmps24
  go_wp2_with fail
  go_region
  rw [HT'.out]
  have Hc := Lib.hid hc
  have Hf := Lib.hid hf
  clear hl hcv hc hf
  go_wp2_with fail
  go_loopw [5, 6] (fun x v wr => ∃ (S : ByteArray) (t : List Nat), x = .string S ∧ wr.ownsRow Q 21 1 v t.length (runeCells' t) ∧ Below Q w wr ∧ Hid (∀ t' r, Fed S.data.toList t' r → Fed L (t ++ t') r) ∧ S.size + t.length ≤ T.size) (fun x _ _ => strLen x)
  case atStart => exact ⟨T, [], rfl, World.ownsRow_nil _ _ _ _, Hb0.out, fun t' r h => by rw [HL.out] at h; exact h, Nat.le_refl _⟩
  case round =>
    obtain ⟨S, t, rfl, hown, hbw, hseg, hle⟩ := hrel
    have Hown := Lib.hid hown
    have Hbw := Lib.hid hbw
    clear hown hbw
    have hwh := refWhole_any S wr (by unfold maxLen; omega)
    rw [← full_whole] at hwh
    cases hfu : full S.data.toList with
    | true =>
      rw [hfu] at hwh
      have hne : S.data.toList ≠ [] := by intro e; rw [e] at hfu; simp [full] at hfu
      have hpos : 0 < S.size := by rw [← size_list]; exact List.length_pos_iff.2 hne
      have hnx := refNext_any S wr (by unfold maxLen; omega)
      rw [show nxt S.data.toList = dec S.data.toList by unfold nxt; rw [if_neg hne]] at hnx
      have hd3 := dec_pos S.data.toList
      have hd2 := dec_le S.data.toList hne
      rw [size_list] at hd2
      have hst : ∀ t' r, Fed (S.data.toList.drop (dec S.data.toList).2) t' r → Fed L ((t ++ [(dec S.data.toList).1]) ++ t') r := by
        intro t' r h
        rw [List.append_assoc]
        exact hseg.out _ _ (Fed.step _ _ _ hne hfu h)
      obtain ⟨d, hdd⟩ : ∃ d, dec S.data.toList = d := ⟨_, rfl⟩
      rw [hdd] at hnx hd2 hd3 hst
      obtain ⟨d1, d2⟩ := d
      simp only at hnx hd2 hd3 hst
      have Hst := Lib.hid hst
      have Hwh := Lib.hid hwh
      have Hnx := Lib.hid hnx
      clear hdd hfu hne hwh hnx hst hseg
      go_wp2_with fail
      refine Hwh.out.mono ?_
      rintro e w' ⟨rfl, rfl⟩
      go_wp2_with fail
      refine Hnx.out.mono ?_
      rintro e w2 ⟨rfl, b2⟩
      have Hown2 := Lib.hid (own_below Hown.out b2)
      have hQr : Q ≤ wr.heap.size := by have := Hbw.out.size; have := HQ.out; omega
      have Hb2 := Lib.hid (Hbw.out.trans (b2.mono hQr))
      have hQ2 : Q ≤ w2.heap.size := by have := b2.size; omega
      clear Hnx Hwh Hown Hbw b2
      go_wp2_with (at_builtin; refine wpList_append_own _ rfl _ _ 36 rfl Q 21 i0 _ 1 4 Tryd.underlying36 hi hz0 hz1 hz2 rfl (by decide) _ _ _ rfl (Hown2.out.alloc _) ⟨w2.heap.size, 0, none⟩ 1 1 [.int .i32 d1] rfl rfl ?c1 ?c2 ?c3 ?c4 ?c5 ?_)
      try (case c1 => exact new_cells w2 [.int .i32 d1] 21)
      case c2 => simp [Value.oneCell']
      case c3 => unfold maxLen; omega
      case c4 => omega
      case c5 => first | omega | (simp; omega)
      intro v' wz hown3 hg2 _
      have Hbz := Lib.hid ((Hb2.out.alloc (by omega) (.cells #[.int .i32 d1] 21)).grown hg2 (by simp; omega) (fun k hk => (Hown2.out.lt k hk).1))
      have Hown3 : Hid (wz.ownsRow Q 21 1 v' (t ++ [d1]).length (runeCells' (t ++ [d1]))) := by
        unfold Hid runeCells'
        rw [List.map_append, List.length_append]
        exact hown3
      clear hown3 hg2
      go_wp2_with fail
      go_roundw
      case rel =>
        refine ⟨S.extract d2 S.size, t ++ [d1], rfl, Hown3.out, Hbz.out, ?_, ?_⟩
        · unfold Hid
          rw [drop_list]
          exact Hst.out
        · rw [ByteArray.size_extract]; simp; omega
      case measure =>
        simp only [strLen_at, ByteArray.size_extract]
        omega
    | false =>
      rw [hfu] at hwh
      have Hfed : Hid (Fed L t S.data.toList) := by
        have := hseg.out [] S.data.toList (.stop _ (.inr hfu))
        rw [List.append_nil] at this
        exact this
      have Hwh := Lib.hid hwh
      clear hwh hseg hfu
      go_wp2_with fail
      refine Hwh.out.mono ?_
      rintro e w' ⟨rfl, rfl⟩
      have hc1 : wr.cell? ⟨g, 0, none⟩ = some (.string held) := (Hbw.out.cell (p := ⟨g, 0, none⟩) hg).trans Hc.out
      have hf1 : wr.frozen? ⟨g, 0, none⟩ = false := (Hbw.out.frozen (p := ⟨g, 0, none⟩) hg).trans Hf.out
      clear Hwh
      go_wp2_with fail
      go_ret
      obtain ⟨E1, E2, E3, E4⟩ := set_end (R := S) HQ.out hg hc1 hf1 Hbw.out Hown.out
      exact ⟨_, t, S, Hfed.out, rfl, E1, E2, E3, E4⟩
theorem refHeld_any (w : World) (g : Nat) (R : ByteArray) (hc : w.cell? ⟨g, 0, none⟩ = some (.string R)) : Calls Tryd.prog 10 #[.pointer (some ⟨g, 0, none⟩)] w fun e w' => e = .returned (.int .i64 R.size) ∧ w' = w := by
  go_enter Tryd.func10, Tryd.ntmps10
  go_wp2
  go_ret
  exact ⟨rfl, rfl⟩
set_option maxRecDepth 100000 in
set_option maxHeartbeats 2000000 in
theorem refEnd_any (w : World) (g : Nat) (R : ByteArray) (hc : w.cell? ⟨g, 0, none⟩ = some (.string R)) (hf : w.frozen? ⟨g, 0, none⟩ = false) (hg : g < w.heap.size) (hs : R.size ≤ 3) :
    Calls Tryd.prog 27 #[.pointer (some ⟨g, 0, none⟩)] w fun e w' => ∃ v, e = .returned v ∧ w'.ownsRow w.heap.size 21 1 v R.size (runeCells' (List.replicate R.size 65533)) ∧
      w'.cell? ⟨g, 0, none⟩ = some (.string ByteArray.empty) ∧ w'.frozen? ⟨g, 0, none⟩ = false ∧ w.grownBy w' (some g) := by
  obtain ⟨i0, hi, hz0, hz1, hz2⟩ := info_parts rune_info
  obtain ⟨Q, hQ⟩ : ∃ Q, w.heap.size = Q := ⟨_, rfl⟩
  rw [hQ] at hg ⊢
  have HQ := Lib.hid hQ
  have Hc := Lib.hid hc
  have Hf := Lib.hid hf
  clear hQ hc hf
  go_enter Tryd.func27, Tryd.ntmps27
  go_wp2_with fail
  go_loopw [3, 4] (fun v i wr => ∃ k : Nat, k ≤ R.size ∧ i = .int .i64 k ∧ wr.ownsRow Q 21 1 v k (runeCells' (List.replicate k 65533)) ∧ Below Q w wr) (fun _ i _ => R.size - (RowKit.intOf i).toNat)
  case atStart => exact ⟨0, Nat.zero_le _, rfl, World.ownsRow_nil _ _ _ _, Below.refl _ _⟩
  case round =>
    obtain ⟨k, hk, rfl, hown, hbw⟩ := hrel
    have hc1 : wr.cell? ⟨g, 0, none⟩ = some (.string R) := (hbw.cell (p := ⟨g, 0, none⟩) hg).trans Hc.out
    have hf1 : wr.frozen? ⟨g, 0, none⟩ = false := (hbw.frozen (p := ⟨g, 0, none⟩) hg).trans Hf.out
    have Hown := Lib.hid hown
    have Hbw := Lib.hid hbw
    have hQr : Q ≤ wr.heap.size := by have := hbw.size; have := HQ.out; omega
    clear hown hbw
    by_cases hkm : k < R.size
    · go_wp2_with (at_builtin; refine wpList_append_own _ rfl _ _ 36 rfl Q 21 i0 _ 1 4 Tryd.underlying36 hi hz0 hz1 hz2 rfl (by decide) _ _ _ rfl (Hown.out.alloc _) ⟨wr.heap.size, 0, none⟩ 1 1 [.int .i32 65533] rfl rfl ?c1 ?c2 ?c3 ?c4 ?c5 ?_)
      try (case c1 => exact new_cells wr [.int .i32 65533] 21)
      case c2 => simp [Value.oneCell']
      case c3 => unfold maxLen; omega
      case c4 => omega
      case c5 => first | omega | (simp; omega)
      intro v' wz hown3 hg2 _
      have Hbz := Lib.hid ((Hbw.out.alloc (by omega) (.cells #[.int .i32 65533] 21)).grown hg2 (by simp; omega) (fun k hk => (Hown.out.lt k hk).1))
      have Hown3 : Hid (wz.ownsRow Q 21 1 v' (k + 1) (runeCells' (List.replicate (k + 1) 65533))) := by
        unfold Hid runeCells'
        rw [List.replicate_succ', List.map_append]
        exact hown3
      clear hown3 hg2
      go_wp2_with fail
      go_roundw
      case rel => exact ⟨k + 1, by omega, by go_num, Hown3.out, Hbz.out⟩
      case measure => simp [RowKit.intOf]; omega
    · obtain rfl : k = R.size := by omega
      go_wp2_with fail
      go_ret
      obtain ⟨E1, E2, E3, E4⟩ := set_end (R := ByteArray.empty) HQ.out hg hc1 hf1 Hbw.out Hown.out
      exact ⟨_, rfl, E1, E2, E3, E4⟩
end Go.Proofs.YtfegbfhkmdmheaaDoor
