/- The law's 'bad': a text's bytes that are no character, walked. -/
import Derived.Test.YtjkakemlhhieoaaDoorBadG
namespace Go.Proofs.YtjkakemlhhieoaaDoor
open Go.RowKit Go.Lib

set_option maxRecDepth 100000 in
set_option maxHeartbeats 2000000 in
theorem lawBad5_any (s : ByteArray) (w : World) (hs : s.size ≤ 1073741824) : Calls Tryd.prog 23 #[.string s] w fun e w' => e = .returned (.string ⟨(badB2 s.data.toList).toArray⟩) ∧ Below w.heap.size w w' := by
  obtain ⟨i0, hi, hz0, hz1, hz2⟩ := info_parts byte_info
  have hall := bad_any s w hs
  have hlt := bads_lt s.data.toList
  have hbb := bads_bytes s.data.toList
  obtain ⟨ps, hps⟩ : ∃ ps, badsOf s.data.toList = ps := ⟨_, rfl⟩
  have hpl : ps.length ≤ s.size := by
    have h1 := badPos_len4 (segs s.data.toList) 0
    have h2 := segs_len s.data.toList
    rw [size_list] at h2
    rw [← hps]
    exact Nat.le_trans h1 h2
  rw [hps] at hall hlt hbb
  obtain ⟨bs, hbs⟩ : ∃ bs, badB2 s.data.toList = bs := ⟨_, rfl⟩
  rw [hbs] at hbb ⊢
  obtain ⟨n, hn⟩ : ∃ n, ps.length = n := ⟨_, rfl⟩
  rw [hn] at hall hpl
  have hbl : bs.length = n := by rw [← hbb, List.length_map, hn]
  obtain ⟨B, hB⟩ : ∃ B, w.heap.size = B := ⟨_, rfl⟩
  obtain ⟨R, hR⟩ : ∃ R : ByteArray, ⟨bs.toArray⟩ = R := ⟨_, rfl⟩
  rw [hR]
  rw [hB] at hall ⊢
  have Hall := Lib.hid hall
  have Hlt := Lib.hid hlt
  have Hbb := Lib.hid hbb
  have Hn := Lib.hid hn
  have Hbl := Lib.hid hbl
  have HB := Lib.hid hB
  have HR := Lib.hid hR
  clear hall hlt hbb hn hbl hB hR hbs hps
  go_enter Tryd.func23, Tryd.ntmps23
  go_wp2_with fail
  refine Hall.out.mono ?_
  rintro e w1 ⟨v0, rfl, hown0, hb0⟩
  obtain ⟨A, c0, rfl, _, _⟩ := own_shape hown0
  have R0 := Lib.hid (Rd.own hown0)
  have Hb0 := Lib.hid hb0
  have HB1 : Hid (B ≤ w1.heap.size) := by have := hb0.size; have := HB.out; unfold Hid; omega
  clear hown0 hb0
  go_wp2_with fail
  go_loopw [3, 10] (fun v i wr => ∃ k : Nat, k ≤ n ∧ i = .int .i64 k ∧ wr.ownsRow w1.heap.size 5 1 v k (byteCells' (bs.take k)) ∧ Below w1.heap.size w1 wr) (fun _ i _ => n - (RowKit.intOf i).toNat)
  case atStart => exact ⟨0, Nat.zero_le _, rfl, World.ownsRow_nil _ _ _ _, Below.refl _ _⟩
  case round =>
    obtain ⟨k, hk, rfl, hown, hbw⟩ := hrel
    by_cases hkn : k < n
    · have hkz : k < ps.length := by rw [Hn.out]; exact hkn
      obtain ⟨a, rfl, _, ha⟩ := (R0.out.below hbw).addr (by omega)
      obtain ⟨p, hp⟩ : ∃ p, ps[k] = p := ⟨_, rfl⟩
      have hc : wr.cell? (a.add k) = some (Value.int .i64 (p : Int)) := ha k _ (by unfold posCells; rw [List.getElem?_map, List.getElem?_eq_getElem hkz, hp]; rfl)
      have hpl2 : p < s.size := by
        have := Hlt.out p (by rw [← hp]; exact List.getElem_mem hkz)
        rwa [size_list] at this
      have hp0 : (0 : Int) ≤ (p : Int) := by omega
      have hp1 : (p : Int) < (s.size : Int) := by omega
      obtain ⟨y, hy⟩ : ∃ y, s[p]'hpl2 = y := ⟨_, rfl⟩
      have hy256 : y.toNat < 256 := UInt8.toNat_lt y
      have hgy : bs.take (k + 1) = bs.take k ++ [y] := by
        have hkb : k < bs.length := by rw [Hbl.out]; exact hkn
        rw [List.take_succ_eq_append_getElem hkb]
        congr 2
        have e : bs[k]? = some (s.data.toList.getD p 0) := by rw [← Hbb.out, List.getElem?_map, List.getElem?_eq_getElem hkz, hp]; rfl
        rw [List.getElem?_eq_getElem hkb] at e
        injection e with e
        rw [e, ← hy]
        have h2 := gb_at s p hpl2
        unfold gb at h2
        exact (UInt8.toNat_inj.1 h2).symm
      have Htk : Hid (byteCells' (bs.take (k + 1)) = byteCells' (bs.take k) ++ [.int .u8 (y.toNat : Int)]) := by
        unfold Hid
        rw [hgy]
        simp [byteCells']
      have Hown := Lib.hid hown
      have Hbw := Lib.hid hbw
      clear ha hp hkz hown hbw hgy
      have HwB : Hid (w1.heap.size ≤ wr.heap.size) := Hbw.out.size
      go_wp2_with (at_builtin; refine wpList_append_own _ rfl _ _ 60 rfl w1.heap.size 5 i0 _ 1 1 Tryd.underlying60 hi hz0 hz1 hz2 rfl (by decide) _ _ _ rfl (Hown.out.alloc _) ⟨wr.heap.size, 0, none⟩ 1 1 [.int .u8 (y.toNat : Int)] rfl rfl ?c1 ?c2 ?c3 ?c4 ?c5 ?_)
      try case c1 => exact new_cells wr [.int .u8 (y.toNat : Int)] 5
      case c2 => simp [Value.oneCell']
      case c3 => unfold maxLen; omega
      case c4 => omega
      case c5 => have := HwB.out; simp; omega
      intro v' w2 hown2 hg2 _
      have Hown2 := Lib.hid hown2
      clear hown2
      go_wp2
      go_roundw
      case rel =>
        refine ⟨k + 1, by omega, by go_num, ?_, (Hbw.out.alloc HwB.out _).grown hg2 (by have := HwB.out; simp; omega) (fun k hk => (Hown.out.lt k hk).1)⟩
        rw [Htk.out]
        exact Hown2.out
      case measure => simp [RowKit.intOf]; omega
    · obtain rfl : k = n := by omega
      rw [List.take_of_length_le (by rw [Hbl.out]; exact Nat.le_refl _)] at hown
      obtain ⟨A2, c2, rfl, _, _⟩ := own_shape hown
      have hcv := bytes_str4 wr _ k c2 A2 bs (Rd.own hown)
      rw [HR.out] at hcv
      have Hfin := Lib.hid (Hb0.out.trans (hbw.mono HB1.out))
      clear hown hbw
      go_wp2_with fail
      go_ret
      exact ⟨rfl, Hfin.out⟩
end Go.Proofs.YtjkakemlhhieoaaDoor
