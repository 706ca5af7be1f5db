/- ScanNumbers, walked: numbers as a text and back: characters stay, all else becomes the one that stands for it. -/
import Derived.Test.YtjoilamikdbnpaaDoorScanC
import Derived.Test.YtjoilamikdbnpaaDoorNumP
namespace Go.Proofs.YtjoilamikdbnpaaDoor
open Go.RowKit Go.Lib

def chr (z : Int) : Bool := decide ((0 ≤ z ∧ z < 55296) ∨ (57343 < z ∧ z ≤ 1114111))
theorem character_any (z : Int) (w : World) : Calls Tryd.prog 46 #[.int .i32 z] w fun e w' => e = .returned (.bool (chr z)) ∧ w' = w := by
  have T : ∀ b, chr z = b → Ending.returned (.bool b) = .returned (.bool (chr z)) := by intro b h; rw [h]
  have HT := Lib.hid T
  clear T
  by_cases h1 : 0 ≤ z
  · by_cases h2 : z < 55296
    · go_enter Tryd.func46, Tryd.ntmps46
      go_wp2
      go_ret
      exact ⟨HT.out true (by unfold chr; simp; omega), rfl⟩
    · by_cases h3 : 57343 < z
      · by_cases h4 : z ≤ 1114111
        · go_enter Tryd.func46, Tryd.ntmps46
          go_wp2
          go_ret
          exact ⟨HT.out true (by unfold chr; simp; omega), rfl⟩
        · go_enter Tryd.func46, Tryd.ntmps46
          go_wp2
          go_ret
          exact ⟨HT.out false (by unfold chr; simp; omega), rfl⟩
      · go_enter Tryd.func46, Tryd.ntmps46
        go_wp2
        go_ret
        exact ⟨HT.out false (by unfold chr; simp; omega), rfl⟩
  · have h3 : ¬ 57343 < z := by omega
    go_enter Tryd.func46, Tryd.ntmps46
    go_wp2
    go_ret
    exact ⟨HT.out false (by unfold chr; simp; omega), rfl⟩
theorem character_at (z : Int) (b : Bool) (h : chr z = b) (w : World) : Calls Tryd.prog 46 #[.int .i32 z] w fun e w' => e = .returned (.bool b) ∧ w' = w := by
  subst h
  exact character_any z w
theorem clean_chr (z : Int) : (chr z = true → ((clean z : Nat) : Int) = z) ∧ (chr z = false → clean z = 65533) := by
  unfold chr clean Utf8.valid
  refine ⟨fun h => ?_, fun h => ?_⟩
  · simp at h
    rw [if_pos (by simp; omega)]
    omega
  · simp at h
    rw [if_neg (by simp; omega)]
theorem okSegs_enc (zs : List Int) : okSegs (encAll zs) = true := by
  unfold okSegs badSeg
  rw [List.all_eq_true]
  intro d hd
  have := encAll_ok zs d hd
  simp
  omega
theorem runesOf_enc (zs : List Int) : runesOf (encAll zs) = zs.map clean := by
  unfold runesOf
  rw [segs_encAll]
  simp

set_option maxRecDepth 100000 in
set_option maxHeartbeats 2000000 in
theorem numbers_walk (w : World) (A : Option Addr) (n c : Nat) (zs : List Int) (h : Rd w w.heap.size 1 A n (zs.map (Value.int .i32))) (hn : n ≤ 35184372088832) (hT : U8 w) :
    Calls Tryd.prog 12 #[.slice A n c] w fun e w' => e = .returned (.bool true) ∧ Below w.heap.size w w' := by
  have hl : zs.length = n := by have := h.1; simpa using this
  have hsz : (runesBytes zs).size ≤ 4 * zs.length := runesBytes_size_le zs
  have hlist : (runesBytes zs).data.toList = encAll zs := rfl
  have hrun := fun W : World => runes_any (runesBytes zs) W (by rw [hlist, runesOf_enc, List.length_map]; omega)
  have hval := fun W : World => valid_any (runesBytes zs) W (by omega)
  rw [hlist, runesOf_enc, List.length_map, hl] at hrun
  rw [hlist, okSegs_enc] at hval
  have H := Lib.hid h
  have HT := Lib.hid hT
  have Hrun := Lib.hid hrun
  have Hval := Lib.hid hval
  have Hl := Lib.hid hl
  have hnn : ((n : Int) != n) = false := by simp
  clear h hT hl hsz hlist hrun hval
  go_enter Tryd.func12, Tryd.ntmps12
  go_wp2_with fail
  refine (text_any w _ A n c zs H.out).mono ?_
  rintro e w' ⟨rfl, rfl⟩
  go_wp2_with fail
  refine (Hrun.out _).mono ?_
  rintro e w1 ⟨v, rfl, hown, hb1⟩
  obtain ⟨M, cm, rfl, _, _⟩ := own_shape hown
  have HM := Lib.hid (Rd.own hown)
  clear hown
  go_wp2_with fail
  refine (Hval.out _).mono ?_
  rintro e w2 ⟨rfl, hb2⟩
  have HM2 := Lib.hid ((HM.out.below hb2).more hb2.size)
  have hb12 := hb1.trans (hb2.mono hb1.size)
  have HA2 := Lib.hid ((H.out.below hb12).more hb12.size)
  have HT2 := Lib.hid (Utf8Tabs_below HT.out hb12)
  clear HM H HT Hrun Hval
  go_wp2_with fail
  go_loopw [5] (fun i wr => ∃ k : Nat, k ≤ n ∧ i = .int .i64 k ∧ Below w2.heap.size w2 wr) (fun i _ => n - (RowKit.intOf i).toNat)
  case atStart => exact ⟨0, Nat.zero_le _, rfl, Below.refl _ _⟩
  case round =>
    rename_i i wr
    obtain ⟨k, hk, rfl, hbw⟩ := hrel
    by_cases hkn : k < n
    · have hkz : k < zs.length := by rw [Hl.out]; exact hkn
      obtain ⟨a, rfl, _, ha⟩ := (HA2.out.below hbw).at_ (k := k) (by simpa using hkz)
      obtain ⟨m, rfl, _, hm⟩ := (HM2.out.below hbw).at_ (k := k) (by simpa [runeCells'] using hkz)
      simp only [List.getElem_map, runeCells'] at ha hm
      obtain ⟨z, hze⟩ : ∃ z, zs[k] = z := ⟨_, rfl⟩
      rw [hze] at ha hm
      obtain ⟨c1, c2⟩ := clean_chr z
      obtain ⟨x, hxe⟩ : ∃ x : Int, ((clean z : Nat) : Int) = x := ⟨_, rfl⟩
      rw [hxe] at hm
      clear hze hkz
      cases hc : chr z with
      | true =>
        have hch := fun W : World => character_at z true hc W
        have hx : (x != z) = false := by rw [← hxe, c1 hc]; simp
        have Hch := Lib.hid hch
        clear hch c1 c2 hxe hc
        go_wp2_with fail
        go_quiet ((go_at_call 46; exact Calls.quiet_of_same (Hch.out _)))
        go_wp2_with fail
        go_roundw
        case rel => exact ⟨k + 1, by omega, by go_num, below_N hbw _⟩
        case measure => simp [RowKit.intOf]; omega
      | false =>
        have hch := fun W : World => character_at z false hc W
        have hx : (x != 65533) = false := by rw [← hxe, c2 hc]; rfl
        have Hch := Lib.hid hch
        clear hch c1 c2 hxe hc
        go_wp2_with fail
        go_quiet ((go_at_call 46; exact Calls.quiet_of_same (Hch.out _)))
        go_wp2_with fail
        go_roundw
        case rel => exact ⟨k + 1, by omega, by go_num, below_N hbw _⟩
        case measure => simp [RowKit.intOf]; omega
    · go_wp2_with fail
      have hball := hb12.trans (hbw.mono hb12.size)
      refine (wakes_any _ (Utf8Tabs_below HT2.out hbw)).mono ?_
      rintro e w4 ⟨rfl, hb4⟩
      go_wp2_with fail
      go_ret
      exact ⟨rfl, hball.trans (hb4.mono hball.size)⟩

end Go.Proofs.YtjoilamikdbnpaaDoor
