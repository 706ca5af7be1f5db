/- The document's text of items, walked. -/
import Derived.Test.YtjkakemlhhieoaaGreatDoorSortG
import Derived.Test.YtjkakemlhhieoaaGreatDoorRefT
import Derived.Test.YtjkakemlhhieoaaGreatDoorBadG
import Derived.Test.YtjkakemlhhieoaaGreatDoorRowsK
import Derived.Test.YtjkakemlhhieoaaGreatDoorItems
import Derived.Test.YtjkakemlhhieoaaGreatDoorRefPG
import Derived.Test.YtjkakemlhhieoaaGreatDoorTelP
set_option linter.unusedSimpArgs false
set_option linter.unusedVariables false
namespace Go.Proofs.YtjkakemlhhieoaaGreatDoor
open Go.RowKit Go.Lib

theorem enc_scal {q : Int} (h : Scal q) : (runesBytes [q]).data.toList = Lib.encodeRune q := by
  have e : (runesBytes [q]).data.toList = encAll [q] := rfl
  rw [e, encAll_cons, encAll_nil, List.append_nil, enc_encN, encodeRune_encN q h]
  congr 1
  unfold clean Utf8.valid
  unfold Scal at h
  rw [if_pos (by simp; omega)]
theorem new_own5 (w : World) (cs : List Int) (hl : cs.length ≤ 8) : (w.alloc (.cells (runes cs).toArray 21)).ownsRow w.heap.size 21 1 (.slice (some ⟨w.heap.size, 0, none⟩) cs.length cs.length) cs.length (runes cs) :=
  World.ownsRow_lit w (runes cs).toArray cs.length (Nat.le_refl _) (by unfold maxLen; omega) (by simp)
set_option maxRecDepth 100000 in
set_option maxHeartbeats 4000000 in
theorem rtext_any (ps : List Pc) (A : Option Addr) (n c : Nat) (w : World) (hrd : Rd w w.heap.size 3 A n (flat encI ps)) (hl : ps.length = n) (hn : n ≤ 536870912) (hok : ∀ p ∈ ps, p.2.2 < 256 ∧ (p.2.2 = 0 → Scal p.1)) :
    Calls Tryz.prog 62 #[.slice A n c] w fun e w' => e = .returned (.string ⟨(textP ps).toArray⟩) ∧ Below w.heap.size w w' := by
  obtain ⟨i0, hi, hz0, hz1, hz2⟩ := info_parts byte_info
  obtain ⟨B, hB⟩ : ∃ B, w.heap.size = B := ⟨_, rfl⟩
  have Hrd := Lib.hid (fun (W : World) (hb : Below B w W) => (show Rd W B 3 A n (flat encI ps) from by rw [← hB] at hb ⊢; exact hrd.below hb))
  have Hl := Lib.hid hl
  have Hok := Lib.hid hok
  have HB := Lib.hid hB
  have Hb0 := Lib.hid (Below.refl B w)
  have HTx := Lib.hid (fun (w' : World) (x : Int) => refText_any (w'.alloc (.cells (runes [x]).toArray 21)) (some ⟨w'.heap.size, 0, none⟩) 1 1 [x] (Rd.own (new_own5 w' [x] (by simp))) (by decide))
  have hfin : textP (ps.take n) = textP ps := by rw [List.take_of_length_le (by omega)]
  obtain ⟨T, hT⟩ : ∃ T, textP ps = T := ⟨_, rfl⟩
  rw [hT] at hfin ⊢
  have Hfin := Lib.hid hfin
  rw [hB]
  clear hrd hl hok hB hfin hT
  go_enter Tryz.func62, Tryz.ntmps62
  go_wp2_with fail
  go_loopw [3, 4, 5] (fun v i _ wr => ∃ (k : Nat) (W : World), W = wr ∧ k ≤ n ∧ i = .int .i64 (k : Int) ∧ Hid (W.ownsRow B 5 1 v (textP (ps.take k)).length (byteCells' (textP (ps.take k)))) ∧ Hid (Below B w W)) (fun _ i _ _ => n - (RowKit.intOf i).toNat)
  case atStart => exact ⟨0, _, rfl, Nat.zero_le _, rfl, Lib.hid (by simp [textP, byteCells']; exact World.ownsRow_nil _ _ _ _), Hb0⟩
  case round =>
    obtain ⟨k, W, hW, hk, rfl, Hown, HbW⟩ := hrel
    subst hW
    have SW : B ≤ W.heap.size := by have := HbW.out.size; have := HB.out; omega
    by_cases hkn : k < n
    · have hki : (k : Int) < (n : Int) := by omega
      obtain ⟨x, hx⟩ : ∃ x, ps[k]? = some x := ⟨_, List.getElem?_eq_getElem (by have := Hl.out; omega)⟩
      obtain ⟨a, rfl, hab, hc⟩ := Rd.addr (Hrd.out W HbW.out) (by omega)
      have hx3 : ∀ j u, (encI x)[j]? = some u → W.cell? ((a.add (k * 3)).add j) = some u := by
        intro j u hu
        rw [add_sum]
        exact hc _ u (flat_at encI_len ps k x hx j u hu)
      have x0 : W.cell? (a.add (k * 3)) = some (.int .i32 x.1) := by have := hx3 0 _ rfl; simpa [Addr.add] using this
      have x1 : W.cell? ⟨(a.add (k * 3)).block, (a.add (k * 3)).off + 1, none⟩ = some (.bool (x.2.2 != 0)) := by have := hx3 1 _ rfl; simpa [Addr.add] using this
      have x2 : W.cell? ⟨(a.add (k * 3)).block, (a.add (k * 3)).off + 2, none⟩ = some (.int .u8 (x.2.2 : Int)) := by have := hx3 2 _ rfl; simpa [Addr.add] using this
      have hox := Hok.out x (List.mem_of_getElem? hx)
      have htk : textP (ps.take (k + 1)) = textP (ps.take k) ++ pieceB x := by
        obtain ⟨h, rfl⟩ := List.getElem?_eq_some_iff.1 hx
        rw [List.take_succ_eq_append_getElem h, textP_snoc]
      have hlen := textP_le (ps.take k)
      have hlt := List.length_take_le k ps
      obtain ⟨bs, hbs⟩ : ∃ bs, textP (ps.take k) = bs := ⟨_, rfl⟩
      rw [hbs] at Hown htk hlen
      have Htk := Lib.hid htk
      clear hc hx3 hx hbs htk hab
      by_cases hb0 : x.2.2 = 0
      · have hz : (x.2.2 != 0) = false := by simp [hb0]
        have hpb : pieceB x = Lib.encodeRune x.1 := by unfold pieceB; rw [if_pos hb0]
        have hes := enc_scal (hox.2 hb0)
        rw [hz] at x1
        rw [hpb] at Htk
        have HTk := Lib.hid (HTx.out W x.1)
        obtain ⟨rb, hrb⟩ : ∃ rb, runesBytes [x.1] = rb := ⟨_, rfl⟩
        rw [hrb] at HTk hes
        have hrl : rb.size ≤ 4 := by
          rw [← size_list, hes]
          have h1 := Lib.runeCells_le x.1
          rw [← Lib.byteCells_encodeRune] at h1
          have h2 : (Lib.encodeRune x.1).length ≤ 4 := by rw [← Lib.byteCells_length]; exact h1.2
          exact h2
        have hsc : strCells rb = byteCells' (Lib.encodeRune x.1) := by rw [← hes]; rfl
        have hsz : rb.size = (Lib.encodeRune x.1).length := by rw [← size_list, hes]
        have Hes := Lib.hid hes
        have Hsc := Lib.hid hsc
        have Hsz := Lib.hid hsz
        clear hb0 hpb hz hes hsc hsz hrb hox x2
        go_wp2_with fail
        refine HTk.out.mono ?_
        rintro _ w2 ⟨rfl, b2⟩
        have hbW := (Below.refl B W).alloc SW (.cells (runes [x.1]).toArray 21)
        have hSa : B ≤ (W.alloc (.cells (runes [x.1]).toArray 21)).heap.size := by have := hbW.size; omega
        have Hb2 := Lib.hid (HbW.out.trans (hbW.trans (b2.mono hSa)))
        have Own2 := Lib.hid (own_below (Hown.out.alloc _) b2)
        have S2 : B ≤ w2.heap.size := by have := b2.size; omega
        clear b2 hbW hSa Hown x0 x1
        go_wp2_with (at_builtin; refine wpList_append_own_string _ rfl _ _ 37 9 rfl B 5 i0 Tryz.underlying37 Tryz.underlying9 hi hz0 hz1 hz2 _ _ _ rfl Own2.out rb rfl (by unfold maxLen; omega) (by omega) S2 ?_)
        intro v3 w3 own3 g3 _
        have Hb3 := Lib.hid (Hb2.out.grown g3 S2 (fun q hq => (Own2.out.lt q hq).1))
        rw [Hsc.out, Hsz.out] at own3
        have Own3 := Lib.hid own3
        clear own3 g3
        go_wp2
        go_roundw
        case rel =>
          refine ⟨k + 1, _, rfl, by omega, by go_num, Lib.hid ?_, Hb3⟩
          rw [Htk.out, List.length_append, byteCells_app]
          exact Own3.out
        case measure => simp [RowKit.intOf]; omega
      · have hz : (x.2.2 != 0) = true := by simp [hb0]
        have hpb : pieceB x = [UInt8.ofNat x.2.2] := by unfold pieceB; rw [if_neg hb0]
        have hbc : byteCells' [UInt8.ofNat x.2.2] = [.int .u8 (x.2.2 : Int)] := by
          have h1 : (UInt8.ofNat x.2.2).toNat = x.2.2 := by have := hox.1; simp; omega
          simp [byteCells', h1]
        rw [hz] at x1
        rw [hpb] at Htk
        have Hbc := Lib.hid hbc
        clear hb0 hpb hz hbc hox x0
        go_wp2_with (at_builtin; refine wpList_append_own _ rfl _ _ 37 rfl B 5 i0 _ 1 1 Tryz.underlying37 hi hz0 hz1 hz2 rfl (by decide) _ _ _ rfl (Hown.out.alloc _) ⟨W.heap.size, 0, none⟩ 1 1 [.int .u8 (x.2.2 : Int)] rfl rfl (new_cells W [.int .u8 (x.2.2 : Int)] 5) (by simp [Value.oneCell']) (by unfold maxLen; omega) (by omega) (by simp; omega) ?_)
        intro v3 w3 own3 g3 _
        have Hb3 := Lib.hid ((HbW.out.alloc SW (.cells #[.int .u8 (x.2.2 : Int)] 5)).grown g3 (by simp; omega) (fun q hq => (Hown.out.lt q hq).1))
        have Own3 := Lib.hid own3
        clear own3 g3
        go_wp2
        go_roundw
        case rel =>
          refine ⟨k + 1, _, rfl, by omega, by go_num, Lib.hid ?_, Hb3⟩
          rw [Htk.out, List.length_append, byteCells_app, Hbc.out]
          exact Own3.out
        case measure => simp [RowKit.intOf]; omega
    · obtain rfl : k = n := by omega
      rw [Hfin.out] at Hown
      obtain ⟨A2, c2, hv2, _, _⟩ := own_shape Hown.out
      subst hv2
      have hcv := bytes_str4 W _ T.length c2 A2 T (Rd.own Hown.out)
      clear Hown
      go_wp2_with fail
      go_ret
      exact ⟨rfl, HbW.out⟩
end Go.Proofs.YtjkakemlhhieoaaGreatDoor

/- The document's apart, Apart and Same, walked. -/
namespace Go.Proofs.YtjkakemlhhieoaaGreatDoor
open Go.RowKit Go.Lib

theorem items_len (l : List UInt8) : (items l).length = (segs l).length := by
  induction l using walk_ind with
  | h0 => rfl
  | h1 l h ih => rw [items_step l h, segs_cons l h, List.length_cons, List.length_cons, ih]
/-- the pieces of a text by their number -/
theorem items_at (l : List UInt8) : ∀ (i : Nat) (h : i < (segs l).length), wsum ((segs l).take i) < l.length ∧ (items l)[i]? = some (if badSeg (segs l)[i] = true then (0, 0, gb l (wsum ((segs l).take i))) else (((segs l)[i].1 : Int), markZ (segs l)[i].1, 0)) ∧ (badSeg (segs l)[i] = true → 128 ≤ gb l (wsum ((segs l).take i))) ∧ (segs l)[i].1 ≤ 1114111 := by
  induction l using walk_ind with
  | h0 => intro i h; simp [segs_nil] at h
  | h1 l hl ih =>
    intro i h
    have hs := segs_cons l hl
    have hi := items_step l hl
    cases i with
    | zero =>
      have e : (segs l)[0] = dec l := by simp [hs]
      rw [e, hi]
      refine ⟨by simp [wsum]; exact List.length_pos_iff.2 hl, ?_, fun hb => ?_, dec_rune l⟩
      rotate_left
      · rw [badSeg_raw] at hb
        exact (of_decide_eq_true hb).2
      simp only [List.getElem?_cons_zero, List.take_zero]
      congr 1
      unfold headI
      rw [badSeg_raw]
      by_cases c : (dec l).2 = 1 ∧ 128 ≤ gb l 0
      · rw [if_pos c, if_pos (decide_eq_true c)]; rfl
      · rw [if_neg c, if_neg (by simp [c])]
    | succ i =>
      have h' : i < (segs (l.drop (dec l).2)).length := by rw [hs, List.length_cons] at h; omega
      obtain ⟨h1, h2, h3, h4⟩ := ih i h'
      have e : (segs l)[i + 1] = (segs (l.drop (dec l).2))[i] := by simp [hs]
      have et : wsum ((segs l).take (i + 1)) = (dec l).2 + wsum ((segs (l.drop (dec l).2)).take i) := by rw [hs, List.take_succ_cons]; simp [wsum]
      rw [e, et, hi, List.getElem?_cons_succ, h2]
      rw [List.length_drop] at h1
      rw [gb_drop] at h3 ⊢
      exact ⟨by omega, rfl, h3, h4⟩
theorem take_flat (l : List UInt8) (i : Nat) (p : Pc) (h : (items l)[i]? = some p) : ((items l).take (i + 1)).flatMap splitP = ((items l).take i).flatMap splitP ++ splitP p := by
  obtain ⟨hi, rfl⟩ := List.getElem?_eq_some_iff.1 h
  rw [List.take_succ_eq_append_getElem hi, List.flatMap_append]
  simp
theorem rawP_len (l : List UInt8) : (rawP l).length ≤ 4 * l.length := apF_len _ _
theorem rawP_it (l : List UInt8) : ∀ p ∈ rawP l, ItP p := by
  induction l using walk_ind with
  | h0 => intro p hp; cases hp
  | h1 l h ih =>
    intro p hp
    rw [rawP_step l h] at hp
    rcases List.mem_append.1 hp with hp | hp
    · rcases headP_cases l h with ⟨e, _, hb⟩ | ⟨_, hnum⟩
      · rw [e] at hp
        rw [List.mem_singleton.1 hp]
        exact ⟨gb_lt l 0, .inr ⟨by show gb l 0 ≠ 0; omega, rfl⟩⟩
      · have hq := hnum p hp
        exact ⟨by rw [hq.1]; decide, .inl ⟨hq.1, hq.2.2⟩⟩
    · exact ih p hp
theorem apartP_it (l : List UInt8) : ∀ p ∈ apartP l, ItP p := by
  intro p hp
  rcases ordR_mem numP _ _ p hp with h | h
  · cases h
  · exact rawP_it l p h
theorem flat_prefix (l : List UInt8) (i : Nat) : (((items l).take i).flatMap splitP).length ≤ 4 * i := by
  have h : ∀ q : List Pc, (q.flatMap splitP).length ≤ 4 * q.length := by
    intro q
    induction q with
    | nil => simp
    | cons p t ih =>
      rw [List.flatMap_cons, List.length_append, List.length_cons]
      have : (splitP p).length ≤ 4 := by
        unfold splitP
        split
        · rw [List.length_map]; exact splitF_len 3 p.1
        · simp
      omega
  have h1 := h ((items l).take i)
  have h2 := List.length_take_le i (items l)
  omega
/-- a number's pieces -/
def numPs (zs : List Int) : List Pc := zs.map fun q => (q, markZ q, 0)

set_option maxRecDepth 100000 in
set_option maxHeartbeats 8000000 in
theorem rapart_any (s : ByteArray) (w : World) (hs : s.size ≤ 134217728) :
    Calls Tryz.prog 61 #[.string s] w fun e w' => ∃ v, e = .returned v ∧ w'.ownsRow w.heap.size 99 3 v (apartP s.data.toList).length (flat encI (apartP s.data.toList)) ∧ Below w.heap.size w w' := by
  obtain ⟨i0, hi, hz0, hz1, hz2⟩ := info_parts item_info
  have hall := all_any s w (by omega)
  have hat := items_at s.data.toList
  have hil := items_len s.data.toList
  have hones := ones_at (segs s.data.toList) 0
  have hml : (segs s.data.toList).length ≤ s.size := by have := segs_len s.data.toList; rwa [size_list] at this
  have hrl := rawP_len s.data.toList
  rw [size_list] at hrl
  have hord := fun A n c w h1 h2 h3 h4 h5 h6 => rordered_any (rawP s.data.toList) A n c w h1 h2 h3 h4 h5 (rawP_it s.data.toList) h6
  have hap : (apartP s.data.toList).length = (rawP s.data.toList).length := by
    unfold apartP ordZ
    rw [ordR_len numP _ _ (fun _ h => by cases h) (fun p hp => itP_num (rawP_it _ p hp))]
    simp
  have hri := rawP_items s.data.toList
  have htf := take_flat s.data.toList
  have hfp := flat_prefix s.data.toList
  rw [hap]
  change ∀ (A : Option Addr) (n c : Nat) (w : World), _ at hord
  unfold apartP
  unfold AllAt at hall
  have hgb := fun (k : Nat) (h : k < s.size) => gb_at s k h
  rw [size_list] at hat
  obtain ⟨l, hl⟩ : ∃ l, s.data.toList = l := ⟨_, rfl⟩
  rw [hl] at hall hat hil hones hml hrl hord hri htf hfp hgb ⊢
  obtain ⟨Q, hQ⟩ : ∃ Q, segs l = Q := ⟨_, rfl⟩
  obtain ⟨I, hI⟩ : ∃ I, items l = I := ⟨_, rfl⟩
  obtain ⟨P, hP⟩ : ∃ P, rawP l = P := ⟨_, rfl⟩
  simp only [hQ] at hall hat hil hones hml
  simp only [hI] at hat hil hri htf hfp
  rw [hP] at hrl hri hord ⊢
  obtain ⟨m, hm⟩ : ∃ m, Q.length = m := ⟨_, rfl⟩
  simp only [hm] at hall hat hil hones hml
  have hend : (I.take m).flatMap splitP = P := by rw [List.take_of_length_le (by omega), hri]
  obtain ⟨B, hB⟩ : ∃ B, w.heap.size = B := ⟨_, rfl⟩
  rw [hB] at hall ⊢
  have Hall := Lib.hid hall
  have Hat := Lib.hid hat
  have Hones := Lib.hid hones
  have Hord := Lib.hid hord
  have Htf := Lib.hid htf
  have Hfp := Lib.hid hfp
  have Hend := Lib.hid hend
  have HB := Lib.hid hB
  have Hgb := Lib.hid hgb
  have Hsp := Lib.hid (fun r h w => rsplit_any r h w)
  clear hall hat hil hones hord hri htf hfp hend hB hgb hl hP hap
  go_enter Tryz.func61, Tryz.ntmps61
  go_wp2_with fail
  refine Hall.out.mono ?_
  rintro _ w1 ⟨v0, rfl, own0, b0⟩
  obtain ⟨A0, c0, rfl, _, _⟩ := own_shape own0
  have HB1 : B ≤ w1.heap.size := by have := b0.size; have := HB.out; omega
  have Hb1 := Lib.hid b0
  have R0 := Lib.hid (Rd.own own0)
  clear own0 b0
  go_wp2_with fail
  go_loopw [4, 5, 6, 7] (fun v i _ _ wr => ∃ (k : Nat) (W : World), W = wr ∧ k ≤ m ∧ i = .int .i64 (k : Int) ∧ Hid (W.ownsRow w1.heap.size 99 3 v ((I.take k).flatMap splitP).length (flat encI ((I.take k).flatMap splitP))) ∧ Hid (Below w1.heap.size w1 W)) (fun _ i _ _ _ => m - (RowKit.intOf i).toNat)
  case atStart => exact ⟨0, _, rfl, Nat.zero_le _, rfl, Lib.hid (by simp; exact World.ownsRow_nil _ _ _ _), Lib.hid (Below.refl _ _)⟩
  case round =>
    obtain ⟨k, W, hW, hk, rfl, Hown, HbW⟩ := hrel
    subst hW
    have SW : w1.heap.size ≤ W.heap.size := HbW.out.size
    by_cases hkm : k < m
    · have hki : (k : Int) < (m : Int) := by omega
      obtain ⟨a, rfl, hab, hc⟩ := (R0.out.below HbW.out).addr (by omega)
      obtain ⟨c0', c1', _, c3'⟩ := Hones.out k hkm
      obtain ⟨hw, hI, h128, hdr⟩ := Hat.out k hkm
      have k0 := hc _ _ c0'
      have k1 := hc _ _ c1'
      have k3 := hc _ _ c3'
      have hfk := Hfp.out k
      obtain ⟨off, hoff⟩ : ∃ off, wsum (Q.take k) = off := ⟨_, rfl⟩
      rw [Nat.zero_add, hoff] at k0
      rw [hoff] at hw hI h128
      obtain ⟨d, hd⟩ : ∃ d, Q[k] = d := ⟨_, rfl⟩
      rw [hd] at k1 k3 hI h128 hdr
      rw [Nat.mul_comm 4 k] at k0 k1 k3
      have k1 : W.cell? ⟨(a.add (k * 4)).block, (a.add (k * 4)).off + 1, none⟩ = some (.int .i32 (d.1 : Int)) := by rw [← add_sum] at k1; simpa [Addr.add] using k1
      have k3 : W.cell? ⟨(a.add (k * 4)).block, (a.add (k * 4)).off + 3, none⟩ = some (.bool (badSeg d)) := by rw [← add_sum] at k3; simpa [Addr.add] using k3
      obtain ⟨done, hdone⟩ : ∃ done, (I.take k).flatMap splitP = done := ⟨_, rfl⟩
      have htk := Htf.out k _ hI
      rw [hdone] at Hown htk hfk
      clear c0' c1' c3' hc hoff hd hab hdone hI
      cases hb : badSeg d with
      | true =>
        rw [hb] at k3
        rw [if_pos hb] at htk
        obtain ⟨y, hy⟩ : ∃ y, s[off]'hw = y := ⟨_, rfl⟩
        have hg := Hgb.out off hw
        rw [hy] at hg
        rw [← hg] at htk
        have hy256 : y.toNat < 256 := UInt8.toNat_lt y
        have hof0 : (0 : Int) ≤ (off : Int) := by omega
        have hof1 : (off : Int) < (s.size : Int) := by omega
        have h12 := h128 hb
        rw [← hg] at h12
        have hy0 : ¬ y.toNat = 0 := by omega
        clear h128 h12 hdr
        · have hsp : splitP (0, 0, y.toNat) = [(0, 0, y.toNat)] := by unfold splitP; rw [if_neg hy0]
          rw [hsp] at htk
          have hyb : (y.toNat != 0) = true := by simp [hy0]
          have hen : flat encI [(0, 0, y.toNat)] = [.int .i32 0, .bool true, .int .u8 (y.toNat : Int)] := by
            show encI _ ++ [] = _
            unfold encI
            rw [hyb]
            rfl
          have Htk := Lib.hid htk
          have Hen := Lib.hid hen
          clear htk hsp hg hb hyb hen hy0
          go_wp2_with (at_builtin; refine wpList_append_own _ rfl _ _ 77 rfl w1.heap.size 99 i0 _ 3 8 Tryz.underlying77 hi hz0 hz1 hz2 rfl (by decide) _ _ _ rfl (Hown.out.alloc _) ⟨W.heap.size, 0, none⟩ 1 1 [.int .i32 0, .bool true, .int .u8 (y.toNat : Int)] rfl rfl (new_cells W [.int .i32 0, .bool true, .int .u8 (y.toNat : Int)] 99) (by simp [Value.oneCell']) (by unfold maxLen; omega) (by omega) (by simp; omega) ?_)
          intro v3 w3 own3 g3 _
          have Hb3 := Lib.hid ((HbW.out.alloc SW (.cells #[.int .i32 0, .bool true, .int .u8 (y.toNat : Int)] 99)).grown g3 (by simp; omega) (fun q hq => (Hown.out.lt q hq).1))
          have Own3 := Lib.hid own3
          clear own3 g3
          go_wp2
          go_roundw
          case rel =>
            refine ⟨k + 1, _, rfl, by omega, by go_num, Lib.hid ?_, Hb3⟩
            rw [Htk.out, List.length_append, flat_append, Hen.out]
            exact Own3.out
          case measure => simp [RowKit.intOf]; omega
      | false =>
        rw [hb] at k3
        rw [if_neg (by simp [hb])] at htk
        have hd1 : (d.1 : Int) ≤ 2147483647 := by omega
        clear h128 hdr
        have hsp : splitP ((d.1 : Int), markZ d.1, 0) = numPs (splitZ d.1) := by unfold splitP; rw [if_pos rfl]; rfl
        rw [hsp] at htk
        have HS := Lib.hid (Hsp.out (d.1 : Int) hd1 W)
        unfold SplitAt at HS
        have hzl := splitF_len 3 (d.1 : Int)
        change (splitZ (d.1 : Int)).length ≤ 4 at hzl
        obtain ⟨zs, hzs⟩ : ∃ zs, splitZ (d.1 : Int) = zs := ⟨_, rfl⟩
        rw [hzs] at HS htk hzl
        obtain ⟨q, hq⟩ : ∃ q, zs.length = q := ⟨_, rfl⟩
        rw [hq] at HS hzl
        have Hq := Lib.hid hq
        have Htk := Lib.hid htk
        clear htk hsp hb hzs hq
        go_wp2_with fail
        refine HS.out.mono ?_
        rintro _ w2 ⟨v2, rfl, own2, b2⟩
        obtain ⟨A2, c2, rfl, _, _⟩ := own_shape own2
        have Hb2 := Lib.hid (HbW.out.trans (b2.mono SW))
        have Own2 := Lib.hid (own_below Hown.out b2)
        have R2 := Lib.hid (Rd.own own2)
        have L2 := Lib.hid (fun g (hg : (Value.slice A2 q c2).ownBlock = some g) => own2.lt g hg)
        have S2 : W.heap.size ≤ w2.heap.size := b2.size
        have Ow2 := Lib.hid own2
        have Lt0 := Lib.hid Hown.out.lt
        clear own2 b2 Hown k0 k1 k3
        go_wp2_with fail
        have hL2 := Lib.hid (show Lies4 w2 W.heap.size w2.heap.size (.slice A2 q c2) q (runes zs) from ⟨Ow2.out, L2.out⟩)
        go_loopw [4, 7] (fun v i wr => ∃ (j : Nat) (V : World), V = wr ∧ j ≤ q ∧ i = .int .i64 (j : Int) ∧ Hid (V.ownsRow w1.heap.size 99 3 v (done ++ numPs (zs.take j)).length (flat encI (done ++ numPs (zs.take j)))) ∧ Hid (Below w1.heap.size w1 V) ∧ Hid (Lies4 V W.heap.size w2.heap.size (.slice A2 q c2) q (runes zs)) ∧ Hid (∀ g, v.ownBlock = some g → g < W.heap.size ∨ w2.heap.size ≤ g) ∧ w2.heap.size ≤ V.heap.size) (fun _ i _ => q - (RowKit.intOf i).toNat)
        case atStart => exact ⟨0, _, rfl, Nat.zero_le _, rfl, Lib.hid (by simp [numPs]; exact Own2.out), Hb2, hL2, Lib.hid (fun g hg => .inl (Lt0.out g hg).2), Nat.le_refl _⟩
        case round =>
          obtain ⟨j, V, hV, hj, rfl, HownV, HbV, HLV, Hne, hSV⟩ := hrel
          subst hV
          by_cases hjq : j < q
          · have hji : (j : Int) < (q : Int) := by omega
            obtain ⟨z, hz⟩ : ∃ z, zs[j]? = some z := ⟨_, List.getElem?_eq_getElem (by rw [Hq.out]; exact hjq)⟩
            obtain ⟨a2, rfl, _, hcz⟩ := Rd_cell4 HLV.out.rd hz
            have hnx : done ++ numPs (zs.take (j + 1)) = (done ++ numPs (zs.take j)) ++ [(z, markZ z, 0)] := by
              obtain ⟨h, rfl⟩ := List.getElem?_eq_some_iff.1 hz
              unfold numPs
              rw [List.take_succ_eq_append_getElem h, List.map_append, ← List.append_assoc]
              rfl
            have hln : (done ++ numPs (zs.take j)).length = done.length + j := by
              have := (List.getElem?_eq_some_iff.1 hz).1
              simp [numPs]
              omega
            have Hnx := Lib.hid hnx
            have HSV : w1.heap.size ≤ V.heap.size := by omega
            obtain ⟨pre, hpre⟩ : ∃ pre, done ++ numPs (zs.take j) = pre := ⟨_, rfl⟩
            rw [hpre] at HownV Hnx hln
            clear hz hnx hpre
            go_wp2_with (at_builtin; refine wpList_append_own_at _ rfl _ _ 77 rfl w1.heap.size 99 i0 _ 3 8 Tryz.underlying77 hi hz0 hz1 hz2 rfl (by decide) _ _ _ rfl (HownV.out.alloc _) ⟨V.heap.size, 0, none⟩ 1 1 [.int .i32 z, .bool false, .int .u8 0] rfl rfl (new_cells V [.int .i32 z, .bool false, .int .u8 0] 99) (by simp [Value.oneCell']) (by unfold maxLen; omega) (by omega) (by simp; omega) ?_)
            intro v5 w5 own5 g5 _ hob
            have Hb5 := Lib.hid ((HbV.out.alloc HSV (.cells #[.int .i32 z, .bool false, .int .u8 0] 99)).grown g5 (by simp; omega) (fun g hg => (HownV.out.lt g hg).1))
            have L5 := Lib.hid ((HLV.out.alloc _).kept g5 (fun g hg => Hne.out g hg))
            have S5 : w2.heap.size ≤ w5.heap.size := by have := g5.size; simp at this; omega
            have Hne5 : Hid (∀ g, v5.ownBlock = some g → g < W.heap.size ∨ w2.heap.size ≤ g) := by
              unfold Hid
              intro g hg
              rcases hob with h | h
              · exact Hne.out g (h ▸ hg)
              · rw [h] at hg
                injection hg with hg
                subst hg
                right
                try simp
                omega
            have Own5 := Lib.hid own5
            clear own5 g5 hob
            go_wp2
            go_roundw
            case rel =>
              refine ⟨j + 1, _, rfl, by omega, by go_num, Lib.hid ?_, Hb5, L5, Hne5, S5⟩
              rw [Hnx.out, List.length_append, flat_append, hln]
              exact Own5.out
            case measure => simp [RowKit.intOf]; omega
          · obtain rfl : j = q := by omega
            have hfin : zs.take j = zs := List.take_of_length_le (by rw [Hq.out]; exact Nat.le_refl _)
            rw [hfin, ← Htk.out] at HownV
            clear hfin
            go_wp2
            go_roundw
            case rel => exact ⟨k + 1, _, rfl, by omega, by go_num, HownV, HbV⟩
            case measure => simp [RowKit.intOf]; omega
    · obtain rfl : k = m := by omega
      rw [Hend.out] at Hown
      obtain ⟨A2, c2, hv2, h2n, h2m⟩ := own_shape Hown.out
      subst hv2
      have HO := Lib.hid (Hord.out A2 _ c2 W rfl h2n h2m (fun e => own_nil9 Hown.out e) (by omega) (Rd.own Hown.out))
      clear Hown
      go_wp2_with fail
      refine HO.out.mono ?_
      rintro _ w3 ⟨v3, rfl, own3, b3⟩
      have Own3 := Lib.hid (own_base own3 (Nat.le_trans HB1 SW))
      have Hb3 := Lib.hid (Hb1.out.trans ((HbW.out.trans (b3.mono SW)).mono HB1))
      clear own3 b3
      go_wp2_with fail
      go_ret
      exact ⟨_, rfl, Own3.out, Hb3.out⟩
theorem apartP_ok4 (l : List UInt8) : ∀ p ∈ apartP l, p.2.2 < 256 ∧ (p.2.2 = 0 → Scal p.1) := by
  intro p hp
  refine ⟨(apartP_it l p hp).1, fun h => ?_⟩
  have ht := TelP_apart l
  have key : ∀ ps : List Pc, TelP ps → p ∈ ps → Scal p.1 := by
    intro ps hps
    induction hps with
    | nil => intro h; cases h
    | cons a _ ih =>
      intro hm
      rcases List.mem_cons.1 hm with rfl | hm
      · rcases a with ⟨_, b, _⟩ | ⟨_, _, b, _⟩
        · exact b
        · omega
      · exact ih hm
  exact key _ ht hp
set_option maxRecDepth 100000 in
theorem rApart_any (s : ByteArray) (w : World) (hs : s.size ≤ 134217728) : Calls Tryz.prog 40 #[.string s] w fun e w' => e = .returned (.string ⟨(apartS s.data.toList).toArray⟩) ∧ Below w.heap.size w w' := by
  have HA := Lib.hid (rapart_any s w hs)
  have hlen := apartP_len s.data.toList
  rw [size_list] at hlen
  have hok := apartP_ok4 s.data.toList
  unfold apartS
  obtain ⟨ps, hps⟩ : ∃ ps, apartP s.data.toList = ps := ⟨_, rfl⟩
  rw [hps] at HA hlen hok ⊢
  have HX := Lib.hid (fun A n c w h1 h2 h3 => rtext_any ps A n c w h1 h2 h3 hok)
  clear hps hok
  obtain ⟨R, hR⟩ : ∃ R, (textP ps).toArray = R := ⟨_, rfl⟩
  simp only [hR] at HX
  rw [hR]
  clear hR
  go_enter Tryz.func40, Tryz.ntmps40
  go_wp2_with fail
  refine HA.out.mono ?_
  rintro _ w1 ⟨v1, rfl, hown, b1⟩
  obtain ⟨A1, c1, rfl, _, _⟩ := own_shape hown
  have HT1 := Lib.hid (HX.out A1 _ c1 w1 (Rd.own hown) rfl (by omega))
  have Hb1 := Lib.hid b1
  clear hown b1
  go_wp2_with fail
  refine HT1.out.mono ?_
  rintro _ w2 ⟨rfl, b2⟩
  have Hb2 := Lib.hid (Hb1.out.trans (b2.mono Hb1.out.size))
  clear b2
  go_wp2_with fail
  go_ret
  exact ⟨rfl, Hb2.out⟩
end Go.Proofs.YtjkakemlhhieoaaGreatDoor
