/- The numbers of what a loop over a text goes over. -/
import Derived.Test.YtjkakemlhhieoaaGreatDoorSeqA
import Derived.Test.YtjkakemlhhieoaaGreatDoorScanG
import Derived.Test.YtjkakemlhhieoaaGreatDoorPureGF
import Derived.Test.YtjkakemlhhieoaaGreatDoorSeqB
import Derived.Test.YtjkakemlhhieoaaGreatDoorClassG
import Derived.Test.YtjkakemlhhieoaaGreatDoorTextG
import Derived.Lib.OthersKept
import Derived.Lib.AppendStr
import Derived.RegionTactic
import Derived.Test.YtjkakemlhhieoaaGreatDoorMem
import Derived.Test.YtjkakemlhhieoaaGreatDoorRows
import Derived.Lib.LaidU8
import Derived.WalkKit
import Derived.BigQuiet
import Derived.Deep.QuietTactic
import Derived.Test.YtjkakemlhhieoaaGreatDoorBackP
import Derived.Test.YtjkakemlhhieoaaGreatDoorApG
set_option linter.unusedSimpArgs false
set_option linter.unusedVariables false
namespace Go.Proofs.YtjkakemlhhieoaaGreatDoor
open Go.RowKit Go.Lib

theorem places_runes5F (s : ByteArray) : ∀ (f p : Nat), s.size - p ≤ f → p ≤ s.size → (placesF s f p).map (·.2) = runesOf (s.data.toList.drop p)
  | 0, p, h, hp => by
    rw [placesF_end s 0 p (by omega), List.drop_of_length_le (by rw [size_list]; omega)]
    rfl
  | f + 1, p, h, hp => by
    by_cases hlt : p < s.size
    · have hd := decode_dec s p hp
      have hne : s.data.toList.drop p ≠ [] := by
        intro e
        have := congrArg List.length e
        rw [List.length_drop, size_list] at this
        simp at this
        omega
      have hpos := decode_pos s p
      have hle := dec_le _ hne
      rw [← hd, List.length_drop, size_list] at hle
      unfold placesF
      rw [if_pos hlt, List.map_cons, places_runes5F s f _ (by omega) (by omega)]
      unfold runesOf
      rw [segs_cons _ hne, List.map_cons, ← hd, List.drop_drop]
    · rw [placesF_end s _ p hlt, List.drop_of_length_le (by rw [size_list]; omega)]
      rfl
theorem places_runes5 (s : ByteArray) : (places s).map (·.2) = runesOf s.data.toList := places_runes5F s s.size 0 (by omega) (Nat.zero_le _)


end Go.Proofs.YtjkakemlhhieoaaGreatDoor

/- Small letters and titles by places in the text's bytes (pure): what the loops over a text keep. -/
namespace Go.Proofs.YtjkakemlhhieoaaGreatDoor
open Go.RowKit Go.Lib

/-- the Kind of a number, as the program's table has it -/
def kind5 (x : Int) : Nat := cls kindsL (char x)
theorem kind_fffd : kind5 65533 ≠ 2 ∧ kind5 65533 ≠ 3 ∧ kind5 65533 ≠ 4 := by decide +kernel

/-- one piece on -/
theorem items_border {l : List UInt8} {p : Nat} (hb : Border l p) (hp : p < l.length) :
    items (l.drop p) = headI (l.drop p) :: items (l.drop (p + (dec (l.drop p)).2)) ∧ items (l.take (p + (dec (l.drop p)).2)) = items (l.take p) ++ [headI (l.drop p)] := by
  have e1 : items (l.drop p) = headI (l.drop p) :: items (l.drop (p + (dec (l.drop p)).2)) := by rw [items_step _ (drop_ne l p hp), List.drop_drop]
  refine ⟨e1, ?_⟩
  have h1 := items_parts hb
  have h2 := items_parts (border_next hb hp)
  rw [← h1, e1, show items (l.take p) ++ headI (l.drop p) :: items (l.drop (p + (dec (l.drop p)).2)) = (items (l.take p) ++ [headI (l.drop p)]) ++ items (l.drop (p + (dec (l.drop p)).2)) by simp] at h2
  exact List.append_cancel_right h2
theorem head_bad (l : List UInt8) (h : badSeg (dec l) = true) : headI l = (0, 0, gb l 0) ∧ 128 ≤ gb l 0 ∧ (dec l).2 = 1 := by
  rw [badSeg_raw] at h
  have h := of_decide_eq_true h
  exact ⟨by unfold headI; rw [if_pos h], h.2, h.1⟩
theorem head_good (l : List UInt8) (h : badSeg (dec l) = false) : headI l = (((dec l).1 : Int), markZ ((dec l).1 : Int), 0) := by
  rw [badSeg_raw] at h
  unfold headI
  rw [if_neg (of_decide_eq_false h)]
/-- what is still to be written, behind a border -/
def restT (f : Become) (l : List UInt8) (p : Nat) : List UInt8 := textP (madeP f (items (l.take p)).reverse (items (l.drop p)))
theorem rest_all (f : Become) (l : List UInt8) : restT f l 0 = madeS f l := by
  unfold restT madeS
  rw [List.take_zero, List.drop_zero, items_nil]; rfl
theorem rest_end (f : Become) (l : List UInt8) (p : Nat) (h : l.length ≤ p) : restT f l p = [] := by
  unfold restT
  rw [List.drop_eq_nil_of_le h, items_nil]; rfl
theorem textP_nums5 (zs : List Int) : textP (numsP zs) = zs.flatMap Lib.encodeRune := textP_nums zs
theorem rest_good (f : Become) {l : List UInt8} {p : Nat} (hb : Border l p) (hp : p < l.length) (h : badSeg (dec (l.drop p)) = false) :
    restT f l p = (f (items (l.take p)).reverse (headI (l.drop p)) (items (l.drop (p + (dec (l.drop p)).2)))).flatMap Lib.encodeRune ++ restT f l (p + (dec (l.drop p)).2) := by
  obtain ⟨e1, e2⟩ := items_border hb hp
  unfold restT
  rw [e1, e2, List.reverse_append, List.reverse_singleton, List.singleton_append, madeP, if_pos (by rw [head_good _ h]), textP_append, textP_nums]
theorem rest_bad (f : Become) {l : List UInt8} {p : Nat} (hb : Border l p) (hp : p < l.length) (h : badSeg (dec (l.drop p)) = true) :
    restT f l p = [UInt8.ofNat (gb l p)] ++ restT f l (p + (dec (l.drop p)).2) := by
  obtain ⟨e1, e2⟩ := items_border hb hp
  obtain ⟨e3, e4, _⟩ := head_bad _ h
  unfold restT
  have e5 : textP [((0 : Int), 0, gb (l.drop p) 0)] = [UInt8.ofNat (gb l p)] := by
    unfold textP pieceB
    rw [List.flatMap_singleton, if_neg (by show gb (l.drop p) 0 ≠ 0; omega), gb_drop, Nat.add_zero]
  rw [e1, e2, List.reverse_append, List.reverse_singleton, List.singleton_append, madeP, e3, if_neg (by show gb (l.drop p) 0 ≠ 0; omega), textP_append, e5]
  rfl

/-- the last number of a text -/
theorem last_items (m : List UInt8) : ((decodeLastL m).1 : Int) = ((items m).reverse.map runeP).headD 65533 := by
  have hr := runes_pieces m
  by_cases h : m = []
  · subst h; rfl
  · have hs := decodeLast_segs m h
    rw [List.map_reverse, ← hr]
    unfold runesOf
    rw [hs]
    simp
theorem inWord_last (m : List UInt8) : inWordR kind5 ((decodeLastL m).1 : Int) = inWord5 kind5 (items m).reverse := by
  rw [last_items]
  exact inWordR_pieces kind5 kind_fffd.1 kind_fffd.2.1 kind_fffd.2.2 _
/-- the numbers of what a loop over a text goes over -/
def numsI (ys : List (Nat × Nat)) : List Int := ys.map fun x => (x.2 : Int)
theorem numsI_all (s : ByteArray) : numsI (places s) = (items s.data.toList).map runeP := by
  have h := places_runes5 s
  rw [← runes_pieces, ← h, List.map_map]
  rfl
theorem begins_all (s : ByteArray) : beginsR kind5 (numsI (places s)) = begins5 kind5 (items s.data.toList) := by
  rw [numsI_all]
  exact beginsR_pieces kind5 kind_fffd.1 kind_fffd.2.1 _
theorem begins_back (s : ByteArray) : beginsR kind5 (numsI (places s).reverse) = begins5 kind5 (items s.data.toList).reverse := by
  have e : numsI (places s).reverse = (items s.data.toList).reverse.map runeP := by
    rw [List.map_reverse, ← numsI_all]
    unfold numsI
    rw [List.map_reverse]
  rw [e]
  exact beginsR_pieces kind5 kind_fffd.1 kind_fffd.2.1 _
/-- the great sigma takes two bytes -/
theorem sigma_two (l : List UInt8) (h : l ≠ []) (e : (dec l).1 = 931) : (dec l).2 = 2 ∧ badSeg (dec l) = false := by
  have hb : badSeg (dec l) = false := by unfold badSeg; rw [e]; simp
  refine ⟨?_, hb⟩
  have h1 := congrArg List.length (enc_dec5 l h hb)
  rw [e, List.length_take, Nat.min_eq_left (dec_le l h)] at h1
  rw [← h1]
  decide +kernel
/-- what a number becomes in small letters, told by the numbers around -/
theorem lowZ_num (pre t : List Pc) (p : Pc) : lowZ kind5 pre p t = if p.1 = 931 ∧ begins5 kind5 pre = true ∧ begins5 kind5 t = false then 962 else smallF p.1 := rfl
end Go.Proofs.YtjkakemlhhieoaaGreatDoor

/- strings.Builder's writers, and what they leave alone above the builder (an iterator that was made behind it). -/
namespace Go.Proofs.YtjkakemlhhieoaaGreatDoor
open Go.RowKit Go.Lib

abbrev Kept5 (b : Nat) (w w' : World) : Prop := Lib.OthersKept 5 (some b) w w'
theorem own_kind {w : World} {B : Nat} {e : TypeId} {v : Value} {n : Nat} {xs : List Value} (h : w.ownsRow B e 1 v n xs) : ∀ g, v.ownBlock = some g → ∃ c fz, w.heap[g]? = some (.cells c e fz) := by
  intro g hg
  rcases h.2 with ⟨rfl, _⟩ | ⟨g', cap, cur, rfl, _, hgg, _⟩
  · simp [Value.ownBlock] at hg
  · simp [Value.ownBlock] at hg
    subst hg
    exact ⟨cur, _, hgg⟩
theorem kept_below {b : Nat} {w w' : World} (h : Below w.heap.size w w') : Kept5 b w w' := fun k _ hk _ _ => (h.block k (Array.getElem?_eq_some_iff.1 hk).1).trans hk

set_option maxHeartbeats 1000000 in
theorem bcheck_k (B b : Nat) (bs : List Value) (w : World) (h : Lib.IsBuilder 47 5 B b bs w) :
    Calls Tryz.prog 45 #[.pointer (some ⟨b, 0, none⟩)] w fun e w' => e = .returned (.tuple #[]) ∧ Lib.BuilderAt 47 5 B b (.pointer (some ⟨b, 0, none⟩)) bs w' ∧ Below B w w' ∧ Kept5 b w w' := by
  rcases h with h | h
  · refine (bcheck_fresh b w h.cell0 h.shape h.frozen0).mono ?_
    rintro e w' ⟨rfl, rfl⟩
    exact ⟨rfl, h.used _, (Below.refl B w).setCell (p := ⟨b, 0, none⟩) h.1 _, (Lib.OthersKept.refl _ _ w).setCell ⟨b, 0, none⟩ rfl _⟩
  · refine (bcheck_used b w h.cell0).mono ?_
    rintro e w' ⟨rfl, rfl⟩
    exact ⟨rfl, h, Below.refl B _, Lib.OthersKept.refl _ _ _⟩

set_option maxHeartbeats 2000000 in
set_option maxRecDepth 100000 in
theorem bbyte_k (B b : Nat) (bs : List Value) (c : Int) (w : World) (h : Lib.IsBuilder 47 5 B b bs w) (hlen : bs.length + 1 ≤ 140737488355328) (hBw : B ≤ w.heap.size) :
    Calls Tryz.prog 43 #[.pointer (some ⟨b, 0, none⟩), .int .u8 c] w fun e w' => e = .returned .nilIface ∧ (Lib.BuilderAt 47 5 B b (.pointer (some ⟨b, 0, none⟩)) (bs ++ [.int .u8 c]) w' ∧ Below B w w' ∧ Kept5 b w w') := by
  obtain ⟨i0, hi, hz0, hz1, hz2⟩ := info_parts bcell_info
  have HC := Lib.hid (bcheck_k B b bs w h)
  go_enter Tryz.func43, Tryz.ntmps43
  go_wp2_with fail
  refine HC.out.mono ?_
  rintro _ w1 ⟨rfl, h1, hb1, hk1⟩
  obtain ⟨hB, v, hbk, hown, hne⟩ := h1
  have c0 : w1.cell? ⟨b, 0, none⟩ = some (.pointer (some ⟨b, 0, none⟩)) := by rw [Lib.cell_of_heap hbk]; rfl
  have c1 : w1.cell? ⟨b, 1, none⟩ = some v := by rw [Lib.cell_of_heap hbk]; rfl
  have Hown := Lib.hid hown
  have Hb1 := Lib.hid hb1
  have Hk1 := Lib.hid hk1
  clear hown hb1 hk1
  go_wp2_with (at_builtin; refine wpList_append_own _ rfl _ _ 37 rfl B 5 i0 (.int .u8 0) 1 1 Tryz.underlying37 hi hz0 hz1 hz2 rfl (by decide) _ _ _ rfl (Hown.out.alloc _) ⟨w1.heap.size, 0, none⟩ 1 1 [.int .u8 c] rfl rfl ?c1 ?c2 ?c3 ?c4 ?c5 ?_)
  try (case c1 => exact new_cells w1 [.int .u8 c] 5)
  case c2 => intro u hu; simp at hu; subst hu; rfl
  case c3 => unfold maxLen; omega
  case c4 => omega
  case c5 => have := Hb1.out.size; simp; omega
  intro v' w2 hown2 hg2 _
  obtain ⟨g1, cap1, rfl⟩ := succ4 hown2
  have hlt : b < w1.heap.size := (Array.getElem?_eq_some_iff.1 hbk).1
  have hb2 : w2.heap[b]? = some (.cells #[.pointer (some ⟨b, 0, none⟩), v] 47 (0, 0)) := by
    rw [hg2.block b (by simp; omega) (fun e => hne e.symm), Lib.alloc_old w1 _ b hlt]
    exact hbk
  have d0 : w2.cell? ⟨b, 0, none⟩ = some (.pointer (some ⟨b, 0, none⟩)) := by rw [Lib.cell_of_heap hb2]; rfl
  have d1 : w2.cell? ⟨b, 1, none⟩ = some v := by rw [Lib.cell_of_heap hb2]; rfl
  have f1 : w2.frozen? ⟨b, 1, none⟩ = false := Lib.frozen_of_heap hb2 1
  have HP := Lib.hid (Lib.BuilderAt.put (T := 47) (e := 5) hB hb2 (bs' := bs ++ [.int .u8 c]) (by simpa using hown2) (by decide))
  have HB := Lib.hid (((Hb1.out.alloc (by have := Hb1.out.size; omega) _).grown hg2 (by have := Hb1.out.size; simp; omega) (fun k hk => (Hown.out.lt k hk).1)).setCell (p := ⟨b, 1, none⟩) hB (.slice (some ⟨g1, 0, none⟩) (bs.length + 1) cap1))
  have HK := Lib.hid (((Hk1.out.alloc _).grown hg2 (own_kind (Hown.out.alloc _))).setCell ⟨b, 1, none⟩ rfl (.slice (some ⟨g1, 0, none⟩) (bs.length + 1) cap1))
  clear hown2 hg2
  go_wp2
  go_ret
  exact ⟨rfl, HP.out, HB.out, HK.out⟩

set_option maxHeartbeats 4000000 in
set_option maxRecDepth 100000 in
theorem brune_k (B b : Nat) (bs : List Value) (r : Int) (hr0 : -2147483648 ≤ r) (hr1 : r ≤ 2147483647) (w : World) (h : Lib.IsBuilder 47 5 B b bs w) (hlen : bs.length + 4 ≤ 140737488355328) (hBw : B ≤ w.heap.size) :
    Calls Tryz.prog 20 #[.pointer (some ⟨b, 0, none⟩), .int .i32 r] w fun e w' => (∃ v, e = .returned v) ∧ (Lib.BuilderAt 47 5 B b (.pointer (some ⟨b, 0, none⟩)) (bs ++ Lib.runeCells r) w' ∧ Below B w w' ∧ Kept5 b w w') := by
  have HC := Lib.hid (bcheck_k B b bs w h)
  have hk4 := Lib.runeCells_le r
  go_enter Tryz.func20, Tryz.ntmps20
  go_wp2_with fail
  refine HC.out.mono ?_
  rintro _ w1 ⟨rfl, h1, hb1, hk1⟩
  obtain ⟨hB, v, hbk, hown, hne⟩ := h1
  obtain ⟨ao, cap, rfl⟩ : ∃ ao cap, v = .slice ao bs.length cap := by
    rcases hown.2 with ⟨hv, h0⟩ | ⟨g, cap, cur, hv, _⟩
    · exact ⟨none, 0, by rw [hv, h0]⟩
    · exact ⟨_, _, hv⟩
  have c0 : w1.cell? ⟨b, 0, none⟩ = some (.pointer (some ⟨b, 0, none⟩)) := by rw [Lib.cell_of_heap hbk]; rfl
  have c1 : w1.cell? ⟨b, 1, none⟩ = some (.slice ao bs.length cap) := by rw [Lib.cell_of_heap hbk]; rfl
  have HA := Lib.hid (Tryz.utf8_AppendRune_plain B (.slice ao bs.length cap) bs.length bs r hr0 hr1 w1 hown hlen (by have := hb1.size; omega))
  have Hown := Lib.hid hown
  have Hb1 := Lib.hid hb1
  have Hk1 := Lib.hid hk1
  clear hown hb1 hk1
  go_wp2_with fail
  refine HA.out.mono ?_
  rintro _ w2 ⟨v', rfl, hown', o, hgrow⟩
  have hlt : b < w1.heap.size := (Array.getElem?_eq_some_iff.1 hbk).1
  have hb2 : w2.heap[b]? = some (.cells #[.pointer (some ⟨b, 0, none⟩), .slice ao bs.length cap] 47 (0, 0)) := by
    rw [hgrow.block b (by simp; omega) (fun e => hne e.symm), Lib.alloc_old w1 _ b hlt]
    exact hbk
  have d0 : w2.cell? ⟨b, 0, none⟩ = some (.pointer (some ⟨b, 0, none⟩)) := by rw [Lib.cell_of_heap hb2]; rfl
  have d1 : w2.cell? ⟨b, 1, none⟩ = some (.slice ao bs.length cap) := by rw [Lib.cell_of_heap hb2]; rfl
  have f1 : w2.frozen? ⟨b, 1, none⟩ = false := Lib.frozen_of_heap hb2 1
  obtain ⟨A', cap', rfl, _⟩ := own_shape hown'
  have HP := Lib.hid (Lib.BuilderAt.put (T := 47) (e := 5) hB hb2 (bs' := bs ++ Lib.runeCells r) (by simpa using hown') (by decide))
  have HB := Lib.hid (((Hb1.out.alloc (by have := Hb1.out.size; omega) _).grown hgrow (by have := Hb1.out.size; simp; omega) (fun k hk => (Hown.out.lt k hk).1)).setCell (p := ⟨b, 1, none⟩) hB (.slice A' (bs.length + (Lib.runeCells r).length) cap'))
  have HK := Lib.hid (((Hk1.out.alloc _).grown hgrow (own_kind (Hown.out.alloc _))).setCell ⟨b, 1, none⟩ rfl (.slice A' (bs.length + (Lib.runeCells r).length) cap'))
  clear hown' hgrow
  go_wp2
  go_ret2
  exact ⟨⟨_, rfl⟩, HP.out, HB.out, HK.out⟩

set_option maxHeartbeats 2000000 in
set_option maxRecDepth 100000 in
theorem bstring_k (B b : Nat) (bs : List Value) (s : ByteArray) (w : World) (h : Lib.IsBuilder 47 5 B b bs w) (hlen : bs.length + s.size ≤ 140737488355328) (hBw : B ≤ w.heap.size) :
    Calls Tryz.prog 39 #[.pointer (some ⟨b, 0, none⟩), .string s] w fun e w' => (∃ v, e = .returned v) ∧ (Lib.BuilderAt 47 5 B b (.pointer (some ⟨b, 0, none⟩)) (bs ++ Lib.strCells s) w' ∧ Below B w w' ∧ Kept5 b w w') := by
  obtain ⟨i0, hi, hz0, hz1, hz2⟩ := info_parts bcell_info
  have HC := Lib.hid (bcheck_k B b bs w h)
  go_enter Tryz.func39, Tryz.ntmps39
  go_wp2_with fail
  refine HC.out.mono ?_
  rintro _ w1 ⟨rfl, h1, hb1, hk1⟩
  obtain ⟨hB, v, hbk, hown, hne⟩ := h1
  have c0 : w1.cell? ⟨b, 0, none⟩ = some (.pointer (some ⟨b, 0, none⟩)) := by rw [Lib.cell_of_heap hbk]; rfl
  have c1 : w1.cell? ⟨b, 1, none⟩ = some v := by rw [Lib.cell_of_heap hbk]; rfl
  have Hown := Lib.hid hown
  have Hb1 := Lib.hid hb1
  have Hk1 := Lib.hid hk1
  clear hown hb1 hk1
  go_wp2_with (at_builtin; refine Lib.wpList_append_own_string _ rfl _ _ 37 9 rfl B 5 i0 Tryz.underlying37 Tryz.underlying9 hi hz0 hz1 hz2 _ _ _ rfl Hown.out s rfl ?c3 ?c4 ?c5 ?_)
  case c3 => unfold maxLen; omega
  case c4 => omega
  case c5 => have := Hb1.out.size; omega
  intro v' w2 hown' hgrow _
  have hlt : b < w1.heap.size := (Array.getElem?_eq_some_iff.1 hbk).1
  have hb2 : w2.heap[b]? = some (.cells #[.pointer (some ⟨b, 0, none⟩), v] 47 (0, 0)) := by
    rw [hgrow.block b hlt (fun e => hne e.symm)]
    exact hbk
  have d0 : w2.cell? ⟨b, 0, none⟩ = some (.pointer (some ⟨b, 0, none⟩)) := by rw [Lib.cell_of_heap hb2]; rfl
  have d1 : w2.cell? ⟨b, 1, none⟩ = some v := by rw [Lib.cell_of_heap hb2]; rfl
  have f1 : w2.frozen? ⟨b, 1, none⟩ = false := Lib.frozen_of_heap hb2 1
  obtain ⟨ao, n', cap, rfl⟩ : ∃ ao n' cap, v' = .slice ao n' cap := by
    obtain ⟨A, c, hv, _⟩ := own_shape hown'
    exact ⟨_, _, _, hv⟩
  have HP := Lib.hid (Lib.BuilderAt.put (T := 47) (e := 5) hB hb2 (bs' := bs ++ Lib.strCells s) (by simpa [Lib.strCells_length] using hown') (by decide))
  have HB := Lib.hid ((Hb1.out.grown hgrow (by have := Hb1.out.size; omega) (fun k hk => (Hown.out.lt k hk).1)).setCell (p := ⟨b, 1, none⟩) hB (.slice ao n' cap))
  have HK := Lib.hid ((Hk1.out.grown hgrow (own_kind Hown.out)).setCell ⟨b, 1, none⟩ rfl (.slice ao n' cap))
  clear hown' hgrow
  go_wp2
  go_ret2
  exact ⟨⟨_, rfl⟩, HP.out, HB.out, HK.out⟩
end Go.Proofs.YtjkakemlhhieoaaGreatDoor

/- strings.Builder's Grow at a builder that was not written yet. -/
namespace Go.Proofs.YtjkakemlhhieoaaGreatDoor
open Go.RowKit Go.Lib

set_option maxHeartbeats 2000000 in
set_option maxRecDepth 1000000 in
theorem bgrow_any (B n : Nat) (w : World) (hbk : w.heap[B]? = some (.cells #[.pointer none, .slice none 0 0] 47 (0, 0))) (hB : B ≤ B) (hBw : B ≤ w.heap.size) (hn : n ≤ 281474976710656) :
    Calls Tryz.prog 41 #[.pointer (some ⟨B, 0, none⟩), .int .i64 n] w fun e w' => e = .returned (.tuple #[]) ∧ Lib.BuilderAt 47 5 B B (.pointer (some ⟨B, 0, none⟩)) [] w' ∧ Below B w w' := by
  obtain ⟨W, hW⟩ : ∃ W, w.setCell ⟨B, 0, none⟩ (.pointer (some ⟨B, 0, none⟩)) = W := ⟨_, rfl⟩
  have hbk1 : W.heap[B]? = some (.cells #[.pointer (some ⟨B, 0, none⟩), .slice none 0 0] 47 (0, 0)) := by
    rw [← hW]; simp [World.setCell, Array.getElem?_modify, hbk]
  have c1 : W.cell? ⟨B, 1, none⟩ = some (.slice none 0 0) := by rw [Lib.cell_of_heap hbk1]; rfl
  have c1' : W.drew.cell? ⟨B, 1, none⟩ = some (.slice none 0 0) := c1
  have hb1 : Below B w W := by rw [← hW]; exact (Below.refl B w).setCell (p := ⟨B, 0, none⟩) (Nat.le_refl _) _
  have hsz : B ≤ W.heap.size := by have := (Array.getElem?_eq_some_iff.1 hbk1).1; omega
  have hU : Lib.BuilderAt 47 5 B B (.pointer (some ⟨B, 0, none⟩)) [] W := ⟨Nat.le_refl _, .slice none 0 0, hbk1, World.ownsRow_nil _ _ _ _, by simp [Value.ownBlock]⟩
  have HC := Lib.hid (bcheck_fresh B w (by rw [Lib.cell_of_heap hbk]; rfl) (by simp [World.shape?, hbk]) (Lib.frozen_of_heap hbk 0))
  rw [hW] at HC
  have HG := Lib.hid (Tryz.Builder_grow_fresh B B n W.drew (Nat.le_refl _) hbk1 hsz hn)
  have HU := Lib.hid hU
  have Hb1 := Lib.hid hb1
  have hn0 : ¬ ((n : Int) < 0) := by omega
  clear hW hbk hbk1 hU hb1
  go_enter Tryz.func41, Tryz.ntmps41
  go_wp2_with fail
  refine HC.out.mono ?_
  rintro _ _ ⟨rfl, rfl⟩
  go_wp2_with fail
  go_region
  all_goals go_wp2_with fail
  all_goals first
    | (refine HG.out.mono ?_; rintro _ w2 ⟨rfl, h1, h2⟩; go_wp2_with fail; go_end0; exact ⟨rfl, h1, Hb1.out.drew.trans h2⟩)
    | (go_end0; exact ⟨rfl, HU.out.drew, Hb1.out.drew⟩)
end Go.Proofs.YtjkakemlhhieoaaGreatDoor

/- The table of fold.pairs, as the card's condition lays it: its cells. -/
namespace Go.Proofs.YtjkakemlhhieoaaGreatDoor
open Go.RowKit Go.Lib

/-- a row's four numbers, in the order of the program's struct -/
def rowZ (x : RowF) : List Int := [x.1, x.2.1, x.2.2.1, x.2.2.2]
/-- the table's rows lie one behind the other -/
def RowsAt (w : World) (a : Addr) : Prop := ∀ i x, rowsF[i]? = some x → ∀ j z, (rowZ x)[j]? = some z → w.cell? ((a.add (i * 4)).add j) = some (.int .i32 z)
def PairV (w : World) : Prop := ∃ a, w.cell? ⟨0, 0, none⟩ = some (.slice (some a) 24 24) ∧ RowsAt w a
def pairsData : DataW Unit := .slice (rowsF.map fun x => .agg ((rowZ x).map fun z => .lit (.int .i32 z))) []
theorem pairV_of_reads {w : World} (h : VarReads Tryz.prog w "shuttle/fold.pairs" pairsData) : PairV w := by
  obtain ⟨g, t, cs, fuel, p, hg, hty, hvar, hd⟩ := h
  obtain rfl := Option.some.inj ((show Tryz.prog.globalNamed "shuttle/fold.pairs" = some 0 by kernel_rfl).symm.trans hg)
  obtain rfl := Option.some.inj ((show (Tryz.prog.globals[0]?).map (·.type) = some 66 by kernel_rfl).symm.trans hty)
  have hc4 : Tryz.prog.cellsOf 68 = 4 := by kernel_rfl
  have hc1 : Tryz.prog.cellsOf 21 = 1 := by kernel_rfl
  rcases DataW.trod_slice Tryz.underlying66 hd with ⟨_, hx'⟩ | ⟨a', len, cap, el, rs, m, rfl, hcs, hx', _, hlc, _, hel, helem, hsp, _⟩
  · cases hx'
  unfold pairsData at hx'
  simp only [Prod.mk.injEq, DataW.slice.injEq] at hx'
  obtain ⟨⟨eE, eR⟩, _⟩ := hx'
  have hlen : len = 24 := by
    have := congrArg List.length eE
    simp only [List.length_map] at this
    rw [← hel, ← this]; rfl
  have hrs : rs = [] := List.map_eq_nil_iff.1 eR.symm
  have hcap : cap = 24 := by
    have := (hsp rfl).1
    rw [hrs] at this
    simp at this
    omega
  subst hlen; subst hcap
  refine ⟨a', ?_, ?_⟩
  · rw [World.var?_cell hg hvar 0, ← Array.getElem?_toList, hcs]
    rfl
  · intro i x hx j z hz
    have hi : i < 24 := (List.getElem?_eq_some_iff.1 hx).1
    have h1 := helem i hi
    rw [hc4] at h1
    obtain ⟨b, hb⟩ : ∃ b, el[i]? = some b := ⟨el[i]'(by omega), List.getElem?_eq_getElem (by omega)⟩
    rw [hb] at h1
    obtain ⟨ce, hce, hte⟩ := Option.bind_eq_some_iff.1 h1
    have hb1 : b.1 = .agg ((rowZ x).map fun z => .lit (.int .i32 z)) := by
      have := congrArg (·[i]?) eE
      simp only [List.getElem?_map, hx, hb, Option.map_some, Option.some.injEq] at this
      exact this.symm
    have hcs := ints_of_struct (p := b.2) Tryz.underlying68 (fun q f hq => by
      match q, hq with
      | 0, hq => simp at hq; subst hq; exact ⟨Tryz.underlying21, rfl, hc1⟩
      | 1, hq => simp at hq; subst hq; exact ⟨Tryz.underlying21, rfl, hc1⟩
      | 2, hq => simp at hq; subst hq; exact ⟨Tryz.underlying21, rfl, hc1⟩
      | 3, hq => simp at hq; subst hq; exact ⟨Tryz.underlying21, rfl, hc1⟩
      | q + 4, hq => simp at hq) (by rw [hc4]; rfl) (by rw [← hb1]; exact hte)
    obtain ⟨_, _, hcc⟩ := World.cells?_some hce
    have hj : j < 4 := by have := (List.getElem?_eq_some_iff.1 hz).1; simpa [rowZ] using this
    rw [hcc j hj, hcs, List.getElem?_map, hz]
    rfl
theorem PairV.below {w w' : World} (h : PairV w) (hb : Below w.heap.size w w') : PairV w' := by
  obtain ⟨a, h1, h2⟩ := h
  refine ⟨a, (hb.cell (World.block_lt_of_cell? w _ h1)).trans h1, fun i x hx j z hz => ?_⟩
  have := h2 i x hx j z hz
  exact (hb.cell (World.block_lt_of_cell? w _ this)).trans this
/-- what all of fold's functions ask of memory -/
def Env5 (w : World) : Prop := Utf8Tabs 2 3 w ∧ PairV w
theorem Env5.below {w w' : World} (h : Env5 w) (hb : Below w.heap.size w w') : Env5 w' := ⟨Utf8Tabs_below h.1 hb, h.2.below hb⟩
end Go.Proofs.YtjkakemlhhieoaaGreatDoor

/- fold's Small and Great, over the table. -/
namespace Go.Proofs.YtjkakemlhhieoaaGreatDoor
open Go.RowKit Go.Lib

theorem ret_i32 {a b : Int} (h : a = b) : Ending.returned (.int .i32 a) = .returned (.int .i32 b) := by rw [h]
theorem ret_b {a b : Bool} (h : a = b) : Ending.returned (.bool a) = .returned (.bool b) := by rw [h]
theorem rows_bounds : (rowsF.all fun x => decide (65 ≤ x.1 ∧ x.1 ≤ 65338 ∧ 65 ≤ x.2.1 ∧ x.2.1 ≤ 65338 ∧ 1 ≤ x.2.2.1 ∧ x.2.2.1 ≤ 2 ∧ -121 ≤ x.2.2.2 ∧ x.2.2.2 ≤ 80)) = true := by decide +kernel
theorem row_bounds {x : RowF} (h : x ∈ rowsF) : 65 ≤ x.1 ∧ x.1 ≤ 65338 ∧ 65 ≤ x.2.1 ∧ x.2.1 ≤ 65338 ∧ 1 ≤ x.2.2.1 ∧ x.2.2.1 ≤ 2 ∧ -121 ≤ x.2.2.2 ∧ x.2.2.2 ≤ 80 := of_decide_eq_true (List.all_eq_true.1 rows_bounds x h)

set_option maxHeartbeats 1000000 in
set_option maxRecDepth 100000 in
theorem has_any (x1 x2 x3 x4 r : Int) (h1 : 0 ≤ x1) (h2 : x1 ≤ 65535) (h3 : 0 ≤ x2) (h4 : x2 ≤ 65535) (h5 : x3 = 1 ∨ x3 = 2) (w : World) :
    Calls Tryz.prog 57 #[.agg #[.int .i32 x1, .int .i32 x2, .int .i32 x3, .int .i32 x4], .int .i32 r] w fun e w' => e = .returned (.bool (hasF (x1, x2, x3, x4) r)) ∧ Below w.heap.size w w' := by
  obtain ⟨W, hW⟩ : ∃ W, w.alloc (.cells #[.int .i32 x1, .int .i32 x2, .int .i32 x3, .int .i32 x4] 68) = W := ⟨_, rfl⟩
  have hWX : W.heap[w.heap.size]? = some (.cells #[.int .i32 x1, .int .i32 x2, .int .i32 x3, .int .i32 x4] 68 (0, 0)) := by rw [← hW]; exact (MapKept.heap_alloc _ _).1
  have c0 : W.cell? ⟨w.heap.size, 0, none⟩ = some (.int .i32 x1) := by simp [World.cell?, hWX]
  have c1 : W.cell? ⟨w.heap.size, 1, none⟩ = some (.int .i32 x2) := by simp [World.cell?, hWX]
  have c2 : W.cell? ⟨w.heap.size, 2, none⟩ = some (.int .i32 x3) := by simp [World.cell?, hWX]
  have hb : Below w.heap.size w W := by rw [← hW]; exact (Below.refl _ w).alloc (Nat.le_refl _) _
  have HW := Lib.hid hW
  have Hb := Lib.hid hb
  clear hWX hW hb
  unfold hasF
  by_cases a : x1 ≤ r
  · have a1 : decide (x1 ≤ r) = true := decide_eq_true a
    by_cases b : r ≤ x2
    · have b1 : decide (r ≤ x2) = true := decide_eq_true b
      have hw : IntKind.i32.wrap (r - x1) = r - x1 := by rw [IntKind.wrap_i32]; omega
      have hz : (x3 == 0) = false := by rcases h5 with rfl | rfl <;> rfl
      have hq : IntKind.i32.wrap ((r - x1).tmod x3) = (r - x1).tmod x3 := by
        rw [IntKind.wrap_i32, Int.tmod_eq_emod_of_nonneg (by omega)]
        rcases h5 with rfl | rfl <;> omega
      show Calls _ _ _ _ fun e w' => e = .returned (.bool (decide (x1 ≤ r) && (decide (r ≤ x2) && decide ((r - x1).tmod x3 = 0)))) ∧ _
      rw [a1, b1, Bool.true_and, Bool.true_and]
      go_enter Tryz.func57, Tryz.ntmps57
      go_wp2_with fail
      rw [HW.out]
      go_wp2_with fail
      go_ret
      exact ⟨ret_b (by rw [Int.tmod_eq_emod_of_nonneg (by omega)]; rfl), Hb.out⟩
    · have b1 : decide (r ≤ x2) = false := decide_eq_false b
      show Calls _ _ _ _ fun e w' => e = .returned (.bool (decide (x1 ≤ r) && (decide (r ≤ x2) && decide ((r - x1).tmod x3 = 0)))) ∧ _
      rw [a1, b1, Bool.true_and, Bool.false_and]
      go_enter Tryz.func57, Tryz.ntmps57
      go_wp2_with fail
      rw [HW.out]
      go_wp2_with fail
      go_ret
      exact ⟨rfl, Hb.out⟩
  · have a1 : decide (x1 ≤ r) = false := decide_eq_false a
    show Calls _ _ _ _ fun e w' => e = .returned (.bool (decide (x1 ≤ r) && (decide (r ≤ x2) && decide ((r - x1).tmod x3 = 0)))) ∧ _
    rw [a1, Bool.false_and]
    go_enter Tryz.func57, Tryz.ntmps57
    go_wp2_with fail
    rw [HW.out]
    go_wp2_with fail
    go_ret
    exact ⟨rfl, Hb.out⟩
end Go.Proofs.YtjkakemlhhieoaaGreatDoor

/- fold's Small and Great, walked over the table. -/
namespace Go.Proofs.YtjkakemlhhieoaaGreatDoor
open Go.RowKit Go.Lib

theorem pair_row {w : World} {a : Addr} (h : RowsAt w a) {k : Nat} {x : RowF} (hx : rowsF[k]? = some x) :
    w.cell? (a.add (k * 4)) = some (.int .i32 x.1) ∧ w.cell? ⟨(a.add (k * 4)).block, (a.add (k * 4)).off + 1, none⟩ = some (.int .i32 x.2.1) ∧ w.cell? ⟨(a.add (k * 4)).block, (a.add (k * 4)).off + 2, none⟩ = some (.int .i32 x.2.2.1) ∧ w.cell? ⟨(a.add (k * 4)).block, (a.add (k * 4)).off + 3, none⟩ = some (.int .i32 x.2.2.2) := by
  have h0 := h k x hx 0 _ rfl
  have h1 := h k x hx 1 _ rfl
  have h2 := h k x hx 2 _ rfl
  have h3 := h k x hx 3 _ rfl
  refine ⟨by simpa [Addr.add] using h0, by simpa [Addr.add] using h1, by simpa [Addr.add] using h2, by simpa [Addr.add] using h3⟩
theorem smallL_drop {k : Nat} {x : RowF} (hx : rowsF[k]? = some x) (r : Int) : smallL (rowsF.drop k) r = (bif hasF x r then r + x.2.2.2 else smallL (rowsF.drop (k + 1)) r) := by
  obtain ⟨hk, e⟩ := List.getElem?_eq_some_iff.1 hx
  rw [List.drop_eq_getElem_cons hk, e, smallL]
theorem greatL_drop {k : Nat} {x : RowF} (hx : rowsF[k]? = some x) (r : Int) : greatL (rowsF.drop k) r = (bif hasF x (r - x.2.2.2) then r - x.2.2.2 else greatL (rowsF.drop (k + 1)) r) := by
  obtain ⟨hk, e⟩ := List.getElem?_eq_some_iff.1 hx
  rw [List.drop_eq_getElem_cons hk, e, greatL]
theorem has_range {x : RowF} (h : x ∈ rowsF) {r : Int} (hr : hasF x r = true) : 65 ≤ r ∧ r ≤ 65338 := by
  have := row_bounds h
  unfold hasF at hr
  simp only [Bool.and_eq_true, decide_eq_true_eq] at hr
  omega
/-- where the subtraction wraps round, no row has it -/
theorem has_wrap {x : RowF} (h : x ∈ rowsF) {r : Int} (h0 : -2147483648 ≤ r) (h1 : r ≤ 2147483647) : hasF x (IntKind.i32.wrap (r - x.2.2.2)) = hasF x (r - x.2.2.2) ∧ (hasF x (r - x.2.2.2) = true → IntKind.i32.wrap (r - x.2.2.2) = r - x.2.2.2) := by
  have hb := row_bounds h
  by_cases c : -2147483648 ≤ r - x.2.2.2 ∧ r - x.2.2.2 ≤ 2147483647
  · have e : IntKind.i32.wrap (r - x.2.2.2) = r - x.2.2.2 := by rw [IntKind.wrap_i32]; omega
    exact ⟨by rw [e], fun _ => e⟩
  · have n1 : hasF x (r - x.2.2.2) = false := by
      cases hh : hasF x (r - x.2.2.2) with
      | false => rfl
      | true => have := has_range h hh; omega
    have n2 : hasF x (IntKind.i32.wrap (r - x.2.2.2)) = false := by
      cases hh : hasF x (IntKind.i32.wrap (r - x.2.2.2)) with
      | false => rfl
      | true => have := has_range h hh; rw [IntKind.wrap_i32] at this; omega
    exact ⟨by rw [n1, n2], fun e => by rw [n1] at e; cases e⟩

set_option maxHeartbeats 2000000 in
set_option maxRecDepth 100000 in
theorem Small_any (x : Int) (hx0 : -2147483648 ≤ x) (hx1 : x ≤ 2147483647) (w : World) (hP : PairV w) : Calls Tryz.prog 34 #[.int .i32 x] w fun e w' => e = .returned (.int .i32 (smallF x)) ∧ Below w.heap.size w w' := by
  obtain ⟨a, hg, hrows⟩ := hP
  obtain ⟨B, hB⟩ : ∃ B, w.heap.size = B := ⟨_, rfl⟩
  obtain ⟨R, hR⟩ : ∃ R, smallF x = R := ⟨_, rfl⟩
  have hga : (⟨0, 0, none⟩ : Addr).block < B := by rw [← hB]; exact World.block_lt_of_cell? w _ hg
  have hall : ∀ wr, Below B w wr → RowsAt wr a := fun wr hb i y hy j z hz => by
    have := hrows i y hy j z hz
    exact (hb.cell (by rw [← hB]; exact World.block_lt_of_cell? w _ this)).trans this
  have HR := Lib.hid hR
  have Hall := Lib.hid hall
  rw [hR]
  rw [hB]
  clear hR hrows hall
  have HB := Lib.hid hB
  clear hB hga
  go_enter Tryz.func34, Tryz.ntmps34
  go_wp2_with fail
  go_loopw [7] (fun i wr => ∃ k : Nat, k ≤ 24 ∧ i = .int .i64 (k : Int) ∧ Below B w wr ∧ Hid (smallL (rowsF.drop k) x = R)) (fun i _ => 24 - (RowKit.intOf i).toNat)
  case atStart => exact ⟨0, Nat.zero_le _, rfl, Below.refl _ _, HR.out⟩
  case round =>
    obtain ⟨k, hk, rfl, hbw, hrun⟩ := hrel
    by_cases hkn : k < 24
    · have hki : (k : Int) < 24 := by omega
      obtain ⟨y, hy⟩ : ∃ y, rowsF[k]? = some y := ⟨_, List.getElem?_eq_getElem (show k < rowsF.length from hkn)⟩
      obtain ⟨c0, c1, c2, c3⟩ := pair_row (Hall.out wr hbw) hy
      have hm : y ∈ rowsF := List.mem_of_getElem? hy
      have hbd := row_bounds hm
      have hsd := smallL_drop hy x
      obtain ⟨V, hV⟩ : ∃ V, wr.alloc (.cells #[.int .i32 y.1, .int .i32 y.2.1, .int .i32 y.2.2.1, .int .i32 y.2.2.2] 68) = V := ⟨_, rfl⟩
      have hVX : V.heap[wr.heap.size]? = some (.cells #[.int .i32 y.1, .int .i32 y.2.1, .int .i32 y.2.2.1, .int .i32 y.2.2.2] 68 (0, 0)) := by rw [← hV]; exact (MapKept.heap_alloc _ _).1
      have hbs : B ≤ wr.heap.size := by have := hbw.size; have := HB.out; omega
      have hVb : Below B w V := by rw [← hV]; exact hbw.alloc hbs _
      have hVs : B ≤ V.heap.size := by have := hVb.size; have := HB.out; omega
      have v0 : V.cell? ⟨wr.heap.size, 0, none⟩ = some (.int .i32 y.1) := by simp [World.cell?, hVX]
      have v1 : V.cell? ⟨wr.heap.size, 1, none⟩ = some (.int .i32 y.2.1) := by simp [World.cell?, hVX]
      have v2 : V.cell? ⟨wr.heap.size, 2, none⟩ = some (.int .i32 y.2.2.1) := by simp [World.cell?, hVX]
      have v3 : V.cell? ⟨wr.heap.size, 3, none⟩ = some (.int .i32 y.2.2.2) := by simp [World.cell?, hVX]
      obtain ⟨y1, y2, y3, y4⟩ := y
      simp only at c0 c1 c2 c3 hbd hsd hV hVX v0 v1 v2 v3
      have hlt : wr.heap.size < V.heap.size := (Array.getElem?_eq_some_iff.1 hVX).1
      have hwr : hasF (y1, y2, y3, y4) x = true → IntKind.i32.wrap (x + y4) = x + y4 := fun h => by
        have := has_range hm h
        rw [IntKind.wrap_i32]; omega
      have HH := Lib.hid (has_any y1 y2 y3 y4 x (by omega) (by omega) (by omega) (by omega) (by omega) V)
      have HV := Lib.hid hV
      have Hsd := Lib.hid hsd
      have HVb := Lib.hid hVb
      clear hV hsd hVb hVX hm hy hbw
      cases hh : hasF (y1, y2, y3, y4) x with
      | true =>
        rw [hh] at HH Hsd
        have hwx := hwr hh
        clear hwr hh
        go_wp2_with fail
        rw [HV.out]
        go_wp2_with fail
        refine HH.out.mono ?_
        rintro _ w2 ⟨rfl, b2⟩
        have v3' := (b2.cell (p := ⟨wr.heap.size, 3, none⟩) hlt).trans v3
        have HB2 := Lib.hid (HVb.out.trans (b2.mono hVs))
        clear b2 v0 v1 v2 v3
        go_wp2_with fail
        go_ret
        refine ⟨ret_i32 ?_, HB2.out⟩
        rw [← hrun.out, Hsd.out]; rfl
      | false =>
        rw [hh] at HH Hsd
        clear hwr hh
        go_wp2_with fail
        rw [HV.out]
        go_wp2_with fail
        refine HH.out.mono ?_
        rintro _ w2 ⟨rfl, b2⟩
        have HB2 := Lib.hid (HVb.out.trans (b2.mono hVs))
        clear b2 v0 v1 v2 v3
        go_wp2_with fail
        go_roundw
        case rel => exact ⟨k + 1, by omega, by go_num, HB2.out, Hsd.out.symm.trans hrun.out⟩
        case measure => simp [RowKit.intOf]; omega
    · obtain rfl : k = 24 := by omega
      have Hb := Lib.hid hbw
      clear hbw
      go_wp2_with fail
      go_ret
      exact ⟨ret_i32 hrun.out, Hb.out⟩

set_option maxHeartbeats 2000000 in
set_option maxRecDepth 100000 in
theorem Great_any (x : Int) (hx0 : -2147483648 ≤ x) (hx1 : x ≤ 2147483647) (w : World) (hP : PairV w) : Calls Tryz.prog 33 #[.int .i32 x] w fun e w' => e = .returned (.int .i32 (greatF x)) ∧ Below w.heap.size w w' := by
  by_cases hs : x = 962
  · subst hs
    clear hP hx0 hx1
    go_enter Tryz.func33, Tryz.ntmps33
    go_wp2_with fail
    go_ret
    exact ⟨rfl, Below.refl _ _⟩
  have hx962 : (x == 962) = false := by simpa using hs
  have hgF : greatF x = greatL rowsF x := by unfold greatF; rw [decide_eq_false hs]; rfl
  rw [hgF]
  clear hs hgF
  obtain ⟨a, hg, hrows⟩ := hP
  obtain ⟨B, hB⟩ : ∃ B, w.heap.size = B := ⟨_, rfl⟩
  obtain ⟨R, hR⟩ : ∃ R, greatL rowsF x = R := ⟨_, rfl⟩
  have hall : ∀ wr, Below B w wr → RowsAt wr a := fun wr hb i y hy j z hz => by
    have := hrows i y hy j z hz
    exact (hb.cell (by rw [← hB]; exact World.block_lt_of_cell? w _ this)).trans this
  have HR := Lib.hid hR
  have Hall := Lib.hid hall
  rw [hR]
  rw [hB]
  clear hR hrows hall
  have HB := Lib.hid hB
  clear hB
  go_enter Tryz.func33, Tryz.ntmps33
  go_wp2_with fail
  go_loopw [10] (fun i wr => ∃ k : Nat, k ≤ 24 ∧ i = .int .i64 (k : Int) ∧ Below B w wr ∧ Hid (greatL (rowsF.drop k) x = R)) (fun i _ => 24 - (RowKit.intOf i).toNat)
  case atStart => exact ⟨0, Nat.zero_le _, rfl, Below.refl _ _, HR.out⟩
  case round =>
    obtain ⟨k, hk, rfl, hbw, hrun⟩ := hrel
    by_cases hkn : k < 24
    · have hki : (k : Int) < 24 := by omega
      obtain ⟨y, hy⟩ : ∃ y, rowsF[k]? = some y := ⟨_, List.getElem?_eq_getElem (show k < rowsF.length from hkn)⟩
      obtain ⟨c0, c1, c2, c3⟩ := pair_row (Hall.out wr hbw) hy
      have hm : y ∈ rowsF := List.mem_of_getElem? hy
      have hbd := row_bounds hm
      have hsd := greatL_drop hy x
      have hwp := has_wrap hm hx0 hx1
      obtain ⟨V, hV⟩ : ∃ V, wr.alloc (.cells #[.int .i32 y.1, .int .i32 y.2.1, .int .i32 y.2.2.1, .int .i32 y.2.2.2] 68) = V := ⟨_, rfl⟩
      have hVX : V.heap[wr.heap.size]? = some (.cells #[.int .i32 y.1, .int .i32 y.2.1, .int .i32 y.2.2.1, .int .i32 y.2.2.2] 68 (0, 0)) := by rw [← hV]; exact (MapKept.heap_alloc _ _).1
      have hbs : B ≤ wr.heap.size := by have := hbw.size; have := HB.out; omega
      have hVb : Below B w V := by rw [← hV]; exact hbw.alloc hbs _
      have hVs : B ≤ V.heap.size := by have := hVb.size; have := HB.out; omega
      have v0 : V.cell? ⟨wr.heap.size, 0, none⟩ = some (.int .i32 y.1) := by simp [World.cell?, hVX]
      have v1 : V.cell? ⟨wr.heap.size, 1, none⟩ = some (.int .i32 y.2.1) := by simp [World.cell?, hVX]
      have v2 : V.cell? ⟨wr.heap.size, 2, none⟩ = some (.int .i32 y.2.2.1) := by simp [World.cell?, hVX]
      have v3 : V.cell? ⟨wr.heap.size, 3, none⟩ = some (.int .i32 y.2.2.2) := by simp [World.cell?, hVX]
      obtain ⟨y1, y2, y3, y4⟩ := y
      simp only at c0 c1 c2 c3 hbd hsd hwp hV hVX v0 v1 v2 v3
      obtain ⟨z, hz⟩ : ∃ z, IntKind.i32.wrap (x - y4) = z := ⟨_, rfl⟩
      rw [hz] at hwp
      have HH := Lib.hid (has_any y1 y2 y3 y4 z (by omega) (by omega) (by omega) (by omega) (by omega) V)
      rw [hwp.1] at HH
      have HV := Lib.hid hV
      have Hsd := Lib.hid hsd
      have HVb := Lib.hid hVb
      clear hV hsd hVb hVX hm hy hbw
      cases hh : hasF (y1, y2, y3, y4) (x - y4) with
      | true =>
        rw [hh] at HH Hsd
        have hzx : z = x - y4 := hwp.2 hh
        have Hzx := Lib.hid hzx
        clear hwp hh hzx
        go_wp2_with fail
        rw [HV.out]
        go_wp2_with fail
        refine HH.out.mono ?_
        rintro _ w2 ⟨rfl, b2⟩
        have HB2 := Lib.hid (HVb.out.trans (b2.mono hVs))
        clear b2 v0 v1 v2 v3
        go_wp2_with fail
        go_ret
        refine ⟨ret_i32 ?_, HB2.out⟩
        rw [Hzx.out, ← hrun.out, Hsd.out]; rfl
      | false =>
        rw [hh] at HH Hsd
        clear hwp hh
        go_wp2_with fail
        rw [HV.out]
        go_wp2_with fail
        refine HH.out.mono ?_
        rintro _ w2 ⟨rfl, b2⟩
        have HB2 := Lib.hid (HVb.out.trans (b2.mono hVs))
        clear b2 v0 v1 v2 v3
        go_wp2_with fail
        go_roundw
        case rel => exact ⟨k + 1, by omega, by go_num, HB2.out, Hsd.out.symm.trans hrun.out⟩
        case measure => simp [RowKit.intOf]; omega
    · obtain rfl : k = 24 := by omega
      have Hb := Lib.hid hbw
      clear hbw
      go_wp2_with fail
      go_ret
      exact ⟨ret_i32 hrun.out, Hb.out⟩
end Go.Proofs.YtjkakemlhhieoaaGreatDoor

/- beginsWithLetter, over any iterator that goes over a list; endsInWord. -/
namespace Go.Proofs.YtjkakemlhhieoaaGreatDoor
open Go.RowKit Go.Shelf Go.Lib
attribute [local go_sem] Oper.semAt_some

theorem begins_pre {pre : List (Nat × Nat)} (h : ∀ x ∈ pre, kind5 (x.2 : Int) = 2) (t : List (Nat × Nat)) : beginsR kind5 (numsI (pre ++ t)) = beginsR kind5 (numsI t) := by
  induction pre with
  | nil => rfl
  | cons x p ih =>
    show beginsR kind5 ((x.2 : Int) :: numsI (p ++ t)) = _
    rw [beginsR, if_pos (h x List.mem_cons_self), ih fun y hy => h y (List.mem_cons_of_mem _ hy)]
theorem begins_here {pre L : List (Nat × Nat)} {x : Nat × Nat} (h : ∀ x ∈ pre, kind5 (x.2 : Int) = 2) (hs : pre ++ [x] <+: L) (hx : kind5 (x.2 : Int) ≠ 2) : beginsR kind5 (numsI L) = decide (kind5 (x.2 : Int) = 3) := by
  obtain ⟨t, rfl⟩ := hs
  rw [List.append_assoc, begins_pre h]
  show beginsR kind5 ((x.2 : Int) :: numsI t) = _
  rw [beginsR, if_neg hx]
theorem begins_done {L : List (Nat × Nat)} (h : ∀ x ∈ L, kind5 (x.2 : Int) = 2) : beginsR kind5 (numsI L) = false := by
  have := begins_pre h []
  rw [List.append_nil] at this
  exact this

set_option maxRecDepth 100000 in
set_option maxHeartbeats 4000000 in
theorem begins5_any (gf : Nat) (lb : Array Value) (L : List (Nat × Nat)) (w : World)
    (hgf : ∀ args w, (callFunc gf args).run Tryz.prog w = .ok (.enter gf args) w)
    (hseq : ∀ W, Below w.heap.size w W → SeqT Fence.wide 8 Tryz.prog gf lb encPlace (fun ys => ys = L) (fun pre => pre <+: L) L.length w.heap.size W) :
    Calls Tryz.prog 47 #[.func (.func gf) #[] lb] w fun e w' => e = .returned (.bool (beginsR kind5 (numsI L))) ∧ Below w.heap.size w w' := by
  obtain ⟨B, hB⟩ : ∃ B, w.heap.size = B := ⟨_, rfl⟩
  obtain ⟨R, hR⟩ : ∃ R, beginsR kind5 (numsI L) = R := ⟨_, rfl⟩
  rw [hB] at hseq ⊢
  rw [hR]
  have Hseq := Lib.hid hseq
  have HR := Lib.hid hR
  clear hseq hR
  refine (callsIn_wide (n := 9)).1 ?_
  refine callsIn_of_wp_marks Tryz.func47 rfl trivial ?_ rfl
  refine wpIn_wide.2 ?_
  simp only [Tryz.ntmps47, List.size_toArray, List.length_cons, List.length_nil, Nat.reduceAdd, Nat.reduceSub, Array.replicate_succ, Array.replicate_zero, List.push_toArray, List.append_toArray, List.nil_append, List.cons_append]
  go_wp2_with fail
  obtain ⟨Wa, hWa⟩ : ∃ Wa, w.alloc (.cells #[.bool false] 4) = Wa := ⟨_, rfl⟩
  have hsz : Wa.heap.size = B + 1 := by rw [← hWa]; simp [hB]
  have b0 : Boxed Wa B 4 (.bool false) := by rw [← hWa]; simp only [Boxed, alloc_get, hB]; simp
  have hBa : Below B w Wa := by rw [← hWa]; exact (Below.refl B w).alloc (by omega) _
  rw [hWa]
  clear hWa
  refine (wpIn_wide (n := 9)).1 ?_
  refine range_T1 rfl (by omega) (gf := gf) (lb := lb) rfl trivial hgf (Hseq.out Wa hBa) (Below.refl _ _) (by omega) (fun _ => rfl)
    (fun pre T W => (Boxed W B 4 (.bool false) ∧ ∀ x ∈ pre, kind5 (x.2 : Int) = 2) ∧ Below B Wa W)
    (fun c _ T W => (c = .ret ∧ Boxed W B 4 (.bool R)) ∧ Below B Wa W)
    ?hI ?hIx
    ⟨⟨b0, fun _ h => by cases h⟩, Below.refl _ _⟩
    ?a1 ?assign ?body ?done ?stop
  case assign =>
    intro l x W K hK
    gi_wp2
    exact hK
  case hI =>
    rintro pre T T' W1 W2 ⟨⟨h1, h2⟩, hb⟩ hT hm hg
    have hn : ∀ k, k < B + 1 → ¬ T k := fun k hk e => by have := (hT _ e).1; omega
    exact ⟨⟨(hm.block _ h1.lt (hn _ (by omega))).trans h1, h2⟩, hb.trans ⟨hm.os, hm.tape, hm.output, hm.size, fun k hk => hm.block k (by have := hb.size; omega) (hn _ (by omega))⟩⟩
  case hIx =>
    rintro cd pre T T' W1 W2 ⟨⟨rfl, h4⟩, hb⟩ hT hm hg
    have hn : ∀ k, k < B + 1 → ¬ T k := fun k hk e => by have := (hT _ e).1; omega
    exact ⟨⟨rfl, (hm.block _ h4.lt (hn _ (by omega))).trans h4⟩, hb.trans ⟨hm.os, hm.tape, hm.output, hm.size, fun k hk => hm.block k (by have := hb.size; omega) (hn _ (by omega))⟩⟩
  case body =>
    rintro l pre x T W hl hT hr ⟨⟨h1, h2⟩, hb⟩ hlen hsp
    have hnT : ∀ k, k < B + 1 → ¬ T k := fun k hk e => by have := (hT _ e).1; omega
    have HK := Lib.hid (Kind_any (x.2 : Int) W)
    have H1 := Lib.hid h1
    have Hb := Lib.hid hb
    clear h1 hb
    have hBs : B < W.heap.size := H1.out.lt
    gi_wp2
    refine ⟨trivial, (CallsIn.inRound l (callsIn_wide.2 HK.out)).mono ?_⟩
    rintro _ W2 ⟨rfl, hb2⟩
    have h12 : Boxed W2 B 4 (.bool false) := (hb2.block _ hBs).trans H1.out
    have c1 := h12.cell
    have c1f := h12.frozen
    have Hb2 := Lib.hid hb2
    have H12 := Lib.hid h12
    have HB2 := Lib.hid (Hb.out.trans (hb2.mono (by omega)))
    clear hb2 h12
    have hkd : (cls kindsL (char (x.2 : Int)) : Nat) = kind5 (x.2 : Int) := rfl
    rw [hkd]
    by_cases hk : kind5 (x.2 : Int) = 2
    · have hk2 : ((kind5 (x.2 : Int) : Int) != 2) = false := by rw [hk]; rfl
      have Hk := Lib.hid hk
      clear hk
      gi_wp2
      refine ⟨KeepT.of_below _ _ Hb2.out, ⟨H12.out, fun y hy => ?_⟩, HB2.out⟩
      rcases List.mem_append.1 hy with hy | hy
      · exact h2 y hy
      · rw [List.mem_singleton.1 hy]; exact Hk.out
    · have hk2 : ((kind5 (x.2 : Int) : Int) != 2) = true := by simp; omega
      have hk3 : ((kind5 (x.2 : Int) : Int) == 3) = R := by
        rw [← HR.out, begins_here h2 hsp hk]
        by_cases h3 : kind5 (x.2 : Int) = 3
        · rw [h3]; rfl
        · rw [decide_eq_false h3]
          simp
          omega
      clear hk
      gi_wp2
      exact ⟨(KeepT.of_below _ _ Hb2.out).trans (KeepT.setCell B T W2 B _ (by omega) (hnT _ (by omega))), ⟨rfl, H12.out.set _⟩, HB2.out.setCell (p := ⟨B, 0, none⟩) (Nat.le_refl B) _⟩
  case done =>
    rintro D ys T W hD hT rfl ⟨⟨h1, h2⟩, hb⟩ hK
    have c4 := h1.cell
    have c4f := h1.frozen
    have hRf : R = false := by rw [← HR.out]; exact begins_done h2
    subst hRf
    have H4 := Lib.hid h1
    have HK := Lib.hid hK
    have Hb := Lib.hid hb
    clear h1 hK hb
    go_wp2
    have hD1 := hT D hD
    have hk' : (W.setCell ⟨B, 0, none⟩ (.bool false)).heap[D]? = some (.deferred (some [])) := (KeepsOthers.setCell _ _ _).same D _ HK.out rfl
    have hc7 := cell_kept (H4.out.set (.bool false)).cell (grownBy_putObj' _ D (.deferred none)) (fun r e => by cases e; exact ⟨_, hk', rfl⟩)
    refine ⟨by simp, .inl ⟨_, _, rfl, run_takeDeferred hk', ?_⟩⟩
    have hfb : Below B w (W.setCell ⟨B, 0, none⟩ (.bool false)) := (hBa.trans Hb.out).setCell (p := ⟨B, 0, none⟩) (Nat.le_refl B) _
    refine ⟨.bool false, ?_, rfl, hfb.trans (belowK_b (w := w) (by omega) _ D _ (.deferred none) (by omega) hk' rfl rfl)⟩
    simp [results, Tryz.f47, go_sem, hc7]
  case stop =>
    rintro D cd pre T W hD hT _ ⟨⟨rfl, h4⟩, hb⟩ hK
    have H4 := Lib.hid h4
    have HK := Lib.hid hK
    have Hb := Lib.hid hb
    clear h4 hK hb
    gi_wp2
    have hD1 := hT D hD
    have hc7 := cell_kept H4.out.cell (grownBy_putObj' _ D (.deferred none)) (fun r e => by cases e; exact ⟨_, HK.out, rfl⟩)
    refine ⟨by simp, .inl ⟨_, _, rfl, run_takeDeferred HK.out, ?_⟩⟩
    refine ⟨.bool R, ?_, rfl, (hBa.trans Hb.out).trans (belowK_b (w := w) (by omega) _ D _ (.deferred none) (by omega) HK.out rfl rfl)⟩
    simp [results, Tryz.f47, go_sem, hc7]

/-- of a text's characters, from the beginning -/
theorem begins_fore (s : ByteArray) (Bn : Nat) (w : World) (hBn : Bn < w.heap.size) (hc : w.cell? ⟨Bn, 0, none⟩ = some (.string s)) :
    Calls Tryz.prog 47 #[.func (.func 68) #[] #[.pointer (some ⟨Bn, 0, none⟩)]] w fun e w' => e = .returned (.bool (begins5 kind5 (items s.data.toList))) ∧ Below w.heap.size w w' := by
  rw [← begins_all]
  exact begins5_any _ _ _ w (enters_of Tryz.func68 (by kernel_rfl) rfl) (fun W hW => seqAll Fence.wide 8 trivial rfl (by omega) Bn _ s W hBn ((hW.cell (p := ⟨Bn, 0, none⟩) hBn).trans hc))
/-- from the end -/
theorem begins_rear (s : ByteArray) (Bn : Nat) (w : World) (hs : s.size ≤ maxLen) (hBn : Bn < w.heap.size) (hc : w.cell? ⟨Bn, 0, none⟩ = some (.string s)) (hT : Utf8Tabs 2 3 w) :
    Calls Tryz.prog 47 #[.func (.func 67) #[] #[.pointer (some ⟨Bn, 0, none⟩)]] w fun e w' => e = .returned (.bool (begins5 kind5 (items s.data.toList).reverse)) ∧ Below w.heap.size w w' := by
  rw [← begins_back]
  refine begins5_any _ _ _ w (enters_of Tryz.func67 (by kernel_rfl) rfl) (fun W hW => ?_)
  have h := seqBack 8 (by omega) Bn w.heap.size s W hBn (tabs_size hT) ((hW.cell (p := ⟨Bn, 0, none⟩) hBn).trans hc) hs (Utf8Tabs_below hT hW)
  rw [List.length_reverse]
  exact h

set_option maxRecDepth 100000 in
theorem endsInWord_any (s : ByteArray) (w : World) (hs : s.size ≤ maxLen) (hT : Utf8Tabs 2 3 w) : Calls Tryz.prog 26 #[.string s] w fun e w' => e = .returned (.bool (inWord5 kind5 (items s.data.toList).reverse)) ∧ Below w.heap.size w w' := by
  have HL := Lib.hid (last_any s w hs hT)
  have hI := inWord_last s.data.toList
  obtain ⟨d, hd⟩ : ∃ d, decodeLastL s.data.toList = d := ⟨_, rfl⟩
  rw [hd] at HL hI
  rw [← hI]
  have HK := Lib.hid (fun W => Kind_any (d.1 : Int) W)
  have hkd : (cls kindsL (char (d.1 : Int)) : Nat) = kind5 (d.1 : Int) := rfl
  rw [hkd] at HK
  unfold inWordR
  obtain ⟨k, hk⟩ : ∃ k, kind5 (d.1 : Int) = k := ⟨_, rfl⟩
  rw [hk] at HK ⊢
  clear hd hI hT hkd hk
  by_cases h2 : k = 2
  · subst h2
    rw [decide_eq_true (by simp)]
    go_enter Tryz.func26, Tryz.ntmps26
    go_wp2_with fail
    refine HL.out.mono ?_
    rintro _ w1 ⟨rfl, b1⟩
    have Hb1 := Lib.hid b1
    clear b1
    go_wp2_with fail
    refine (HK.out w1).mono ?_
    rintro _ w2 ⟨rfl, b2⟩
    have Hb2 := Lib.hid (Hb1.out.trans (b2.mono Hb1.out.size))
    clear b2
    go_wp2_with fail
    go_ret
    exact ⟨rfl, Hb2.out⟩
  by_cases h3 : k = 3
  · subst h3
    rw [decide_eq_true (by simp)]
    go_enter Tryz.func26, Tryz.ntmps26
    go_wp2_with fail
    refine HL.out.mono ?_
    rintro _ w1 ⟨rfl, b1⟩
    have Hb1 := Lib.hid b1
    clear b1
    go_wp2_with fail
    refine (HK.out w1).mono ?_
    rintro _ w2 ⟨rfl, b2⟩
    have Hb2 := Lib.hid (Hb1.out.trans (b2.mono Hb1.out.size))
    clear b2
    go_wp2_with fail
    go_ret
    exact ⟨rfl, Hb2.out⟩
  by_cases h4 : k = 4
  · subst h4
    rw [decide_eq_true (by simp)]
    go_enter Tryz.func26, Tryz.ntmps26
    go_wp2_with fail
    refine HL.out.mono ?_
    rintro _ w1 ⟨rfl, b1⟩
    have Hb1 := Lib.hid b1
    clear b1
    go_wp2_with fail
    refine (HK.out w1).mono ?_
    rintro _ w2 ⟨rfl, b2⟩
    have Hb2 := Lib.hid (Hb1.out.trans (b2.mono Hb1.out.size))
    clear b2
    go_wp2_with fail
    go_ret
    exact ⟨rfl, Hb2.out⟩
  · rw [decide_eq_false (by simp [h2, h3, h4])]
    have e2 : ((k : Int) == 2) = false := by simp; omega
    have e3 : ((k : Int) == 3) = false := by simp; omega
    have e4 : ((k : Int) == 4) = false := by simp; omega
    clear h2 h3 h4
    go_enter Tryz.func26, Tryz.ntmps26
    go_wp2_with fail
    refine HL.out.mono ?_
    rintro _ w1 ⟨rfl, b1⟩
    have Hb1 := Lib.hid b1
    clear b1
    go_wp2_with fail
    refine (HK.out w1).mono ?_
    rintro _ w2 ⟨rfl, b2⟩
    have Hb2 := Lib.hid (Hb1.out.trans (b2.mono Hb1.out.size))
    clear b2
    go_wp2_with fail
    go_ret
    exact ⟨rfl, Hb2.out⟩
end Go.Proofs.YtjkakemlhhieoaaGreatDoor

/- remade: a text made anew, character by character, by a function that is handed in. -/
namespace Go.Proofs.YtjkakemlhhieoaaGreatDoor
open Go.RowKit Go.Lib

abbrev IsB5 (B : Nat) (bs : List Value) (w : World) : Prop := Lib.IsBuilder 47 5 B B bs w
abbrev AtB5 (B : Nat) (bs : List Value) (w : World) : Prop := Lib.BuilderAt 47 5 B B (.pointer (some ⟨B, 0, none⟩)) bs w
theorem atB_iter {B b : Nat} {p : Value} {bs : List Value} {w : World} (h : Lib.BuilderAt 47 5 B b p bs w) {k : Nat} {s : ByteArray} {pos : Nat} (hk : w.heap[k]? = some (.stringIter s pos)) (pos' : Nat) :
    Lib.BuilderAt 47 5 B b p bs (w.iterAt k s pos') := by
  obtain ⟨hB, v, hb, hown, hne⟩ := h
  have hkb : b ≠ k := by
    intro e1
    rw [e1, hk] at hb
    cases hb
  refine ⟨hB, v, (Lib.iterAt_other w k b s pos' hkb).trans hb, ⟨hown.1, ?_⟩, hne⟩
  rcases hown.2 with hn | ⟨g, cap, cur, hv, hbg, hg, rest⟩
  · exact .inl hn
  · have hkg : g ≠ k := by
      intro e1
      rw [e1, hk] at hg
      cases hg
    exact .inr ⟨g, cap, cur, hv, hbg, (Lib.iterAt_other w k g s pos' hkg).trans hg, rest⟩
theorem isB_iter {B : Nat} {bs : List Value} {w : World} (h : IsB5 B bs w) {k : Nat} {s : ByteArray} {pos : Nat} (hk : w.heap[k]? = some (.stringIter s pos)) (pos' : Nat) : IsB5 B bs (w.iterAt k s pos') :=
  h.imp (fun x => atB_iter x hk pos') (fun x => atB_iter x hk pos')

/-- what the character at a place becomes -/
def hereT (f : Become) (l : List UInt8) (p : Nat) : List UInt8 := (f (items (l.take p)).reverse (headI (l.drop p)) (items (l.drop (p + (dec (l.drop p)).2)))).flatMap Lib.encodeRune
theorem hereT_len {f : Become} (h2 : ∀ pre p t, (f pre p t).length ≤ 2) (l : List UInt8) (p : Nat) : (hereT f l p).length ≤ 8 := by
  have := nums_len (f (items (l.take p)).reverse (headI (l.drop p)) (items (l.drop (p + (dec (l.drop p)).2))))
  have := h2 (items (l.take p)).reverse (headI (l.drop p)) (items (l.drop (p + (dec (l.drop p)).2)))
  unfold hereT
  omega
/-- what is asked of the function that is handed in -/
def Maker (f : Become) (gf : Nat) (lb : Array Value) (s : ByteArray) (w : World) : Prop :=
  ∀ (pos : Nat) (bs : List Value) (w1 : World), Border s.data.toList pos → pos < s.size → badSeg (dec (s.data.toList.drop pos)) = false → IsB5 w.heap.size bs w1 → bs.length ≤ 17179869184 → Below w.heap.size w w1 → w.heap.size < w1.heap.size →
    Calls Tryz.prog gf (#[.pointer (some ⟨w.heap.size, 0, none⟩), .int .i64 (pos : Int), .int .i32 ((dec (s.data.toList.drop pos)).1 : Int)] ++ lb) w1 fun e w2 => e = .returned (.tuple #[]) ∧ AtB5 w.heap.size (bs ++ Lib.byteCells (hereT f s.data.toList pos)) w2 ∧ Below w.heap.size w1 w2 ∧ Kept5 w.heap.size w1 w2

set_option maxHeartbeats 1000000 in
set_option maxRecDepth 100000 in
theorem remade_any (f : Become) (h2 : ∀ pre p t, (f pre p t).length ≤ 2) (gf : Nat) (lb : Array Value) (s : ByteArray) (w : World) (hs : s.size ≤ 1073741824)
    (eg : ∀ args w, (callFunc gf args).run Tryz.prog w = .ok (.enter gf args) w) (hc : Maker f gf lb s w) :
    Calls Tryz.prog 18 #[.string s, .func (.func gf) #[] lb] w fun e w' => e = .returned (.string ⟨(madeS f s.data.toList).toArray⟩) ∧ Below w.heap.size w w' := by
  obtain ⟨B, hB⟩ : ∃ B, w.heap.size = B := ⟨_, rfl⟩
  have hl := size_list s
  unfold Maker at hc
  rw [hB] at hc ⊢
  obtain ⟨R, hR⟩ : ∃ R, (madeS f s.data.toList) = R := ⟨_, rfl⟩
  rw [hR]
  have HR := Lib.hid hR
  have Hl := Lib.hid hl
  have Hc := Lib.hid hc
  have Hg := Lib.hid (fun B n w h1 h2 h3 h4 => bgrow_any B n w h1 h2 h3 h4)
  have Hby := Lib.hid (fun B bs c w h1 h2 h3 => bbyte_k B B bs c w h1 h2 h3)
  have Hst := Lib.hid (fun B b l w h1 h2 => Tryz.Builder_String_any B b l w h1 h2)
  have Hpf := Lib.hid (fun t => Tryz.strings_HasPrefix t ⟨#[239, 191, 189]⟩)
  obtain ⟨W, hW⟩ : ∃ W, w.alloc (.cells #[.pointer none, .slice none 0 0] 47) = W := ⟨_, rfl⟩
  have hWh : W.heap[B]? = some (.cells #[.pointer none, .slice none 0 0] 47 (0, 0)) := by rw [← hW, ← hB]; exact (MapKept.heap_alloc _ _).1
  have hBw : Below B w W := by rw [← hW, ← hB]; exact (Below.refl _ w).alloc (Nat.le_refl _) _
  have HWh := Lib.hid hWh
  have HBw := Lib.hid hBw
  have HW := Lib.hid hW
  have HB := Lib.hid hB
  clear hR hl hc hWh hBw hW hB
  go_enter Tryz.func18, Tryz.ntmps18
  go_wp2_with fail
  rw [HW.out, HB.out]
  refine (Hg.out B s.size W HWh.out (Nat.le_refl B) (by have := HBw.out.size; have := HB.out; omega) (by omega)).mono ?_
  rintro _ w1 ⟨rfl, hat, hb1⟩
  obtain ⟨I, hI⟩ : ∃ I, w1.heap.size = I := ⟨_, rfl⟩
  have hBI : B < I := by rw [← hI]; exact hat.lt
  have hit0 : (w1.iter s 0).heap[I]? = some (.stringIter s 0) := by rw [← hI]; exact World.iter_heap w1 s 0
  have hk1 : ∀ k, k < w1.heap.size → (w1.iter s 0).heap[k]? = w1.heap[k]? := fun k hk => ((Below.refl w1.heap.size w1).alloc (Nat.le_refl _) _).block k hk
  have HI0 := Lib.hid (show IsB5 B (Lib.byteCells []) (w1.iter s 0) from keepB (.inr hat) hk1)
  have Hit0 := Lib.hid hit0
  have Hbw0 := Lib.hid (show Below B w (w1.iter s 0) from (HBw.out.trans hb1).alloc (by omega) _)
  have HI := Lib.hid hI
  clear hat hb1 hit0 hk1 hI
  go_wp2_with fail
  rw [HI.out]
  go_loopw [] (fun wr => ∃ (pos : Nat) (acc : List UInt8), IsB5 B (Lib.byteCells acc) wr ∧ wr.heap[I]? = some (.stringIter s pos) ∧ Below B w wr ∧ Hid (acc ++ restT f s.data.toList pos = R) ∧ Border s.data.toList pos ∧ acc.length ≤ 8 * pos) (fun wr => s.size - wr.iterPos I)
  case atStart => exact ⟨0, [], HI0.out, Hit0.out, Hbw0.out, by unfold Hid; rw [rest_all]; exact HR.out, .zero _, Nat.zero_le _⟩
  case round =>
    obtain ⟨pos, acc, hI, hit, hbw, hacc, hbd, hal⟩ := hrel
    by_cases hp : pos < s.size
    · have hpl : pos < s.data.toList.length := by rw [Hl.out]; exact hp
      have hnx : ∀ ty, (Instr.next (.pointer (some ⟨I, 0, none⟩)) true ty).run Tryz.prog wr = .ok (.tuple #[.bool true, .int .i64 pos, .int .i32 (Utf8.decode s pos).1]) (wr.iterAt I s (pos + (Utf8.decode s pos).2)) := fun ty => Lib.run_next_any_at wr I s pos ty hit hp
      rw [decode_dec s pos (by omega)] at hnx
      have hd2 := next_le s.data.toList pos hpl
      have hd3 := dec_pos (s.data.toList.drop pos)
      have hbn := border_next hbd hpl
      have hgood := fun h => rest_good f hbd hpl h
      have hbad := fun h => rest_bad f hbd hpl h
      have h8 := hereT_len h2 s.data.toList pos
      have hbb := badB_dec (s.data.toList.drop pos) (drop_ne _ _ hpl)
      have hcp := fun bs w1 => Hc.out pos bs w1 hbd hp
      unfold hereT at h8
      have hherE : hereT f s.data.toList pos = (f (items (s.data.toList.take pos)).reverse (headI (s.data.toList.drop pos)) (items (s.data.toList.drop (pos + (dec (s.data.toList.drop pos)).2)))).flatMap Lib.encodeRune := rfl
      rw [← hherE] at h8 hgood
      obtain ⟨H, hH⟩ : ∃ H, hereT f s.data.toList pos = H := ⟨_, rfl⟩
      rw [hH] at h8 hgood hcp
      rw [Hl.out] at hd2
      obtain ⟨d, hdd⟩ : ∃ d, dec (s.data.toList.drop pos) = d := ⟨_, rfl⟩
      rw [hdd] at hnx hd2 hd3 hbn hgood hbad hbb hcp
      have hiW := isB_iter hI hit (pos + d.2)
      have hitW := Lib.iterAt_heap wr I s pos (pos + d.2) hit
      have hbwW := Lib.below_iterAt hbw (k := I) (by omega) s (pos + d.2)
      have hposE := iterPos_at hit
      obtain ⟨V, hV⟩ : ∃ V, wr.iterAt I s (pos + d.2) = V := ⟨_, rfl⟩
      rw [hV] at hnx hiW hitW hbwW
      have hlt := (show B < V.heap.size from hiW.elim (fun h => h.lt) (fun h => h.lt))
      have Hgood := Lib.hid hgood
      have Hbad := Lib.hid hbad
      have Hbn := Lib.hid hbn
      have Hacc := Lib.hid hacc.out
      have HiW := Lib.hid hiW
      have HitW := Lib.hid hitW
      have HbwW := Lib.hid hbwW
      have HposE := Lib.hid hposE
      have Hcp := Lib.hid hcp
      have hpf := Hpf.out (s.extract pos s.size)
      rw [drop_list] at hpf
      have hacl : (Lib.byteCells acc).length ≤ 17179869184 := by rw [Lib.byteCells_length]; omega
      clear hherE hH hdd hV hgood hbad hbn hacc hiW hitW hbwW hposE hcp hI hit hbw hbd
      -- what is written in place of a character
      have fin : ∀ w2 : World, AtB5 B (Lib.byteCells acc ++ Lib.byteCells H) w2 → Below B V w2 → Kept5 B V w2 → badSeg d = false →
          (∃ (pos : Nat) (acc : List UInt8), IsB5 B (Lib.byteCells acc) w2 ∧ w2.heap[I]? = some (.stringIter s pos) ∧ Below B w w2 ∧ Hid (acc ++ restT f s.data.toList pos = R) ∧ Border s.data.toList pos ∧ acc.length ≤ 8 * pos) ∧ s.size - w2.iterPos I < s.size - wr.iterPos I := by
        intro w2 h1 hb hk hbs
        have hit2 := hk.iter HitW.out (by omega)
        refine ⟨⟨pos + d.2, acc ++ H, by rw [Lib.byteCells_append]; exact .inr h1, hit2, HbwW.out.trans hb, ?_, Hbn.out, by simp; omega⟩, ?_⟩
        · unfold Hid
          rw [List.append_assoc, ← Hgood.out hbs]
          exact Hacc.out
        · rw [iterPos_at hit2, HposE.out]; omega
      have Fin := Lib.hid fin
      clear fin
      by_cases hr : d.1 = 65533
      · have hr1 : ((d.1 : Int) == 65533) = true := by rw [hr]; rfl
        cases hpx : hasPrefix (s.data.toList.drop pos) [239, 191, 189] with
        | true =>
          rw [hpx] at hpf
          have hbs : badSeg d = false := by rw [← hbb]; unfold badB; rw [hpx]; simp
          have Hpf2 := Lib.hid hpf
          have Hbs := Lib.hid hbs
          clear hpf hbb hpx hbs hr
          go_wp2_with fail
          refine (Hpf2.out _).mono ?_
          rintro _ w9 ⟨rfl, h9⟩
          obtain rfl := h9.symm
          go_wp2_with fail
          refine (Hcp.out (Lib.byteCells acc) V Hbs.out HiW.out hacl HbwW.out hlt).mono ?_
          rintro _ w2 ⟨rfl, h1, hb, hk⟩
          have HF := Lib.hid (Fin.out w2 h1 hb hk Hbs.out)
          clear h1 hb hk
          go_wp2_with fail
          exact HF.out
        | false =>
          rw [hpx] at hpf
          have hbs : badSeg d = true := by rw [← hbb]; unfold badB; rw [hpx, hr]; simp
          have Hpf2 := Lib.hid hpf
          have Hbs := Lib.hid hbs
          have hgy : gb s.data.toList pos = (s[pos]'hp).toNat := by
            unfold gb
            rw [List.getD_eq_getElem?_getD, List.getElem?_eq_getElem hpl]
            rfl
          have Hgy := Lib.hid hgy
          have hy2 := (s[pos]'hp).toNat_lt
          clear hpf hbb hpx hbs hr hgy
          go_wp2_with fail
          refine (Hpf2.out _).mono ?_
          rintro _ w9 ⟨rfl, h9⟩
          obtain rfl := h9.symm
          go_wp2_with fail
          refine (Hby.out B (Lib.byteCells acc) ((s[pos]'hp).toNat : Int) V HiW.out (by omega) (by omega)).mono ?_
          rintro _ w2 ⟨rfl, h1, hb, hk⟩
          have hit2 := hk.iter HitW.out (by omega)
          have hfin : (∃ (pos : Nat) (acc : List UInt8), IsB5 B (Lib.byteCells acc) w2 ∧ w2.heap[I]? = some (.stringIter s pos) ∧ Below B w w2 ∧ Hid (acc ++ restT f s.data.toList pos = R) ∧ Border s.data.toList pos ∧ acc.length ≤ 8 * pos) ∧ s.size - w2.iterPos I < s.size - wr.iterPos I := by
            refine ⟨⟨pos + d.2, acc ++ [UInt8.ofNat (gb s.data.toList pos)], ?_, hit2, HbwW.out.trans hb, ?_, Hbn.out, by simp; omega⟩, ?_⟩
            · rw [Lib.byteCells_append, Hgy.out, UInt8.ofNat_toNat]; exact .inr h1
            · unfold Hid
              rw [List.append_assoc, ← Hbad.out Hbs.out]
              exact Hacc.out
            · rw [iterPos_at hit2, HposE.out]; omega
          have HF := Lib.hid hfin
          clear h1 hb hk hit2 hfin
          go_wp2_with fail
          exact HF.out
      · have hr1 : ((d.1 : Int) == 65533) = false := by rw [beq_eq_false_iff_ne]; omega
        have hbs : badSeg d = false := by unfold badSeg; simp [hr]
        have Hbs := Lib.hid hbs
        clear hpf hbb hbs hr
        go_wp2_with fail
        refine (Hcp.out (Lib.byteCells acc) V Hbs.out HiW.out hacl HbwW.out hlt).mono ?_
        rintro _ w2 ⟨rfl, h1, hb, hk⟩
        have HF := Lib.hid (Fin.out w2 h1 hb hk Hbs.out)
        clear h1 hb hk
        go_wp2_with fail
        exact HF.out
    · have hnx : ∀ ty, (Instr.next (.pointer (some ⟨I, 0, none⟩)) true ty).run Tryz.prog wr = _ := fun ty => Lib.run_next_end_at wr I s pos ty hit hp
      have hacc2 := hacc.out
      have hple := border_le hbd
      rw [rest_end f _ _ (by rw [Hl.out]; omega), List.append_nil] at hacc2
      subst hacc2
      have HS := Lib.hid (Hst.out B B acc wr hI (by have := hbw.size; have := HB.out; omega))
      have Hbw := Lib.hid hbw
      clear hI hbw hacc
      go_wp2_with fail
      refine HS.out.mono ?_
      rintro _ w2 ⟨rfl, hb2⟩
      have HB2 := Lib.hid (Hbw.out.trans hb2)
      clear hb2
      go_wp2_with fail
      go_ret
      exact ⟨rfl, HB2.out⟩
end Go.Proofs.YtjkakemlhhieoaaGreatDoor

/- smallIn: what a character becomes in small letters; writeGreat. -/
namespace Go.Proofs.YtjkakemlhhieoaaGreatDoor
open Go.RowKit Go.Lib

theorem runeLen_sigma (w : World) : Calls Tryz.prog 50 #[.int .i32 931] w fun e w' => e = .returned (.int .i64 2) ∧ w' = w := by
  go_enter Tryz.func50, Tryz.ntmps50
  go_wp2
  go_ret
  exact ⟨rfl, rfl⟩

set_option maxHeartbeats 2000000 in
set_option maxRecDepth 100000 in
theorem smallIn_any (s : ByteArray) (pos : Nat) (w : World) (hs : s.size ≤ 1073741824) (hb : Border s.data.toList pos) (hp : pos < s.size) (hE : Env5 w) :
    Calls Tryz.prog 21 #[.string s, .int .i64 (pos : Int), .int .i32 ((dec (s.data.toList.drop pos)).1 : Int)] w fun e w' =>
      e = .returned (.int .i32 (if ((dec (s.data.toList.drop pos)).1 : Int) = 931 ∧ begins5 kind5 (items (s.data.toList.take pos)).reverse = true ∧ begins5 kind5 (items (s.data.toList.drop (pos + (dec (s.data.toList.drop pos)).2))) = false then 962 else smallF ((dec (s.data.toList.drop pos)).1 : Int))) ∧ Below w.heap.size w w' := by
  have hpl : pos < s.data.toList.length := by rw [size_list]; exact hp
  have hne := drop_ne _ _ hpl
  have hf := (dec_facts _ hne).2.2.2.2.2.2
  have hsg := sigma_two (s.data.toList.drop pos) hne
  have hle := next_le s.data.toList pos hpl
  rw [size_list] at hle
  obtain ⟨d, hd⟩ : ∃ d, dec (s.data.toList.drop pos) = d := ⟨_, rfl⟩
  rw [hd] at hf hsg hle ⊢
  clear hd hne hpl
  have HS := Lib.hid (fun W hP => Small_any (d.1 : Int) (by omega) (by omega) W hP)
  have HE := Lib.hid hE
  clear hE
  by_cases h9 : d.1 = 931
  · have h91 : ((d.1 : Int) == 931) = true := by rw [h9]; rfl
    have h2 : d.2 = 2 := (hsg h9).1
    have h9' : (d.1 : Int) = 931 := by omega
    rw [h2] at hle
    rw [h2]
    have hpe : pos ≤ s.size := by omega
    have HM := Lib.hid (fun W => back_maker (s.extract 0 pos) W)
    have HA := Lib.hid (fun W => all_mk (s.extract (pos + 2) s.size) W)
    obtain ⟨w1, hw1⟩ : ∃ w1, w.alloc (.cells #[.string (s.extract 0 pos)] 9) = w1 := ⟨_, rfl⟩
    have hb1 : Below w.heap.size w w1 := by rw [← hw1]; exact (Below.refl _ w).alloc (Nat.le_refl _) _
    have hc1 : w1.cell? ⟨w.heap.size, 0, none⟩ = some (.string (s.extract 0 pos)) := by rw [← hw1]; simp
    have hs1 : w.heap.size < w1.heap.size := by rw [← hw1]; simp
    have HB1 := Lib.hid (begins_rear (s.extract 0 pos) w.heap.size w1 (by simp; unfold maxLen; omega) hs1 hc1 (HE.out.below hb1).1)
    rw [take_list] at HB1
    have HW1 := Lib.hid hw1
    have Hb1 := Lib.hid hb1
    have HE1 := Lib.hid (HE.out.below hb1)
    obtain ⟨b1, hbb1⟩ : ∃ b, begins5 kind5 (items (s.data.toList.take pos)).reverse = b := ⟨_, rfl⟩
    obtain ⟨b2, hbb2⟩ : ∃ b, begins5 kind5 (items (s.data.toList.drop (pos + 2))) = b := ⟨_, rfl⟩
    have HB2 := Lib.hid (fun Bn W h1 h2 => begins_fore (s.extract (pos + 2) s.size) Bn W h1 h2)
    rw [drop_list, hbb2] at HB2
    rw [hbb1] at HB1
    rw [hbb1, hbb2, h9']
    rw [h9'] at HS
    clear hw1 hb1 hc1 hbb1 hbb2 h91 hsg h2 hf
    cases b1 with
    | false =>
      rw [if_neg (by simp)]
      go_enter Tryz.func21, Tryz.ntmps21
      go_wp2_with fail
      refine (HM.out _).mono ?_
      rintro _ _ ⟨rfl, rfl⟩
      rw [HW1.out]
      go_wp2_with fail
      refine HB1.out.mono ?_
      rintro _ w2 ⟨rfl, bw2⟩
      have HE2 := Lib.hid (HE1.out.below bw2)
      have Hb2 := Lib.hid (Hb1.out.trans (bw2.mono Hb1.out.size))
      clear bw2
      go_wp2_with fail
      refine (HS.out w2 HE2.out.2).mono ?_
      rintro _ w3 ⟨rfl, bw3⟩
      have Hb3 := Lib.hid (Hb2.out.trans (bw3.mono Hb2.out.size))
      clear bw3
      go_wp2_with fail
      go_ret
      exact ⟨rfl, Hb3.out⟩
    | true =>
      obtain ⟨R, hR⟩ : ∃ R, (if (931 : Int) = 931 ∧ true = true ∧ b2 = false then (962 : Int) else smallF 931) = R := ⟨_, rfl⟩
      rw [hR]
      have HR := Lib.hid hR
      clear hR
      have hadd : IntKind.i64.wrap ((pos : Int) + 2) = ((pos + 2 : Nat) : Int) := by rw [IntWalk.i64_in _ (by omega)]; omega
      go_enter Tryz.func21, Tryz.ntmps21
      go_wp2_with fail
      refine (HM.out _).mono ?_
      rintro _ _ ⟨rfl, rfl⟩
      rw [HW1.out]
      go_wp2_with fail
      refine HB1.out.mono ?_
      rintro _ w2 ⟨rfl, bw2⟩
      have HE2 := Lib.hid (HE1.out.below bw2)
      have Hb2 := Lib.hid (Hb1.out.trans (bw2.mono Hb1.out.size))
      clear bw2
      go_wp2_with fail
      refine (runeLen_sigma _).mono ?_
      rintro _ w2' ⟨rfl, h⟩
      obtain rfl := h.symm
      go_wp2_with fail
      refine (HA.out _).mono ?_
      rintro _ w3 ⟨rfl, h3⟩
      have hb3 : Below w2.heap.size w2 w3 := by rw [h3]; exact (Below.refl _ w2).alloc (Nat.le_refl _) _
      have hc3 : w3.cell? ⟨w2.heap.size, 0, none⟩ = some (.string (s.extract (pos + 2) s.size)) := by rw [h3]; simp
      have hs3 : w2.heap.size < w3.heap.size := by rw [h3]; simp
      have HB3 := Lib.hid (HB2.out w2.heap.size w3 hs3 hc3)
      have HE3 := Lib.hid (HE2.out.below hb3)
      have Hb3 := Lib.hid (Hb2.out.trans (hb3.mono Hb2.out.size))
      clear h3 hb3 hc3 hs3
      go_wp2_with fail
      refine HB3.out.mono ?_
      rintro _ w4 ⟨rfl, bw4⟩
      have HE4 := Lib.hid (HE3.out.below bw4)
      have Hb4 := Lib.hid (Hb3.out.trans (bw4.mono Hb3.out.size))
      clear bw4
      cases b2 with
      | false =>
        have hR2 : R = 962 := by rw [← HR.out]; simp
        have HR2 := Lib.hid hR2
        clear hR2
        go_wp2_with fail
        go_ret
        exact ⟨ret_i32 HR2.out.symm, Hb4.out⟩
      | true =>
        have hR2 : R = smallF 931 := by rw [← HR.out]; simp
        have HR2 := Lib.hid hR2
        clear hR2
        go_wp2_with fail
        refine (HS.out w4 HE4.out.2).mono ?_
        rintro _ w5 ⟨rfl, bw5⟩
        have Hb5 := Lib.hid (Hb4.out.trans (bw5.mono Hb4.out.size))
        clear bw5
        go_wp2_with fail
        go_ret
        exact ⟨ret_i32 HR2.out.symm, Hb5.out⟩
  · have h91 : ((d.1 : Int) == 931) = false := by rw [beq_eq_false_iff_ne]; omega
    rw [if_neg (by rintro ⟨h, _⟩; exact h9 (by omega))]
    clear h9 hsg
    go_enter Tryz.func21, Tryz.ntmps21
    go_wp2_with fail
    refine (HS.out w HE.out.2).mono ?_
    rintro _ w2 ⟨rfl, b2⟩
    have Hb2 := Lib.hid b2
    clear b2
    go_wp2_with fail
    go_ret
    exact ⟨rfl, Hb2.out⟩

theorem isB_below {B : Nat} {bs : List Value} {w w' : World} (h : IsB5 B bs w) (hb : Below w.heap.size w w') : IsB5 B bs w' := keepB h fun k hk => hb.block k hk
set_option maxHeartbeats 2000000 in
set_option maxRecDepth 100000 in
theorem writeGreat_any (B : Nat) (bs : List Value) (r : Int) (ss : ByteArray) (w : World) (hr0 : -2147483648 ≤ r) (hr1 : r ≤ 2147483647) (hss : ss.size ≤ 4) (h : IsB5 B bs w) (hl : bs.length ≤ 17179869184) (hB : B ≤ w.heap.size) (hP : PairV w) :
    Calls Tryz.prog 23 #[.pointer (some ⟨B, 0, none⟩), .int .i32 r, .string ss] w fun e w' => e = .returned (.tuple #[]) ∧ AtB5 B (bs ++ (if r = 223 then Lib.strCells ss else Lib.runeCells (greatF r))) w' ∧ Below B w w' ∧ Kept5 B w w' := by
  by_cases h2 : r = 223
  · have h21 : (r == 223) = true := by simp [h2]
    rw [if_pos h2]
    have HS := Lib.hid (bstring_k B B bs ss w h (by omega) hB)
    clear h h2 hP
    go_enter Tryz.func23, Tryz.ntmps23
    go_wp2_with fail
    refine HS.out.mono ?_
    rintro _ w2 ⟨⟨v, rfl⟩, h1, hb, hk⟩
    have H1 := Lib.hid h1
    have Hb := Lib.hid hb
    have Hk := Lib.hid hk
    clear h1 hb hk
    go_wp2_with fail
    go_end0
    exact ⟨rfl, H1.out, Hb.out, Hk.out⟩
  · have h21 : (r == 223) = false := by simp [h2]
    rw [if_neg h2]
    have hg : -2147483648 ≤ greatF r ∧ greatF r ≤ 2147483647 := by
      rcases great_cases r with ⟨_, e⟩ | ⟨_, _, e⟩ | ⟨_, h'⟩
      · rw [e]; omega
      · rw [e]; omega
      · have p := pr_ok h'
        have := p.lo; have := p.hi; omega
    have HG := Lib.hid (Great_any r hr0 hr1 w hP)
    have HI := Lib.hid h
    clear h h2 hP
    go_enter Tryz.func23, Tryz.ntmps23
    go_wp2_with fail
    refine HG.out.mono ?_
    rintro _ w2 ⟨rfl, b2⟩
    have HR := Lib.hid (brune_k B B bs (greatF r) hg.1 hg.2 w2 (isB_below HI.out b2) (by omega) (by have := b2.size; omega))
    have Hb2 := Lib.hid (b2.mono hB)
    have Hk2 := Lib.hid (kept_below (b := B) b2)
    clear b2
    go_wp2_with fail
    refine HR.out.mono ?_
    rintro _ w3 ⟨⟨v, rfl⟩, h1, hb, hk⟩
    have H1 := Lib.hid h1
    have Hb := Lib.hid (Hb2.out.trans hb)
    have Hk := Lib.hid (Hk2.out.trans hk)
    clear h1 hb hk
    go_wp2_with fail
    go_end0
    exact ⟨rfl, H1.out, Hb.out, Hk.out⟩
end Go.Proofs.YtjkakemlhhieoaaGreatDoor

/- Lower, Upper, Title, Swap, Fold, Same: what each makes of a text. -/
namespace Go.Proofs.YtjkakemlhhieoaaGreatDoor
open Go.RowKit Go.Lib

theorem lowZ_i32 (K : Int → Nat) (pre t : List Pc) (p : Pc) (h0 : 0 ≤ p.1) (h1 : p.1 ≤ 1114111) : 0 ≤ lowZ K pre p t ∧ lowZ K pre p t ≤ 1114111 := by
  unfold lowZ
  split
  · omega
  · rcases small_cases p.1 with ⟨_, e⟩ | h'
    · rw [e]; omega
    · have p := pr_ok h'
      have := p.lo'; have := p.hi'; omega
theorem one_cells (z : Int) : Lib.byteCells ([z].flatMap Lib.encodeRune) = Lib.runeCells z := by
  rw [List.flatMap_singleton, Lib.byteCells_encodeRune]
theorem up_cells (ss : Int) (z : ByteArray) (p : Pc) (h : Lib.strCells z = Lib.byteCells (Lib.encodeRune 83 ++ Lib.encodeRune ss)) : (if p.1 = 223 then Lib.strCells z else Lib.runeCells (greatF p.1)) = Lib.byteCells ((upZ ss p).flatMap Lib.encodeRune) := by
  unfold upZ
  split
  · rw [h]
    simp
  · rw [one_cells]

section
variable (s : ByteArray) (w : World)
/-- what is known of the character at a place -/
theorem here_facts {pos : Nat} (hp : pos < s.size) (hg : badSeg (dec (s.data.toList.drop pos)) = false) :
    headI (s.data.toList.drop pos) = (((dec (s.data.toList.drop pos)).1 : Int), markZ (dec (s.data.toList.drop pos)).1, 0) ∧ (dec (s.data.toList.drop pos)).1 ≤ 1114111 := by
  have hpl : pos < s.data.toList.length := by rw [size_list]; exact hp
  have hf := (dec_facts _ (drop_ne _ _ hpl)).2.2.2.2.2.2
  exact ⟨head_good _ hg, by omega⟩

set_option maxHeartbeats 2000000 in
set_option maxRecDepth 100000 in
theorem lower_maker (Bs : Nat) (hs : s.size ≤ 1073741824) (hE : Env5 w) (hc : w.cell? ⟨Bs, 0, none⟩ = some (.string s)) : Maker (lowF kind5) 19 #[.pointer (some ⟨Bs, 0, none⟩)] s w := by
  intro pos bs w1 hb hp hg hI hl hbw hlt
  obtain ⟨hh, hd⟩ := here_facts s hp hg
  have hE1 := hE.below hbw
  have hc1 := (hbw.cell (World.block_lt_of_cell? w _ hc)).trans hc
  have HS := Lib.hid (smallIn_any s pos w1 hs hb hp hE1)
  have hz : hereT (lowF kind5) s.data.toList pos = [lowZ kind5 (items (s.data.toList.take pos)).reverse (headI (s.data.toList.drop pos)) (items (s.data.toList.drop (pos + (dec (s.data.toList.drop pos)).2)))].flatMap Lib.encodeRune := rfl
  have hzb := lowZ_i32 kind5 (items (s.data.toList.take pos)).reverse (items (s.data.toList.drop (pos + (dec (s.data.toList.drop pos)).2))) (headI (s.data.toList.drop pos)) (by rw [hh]; simp) (by rw [hh]; simp; omega)
  rw [lowZ_num, hh] at hzb hz
  rw [hz, one_cells]
  obtain ⟨z, hze⟩ : ∃ z, (if ((dec (s.data.toList.drop pos)).1 : Int) = 931 ∧ begins5 kind5 (items (s.data.toList.take pos)).reverse = true ∧ begins5 kind5 (items (s.data.toList.drop (pos + (dec (s.data.toList.drop pos)).2))) = false then (962 : Int) else smallF ((dec (s.data.toList.drop pos)).1 : Int)) = z := ⟨_, rfl⟩
  simp only at hzb
  rw [hze] at HS hzb
  simp only
  rw [hze]
  obtain ⟨r, hr⟩ : ∃ r, ((dec (s.data.toList.drop pos)).1 : Int) = r := ⟨_, rfl⟩
  rw [hr] at HS
  rw [hr]
  obtain ⟨B, hB⟩ : ∃ B, w.heap.size = B := ⟨_, rfl⟩
  rw [hB] at hI hbw hlt ⊢
  have HI := Lib.hid hI
  clear hg hh hd hE hE1 hc hz hze hr hI hbw hB
  show Calls _ _ #[.pointer (some ⟨B, 0, none⟩), .int .i64 (pos : Int), .int .i32 r, .pointer (some ⟨Bs, 0, none⟩)] w1 _
  go_enter Tryz.func19, Tryz.ntmps19
  go_wp2_with fail
  refine HS.out.mono ?_
  rintro _ w2 ⟨rfl, b2⟩
  have HR := Lib.hid (brune_k B B bs z (by omega) (by omega) w2 (isB_below HI.out b2) (by omega) (by have := b2.size; omega))
  have Hb2 := Lib.hid (b2.mono (show B ≤ w1.heap.size by omega))
  have Hk2 := Lib.hid (kept_below (b := B) b2)
  clear b2
  go_wp2_with fail
  refine HR.out.mono ?_
  rintro _ w3 ⟨⟨v, rfl⟩, h1, hb, hk⟩
  have H1 := Lib.hid h1
  have Hb := Lib.hid (Hb2.out.trans hb)
  have Hk := Lib.hid (Hk2.out.trans hk)
  clear h1 hb hk
  go_wp2_with fail
  go_end0
  exact ⟨rfl, H1.out, Hb.out, Hk.out⟩

set_option maxHeartbeats 2000000 in
set_option maxRecDepth 100000 in
theorem upper_maker (hE : Env5 w) : Maker upF 22 #[] s w := by
  intro pos bs w1 hb hp hg hI hl hbw hlt
  obtain ⟨hh, hd⟩ := here_facts s hp hg
  have hE1 := hE.below hbw
  have hz : hereT upF s.data.toList pos = (upZ 83 (headI (s.data.toList.drop pos))).flatMap Lib.encodeRune := rfl
  rw [hh] at hz
  rw [hz, ← up_cells 83 ⟨#[83, 83]⟩ _ (by kernel_rfl)]
  simp only
  obtain ⟨B, hB⟩ : ∃ B, w.heap.size = B := ⟨_, rfl⟩
  rw [hB] at hI hbw hlt ⊢
  have HG := Lib.hid (writeGreat_any B bs ((dec (s.data.toList.drop pos)).1 : Int) ⟨#[83, 83]⟩ w1 (by omega) (by omega) (by decide) hI hl (by omega) hE1.2)
  obtain ⟨r, hr⟩ : ∃ r, ((dec (s.data.toList.drop pos)).1 : Int) = r := ⟨_, rfl⟩
  rw [hr] at HG
  rw [hr]
  obtain ⟨cs, hcs⟩ : ∃ cs, (if r = 223 then Lib.strCells ⟨#[83, 83]⟩ else Lib.runeCells (greatF r)) = cs := ⟨_, rfl⟩
  rw [hcs] at HG
  rw [hcs]
  clear hg hh hd hE hE1 hz hr hI hbw hB hcs
  show Calls _ _ #[.pointer (some ⟨B, 0, none⟩), .int .i64 (pos : Int), .int .i32 r] w1 _
  go_enter Tryz.func22, Tryz.ntmps22
  go_wp2_with fail
  refine HG.out.mono ?_
  rintro _ w3 ⟨rfl, h1, hb, hk⟩
  have H1 := Lib.hid h1
  have Hb := Lib.hid hb
  have Hk := Lib.hid hk
  clear h1 hb hk
  go_wp2_with fail
  go_end0
  exact ⟨rfl, H1.out, Hb.out, Hk.out⟩

/-- what Fold makes of each character, ahead of its second Apart -/
def foldF : Become := fun _ p _ => foldN p.1
set_option maxHeartbeats 2000000 in
set_option maxRecDepth 100000 in
theorem fold_maker (hE : Env5 w) : Maker foldF 38 #[] s w := by
  intro pos bs w1 hb hp hg hI hl hbw hlt
  obtain ⟨hh, hd⟩ := here_facts s hp hg
  have hE1 := hE.below hbw
  have hz : hereT foldF s.data.toList pos = (foldN (headI (s.data.toList.drop pos)).1).flatMap Lib.encodeRune := rfl
  rw [hh] at hz
  simp only at hz
  rw [hz]
  obtain ⟨B, hB⟩ : ∃ B, w.heap.size = B := ⟨_, rfl⟩
  rw [hB] at hI hbw hlt ⊢
  obtain ⟨r, hr⟩ : ∃ r, ((dec (s.data.toList.drop pos)).1 : Int) = r := ⟨_, rfl⟩
  rw [hr]
  have hr0 : 0 ≤ r ∧ r ≤ 1114111 := by omega
  have HI := Lib.hid hI
  have HP := Lib.hid hE1.2
  clear hg hh hd hE hE1 hz hr hI hbw hB
  show Calls _ _ #[.pointer (some ⟨B, 0, none⟩), .int .i64 (pos : Int), .int .i32 r] w1 _
  by_cases h1 : r = 223
  · have h11 : (r == 223) = true := by simp [h1]
    have e : Lib.byteCells ((foldN r).flatMap Lib.encodeRune) = Lib.strCells ⟨#[115, 115]⟩ := by rw [h1]; kernel_rfl
    rw [e]
    have HS := Lib.hid (bstring_k B B bs ⟨#[115, 115]⟩ w1 HI.out (by have : (ByteArray.mk #[115, 115]).size = 2 := rfl; omega) (by omega))
    clear h1 e
    go_enter Tryz.func38, Tryz.ntmps38
    go_wp2_with fail
    refine HS.out.mono ?_
    rintro _ w3 ⟨⟨v, rfl⟩, h1, hb, hk⟩
    have H1 := Lib.hid h1
    have Hb := Lib.hid hb
    have Hk := Lib.hid hk
    clear h1 hb hk
    go_wp2_with fail
    go_end0
    exact ⟨rfl, H1.out, Hb.out, Hk.out⟩
  · have h11 : (r == 223) = false := by simp [h1]
    by_cases h2 : r = 962
    · have h21 : (r == 962) = true := by simp [h2]
      have e : Lib.byteCells ((foldN r).flatMap Lib.encodeRune) = Lib.runeCells 963 := by rw [h2]; kernel_rfl
      rw [e]
      have HS := Lib.hid (brune_k B B bs 963 (by omega) (by omega) w1 HI.out (by omega) (by omega))
      clear h1 h2 e
      go_enter Tryz.func38, Tryz.ntmps38
      go_wp2_with fail
      refine HS.out.mono ?_
      rintro _ w3 ⟨⟨v, rfl⟩, h1, hb, hk⟩
      have H1 := Lib.hid h1
      have Hb := Lib.hid hb
      have Hk := Lib.hid hk
      clear h1 hb hk
      go_wp2_with fail
      go_end0
      exact ⟨rfl, H1.out, Hb.out, Hk.out⟩
    · have h21 : (r == 962) = false := by simp [h2]
      have e : foldN r = [smallF r] := by unfold foldN; rw [if_neg h1, if_neg h2]
      rw [e, one_cells]
      have hsb : 0 ≤ smallF r ∧ smallF r ≤ 1114111 := by
        rcases small_cases r with ⟨_, e⟩ | h'
        · rw [e]; exact hr0
        · have p := pr_ok h'
          have := p.lo'; have := p.hi'; omega
      have HS := Lib.hid (Small_any r (by omega) (by omega) w1 HP.out)
      clear h1 h2 e
      go_enter Tryz.func38, Tryz.ntmps38
      go_wp2_with fail
      refine HS.out.mono ?_
      rintro _ w2 ⟨rfl, b2⟩
      have HR := Lib.hid (brune_k B B bs (smallF r) (by omega) (by omega) w2 (isB_below HI.out b2) (by omega) (by have := b2.size; omega))
      have Hb2 := Lib.hid (b2.mono (show B ≤ w1.heap.size by omega))
      have Hk2 := Lib.hid (kept_below (b := B) b2)
      clear b2
      go_wp2_with fail
      refine HR.out.mono ?_
      rintro _ w3 ⟨⟨v, rfl⟩, h1, hb, hk⟩
      have H1 := Lib.hid h1
      have Hb := Lib.hid (Hb2.out.trans hb)
      have Hk := Lib.hid (Hk2.out.trans hk)
      clear h1 hb hk
      go_wp2_with fail
      go_end0
      exact ⟨rfl, H1.out, Hb.out, Hk.out⟩

set_option maxHeartbeats 4000000 in
set_option maxRecDepth 100000 in
theorem swap_maker (hE : Env5 w) : Maker swapF 32 #[] s w := by
  intro pos bs w1 hb hp hg hI hl hbw hlt
  obtain ⟨hh, hd⟩ := here_facts s hp hg
  have hE1 := hE.below hbw
  have hz : hereT swapF s.data.toList pos = (if (headI (s.data.toList.drop pos)).1 = 223 ∨ greatF (headI (s.data.toList.drop pos)).1 ≠ (headI (s.data.toList.drop pos)).1 then upZ 83 (headI (s.data.toList.drop pos)) else [smallF (headI (s.data.toList.drop pos)).1]).flatMap Lib.encodeRune := rfl
  rw [hh] at hz
  simp only at hz
  rw [hz]
  obtain ⟨B, hB⟩ : ∃ B, w.heap.size = B := ⟨_, rfl⟩
  rw [hB] at hI hbw hlt ⊢
  obtain ⟨m, hm⟩ : ∃ m, markZ ((dec (s.data.toList.drop pos)).1 : Int) = m := ⟨_, rfl⟩
  rw [hm]
  obtain ⟨r, hr⟩ : ∃ r, ((dec (s.data.toList.drop pos)).1 : Int) = r := ⟨_, rfl⟩
  rw [hr]
  have hr0 : 0 ≤ r ∧ r ≤ 1114111 := by omega
  have HI := Lib.hid hI
  have HP := Lib.hid hE1.2
  clear hg hh hd hE hE1 hz hr hm hI hbw hB
  have HW := Lib.hid (fun W (h : Below w1.heap.size w1 W) => writeGreat_any B bs r ⟨#[83, 83]⟩ W (by omega) (by omega) (by decide) (isB_below HI.out h) hl (by have := h.size; omega) (HP.out.below h))
  rw [show (if r = 223 then Lib.strCells ⟨#[83, 83]⟩ else Lib.runeCells (greatF r)) = Lib.byteCells ((upZ 83 (r, m, 0)).flatMap Lib.encodeRune) from up_cells 83 ⟨#[83, 83]⟩ (r, m, 0) (by kernel_rfl)] at HW
  show Calls _ _ #[.pointer (some ⟨B, 0, none⟩), .int .i64 (pos : Int), .int .i32 r] w1 _
  by_cases h1 : r = 223
  · have h11 : (r == 223) = true := by simp [h1]
    rw [if_pos (.inl h1)]
    clear h1
    go_enter Tryz.func32, Tryz.ntmps32
    go_wp2_with fail
    refine (HW.out w1 (Below.refl _ _)).mono ?_
    rintro _ w3 ⟨rfl, h1, hb, hk⟩
    have H1 := Lib.hid h1
    have Hb := Lib.hid hb
    have Hk := Lib.hid hk
    clear h1 hb hk
    go_wp2_with fail
    go_end0
    exact ⟨rfl, H1.out, Hb.out, Hk.out⟩
  · have h11 : (r == 223) = false := by simp [h1]
    have HG := Lib.hid (Great_any r (by omega) (by omega) w1 HP.out)
    by_cases h2 : greatF r = r
    · have h21 : (greatF r != r) = false := by simp [h2]
      rw [if_neg (by rintro (h | h); exact h1 h; exact h h2), one_cells]
      have hsb : 0 ≤ smallF r ∧ smallF r ≤ 1114111 := by
        rcases small_cases r with ⟨_, e⟩ | h'
        · rw [e]; exact hr0
        · have p := pr_ok h'
          have := p.lo'; have := p.hi'; omega
      have HS := Lib.hid (fun W (h : Below w1.heap.size w1 W) => Small_any r (by omega) (by omega) W (HP.out.below h))
      clear h1 h2
      go_enter Tryz.func32, Tryz.ntmps32
      go_wp2_with fail
      refine HG.out.mono ?_
      rintro _ w2 ⟨rfl, b2⟩
      have Hb2 := Lib.hid b2
      clear b2
      go_wp2_with fail
      refine (HS.out w2 Hb2.out).mono ?_
      rintro _ w3 ⟨rfl, b3⟩
      have Hb3 := Lib.hid (Hb2.out.trans (b3.mono Hb2.out.size))
      clear b3
      have HR := Lib.hid (brune_k B B bs (smallF r) (by omega) (by omega) w3 (isB_below HI.out Hb3.out) (by omega) (by have := Hb3.out.size; omega))
      have Hb4 := Lib.hid (Hb3.out.mono (show B ≤ w1.heap.size by omega))
      have Hk4 := Lib.hid (kept_below (b := B) Hb3.out)
      go_wp2_with fail
      refine HR.out.mono ?_
      rintro _ w4 ⟨⟨v, rfl⟩, h1, hb, hk⟩
      have H1 := Lib.hid h1
      have Hb := Lib.hid (Hb4.out.trans hb)
      have Hk := Lib.hid (Hk4.out.trans hk)
      clear h1 hb hk
      go_wp2_with fail
      go_end0
      exact ⟨rfl, H1.out, Hb.out, Hk.out⟩
    · have h21 : (greatF r != r) = true := by simp [h2]
      rw [if_pos (.inr h2)]
      clear h1 h2
      go_enter Tryz.func32, Tryz.ntmps32
      go_wp2_with fail
      refine HG.out.mono ?_
      rintro _ w2 ⟨rfl, b2⟩
      have Hb2 := Lib.hid b2
      clear b2
      have Hb4 := Lib.hid (Hb2.out.mono (show B ≤ w1.heap.size by omega))
      have Hk4 := Lib.hid (kept_below (b := B) Hb2.out)
      go_wp2_with fail
      refine (HW.out w2 Hb2.out).mono ?_
      rintro _ w3 ⟨rfl, h1, hb, hk⟩
      have H1 := Lib.hid h1
      have Hb := Lib.hid (Hb4.out.trans hb)
      have Hk := Lib.hid (Hk4.out.trans hk)
      clear h1 hb hk
      go_wp2_with fail
      go_end0
      exact ⟨rfl, H1.out, Hb.out, Hk.out⟩
end
end Go.Proofs.YtjkakemlhhieoaaGreatDoor

/- Title's function literal. -/
namespace Go.Proofs.YtjkakemlhhieoaaGreatDoor
open Go.RowKit Go.Lib
section
variable (s : ByteArray) (w : World)
set_option maxHeartbeats 4000000 in
set_option maxRecDepth 100000 in
theorem title_maker (Bs : Nat) (hs : s.size ≤ 1073741824) (hE : Env5 w) (hc : w.cell? ⟨Bs, 0, none⟩ = some (.string s)) : Maker (titleF kind5) 24 #[.pointer (some ⟨Bs, 0, none⟩)] s w := by
  intro pos bs w1 hb hp hg hI hl hbw hlt
  obtain ⟨hh, hd⟩ := here_facts s hp hg
  have hE1 := hE.below hbw
  have hBsw : Bs < w.heap.size := World.block_lt_of_cell? w _ hc
  have hc1 := (hbw.cell (p := ⟨Bs, 0, none⟩) hBsw).trans hc
  have hBs1 : Bs < w1.heap.size := World.block_lt_of_cell? w1 _ hc1
  have HS := Lib.hid (fun W hE => smallIn_any s pos W hs hb hp hE)
  have HI2 := Lib.hid (fun W hT => endsInWord_any (s.extract 0 pos) W (by simp; unfold maxLen; omega) hT)
  rw [take_list] at HI2
  have hz : hereT (titleF kind5) s.data.toList pos = (if kind5 (headI (s.data.toList.drop pos)).1 = 3 ∧ inWord5 kind5 (items (s.data.toList.take pos)).reverse = false then upZ 115 (headI (s.data.toList.drop pos)) else [lowZ kind5 (items (s.data.toList.take pos)).reverse (headI (s.data.toList.drop pos)) (items (s.data.toList.drop (pos + (dec (s.data.toList.drop pos)).2)))]).flatMap Lib.encodeRune := rfl
  have hzb := lowZ_i32 kind5 (items (s.data.toList.take pos)).reverse (items (s.data.toList.drop (pos + (dec (s.data.toList.drop pos)).2))) (headI (s.data.toList.drop pos)) (by rw [hh]; simp) (by rw [hh]; simp; omega)
  rw [lowZ_num] at hzb hz
  rw [hh] at hzb hz
  obtain ⟨z, hze⟩ : ∃ z, (if ((dec (s.data.toList.drop pos)).1 : Int) = 931 ∧ begins5 kind5 (items (s.data.toList.take pos)).reverse = true ∧ begins5 kind5 (items (s.data.toList.drop (pos + (dec (s.data.toList.drop pos)).2))) = false then (962 : Int) else smallF ((dec (s.data.toList.drop pos)).1 : Int)) = z := ⟨_, rfl⟩
  simp only at hzb hz
  rw [hze] at HS hzb hz
  obtain ⟨q, hq⟩ : ∃ q, inWord5 kind5 (items (s.data.toList.take pos)).reverse = q := ⟨_, rfl⟩
  rw [hq] at HI2 hz
  rw [hz]
  obtain ⟨m, hm⟩ : ∃ m, markZ ((dec (s.data.toList.drop pos)).1 : Int) = m := ⟨_, rfl⟩
  rw [hm]
  obtain ⟨r, hr⟩ : ∃ r, ((dec (s.data.toList.drop pos)).1 : Int) = r := ⟨_, rfl⟩
  rw [hr] at HS
  rw [hr]
  have hr0 : 0 ≤ r ∧ r ≤ 1114111 := by omega
  obtain ⟨B, hB⟩ : ∃ B, w.heap.size = B := ⟨_, rfl⟩
  rw [hB] at hI hbw hlt hBsw ⊢
  have hpe : pos ≤ s.size := by omega
  have HI := Lib.hid hI
  have HE1 := Lib.hid hE1
  have HK := Lib.hid (Kind_any r w1)
  have HWG := Lib.hid (fun W (h : Below w1.heap.size w1 W) => writeGreat_any B bs r ⟨#[83, 115]⟩ W (by omega) (by omega) (by decide) (isB_below HI.out h) hl (by have := h.size; omega) (HE1.out.below h).2)
  rw [show (if r = 223 then Lib.strCells ⟨#[83, 115]⟩ else Lib.runeCells (greatF r)) = Lib.byteCells ((upZ 115 (r, m, 0)).flatMap Lib.encodeRune) from up_cells 115 ⟨#[83, 115]⟩ (r, m, 0) (by kernel_rfl)] at HWG
  clear hg hh hd hE hE1 hc hz hze hm hr hq hI hbw hB hb
  show Calls _ _ #[.pointer (some ⟨B, 0, none⟩), .int .i64 (pos : Int), .int .i32 r, .pointer (some ⟨Bs, 0, none⟩)] w1 _
  have hkd : (cls kindsL (char r) : Nat) = kind5 r := rfl
  rw [hkd] at HK
  obtain ⟨k, hk⟩ : ∃ k, kind5 r = k := ⟨_, rfl⟩
  rw [hk] at HK ⊢
  clear hk hkd
  by_cases h3 : k = 3
  · subst h3
    cases q with
    | false =>
      rw [if_pos ⟨rfl, rfl⟩]
      go_enter Tryz.func24, Tryz.ntmps24
      go_wp2_with fail
      refine HK.out.mono ?_
      rintro _ w2 ⟨rfl, b2⟩
      have hc2 := (b2.cell (p := ⟨Bs, 0, none⟩) hBs1).trans hc1
      have HI3 := Lib.hid (HI2.out w2 (HE1.out.below b2).1)
      have Hb2 := Lib.hid b2
      clear b2
      go_wp2_with fail
      refine HI3.out.mono ?_
      rintro _ w3 ⟨rfl, b3⟩
      have Hb3 := Lib.hid (Hb2.out.trans (b3.mono Hb2.out.size))
      have Hb4 := Lib.hid (Hb3.out.mono (show B ≤ w1.heap.size by omega))
      have Hk4 := Lib.hid (kept_below (b := B) Hb3.out)
      clear b3
      go_wp2_with fail
      refine (HWG.out w3 Hb3.out).mono ?_
      rintro _ w4 ⟨rfl, h1, hb, hk⟩
      have H1 := Lib.hid h1
      have Hb := Lib.hid (Hb4.out.trans hb)
      have Hk := Lib.hid (Hk4.out.trans hk)
      clear h1 hb hk
      go_wp2_with fail
      exact ⟨rfl, _, results_none rfl _ _ _, rfl, H1.out, Hb.out, Hk.out⟩
    | true =>
      rw [if_neg (by simp), one_cells]
      go_enter Tryz.func24, Tryz.ntmps24
      go_wp2_with fail
      refine HK.out.mono ?_
      rintro _ w2 ⟨rfl, b2⟩
      have hc2 := (b2.cell (p := ⟨Bs, 0, none⟩) hBs1).trans hc1
      have HI3 := Lib.hid (HI2.out w2 (HE1.out.below b2).1)
      have hBs2 : Bs < w2.heap.size := World.block_lt_of_cell? w2 _ hc2
      have Hb2 := Lib.hid b2
      clear b2
      go_wp2_with fail
      refine HI3.out.mono ?_
      rintro _ w3 ⟨rfl, b3⟩
      have hc3 := (b3.cell (p := ⟨Bs, 0, none⟩) hBs2).trans hc2
      have Hb3 := Lib.hid (Hb2.out.trans (b3.mono Hb2.out.size))
      have HS3 := Lib.hid (HS.out w3 (HE1.out.below Hb3.out))
      clear b3
      go_wp2_with fail
      refine HS3.out.mono ?_
      rintro _ w4 ⟨rfl, b4⟩
      have Hb4 := Lib.hid (Hb3.out.trans (b4.mono Hb3.out.size))
      clear b4
      have HR := Lib.hid (brune_k B B bs z (by omega) (by omega) w4 (isB_below HI.out Hb4.out) (by omega) (by have := Hb4.out.size; omega))
      have Hb5 := Lib.hid (Hb4.out.mono (show B ≤ w1.heap.size by omega))
      have Hk5 := Lib.hid (kept_below (b := B) Hb4.out)
      go_wp2_with fail
      refine HR.out.mono ?_
      rintro _ w5 ⟨⟨v, rfl⟩, h1, hb, hk⟩
      have H1 := Lib.hid h1
      have Hb := Lib.hid (Hb5.out.trans hb)
      have Hk := Lib.hid (Hk5.out.trans hk)
      clear h1 hb hk
      go_wp2_with fail
      first | go_end0 | go_ret
      exact ⟨rfl, H1.out, Hb.out, Hk.out⟩
  · have k3 : ((k : Int) == 3) = false := by simp; omega
    rw [if_neg (by rintro ⟨h, _⟩; exact h3 h), one_cells]
    clear h3
    go_enter Tryz.func24, Tryz.ntmps24
    go_wp2_with fail
    refine HK.out.mono ?_
    rintro _ w2 ⟨rfl, b2⟩
    have hc2 := (b2.cell (p := ⟨Bs, 0, none⟩) hBs1).trans hc1
    have HS2 := Lib.hid (HS.out w2 (HE1.out.below b2))
    have Hb2 := Lib.hid b2
    clear b2
    go_wp2_with fail
    refine HS2.out.mono ?_
    rintro _ w4 ⟨rfl, b4⟩
    have Hb4 := Lib.hid (Hb2.out.trans (b4.mono Hb2.out.size))
    clear b4
    have HR := Lib.hid (brune_k B B bs z (by omega) (by omega) w4 (isB_below HI.out Hb4.out) (by omega) (by have := Hb4.out.size; omega))
    have Hb5 := Lib.hid (Hb4.out.mono (show B ≤ w1.heap.size by omega))
    have Hk5 := Lib.hid (kept_below (b := B) Hb4.out)
    go_wp2_with fail
    refine HR.out.mono ?_
    rintro _ w5 ⟨⟨v, rfl⟩, h1, hb, hk⟩
    have H1 := Lib.hid h1
    have Hb := Lib.hid (Hb5.out.trans hb)
    have Hk := Lib.hid (Hk5.out.trans hk)
    clear h1 hb hk
    go_wp2_with fail
    first | go_end0 | go_ret
    exact ⟨rfl, H1.out, Hb.out, Hk.out⟩
end
end Go.Proofs.YtjkakemlhhieoaaGreatDoor

/- fold's functions of texts, by what each makes. -/
namespace Go.Proofs.YtjkakemlhhieoaaGreatDoor
open Go.RowKit Go.Lib

theorem foldF_len : ∀ pre p t, (foldF pre p t).length ≤ 2 := fun _ p _ => by
  show (foldN p.1).length ≤ 2
  unfold foldN
  split
  · simp
  · split <;> simp
theorem swapF_len : ∀ pre p t, (swapF pre p t).length ≤ 2 := swap_two
theorem madeP_fold : ∀ (ps pre : List Pc), madeP foldF pre ps = ps.flatMap foldG
  | [], _ => rfl
  | p :: t, pre => by
    unfold madeP
    rw [madeP_fold t, List.flatMap_cons]
    rfl
theorem madeS_fold (l : List UInt8) : madeS foldF (apartS l) = foldT l := by
  unfold madeS foldT foldP
  rw [madeP_fold, items_apart]

set_option maxRecDepth 100000 in
theorem Upper_any (s : ByteArray) (w : World) (hs : s.size ≤ 1073741824) (hE : Env5 w) : Calls Tryz.prog 6 #[.string s] w fun e w' => e = .returned (.string ⟨(madeS upF s.data.toList).toArray⟩) ∧ Below w.heap.size w w' := by
  have HR := Lib.hid (remade_any upF up_two 22 #[] s w hs (enters_of Tryz.func22 (by kernel_rfl) rfl) (upper_maker s w hE))
  obtain ⟨R, hR⟩ : ∃ R, madeS upF s.data.toList = R := ⟨_, rfl⟩
  rw [hR] at HR ⊢
  clear hR hE
  go_enter Tryz.func6, Tryz.ntmps6
  go_wp2_with fail
  refine HR.out.mono ?_
  rintro _ w2 ⟨rfl, b2⟩
  have Hb2 := Lib.hid b2
  clear b2
  go_wp2_with fail
  go_ret
  exact ⟨rfl, Hb2.out⟩
set_option maxRecDepth 100000 in
theorem Swap_any (s : ByteArray) (w : World) (hs : s.size ≤ 1073741824) (hE : Env5 w) : Calls Tryz.prog 11 #[.string s] w fun e w' => e = .returned (.string ⟨(madeS swapF s.data.toList).toArray⟩) ∧ Below w.heap.size w w' := by
  have HR := Lib.hid (remade_any swapF swap_two 32 #[] s w hs (enters_of Tryz.func32 (by kernel_rfl) rfl) (swap_maker s w hE))
  obtain ⟨R, hR⟩ : ∃ R, madeS swapF s.data.toList = R := ⟨_, rfl⟩
  rw [hR] at HR ⊢
  clear hR hE
  go_enter Tryz.func11, Tryz.ntmps11
  go_wp2_with fail
  refine HR.out.mono ?_
  rintro _ w2 ⟨rfl, b2⟩
  have Hb2 := Lib.hid b2
  clear b2
  go_wp2_with fail
  go_ret
  exact ⟨rfl, Hb2.out⟩
/-- a text laid into a box: what a function literal keeps -/
theorem box_text (s : ByteArray) (w : World) : ∃ W, w.alloc (.cells #[.string s] 9) = W ∧ Below w.heap.size w W ∧ W.cell? ⟨w.heap.size, 0, none⟩ = some (.string s) ∧ w.heap.size < W.heap.size :=
  ⟨_, rfl, (Below.refl _ w).alloc (Nat.le_refl _) _, by simp, by simp⟩
set_option maxRecDepth 100000 in
theorem Lower_any (s : ByteArray) (w : World) (hs : s.size ≤ 1073741824) (hE : Env5 w) : Calls Tryz.prog 5 #[.string s] w fun e w' => e = .returned (.string ⟨(madeS (lowF kind5) s.data.toList).toArray⟩) ∧ Below w.heap.size w w' := by
  obtain ⟨W, hW, hb, hc, hlt⟩ := box_text s w
  have HR := Lib.hid (remade_any (lowF kind5) (low_two kind5) 19 #[.pointer (some ⟨w.heap.size, 0, none⟩)] s W hs (enters_of Tryz.func19 (by kernel_rfl) rfl) (lower_maker s W w.heap.size hs (hE.below hb) hc))
  obtain ⟨R, hR⟩ : ∃ R, madeS (lowF kind5) s.data.toList = R := ⟨_, rfl⟩
  rw [hR] at HR ⊢
  have HW := Lib.hid hW
  have Hb := Lib.hid hb
  clear hR hE hb hW hlt
  go_enter Tryz.func5, Tryz.ntmps5
  go_wp2_with fail
  rw [HW.out]
  go_wp2_with fail
  refine HR.out.mono ?_
  rintro _ w2 ⟨rfl, b2⟩
  have Hb2 := Lib.hid (Hb.out.trans (b2.mono Hb.out.size))
  clear b2
  go_wp2_with fail
  go_ret
  exact ⟨rfl, Hb2.out⟩
set_option maxRecDepth 100000 in
theorem Title_any (s : ByteArray) (w : World) (hs : s.size ≤ 1073741824) (hE : Env5 w) : Calls Tryz.prog 7 #[.string s] w fun e w' => e = .returned (.string ⟨(madeS (titleF kind5) s.data.toList).toArray⟩) ∧ Below w.heap.size w w' := by
  obtain ⟨W, hW, hb, hc, hlt⟩ := box_text s w
  have HR := Lib.hid (remade_any (titleF kind5) (title_two kind5) 24 #[.pointer (some ⟨w.heap.size, 0, none⟩)] s W hs (enters_of Tryz.func24 (by kernel_rfl) rfl) (title_maker s W w.heap.size hs (hE.below hb) hc))
  obtain ⟨R, hR⟩ : ∃ R, madeS (titleF kind5) s.data.toList = R := ⟨_, rfl⟩
  rw [hR] at HR ⊢
  have HW := Lib.hid hW
  have Hb := Lib.hid hb
  clear hR hE hb hW hlt
  go_enter Tryz.func7, Tryz.ntmps7
  go_wp2_with fail
  rw [HW.out]
  go_wp2_with fail
  refine HR.out.mono ?_
  rintro _ w2 ⟨rfl, b2⟩
  have Hb2 := Lib.hid (Hb.out.trans (b2.mono Hb.out.size))
  clear b2
  go_wp2_with fail
  go_ret
  exact ⟨rfl, Hb2.out⟩

/-- not too long to be folded -/
def Fine5 (l : List UInt8) : Prop := l.length ≤ 268435456 ∧ (apartS l).length ≤ 1073741824 ∧ (foldT l).length ≤ 268435456
set_option maxRecDepth 100000 in
theorem Fold_any (s : ByteArray) (w : World) (hs : Fine5 s.data.toList) (hE : Env5 w) : Calls Tryz.prog 13 #[.string s] w fun e w' => e = .returned (.string ⟨(foldS s.data.toList).toArray⟩) ∧ Below w.heap.size w w' := by
  obtain ⟨h1, h2, h3⟩ := hs
  rw [size_list] at h1
  have HA := Lib.hid (Apart_any s w h1 hE.1)
  obtain ⟨x, hx⟩ : ∃ x, apartS s.data.toList = x := ⟨_, rfl⟩
  obtain ⟨y, hy⟩ : ∃ y, foldT s.data.toList = y := ⟨_, rfl⟩
  have hxy : madeS foldF x = y := by rw [← hx, ← hy]; exact madeS_fold _
  have hfs : foldS s.data.toList = apartS y := by rw [← hy]; rfl
  have hxs : (ByteArray.mk x.toArray).size = x.length := by simp [ByteArray.size]
  have hys : (ByteArray.mk y.toArray).size = y.length := by simp [ByteArray.size]
  rw [hx] at HA h2
  rw [hy] at h3
  have HR := Lib.hid (fun W hE => remade_any foldF foldF_len 38 #[] ⟨x.toArray⟩ W (by rw [hxs]; exact h2) (enters_of Tryz.func38 (by kernel_rfl) rfl) (fold_maker ⟨x.toArray⟩ W hE))
  rw [show (ByteArray.mk x.toArray).data.toList = x from rfl, hxy] at HR
  have HB := Lib.hid (fun W hT => Apart_any ⟨y.toArray⟩ W (by rw [hys]; exact h3) hT)
  rw [show (ByteArray.mk y.toArray).data.toList = y from rfl, ← hfs] at HB
  obtain ⟨R, hR⟩ : ∃ R, foldS s.data.toList = R := ⟨_, rfl⟩
  rw [hR] at HB ⊢
  have HE := Lib.hid hE
  clear hR hfs hxy hx hy hxs hys hE h1 h2 h3
  go_enter Tryz.func13, Tryz.ntmps13
  go_wp2_with fail
  refine HA.out.mono ?_
  rintro _ w1 ⟨rfl, b1⟩
  have HE1 := Lib.hid (HE.out.below b1)
  have Hb1 := Lib.hid b1
  clear b1
  go_wp2_with fail
  refine (HR.out w1 HE1.out).mono ?_
  rintro _ w2 ⟨rfl, b2⟩
  have HE2 := Lib.hid (HE1.out.below b2)
  have Hb2 := Lib.hid (Hb1.out.trans (b2.mono Hb1.out.size))
  clear b2
  go_wp2_with fail
  refine (HB.out w2 HE2.out.1).mono ?_
  rintro _ w3 ⟨rfl, b3⟩
  have Hb3 := Lib.hid (Hb2.out.trans (b3.mono Hb2.out.size))
  clear b3
  go_wp2_with fail
  go_ret
  exact ⟨rfl, Hb3.out⟩
def same5 (a b : List UInt8) : Bool := decide (foldS a = foldS b)
set_option maxRecDepth 100000 in
theorem FSame_any (a b : ByteArray) (w : World) (ha : Fine5 a.data.toList) (hb : Fine5 b.data.toList) (hE : Env5 w) : Calls Tryz.prog 16 #[.string a, .string b] w fun e w' => e = .returned (.bool (same5 a.data.toList b.data.toList)) ∧ Below w.heap.size w w' := by
  have HA := Lib.hid (Fold_any a w ha hE)
  have HB := Lib.hid (fun w hE => Fold_any b w hb hE)
  have HE := Lib.hid hE
  unfold same5
  obtain ⟨x, hx⟩ : ∃ x, foldS a.data.toList = x := ⟨_, rfl⟩
  obtain ⟨y, hy⟩ : ∃ y, foldS b.data.toList = y := ⟨_, rfl⟩
  rw [hx] at HA ⊢
  rw [hy] at HB ⊢
  clear hx hy hE
  go_enter Tryz.func16, Tryz.ntmps16
  go_wp2_with fail
  refine HA.out.mono ?_
  rintro _ w1 ⟨rfl, b1⟩
  have HE1 := Lib.hid (HE.out.below b1)
  have Hb1 := Lib.hid b1
  clear b1
  go_wp2_with fail
  refine (HB.out w1 HE1.out).mono ?_
  rintro _ w2 ⟨rfl, b2⟩
  have Hb2 := Lib.hid (Hb1.out.trans (b2.mono Hb1.out.size))
  clear b2
  by_cases h : x = y
  · subst h
    go_wp2_with fail
    go_ret
    exact ⟨by simp, Hb2.out⟩
  · have hne : ¬ ((⟨x.toArray⟩ : ByteArray) = ⟨y.toArray⟩) := fun e => h (by have := congrArg (fun z : ByteArray => z.data.toList) e; simpa using this)
    go_wp2_with fail
    go_ret
    exact ⟨by simp [h], Hb2.out⟩
end Go.Proofs.YtjkakemlhhieoaaGreatDoor

/- What the laws of stage 5 ask first: a few texts are folded. (Made by tools/mkworks5.py.) -/
namespace Go.Proofs.YtjkakemlhhieoaaGreatDoor
open Go.RowKit Go.Lib

theorem wk5_0 (w : World) (hE : Env5 w) : Calls Tryz.prog 34 #[.int .i32 65] w fun e w' => e = .returned (.int .i32 97) ∧ Below w.heap.size w w' := by
  have h := Small_any 65 (by decide) (by decide) w hE.2
  rw [show smallF 65 = 97 by decide +kernel] at h
  exact h
theorem wk5_1 (w : World) (hE : Env5 w) : Calls Tryz.prog 33 #[.int .i32 255] w fun e w' => e = .returned (.int .i32 376) ∧ Below w.heap.size w w' := by
  have h := Great_any 255 (by decide) (by decide) w hE.2
  rw [show greatF 255 = 376 by decide +kernel] at h
  exact h
theorem wk5_2 (w : World) (hE : Env5 w) : Calls Tryz.prog 5 #[.string ⟨#[65, 255, 66]⟩] w fun e w' => e = .returned (.string ⟨#[97, 255, 98]⟩) ∧ Below w.heap.size w w' := by
  have h := Lower_any ⟨#[65, 255, 66]⟩ w (by decide) hE
  rw [show madeS (lowF kind5) (ByteArray.mk #[65, 255, 66]).data.toList = [97, 255, 98] from (by decide +kernel : madeS (lowF kind5) [65, 255, 66] = [97, 255, 98])] at h
  exact h
theorem wk5_3 (w : World) (hE : Env5 w) : Calls Tryz.prog 6 #[.string ⟨#[115, 116, 114, 97, 195, 159, 101]⟩] w fun e w' => e = .returned (.string ⟨#[83, 84, 82, 65, 83, 83, 69]⟩) ∧ Below w.heap.size w w' := by
  have h := Upper_any ⟨#[115, 116, 114, 97, 195, 159, 101]⟩ w (by decide) hE
  rw [show madeS upF (ByteArray.mk #[115, 116, 114, 97, 195, 159, 101]).data.toList = [83, 84, 82, 65, 83, 83, 69] from (by decide +kernel : madeS upF [115, 116, 114, 97, 195, 159, 101] = [83, 84, 82, 65, 83, 83, 69])] at h
  exact h
theorem wk5_4 (w : World) (hE : Env5 w) : Calls Tryz.prog 7 #[.string ⟨#[111, 39, 110, 101, 105, 108, 32, 52, 116, 104]⟩] w fun e w' => e = .returned (.string ⟨#[79, 39, 78, 101, 105, 108, 32, 52, 116, 104]⟩) ∧ Below w.heap.size w w' := by
  have h := Title_any ⟨#[111, 39, 110, 101, 105, 108, 32, 52, 116, 104]⟩ w (by decide) hE
  rw [show madeS (titleF kind5) (ByteArray.mk #[111, 39, 110, 101, 105, 108, 32, 52, 116, 104]).data.toList = [79, 39, 78, 101, 105, 108, 32, 52, 116, 104] from (by decide +kernel : madeS (titleF kind5) [111, 39, 110, 101, 105, 108, 32, 52, 116, 104] = [79, 39, 78, 101, 105, 108, 32, 52, 116, 104])] at h
  exact h
theorem wk5_5 (w : World) (hE : Env5 w) : Calls Tryz.prog 11 #[.string ⟨#[97, 66]⟩] w fun e w' => e = .returned (.string ⟨#[65, 98]⟩) ∧ Below w.heap.size w w' := by
  have h := Swap_any ⟨#[97, 66]⟩ w (by decide) hE
  rw [show madeS swapF (ByteArray.mk #[97, 66]).data.toList = [65, 98] from (by decide +kernel : madeS swapF [97, 66] = [65, 98])] at h
  exact h
theorem wk5_6 (w : World) (hE : Env5 w) : Calls Tryz.prog 13 #[.string ⟨#[195, 137]⟩] w fun e w' => e = .returned (.string ⟨#[101, 204, 129]⟩) ∧ Below w.heap.size w w' := by
  have h := Fold_any ⟨#[195, 137]⟩ w (show Fine5 [195, 137] by unfold Fine5; decide +kernel) hE
  rw [show foldS (ByteArray.mk #[195, 137]).data.toList = [101, 204, 129] from (by decide +kernel : foldS [195, 137] = [101, 204, 129])] at h
  exact h
theorem wk5_7 (w : World) (hE : Env5 w) : Calls Tryz.prog 16 #[.string ⟨#[83, 84, 82, 65, 83, 83, 69]⟩, .string ⟨#[115, 116, 114, 97, 195, 159, 101]⟩] w fun e w' => e = .returned (.bool true) ∧ Below w.heap.size w w' := by
  have h := FSame_any ⟨#[83, 84, 82, 65, 83, 83, 69]⟩ ⟨#[115, 116, 114, 97, 195, 159, 101]⟩ w (show Fine5 [83, 84, 82, 65, 83, 83, 69] by unfold Fine5; decide +kernel) (show Fine5 [115, 116, 114, 97, 195, 159, 101] by unfold Fine5; decide +kernel) hE
  rw [show same5 (ByteArray.mk #[83, 84, 82, 65, 83, 83, 69]).data.toList (ByteArray.mk #[115, 116, 114, 97, 195, 159, 101]).data.toList = true from (by decide +kernel : same5 [83, 84, 82, 65, 83, 83, 69] [115, 116, 114, 97, 195, 159, 101] = true)] at h
  exact h
theorem wk5_8 (w : World) (hE : Env5 w) : Calls Tryz.prog 16 #[.string ⟨#[97]⟩, .string ⟨#[98]⟩] w fun e w' => e = .returned (.bool false) ∧ Below w.heap.size w w' := by
  have h := FSame_any ⟨#[97]⟩ ⟨#[98]⟩ w (show Fine5 [97] by unfold Fine5; decide +kernel) (show Fine5 [98] by unfold Fine5; decide +kernel) hE
  rw [show same5 (ByteArray.mk #[97]).data.toList (ByteArray.mk #[98]).data.toList = false from (by decide +kernel : same5 [97] [98] = false)] at h
  exact h
set_option maxRecDepth 100000 in
set_option maxHeartbeats 2000000 in
theorem works5_any (w : World) (hE : Env5 w) : Calls Tryz.prog 15 #[] w fun e w' => e = .returned (.bool true) ∧ Below w.heap.size w w' := by
  have HE := Lib.hid hE
  clear hE
  go_enter Tryz.func15, Tryz.ntmps15
  go_wp2_with fail
  refine (wk5_0 w HE.out).mono ?_
  rintro _ w1 ⟨rfl, b0⟩
  have HE1 := Lib.hid (HE.out.below b0)
  have Hb1 := Lib.hid (b0)
  clear b0
  go_wp2_with fail
  refine (wk5_1 w1 HE1.out).mono ?_
  rintro _ w2 ⟨rfl, b1⟩
  have HE2 := Lib.hid (HE1.out.below b1)
  have Hb2 := Lib.hid (Hb1.out.trans (b1.mono Hb1.out.size))
  clear b1
  go_wp2_with fail
  refine (wk5_2 w2 HE2.out).mono ?_
  rintro _ w3 ⟨rfl, b2⟩
  have HE3 := Lib.hid (HE2.out.below b2)
  have Hb3 := Lib.hid (Hb2.out.trans (b2.mono Hb2.out.size))
  clear b2
  go_wp2_with fail
  refine (wk5_3 w3 HE3.out).mono ?_
  rintro _ w4 ⟨rfl, b3⟩
  have HE4 := Lib.hid (HE3.out.below b3)
  have Hb4 := Lib.hid (Hb3.out.trans (b3.mono Hb3.out.size))
  clear b3
  go_wp2_with fail
  refine (wk5_4 w4 HE4.out).mono ?_
  rintro _ w5 ⟨rfl, b4⟩
  have HE5 := Lib.hid (HE4.out.below b4)
  have Hb5 := Lib.hid (Hb4.out.trans (b4.mono Hb4.out.size))
  clear b4
  go_wp2_with fail
  refine (wk5_5 w5 HE5.out).mono ?_
  rintro _ w6 ⟨rfl, b5⟩
  have HE6 := Lib.hid (HE5.out.below b5)
  have Hb6 := Lib.hid (Hb5.out.trans (b5.mono Hb5.out.size))
  clear b5
  go_wp2_with fail
  refine (wk5_6 w6 HE6.out).mono ?_
  rintro _ w7 ⟨rfl, b6⟩
  have HE7 := Lib.hid (HE6.out.below b6)
  have Hb7 := Lib.hid (Hb6.out.trans (b6.mono Hb6.out.size))
  clear b6
  go_wp2_with fail
  refine (wk5_7 w7 HE7.out).mono ?_
  rintro _ w8 ⟨rfl, b7⟩
  have HE8 := Lib.hid (HE7.out.below b7)
  have Hb8 := Lib.hid (Hb7.out.trans (b7.mono Hb7.out.size))
  clear b7
  go_wp2_with fail
  refine (wk5_8 w8 HE8.out).mono ?_
  rintro _ w9 ⟨rfl, b8⟩
  have HE9 := Lib.hid (HE8.out.below b8)
  have Hb9 := Lib.hid (Hb8.out.trans (b8.mono Hb8.out.size))
  clear b8
  go_wp2_with fail
  go_ret
  exact ⟨rfl, Hb9.out⟩
end Go.Proofs.YtjkakemlhhieoaaGreatDoor
