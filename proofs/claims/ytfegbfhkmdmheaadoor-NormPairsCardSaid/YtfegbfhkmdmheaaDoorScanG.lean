/- The program's package scan: the first, the last, whether whole, how many, whether valid. -/
import Derived.Test.YtfegbfhkmdmheaaDoorRefCD
import Derived.Test.YtfegbfhkmdmheaaDoorFull
import Derived.Test.YtfegbfhkmdmheaaDoorShelf
import Derived.Lib.OthersKept
import Derived.Laws.Cover4
import Derived.Laws.IdiomStrings
import Derived.Deep.Draws
import Derived.Laws.OwnMore
import Derived.Test.YtfegbfhkmdmheaaDoorMem
set_option linter.unusedSimpArgs false
set_option linter.unusedVariables false
namespace Go.Proofs.YtfegbfhkmdmheaaDoor
open Go.RowKit Go.Lib

theorem ret_int' {k : IntKind} {a b : Int} (h : a = b) : Ending.returned (.int k a) = .returned (.int k b) := by rw [h]
theorem decodeGo_nxt (s : ByteArray) : decodeGo s = nxt s.data.toList := by
  unfold decodeGo nxt
  by_cases h : s.size = 0
  · rw [if_pos h, if_pos (list_nil s h)]
  · rw [if_neg h, if_neg (list_ne s (by omega)), decode_dec _ _ (Nat.zero_le _), List.drop_zero]

theorem next_any (s : ByteArray) (w : World) (hT : Utf8Tabs 0 1 w) : Calls Tryd.prog 29 #[.string s] w fun e w' => e = .returned (.tuple #[.int .i32 (nxt s.data.toList).1, .int .i64 (nxt s.data.toList).2]) ∧ Below w.heap.size w w' := by
  have hc := Tryd.utf8_DecodeRuneInString s w hT
  rw [decodeGo_nxt] at hc
  have H := Lib.hid hc
  clear hc hT
  go_enter Tryd.func29, Tryd.ntmps29
  go_wp2_with (go_at_call 55; refine H.out.mono ?_; rintro e w' ⟨rfl, hb⟩)
  go_ret2
  exact ⟨rfl, hb⟩
theorem last_any (s : ByteArray) (w : World) (hs : s.size ≤ maxLen) (hT : Utf8Tabs 0 1 w) : Calls Tryd.prog 30 #[.string s] w fun e w' => e = .returned (.tuple #[.int .i32 (decodeLastL s.data.toList).1, .int .i64 (decodeLastL s.data.toList).2]) ∧ Below w.heap.size w w' := by
  unfold maxLen at hs
  have H := Lib.hid (Tryd.utf8_DecodeLastRuneInString s w (by omega) hT)
  clear hT
  go_enter Tryd.func30, Tryd.ntmps30
  go_wp2_with (go_at_call 56; refine H.out.mono ?_; rintro e w' ⟨rfl, hb⟩)
  go_ret2
  exact ⟨rfl, hb⟩
theorem whole_any (s : ByteArray) (w : World) (hs : s.size ≤ maxLen) (hT : Utf8Tabs 0 1 w) : Calls Tryd.prog 32 #[.string s] w fun e w' => e = .returned (.bool (full s.data.toList)) ∧ Below w.heap.size w w' := by
  have H := Lib.hid (full_any s w hT hs)
  clear hT
  go_enter Tryd.func32, Tryd.ntmps32
  go_wp2_with (go_at_call 57; refine H.out.mono ?_; rintro e w' ⟨rfl, hb⟩)
  go_ret
  exact ⟨rfl, hb⟩

/-- does a bad byte stand at the head, given the number told? -/
def badB (l : List UInt8) (r : Nat) : Bool := decide (r = 65533) && !hasPrefix l [239, 191, 189]
theorem isBad_any (s : ByteArray) (r : Nat) (w : World) : Calls Tryd.prog 58 #[.string s, .int .i32 (r : Int)] w fun e w' => e = .returned (.bool (badB s.data.toList r)) ∧ w = w' := by
  have hp := Tryd.strings_HasPrefix s ⟨#[239, 191, 189]⟩
  have H := Lib.hid hp
  clear hp
  by_cases h : r = 65533
  · have hb : ((r : Int) == 65533) = true := by subst h; rfl
    have hf : badB s.data.toList r = !hasPrefix s.data.toList [239, 191, 189] := by unfold badB; simp [h]
    rw [hf]
    clear h hf
    go_enter Tryd.func58, Tryd.ntmps58
    go_wp2_with (go_at_call 89; refine (H.out _).mono ?_; rintro e w' ⟨rfl, rfl⟩)
    go_ret
    exact ⟨rfl, rfl⟩
  · have hb : ((r : Int) == 65533) = false := by rw [beq_eq_false_iff_ne]; omega
    have hf : badB s.data.toList r = false := by unfold badB; simp [h]
    rw [hf]
    clear h hf
    go_enter Tryd.func58, Tryd.ntmps58
    go_wp2
    go_ret
    exact ⟨rfl, rfl⟩

theorem drop_ne (l : List UInt8) (k : Nat) (h : k < l.length) : l.drop k ≠ [] := by
  intro e
  have := congrArg List.length e
  simp at this
  omega
theorem segs_drop (l : List UInt8) (k : Nat) (h : k < l.length) : segs (l.drop k) = dec (l.drop k) :: segs (l.drop (k + (dec (l.drop k)).2)) := by
  rw [segs_cons _ (drop_ne l k h), List.drop_drop]
theorem next_le (l : List UInt8) (k : Nat) (h : k < l.length) : k + (dec (l.drop k)).2 ≤ l.length := by
  have := dec_le _ (drop_ne l k h)
  simp only [List.length_drop] at this
  omega

set_option maxHeartbeats 1000000 in
theorem count_any (s : ByteArray) (w : World) (hs : s.size ≤ 281474976710656) : Calls Tryd.prog 34 #[.string s] w fun e w' => e = .returned (.int .i64 (segs s.data.toList).length) ∧ Below w.heap.size w w' := by
  have hl := size_list s
  have Hl := Lib.hid hl
  clear hl
  go_enter Tryd.func34, Tryd.ntmps34
  go_wp2
  go_loopw [3] (fun n w' => ∃ (pos acc : Nat), w' = w.iter s pos ∧ n = .int .i64 acc ∧ Hid (acc + (segs (s.data.toList.drop pos)).length = (segs s.data.toList).length) ∧ acc ≤ pos ∧ pos ≤ s.size) (fun _ w' => s.size - w'.iterPos w.heap.size)
  case atStart => exact ⟨0, 0, rfl, rfl, by simp [Hid], Nat.le_refl _, Nat.zero_le _⟩
  case round =>
    obtain ⟨pos, acc, rfl, rfl, hc, ha, hp0⟩ := hrel
    by_cases hp : pos < s.size
    · have hd := decode_dec s pos hp0
      have hd1 := segs_drop s.data.toList pos (by rw [Hl.out]; exact hp)
      have hd2 := next_le s.data.toList pos (by rw [Hl.out]; exact hp)
      have hd3 := dec_pos (s.data.toList.drop pos)
      rw [Hl.out] at hd2
      obtain ⟨d, hdd⟩ : ∃ d, dec (s.data.toList.drop pos) = d := ⟨_, rfl⟩
      rw [hdd] at hd hd1 hd2 hd3
      have hnx : ∀ ty, (Instr.next (.pointer (some ⟨w.heap.size, 0, none⟩)) true ty).run Tryd.prog (w.iter s pos) = .ok (.tuple #[.bool true, .int .i64 pos, .int .i32 d.1]) (w.iter s (pos + d.2)) := fun ty => by
        rw [run_next_any w s pos ty hp, hd]
      have Hd1 := Lib.hid hd1
      clear hd1 hd hdd
      go_wp2
      go_roundw
      case rel =>
        refine ⟨pos + d.2, acc + 1, rfl, by go_num, ?_, by omega, by omega⟩
        have e := hc.out
        rw [Hd1.out] at e
        unfold Hid
        simp only [List.length_cons] at e
        omega
      case measure =>
        simp
        omega
    · have hnx : ∀ ty, (Instr.next (.pointer (some ⟨w.heap.size, 0, none⟩)) true ty).run Tryd.prog (w.iter s pos) = _ := fun ty => run_next_end w s pos ty hp
      go_wp2
      go_ret
      have e := hc.out
      rw [List.drop_of_length_le (by rw [Hl.out]; omega), segs_nil] at e
      simp only [List.length_nil, Nat.add_zero] at e
      exact ⟨ret_int' (by rw [← e]), (Below.refl _ w).alloc (Nat.le_refl _) _⟩

end Go.Proofs.YtfegbfhkmdmheaaDoor

/- The program's package scan: whether valid; the numbers of a text; numbers as a text. -/
namespace Go.Proofs.YtfegbfhkmdmheaaDoor
open Go.RowKit Go.Lib

def badSeg (d : Nat × Nat) : Bool := decide (d.2 = 1) && decide (d.1 = 65533)
def okSegs (l : List UInt8) : Bool := (segs l).all fun d => !badSeg d

theorem prefix3 (l : List UInt8) : hasPrefix l [239, 191, 189] = decide (3 ≤ l.length ∧ gb l 0 = 239 ∧ gb l 1 = 191 ∧ gb l 2 = 189) := by
  unfold hasPrefix gb
  match l with
  | [] => rfl
  | [a] => simp [List.isPrefixOf]
  | [a, b] => simp [List.isPrefixOf]
  | a :: b :: c :: t =>
    have e : ∀ (x : UInt8) (n : Nat) (hn : n < 256), (UInt8.ofNat n == x) = decide (x.toNat = n) := by
      intro x n hn
      apply Bool.eq_iff_iff.2
      simp only [beq_iff_eq, decide_eq_true_eq]
      constructor
      · intro h; subst h; simp; omega
      · intro h; subst h; simp
    have h1 := e a 239 (by omega)
    have h2 := e b 191 (by omega)
    have h3 := e c 189 (by omega)
    simp only [List.isPrefixOf, Bool.and_true]
    show ((UInt8.ofNat 239 == a) && ((UInt8.ofNat 191 == b) && (UInt8.ofNat 189 == c))) = _
    rw [h1, h2, h3]
    simp
theorem dec_fffd (l : List UInt8) (h : l ≠ []) (hr : (dec l).1 = 65533) : ((dec l).2 = 1 ∧ ¬ (3 ≤ l.length ∧ gb l 0 = 239 ∧ gb l 1 = 191 ∧ gb l 2 = 189)) ∨ ((dec l).2 = 3 ∧ (3 ≤ l.length ∧ gb l 0 = 239 ∧ gb l 1 = 191 ∧ gb l 2 = 189)) := by
  have h0 := gb_lt l 0
  have h1 := gb_lt l 1
  have h2 := gb_lt l 2
  have h3 := gb_lt l 3
  by_cases hp : 3 ≤ l.length ∧ gb l 0 = 239 ∧ gb l 1 = 191 ∧ gb l 2 = 189
  · refine .inr ⟨?_, hp⟩
    obtain ⟨a, b, c, d⟩ := hp
    have e1 : 1 < l.length := by omega
    have e2 : 2 < l.length := by omega
    simp [dec, decodeN, b, c, d, e1, e2]
  · refine .inl ⟨?_, hp⟩
    have key : ∀ x : Nat × Nat, dec l = x → x.1 = 65533 → x.2 = 1 := by
      intro x hx
      rw [← hx]
      clear hx hr
      unfold dec decodeN
      repeat' split
      all_goals (intro hr; first | rfl | (exfalso; revert hr; simp only; omega))
    exact key _ rfl hr
theorem badB_dec (l : List UInt8) (h : l ≠ []) : badB l (dec l).1 = badSeg (dec l) := by
  unfold badB badSeg
  rw [prefix3]
  by_cases hr : (dec l).1 = 65533
  · rcases dec_fffd l h hr with ⟨a, b⟩ | ⟨a, b⟩
    · simp [hr, a]; omega
    · simp [hr, a]; omega
  · simp [hr]

set_option maxHeartbeats 1000000 in
theorem valid_any (s : ByteArray) (w : World) (hs : s.size ≤ 281474976710656) : Calls Tryd.prog 33 #[.string s] w fun e w' => e = .returned (.bool (okSegs s.data.toList)) ∧ Below w.heap.size w w' := by
  have hl := size_list s
  have Hl := Lib.hid hl
  clear hl
  go_enter Tryd.func33, Tryd.ntmps33
  go_wp2
  go_loopw [] (fun w' => ∃ (pos : Nat), w' = w.iter s pos ∧ Hid (okSegs (s.data.toList.drop pos) = okSegs s.data.toList) ∧ pos ≤ s.size) (fun w' => s.size - w'.iterPos w.heap.size)
  case atStart => exact ⟨0, rfl, by simp [Hid], Nat.zero_le _⟩
  case round =>
    obtain ⟨pos, rfl, hc, hp0⟩ := hrel
    by_cases hp : pos < s.size
    · have hd := decode_dec s pos hp0
      have hd1 := segs_drop s.data.toList pos (by rw [Hl.out]; exact hp)
      have hd2 := next_le s.data.toList pos (by rw [Hl.out]; exact hp)
      have hd3 := dec_pos (s.data.toList.drop pos)
      have hbad := badB_dec (s.data.toList.drop pos) (drop_ne _ _ (by rw [Hl.out]; exact hp))
      rw [Hl.out] at hd2
      obtain ⟨d, hdd⟩ : ∃ d, dec (s.data.toList.drop pos) = d := ⟨_, rfl⟩
      rw [hdd] at hd hd1 hd2 hd3 hbad
      have hnx : ∀ ty, (Instr.next (.pointer (some ⟨w.heap.size, 0, none⟩)) true ty).run Tryd.prog (w.iter s pos) = .ok (.tuple #[.bool true, .int .i64 pos, .int .i32 d.1]) (w.iter s (pos + d.2)) := fun ty => by
        rw [run_next_any w s pos ty hp, hd]
      have his := isBad_any (s.extract pos s.size) d.1 (w.iter s (pos + d.2))
      rw [drop_list, hbad] at his
      have Hd1 := Lib.hid hd1
      have His := Lib.hid his
      clear hd1 hd hdd hbad his
      cases hb : badSeg d with
      | true =>
        rw [hb] at His
        have Hb := Lib.hid hb
        clear hb
        go_wp2_with (go_at_call 58; refine His.out.mono ?_; rintro e w' ⟨rfl, rfl⟩)
        go_ret
        have e := hc.out
        refine ⟨?_, (Below.refl _ w).alloc (Nat.le_refl _) _⟩
        rw [← e]
        unfold okSegs
        rw [Hd1.out, List.all_cons, Hb.out]
        rfl
      | false =>
        rw [hb] at His
        have Hb := Lib.hid hb
        clear hb
        go_wp2_with (go_at_call 58; refine His.out.mono ?_; rintro e w' ⟨rfl, rfl⟩)
        go_roundw
        case rel =>
          refine ⟨pos + d.2, rfl, ?_, by omega⟩
          have e := hc.out
          unfold okSegs at e
          rw [Hd1.out, List.all_cons, Hb.out] at e
          unfold okSegs Hid
          simpa using e
        case measure =>
          simp
          omega
    · have hnx : ∀ ty, (Instr.next (.pointer (some ⟨w.heap.size, 0, none⟩)) true ty).run Tryd.prog (w.iter s pos) = _ := fun ty => run_next_end w s pos ty hp
      go_wp2
      go_ret
      have e := hc.out
      rw [List.drop_of_length_le (by rw [Hl.out]; omega)] at e
      exact ⟨by rw [← e]; rfl, (Below.refl _ w).alloc (Nat.le_refl _) _⟩

/-! ### numbers -/
def runeCells' (rs : List Nat) : List Value := rs.map fun (r : Nat) => Value.int .i32 (r : Int)
def runesOf (l : List UInt8) : List Nat := (segs l).map (·.1)

theorem runesFrom_segs (s : ByteArray) : ∀ (f pos : Nat) (acc : Array Value), pos ≤ s.size → s.size ≤ pos + f → Conv.runesFrom s f pos acc = acc ++ (runeCells' (runesOf (s.data.toList.drop pos))).toArray
  | 0, pos, acc, h1, h2 => by
    rw [List.drop_of_length_le (by rw [size_list]; omega)]
    simp [Conv.runesFrom, runesOf, runeCells', segs_nil]
  | f + 1, pos, acc, h1, h2 => by
    unfold Conv.runesFrom
    by_cases hp : pos < s.size
    · rw [if_pos hp, decode_dec s pos h1]
      have hd1 := segs_drop s.data.toList pos (by rw [size_list]; exact hp)
      have hd2 := next_le s.data.toList pos (by rw [size_list]; exact hp)
      have hd3 := dec_pos (s.data.toList.drop pos)
      rw [size_list] at hd2
      simp only
      rw [runesFrom_segs s f _ _ hd2 (by omega)]
      unfold runesOf runeCells'
      rw [hd1]
      simp
    · rw [if_neg hp, List.drop_of_length_le (by rw [size_list]; omega)]
      simp [runesOf, runeCells', segs_nil]
theorem runesFrom_all (s : ByteArray) : Conv.runesFrom s s.size 0 #[] = (runeCells' (runesOf s.data.toList)).toArray := by
  rw [runesFrom_segs s s.size 0 #[] (Nat.zero_le _) (by omega)]
  simp

/-- the numbers of a text: a slice of its own; nil only if memory says so: never -/
theorem runes_any (s : ByteArray) (w : World) (hs : (runesOf s.data.toList).length ≤ 70368744177664) : Calls Tryd.prog 31 #[.string s] w fun e w' =>
    ∃ v, e = .returned v ∧ w'.ownsRow w.heap.size 21 1 v (runesOf s.data.toList).length (runeCells' (runesOf s.data.toList)) ∧ Below w.heap.size w w' := by
  have hlen : (runeCells' (runesOf s.data.toList)).toArray.size = (runesOf s.data.toList).length := by simp [runeCells']
  have hcv : ∀ W : World, (convert 9 36 (.string s)).run Tryd.prog W = _ := fun W => run_runes_of_string W 9 36 21 s Tryd.underlying9 Tryd.underlying36 Tryd.underlying21 (by rw [runesFrom_all, hlen]; exact hs)
  rw [runesFrom_all, hlen] at hcv
  obtain ⟨cells, hcells⟩ : ∃ cells, runeCells' (runesOf s.data.toList) = cells := ⟨_, rfl⟩
  obtain ⟨n, hn⟩ : ∃ n, (runesOf s.data.toList).length = n := ⟨_, rfl⟩
  rw [hcells, hn] at hcv
  rw [hcells, hn]
  rw [hn] at hs
  have hln : cells.length = n := by rw [← hcells, ← hn]; simp [runeCells']
  have Hln := Lib.hid hln
  clear hln hcells hn hlen
  go_enter Tryd.func31, Tryd.ntmps31
  go_wp2
  go_ret
  refine ⟨_, rfl, ⟨by rw [Hln.out]; simp, .inr ⟨w.heap.size, _, _, rfl, Nat.le_refl _, heap_alloc_new w.drew _, grownCap_ge _ _ _ _, grownCap_le_maxLen _ _ _ _ (by unfold maxLen; omega), ?_, ?_⟩⟩, (Below.refl _ w).drew.alloc (Nat.le_refl _) _⟩
  · have := grownCap_ge w n 0 21
    have := Hln.out
    simp
    omega
  · have := Hln.out
    simp [List.take_append, this]

end Go.Proofs.YtfegbfhkmdmheaaDoor

/- The program's package scan: numbers as a text; what the document says of a few texts (wakes). -/
namespace Go.Proofs.YtfegbfhkmdmheaaDoor
open Go.RowKit Go.Lib

theorem text_any (w : World) (B : Nat) (A : Option Addr) (n c : Nat) (zs : List Int) (h : Rd w B 1 A n (zs.map (Value.int .i32))) : Calls Tryd.prog 35 #[.slice A n c] w fun e w' => e = .returned (.string (runesBytes zs)) ∧ w = w' := by
  have hl : zs.length = n := by have := h.1; simpa using this
  have hcv : (convert 36 9 (.slice A n c)).run Tryd.prog w = .ok (.string (runesBytes zs)) w := by
    rcases A with _ | a
    · have h0 : n = 0 := by
        rcases Nat.eq_zero_or_pos n with h0 | h0
        · exact h0
        · obtain ⟨a, e, _⟩ := h.addr h0
          cases e
      have : zs = [] := List.eq_nil_of_length_eq_zero (by omega)
      subst this
      exact run_convert_runes_nil w _ _ 21 _ _ Tryd.underlying36 Tryd.underlying21 Tryd.underlying9
    · have := run_convert_runes (P := Tryd.prog) w 36 9 21 a n c zs (by omega) Tryd.underlying36 Tryd.underlying21 Tryd.underlying9 (fun j hj => by
        obtain ⟨a', e, _, hc⟩ := h.addr (by omega)
        injection e with e
        subst e
        exact hc j _ (by simp [List.getD, List.getElem?_eq_getElem hj]))
      rw [List.take_of_length_le (by omega)] at this
      exact this
  have H := Lib.hid hl
  clear hl h
  go_enter Tryd.func35, Tryd.ntmps35
  go_wp2
  go_ret
  exact ⟨rfl, rfl⟩

abbrev U8 (w : World) : Prop := Utf8Tabs 0 1 w

/-! ### the few texts -/
theorem c_next1 (w : World) (hT : U8 w) : Calls Tryd.prog 29 #[.string ⟨#[228, 184]⟩] w fun e w' => e = .returned (.tuple #[.int .i32 65533, .int .i64 1]) ∧ Below w.heap.size w w' := next_any ⟨#[228, 184]⟩ w hT
theorem c_next2 (w : World) (hT : U8 w) : Calls Tryd.prog 29 #[.string ⟨#[239, 191, 189]⟩] w fun e w' => e = .returned (.tuple #[.int .i32 65533, .int .i64 3]) ∧ Below w.heap.size w w' := next_any ⟨#[239, 191, 189]⟩ w hT
theorem c_last (w : World) (hT : U8 w) : Calls Tryd.prog 30 #[.string ⟨#[97, 195, 169]⟩] w fun e w' => e = .returned (.tuple #[.int .i32 233, .int .i64 2]) ∧ Below w.heap.size w w' := by
  have h := last_any ⟨#[97, 195, 169]⟩ w (by decide) hT
  have e : decodeLastL (⟨#[97, 195, 169]⟩ : ByteArray).data.toList = (233, 2) := by decide
  rw [e] at h
  exact h
theorem c_whole1 (w : World) (hT : U8 w) : Calls Tryd.prog 32 #[.string ⟨#[228, 184]⟩] w fun e w' => e = .returned (.bool false) ∧ Below w.heap.size w w' := by
  have h := whole_any ⟨#[228, 184]⟩ w (by decide) hT
  have e : full (⟨#[228, 184]⟩ : ByteArray).data.toList = false := by decide
  rw [e] at h
  exact h
theorem c_whole2 (w : World) (hT : U8 w) : Calls Tryd.prog 32 #[.string ⟨#[255]⟩] w fun e w' => e = .returned (.bool true) ∧ Below w.heap.size w w' := by
  have h := whole_any ⟨#[255]⟩ w (by decide) hT
  have e : full (⟨#[255]⟩ : ByteArray).data.toList = true := by decide
  rw [e] at h
  exact h
theorem c_valid1 (w : World) : Calls Tryd.prog 33 #[.string ⟨#[195, 169]⟩] w fun e w' => e = .returned (.bool true) ∧ Below w.heap.size w w' := by
  have h := valid_any ⟨#[195, 169]⟩ w (by decide)
  have e : okSegs (⟨#[195, 169]⟩ : ByteArray).data.toList = true := by decide
  rw [e] at h
  exact h
theorem c_valid2 (w : World) : Calls Tryd.prog 33 #[.string ⟨#[195]⟩] w fun e w' => e = .returned (.bool false) ∧ Below w.heap.size w w' := by
  have h := valid_any ⟨#[195]⟩ w (by decide)
  have e : okSegs (⟨#[195]⟩ : ByteArray).data.toList = false := by decide
  rw [e] at h
  exact h
theorem c_count (w : World) : Calls Tryd.prog 34 #[.string ⟨#[237, 160, 128]⟩] w fun e w' => e = .returned (.int .i64 3) ∧ Below w.heap.size w w' := by
  have h := count_any ⟨#[237, 160, 128]⟩ w (by decide)
  have e : (segs (⟨#[237, 160, 128]⟩ : ByteArray).data.toList).length = 3 := by decide
  rw [e] at h
  exact h
theorem c_runes (w : World) : Calls Tryd.prog 31 #[.string ⟨#[97, 255, 195, 169]⟩] w fun e w' =>
    ∃ g c : Nat, e = .returned (.slice (some ⟨g, 0, none⟩) 3 c) ∧ w'.cell? ⟨g, 1, none⟩ = some (.int .i32 65533) ∧ w'.cell? ⟨g, 2, none⟩ = some (.int .i32 233) ∧ Below w.heap.size w w' := by
  have e : runesOf (⟨#[97, 255, 195, 169]⟩ : ByteArray).data.toList = [97, 65533, 233] := by decide
  have h := runes_any ⟨#[97, 255, 195, 169]⟩ w (by rw [e]; decide)
  rw [e] at h
  refine h.mono ?_
  rintro e w' ⟨v, rfl, hown, hb⟩
  obtain ⟨g, cap, rfl, _, _⟩ := hown.form (by simp)
  have h1 := hown.cells (g := g) rfl 1 (.int .i32 65533) rfl
  have h2 := hown.cells (g := g) rfl 2 (.int .i32 233) rfl
  rw [Addr.add_lit] at h1 h2
  exact ⟨g, cap, rfl, h1, h2, hb⟩
theorem c_text (w : World) (W : World) (hW : W = w.alloc (.cells #[.int .i32 97, .int .i32 (-1)] 21)) : Calls Tryd.prog 35 #[.slice (some ⟨w.heap.size, 0, none⟩) 2 2] W fun e w' => e = .returned (.string ⟨#[97, 239, 191, 189]⟩) ∧ W = w' := by
  subst hW
  have h := text_any (w.alloc (.cells #[.int .i32 97, .int .i32 (-1)] 21)) (w.heap.size + 1) (some ⟨w.heap.size, 0, none⟩) 2 2 [97, -1] ⟨rfl, .inr ⟨_, rfl, by simp, fun j u hu => by
    have : j = 0 ∨ j = 1 ∨ 2 ≤ j := by omega
    rcases this with rfl | rfl | h
    · simp at hu; subst hu; go_simp
    · simp at hu; subst hu; go_simp
    · rw [List.getElem?_eq_none (by simpa using h)] at hu; cases hu⟩⟩
  exact h

set_option maxRecDepth 100000 in
set_option maxHeartbeats 2000000 in
theorem wakes_any (w : World) (hT : U8 w) : Calls Tryd.prog 11 #[] w fun e w' => e = .returned (.bool true) ∧ Below w.heap.size w w' := by
  have HT := Lib.hid hT
  clear hT
  go_enter Tryd.func11, Tryd.ntmps11
  go_wp2_with fail
  refine (c_next1 _ HT.out).mono ?_
  rintro e w1 ⟨rfl, hb1⟩
  have HT1 := Lib.hid (Utf8Tabs_below HT.out hb1)
  go_wp2_with fail
  refine (c_last _ HT1.out).mono ?_
  rintro e w2 ⟨rfl, hb2⟩
  have HT2 := Lib.hid (Utf8Tabs_below HT1.out hb2)
  go_wp2_with fail
  refine (c_next2 _ HT2.out).mono ?_
  rintro e w3 ⟨rfl, hb3⟩
  have HT3 := Lib.hid (Utf8Tabs_below HT2.out hb3)
  go_wp2_with fail
  refine (c_runes _).mono ?_
  rintro e w4 ⟨g, c, rfl, hc1, hc2, hb4⟩
  have HT4 := Lib.hid (Utf8Tabs_below HT3.out hb4)
  go_wp2_with fail
  refine (c_whole1 _ HT4.out).mono ?_
  rintro e w5 ⟨rfl, hb5⟩
  have HT5 := Lib.hid (Utf8Tabs_below HT4.out hb5)
  go_wp2_with fail
  refine (c_whole2 _ HT5.out).mono ?_
  rintro e w6 ⟨rfl, hb6⟩
  go_wp2_with fail
  refine (c_valid1 _).mono ?_
  rintro e w7 ⟨rfl, hb7⟩
  go_wp2_with fail
  refine (c_valid2 _).mono ?_
  rintro e w8 ⟨rfl, hb8⟩
  go_wp2_with fail
  refine (c_count _).mono ?_
  rintro e w9 ⟨rfl, hb9⟩
  go_wp2_with fail
  refine (c_text _ _ rfl).mono ?_
  rintro e w10 ⟨rfl, rfl⟩
  go_wp2_with fail
  go_ret
  have m1 := hb1.trans (hb2.mono hb1.size)
  have m2 := m1.trans (hb3.mono m1.size)
  have m3 := m2.trans (hb4.mono m2.size)
  have m4 := m3.trans (hb5.mono m3.size)
  have m5 := m4.trans (hb6.mono m4.size)
  have m6 := m5.trans (hb7.mono m5.size)
  have m7 := m6.trans (hb8.mono m6.size)
  have m8 := m7.trans (hb9.mono m7.size)
  exact ⟨rfl, m8.alloc m8.size _⟩

end Go.Proofs.YtfegbfhkmdmheaaDoor
