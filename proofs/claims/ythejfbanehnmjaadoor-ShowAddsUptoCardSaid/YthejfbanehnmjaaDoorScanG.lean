/- The program's package scan: the first, the last, whether whole, how many, whether valid. -/
import Derived.Test.YthejfbanehnmjaaDoorRefCD
import Derived.Test.YthejfbanehnmjaaDoorShelf
import Derived.Lib.OthersKept
import Derived.Laws.Cover4
import Derived.Laws.IdiomStrings
import Derived.Deep.Draws
import Derived.Laws.OwnMore
import Derived.Test.YthejfbanehnmjaaDoorMem
set_option linter.unusedSimpArgs false
set_option linter.unusedVariables false
namespace Go.Proofs.YthejfbanehnmjaaDoor
open Go.RowKit Go.Lib

theorem ret_int' {k : IntKind} {a b : Int} (h : a = b) : Ending.returned (.int k a) = .returned (.int k b) := by rw [h]
theorem decodeGo_nxt (s : ByteArray) : decodeGo s = nxt s.data.toList := by
  unfold decodeGo nxt
  by_cases h : s.size = 0
  · rw [if_pos h, if_pos (list_nil s h)]
  · rw [if_neg h, if_neg (list_ne s (by omega)), decode_dec _ _ (Nat.zero_le _), List.drop_zero]

theorem next_any (s : ByteArray) (w : World) (hT : Utf8Tabs 0 1 w) : Calls Tryd.prog 36 #[.string s] w fun e w' => e = .returned (.tuple #[.int .i32 (nxt s.data.toList).1, .int .i64 (nxt s.data.toList).2]) ∧ Below w.heap.size w w' := by
  have hc := Tryd.utf8_DecodeRuneInString s w hT
  rw [decodeGo_nxt] at hc
  have H := Lib.hid hc
  clear hc hT
  go_enter Tryd.func36, Tryd.ntmps36
  go_wp2_with (go_at_call 59; refine H.out.mono ?_; rintro e w' ⟨rfl, hb⟩)
  go_ret2
  exact ⟨rfl, hb⟩
theorem last_any (s : ByteArray) (w : World) (hs : s.size ≤ maxLen) (hT : Utf8Tabs 0 1 w) : Calls Tryd.prog 94 #[.string s] w fun e w' => e = .returned (.tuple #[.int .i32 (decodeLastL s.data.toList).1, .int .i64 (decodeLastL s.data.toList).2]) ∧ Below w.heap.size w w' := by
  unfold maxLen at hs
  have H := Lib.hid (Tryd.utf8_DecodeLastRuneInString s w (by omega) hT)
  clear hT
  go_enter Tryd.func94, Tryd.ntmps94
  go_wp2_with (go_at_call 102; refine H.out.mono ?_; rintro e w' ⟨rfl, hb⟩)
  go_ret2
  exact ⟨rfl, hb⟩
/-- does a bad byte stand at the head, given the number told? -/
def badB (l : List UInt8) (r : Nat) : Bool := decide (r = 65533) && !hasPrefix l [239, 191, 189]
theorem drop_ne (l : List UInt8) (k : Nat) (h : k < l.length) : l.drop k ≠ [] := by
  intro e
  have := congrArg List.length e
  simp at this
  omega
theorem segs_drop (l : List UInt8) (k : Nat) (h : k < l.length) : segs (l.drop k) = dec (l.drop k) :: segs (l.drop (k + (dec (l.drop k)).2)) := by
  rw [segs_cons _ (drop_ne l k h), List.drop_drop]
theorem next_le (l : List UInt8) (k : Nat) (h : k < l.length) : k + (dec (l.drop k)).2 ≤ l.length := by
  have := dec_le _ (drop_ne l k h)
  simp only [List.length_drop] at this
  omega

end Go.Proofs.YthejfbanehnmjaaDoor

/- The program's package scan: whether valid; the numbers of a text; numbers as a text. -/
namespace Go.Proofs.YthejfbanehnmjaaDoor
open Go.RowKit Go.Lib

def badSeg (d : Nat × Nat) : Bool := decide (d.2 = 1) && decide (d.1 = 65533)
def okSegs (l : List UInt8) : Bool := (segs l).all fun d => !badSeg d

theorem prefix3 (l : List UInt8) : hasPrefix l [239, 191, 189] = decide (3 ≤ l.length ∧ gb l 0 = 239 ∧ gb l 1 = 191 ∧ gb l 2 = 189) := by
  unfold hasPrefix gb
  match l with
  | [] => rfl
  | [a] => simp [List.isPrefixOf]
  | [a, b] => simp [List.isPrefixOf]
  | a :: b :: c :: t =>
    have e : ∀ (x : UInt8) (n : Nat) (hn : n < 256), (UInt8.ofNat n == x) = decide (x.toNat = n) := by
      intro x n hn
      apply Bool.eq_iff_iff.2
      simp only [beq_iff_eq, decide_eq_true_eq]
      constructor
      · intro h; subst h; simp; omega
      · intro h; subst h; simp
    have h1 := e a 239 (by omega)
    have h2 := e b 191 (by omega)
    have h3 := e c 189 (by omega)
    simp only [List.isPrefixOf, Bool.and_true]
    show ((UInt8.ofNat 239 == a) && ((UInt8.ofNat 191 == b) && (UInt8.ofNat 189 == c))) = _
    rw [h1, h2, h3]
    simp
theorem dec_fffd (l : List UInt8) (h : l ≠ []) (hr : (dec l).1 = 65533) : ((dec l).2 = 1 ∧ ¬ (3 ≤ l.length ∧ gb l 0 = 239 ∧ gb l 1 = 191 ∧ gb l 2 = 189)) ∨ ((dec l).2 = 3 ∧ (3 ≤ l.length ∧ gb l 0 = 239 ∧ gb l 1 = 191 ∧ gb l 2 = 189)) := by
  have h0 := gb_lt l 0
  have h1 := gb_lt l 1
  have h2 := gb_lt l 2
  have h3 := gb_lt l 3
  by_cases hp : 3 ≤ l.length ∧ gb l 0 = 239 ∧ gb l 1 = 191 ∧ gb l 2 = 189
  · refine .inr ⟨?_, hp⟩
    obtain ⟨a, b, c, d⟩ := hp
    have e1 : 1 < l.length := by omega
    have e2 : 2 < l.length := by omega
    simp [dec, decodeN, b, c, d, e1, e2]
  · refine .inl ⟨?_, hp⟩
    have key : ∀ x : Nat × Nat, dec l = x → x.1 = 65533 → x.2 = 1 := by
      intro x hx
      rw [← hx]
      clear hx hr
      unfold dec decodeN
      repeat' split
      all_goals (intro hr; first | rfl | (exfalso; revert hr; simp only; omega))
    exact key _ rfl hr
theorem badB_dec (l : List UInt8) (h : l ≠ []) : badB l (dec l).1 = badSeg (dec l) := by
  unfold badB badSeg
  rw [prefix3]
  by_cases hr : (dec l).1 = 65533
  · rcases dec_fffd l h hr with ⟨a, b⟩ | ⟨a, b⟩
    · simp [hr, a]; omega
    · simp [hr, a]; omega
  · simp [hr]

/-! ### numbers -/
def runeCells' (rs : List Nat) : List Value := rs.map fun (r : Nat) => Value.int .i32 (r : Int)
def runesOf (l : List UInt8) : List Nat := (segs l).map (·.1)

theorem runesFrom_segs (s : ByteArray) : ∀ (f pos : Nat) (acc : Array Value), pos ≤ s.size → s.size ≤ pos + f → Conv.runesFrom s f pos acc = acc ++ (runeCells' (runesOf (s.data.toList.drop pos))).toArray
  | 0, pos, acc, h1, h2 => by
    rw [List.drop_of_length_le (by rw [size_list]; omega)]
    simp [Conv.runesFrom, runesOf, runeCells', segs_nil]
  | f + 1, pos, acc, h1, h2 => by
    unfold Conv.runesFrom
    by_cases hp : pos < s.size
    · rw [if_pos hp, decode_dec s pos h1]
      have hd1 := segs_drop s.data.toList pos (by rw [size_list]; exact hp)
      have hd2 := next_le s.data.toList pos (by rw [size_list]; exact hp)
      have hd3 := dec_pos (s.data.toList.drop pos)
      rw [size_list] at hd2
      simp only
      rw [runesFrom_segs s f _ _ hd2 (by omega)]
      unfold runesOf runeCells'
      rw [hd1]
      simp
    · rw [if_neg hp, List.drop_of_length_le (by rw [size_list]; omega)]
      simp [runesOf, runeCells', segs_nil]
theorem runesFrom_all (s : ByteArray) : Conv.runesFrom s s.size 0 #[] = (runeCells' (runesOf s.data.toList)).toArray := by
  rw [runesFrom_segs s s.size 0 #[] (Nat.zero_le _) (by omega)]
  simp

/-- the numbers of a text: a slice of its own; nil only if memory says so: never -/
theorem runes_any (s : ByteArray) (w : World) (hs : (runesOf s.data.toList).length ≤ 70368744177664) : Calls Tryd.prog 64 #[.string s] w fun e w' =>
    ∃ v, e = .returned v ∧ w'.ownsRow w.heap.size 21 1 v (runesOf s.data.toList).length (runeCells' (runesOf s.data.toList)) ∧ Below w.heap.size w w' := by
  have hlen : (runeCells' (runesOf s.data.toList)).toArray.size = (runesOf s.data.toList).length := by simp [runeCells']
  have hcv : ∀ W : World, (convert 9 84 (.string s)).run Tryd.prog W = _ := fun W => run_runes_of_string W 9 84 21 s Tryd.underlying9 Tryd.underlying84 Tryd.underlying21 (by rw [runesFrom_all, hlen]; exact hs)
  rw [runesFrom_all, hlen] at hcv
  obtain ⟨cells, hcells⟩ : ∃ cells, runeCells' (runesOf s.data.toList) = cells := ⟨_, rfl⟩
  obtain ⟨n, hn⟩ : ∃ n, (runesOf s.data.toList).length = n := ⟨_, rfl⟩
  rw [hcells, hn] at hcv
  rw [hcells, hn]
  rw [hn] at hs
  have hln : cells.length = n := by rw [← hcells, ← hn]; simp [runeCells']
  have Hln := Lib.hid hln
  clear hln hcells hn hlen
  go_enter Tryd.func64, Tryd.ntmps64
  go_wp2
  go_ret
  refine ⟨_, rfl, ⟨by rw [Hln.out]; simp, .inr ⟨w.heap.size, _, _, rfl, Nat.le_refl _, heap_alloc_new w.drew _, grownCap_ge _ _ _ _, grownCap_le_maxLen _ _ _ _ (by unfold maxLen; omega), ?_, ?_⟩⟩, (Below.refl _ w).drew.alloc (Nat.le_refl _) _⟩
  · have := grownCap_ge w n 0 21
    have := Hln.out
    simp
    omega
  · have := Hln.out
    simp [List.take_append, this]

end Go.Proofs.YthejfbanehnmjaaDoor

/- The program's package scan: numbers as a text; what the document says of a few texts (wakes). -/
namespace Go.Proofs.YthejfbanehnmjaaDoor
open Go.RowKit Go.Lib

abbrev U8 (w : World) : Prop := Utf8Tabs 0 1 w

/-! ### the few texts -/
theorem c_next1 (w : World) (hT : U8 w) : Calls Tryd.prog 36 #[.string ⟨#[228, 184]⟩] w fun e w' => e = .returned (.tuple #[.int .i32 65533, .int .i64 1]) ∧ Below w.heap.size w w' := next_any ⟨#[228, 184]⟩ w hT
theorem c_next2 (w : World) (hT : U8 w) : Calls Tryd.prog 36 #[.string ⟨#[239, 191, 189]⟩] w fun e w' => e = .returned (.tuple #[.int .i32 65533, .int .i64 3]) ∧ Below w.heap.size w w' := next_any ⟨#[239, 191, 189]⟩ w hT
theorem c_last (w : World) (hT : U8 w) : Calls Tryd.prog 94 #[.string ⟨#[97, 195, 169]⟩] w fun e w' => e = .returned (.tuple #[.int .i32 233, .int .i64 2]) ∧ Below w.heap.size w w' := by
  have h := last_any ⟨#[97, 195, 169]⟩ w (by decide) hT
  have e : decodeLastL (⟨#[97, 195, 169]⟩ : ByteArray).data.toList = (233, 2) := by decide
  rw [e] at h
  exact h
theorem c_runes (w : World) : Calls Tryd.prog 64 #[.string ⟨#[97, 255, 195, 169]⟩] w fun e w' =>
    ∃ g c : Nat, e = .returned (.slice (some ⟨g, 0, none⟩) 3 c) ∧ w'.cell? ⟨g, 1, none⟩ = some (.int .i32 65533) ∧ w'.cell? ⟨g, 2, none⟩ = some (.int .i32 233) ∧ Below w.heap.size w w' := by
  have e : runesOf (⟨#[97, 255, 195, 169]⟩ : ByteArray).data.toList = [97, 65533, 233] := by decide
  have h := runes_any ⟨#[97, 255, 195, 169]⟩ w (by rw [e]; decide)
  rw [e] at h
  refine h.mono ?_
  rintro e w' ⟨v, rfl, hown, hb⟩
  obtain ⟨g, cap, rfl, _, _⟩ := hown.form (by simp)
  have h1 := hown.cells (g := g) rfl 1 (.int .i32 65533) rfl
  have h2 := hown.cells (g := g) rfl 2 (.int .i32 233) rfl
  rw [Addr.add_lit] at h1 h2
  exact ⟨g, cap, rfl, h1, h2, hb⟩
end Go.Proofs.YthejfbanehnmjaaDoor
