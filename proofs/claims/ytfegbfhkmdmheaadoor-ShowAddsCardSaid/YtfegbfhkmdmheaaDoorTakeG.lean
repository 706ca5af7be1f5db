/- The scanner's step: take. -/
import Derived.Test.YtfegbfhkmdmheaaDoorClassG
import Derived.Test.YtfegbfhkmdmheaaDoorScanG
import Derived.Test.YtfegbfhkmdmheaaDoorIterG
import Derived.Deep.QuietTactic
import Derived.Deep.RegionHeld3
import Derived.BigQuiet
import Derived.Test.YtfegbfhkmdmheaaDoorSeqBG
import Derived.Scope
import Derived.ScopeJumps
import Derived.WalkMore
set_option linter.unusedSimpArgs false
set_option linter.unusedVariables false
namespace Go.Proofs.YtfegbfhkmdmheaaDoor
open Go.RowKit Go.Lib

/-- the scanner lies at block g: the text, the end of what is taken, how many are taken -/
def Rdr (W : World) (g : Nat) (s : ByteArray) (p n : Nat) : Prop := W.heap[g]? = some (.cells #[.string s, .int .i64 (p : Int), .int .i64 (n : Int)] 109)
theorem Rdr.c0 {W : World} {g : Nat} {s : ByteArray} {p n : Nat} (h : Rdr W g s p n) : W.cell? ⟨g, 0, none⟩ = some (.string s) := by simp [World.cell?, show W.heap[g]? = _ from h]
theorem Rdr.c1 {W : World} {g : Nat} {s : ByteArray} {p n : Nat} (h : Rdr W g s p n) : W.cell? ⟨g, 1, none⟩ = some (.int .i64 (p : Int)) := by simp [World.cell?, show W.heap[g]? = _ from h]
theorem Rdr.c2 {W : World} {g : Nat} {s : ByteArray} {p n : Nat} (h : Rdr W g s p n) : W.cell? ⟨g, 2, none⟩ = some (.int .i64 (n : Int)) := by simp [World.cell?, show W.heap[g]? = _ from h]
theorem Rdr.f {W : World} {g : Nat} {s : ByteArray} {p n : Nat} (h : Rdr W g s p n) (j : Nat) : W.frozen? ⟨g, j, none⟩ = false := by simp [World.frozen?, show W.heap[g]? = _ from h]
theorem Rdr.lt {W : World} {g : Nat} {s : ByteArray} {p n : Nat} (h : Rdr W g s p n) : g < W.heap.size := (Array.getElem?_eq_some_iff.1 h).1
theorem Rdr.below {W W' : World} {g : Nat} {s : ByteArray} {p n : Nat} (h : Rdr W g s p n) (hb : Below W.heap.size W W') : Rdr W' g s p n := (hb.block g h.lt).trans h

theorem Rdr.set1 {W : World} {g : Nat} {s : ByteArray} {p n : Nat} (q : Nat) (h : Rdr W g s p n) : Rdr (W.setCell ⟨g, 1, none⟩ (.int .i64 (q : Int))) g s q n := by
  obtain ⟨hlt, hk⟩ := Array.getElem?_eq_some_iff.1 h
  show (W.heap.modify g _)[g]? = _
  rw [Array.getElem?_eq_getElem (by rw [Array.size_modify]; exact hlt), Array.getElem_modify_self, hk]
  rfl
theorem Rdr.set2 {W : World} {g : Nat} {s : ByteArray} {p n : Nat} (m : Nat) (h : Rdr W g s p n) : Rdr (W.setCell ⟨g, 2, none⟩ (.int .i64 (m : Int))) g s p m := by
  obtain ⟨hlt, hk⟩ := Array.getElem?_eq_some_iff.1 h
  show (W.heap.modify g _)[g]? = _
  rw [Array.getElem?_eq_getElem (by rw [Array.size_modify]; exact hlt), Array.getElem_modify_self, hk]
  rfl
theorem Moves.setCell (W : World) (g o : Nat) (v : Value) : Moves (fun k => k = g) W (W.setCell ⟨g, o, none⟩ v) :=
  ⟨rfl, rfl, rfl, by simp, fun k _ hk => Below.heap_setCell _ _ _ k hk⟩
set_option maxRecDepth 100000 in
set_option maxHeartbeats 1000000 in
theorem take_any (s : ByteArray) (g p n wanted v : Nat) (W : World) (hR : Rdr W g s p n) (hT : Utf8Tabs 0 1 W) (hp : p ≤ s.size) (hm : s.size ≤ 140737488351232) (hn : n ≤ 32)
    (hv : (((nxt (s.data.toList.drop p)).2 = 0 ∨ n = 32) ∧ v = 0) ∨ ((nxt (s.data.toList.drop p)).2 ≠ 0 ∧ n ≠ 32 ∧ bits .and .u16 (roleN (nxt (s.data.toList.drop p)).1 (nxt (s.data.toList.drop p)).2 : Nat) (wanted : Nat) = (v : Nat))) (hd4 : (nxt (s.data.toList.drop p)).2 ≤ 4) :
    Calls Tryd.prog 77 #[.pointer (some ⟨g, 0, none⟩), .int .u16 (wanted : Int)] W fun e w' => e = .returned (.int .u16 (v : Int)) ∧ (v = 0 → Below W.heap.size W w') ∧ (v ≠ 0 → Rdr w' g s (p + (nxt (s.data.toList.drop p)).2) (n + 1) ∧ Moves (fun k => k = g) W w') := by
  have hN : ∀ W', Utf8Tabs 0 1 W' → Calls Tryd.prog 29 #[.string (s.extract p s.size)] W' fun e w' => e = .returned (.tuple #[.int .i32 (nxt (s.data.toList.drop p)).1, .int .i64 (nxt (s.data.toList.drop p)).2]) ∧ Below W'.heap.size W' w' := fun W' h => by
    have := next_any (s.extract p s.size) W' h
    rwa [drop_list] at this
  have hro := fun W => role_any (nxt (s.data.toList.drop p)).1 (nxt (s.data.toList.drop p)).2 W
  revert hv hd4 hN hro
  generalize nxt (s.data.toList.drop p) = d
  intro hv hd4 hN hro
  have HN := Lib.hid hN
  have Hro := Lib.hid hro
  have hTd : Hid (Utf8Tabs 0 1 W.drew) := Lib.hid hT
  have c0d : W.drew.cell? ⟨g, 0, none⟩ = some (.string s) := hR.c0
  have c1d : W.drew.cell? ⟨g, 1, none⟩ = some (.int .i64 (p : Int)) := hR.c1
  have c2d : W.drew.cell? ⟨g, 2, none⟩ = some (.int .i64 (n : Int)) := hR.c2
  have hlt : g < W.drew.heap.size := hR.lt
  have HR : Hid (Rdr W.drew g s p n) := Lib.hid hR
  have hp1 : (0 : Int) ≤ (p : Int) := by omega
  have hp2 : (p : Int) ≤ (s.size : Int) := by omega
  clear hR hN hT hro
  go_enter Tryd.func77, Tryd.ntmps77
  go_wp2_with fail
  go_region_held3 (fun w' => w'.cell? ⟨g, 0, none⟩ = some (.string s) ∧ w'.cell? ⟨g, 1, none⟩ = some (.int .i64 (p : Int))) (first | exact ⟨c0d, c1d⟩ | exact ⟨e0, e1⟩)
    (first | (go_at_call 29; refine (HN.out _ hTd.out).mono ?_; rintro e w1 ⟨rfl, b1⟩; have e0 := (b1.cell (p := ⟨g, 0, none⟩) hlt).trans c0d; have e1 := (b1.cell (p := ⟨g, 1, none⟩) hlt).trans c1d; have e2 := (b1.cell (p := ⟨g, 2, none⟩) hlt).trans c2d))
  have hr1 := Lib.hid (HR.out.below b1)
  have B1 : Hid (Below W.heap.size W w1) := Lib.hid ((Below.refl W.heap.size W).drew.trans b1)
  clear b1 c0d c1d c2d hlt
  rcases hv with ⟨hz | hz, rfl⟩ | ⟨hz, h32, hbits⟩
  · have hz0 : ((d.2 : Int) == 0) = true := by simp; omega
    clear hz
    go_wp2_with fail
    go_ret
    first | exact ⟨rfl, B1.out⟩ | exact ⟨rfl, fun _ => B1.out, fun h => absurd rfl h⟩
  · by_cases h0 : d.2 = 0
    · have hz0 : ((d.2 : Int) == 0) = true := by simp; omega
      clear hz
      go_wp2_with fail
      go_ret
      first | exact ⟨rfl, B1.out⟩ | exact ⟨rfl, fun _ => B1.out, fun h => absurd rfl h⟩
    · have hz0 : ((d.2 : Int) == 0) = false := by simp; omega
      have hz1 : ((n : Int) == 32) = true := by simp; omega
      clear hz h0
      go_wp2_with fail
      go_ret
      first | exact ⟨rfl, B1.out⟩ | exact ⟨rfl, fun _ => B1.out, fun h => absurd rfl h⟩
  · have hz0 : ((d.2 : Int) == 0) = false := by simp; omega
    have hz1 : ((n : Int) == 32) = false := by simp; omega
    clear hz h32
    go_wp2_with fail
    refine (Hro.out _).mono ?_
    rintro _ w2 ⟨rfl, b2⟩
    have hr2 := Lib.hid (hr1.out.below b2)
    have B2 := Lib.hid (B1.out.trans (b2.mono B1.out.size))
    clear b2
    by_cases hv0 : v = 0
    · subst hv0
      go_wp2_with fail
      go_ret
      first | exact ⟨rfl, B2.out⟩ | exact ⟨rfl, fun _ => B2.out, fun h => absurd rfl h⟩
    · have hvb : ((v : Int) != 0) = true := by simp; omega
      have x1 := hr2.out.c1
      have x2 := hr2.out.c2
      have y1 := hr2.out.f 1
      have y2 := hr2.out.f 2
      have hw1 : IntKind.i64.wrap ((p : Int) + (d.2 : Int)) = ((p + d.2 : Nat) : Int) := by rw [IntWalk.i64_in _ (by omega)]; omega
      have hw2 : IntKind.i64.wrap ((n : Int) + 1) = ((n + 1 : Nat) : Int) := by rw [IntWalk.i64_in _ (by omega)]; omega
      go_wp2_with fail
      go_ret
      rw [show (p : Int) + (d.2 : Int) = ((p + d.2 : Nat) : Int) by omega, show (n : Int) + 1 = ((n + 1 : Nat) : Int) by omega]
      exact ⟨rfl, fun h => absurd h hv0, fun _ => ⟨(hr2.out.set1 _).set2 _, ((Moves.of_below _ B2.out).trans' (Moves.setCell _ g 1 _)).trans' (Moves.setCell _ g 2 _)⟩⟩
end Go.Proofs.YtfegbfhkmdmheaaDoor

/- The first cluster by roles; the step take, by the number of what is taken. -/
namespace Go.Proofs.YtfegbfhkmdmheaaDoor
open Go.RowKit Go.Lib

/-- how many characters and bad bytes -/
def chars (s : ByteArray) : Nat := (segs s.data.toList).length
/-- the role of the k-th one; 0: there is none -/
def roleAt (s : ByteArray) (k : Nat) : Nat := match (segs s.data.toList)[k]? with
  | some d => roleN d.1 d.2
  | none => 0
def syl (a b : Nat) : Bool := (a == 128 && (b == 128 || b == 256 || b == 1024 || b == 2048)) || ((a == 256 || a == 1024) && (b == 256 || b == 512)) || ((a == 512 || a == 2048) && b == 512)
/-- does the k-th one go on with the cluster that the 0th one begins? -/
def goesOn (s : ByteArray) (k : Nat) : Bool := roleAt s k == 8 || roleAt s k == 16 || (k == 1 && roleAt s 0 == 32 && roleAt s k == 32) || (roleAt s (k - 1) == 16 && roleAt s k == 64 && roleAt s 0 == 64) || syl (roleAt s (k - 1)) (roleAt s k)
structure Runs (s : ByteArray) (n : Nat) : Prop where
  pos : 1 ≤ n
  le : n ≤ chars s
  most : n ≤ 32
  on : ∀ i, 1 ≤ i → i < n → goesOn s i = true
def Stops (s : ByteArray) (n : Nat) : Prop := n = chars s ∨ n = 32 ∨ goesOn s n = false
/-- the first cluster's number of characters -/
inductive First (s : ByteArray) : Nat → Prop
  | none : chars s = 0 → First s 0
  | alone : roleAt s 0 = 1 ∨ roleAt s 0 = 4 → First s 1
  | line : roleAt s 0 = 2 → roleAt s 1 = 4 → First s 2
  | cr : roleAt s 0 = 2 → roleAt s 1 ≠ 4 → First s 1
  | run (n : Nat) : roleAt s 0 ≠ 1 → roleAt s 0 ≠ 2 → roleAt s 0 ≠ 4 → Runs s n → Stops s n → First s n
theorem runs_unique {s : ByteArray} {a b : Nat} (ha : Runs s a) (sa : Stops s a) (hb : Runs s b) (sb : Stops s b) : a = b := by
  rcases Nat.lt_trichotomy a b with h | h | h
  · have hx := hb.on a ha.pos h
    have := hb.le
    have := hb.most
    rcases sa with h1 | h1 | h1
    · omega
    · omega
    · rw [h1] at hx; cases hx
  · exact h
  · have hx := ha.on b hb.pos h
    have := ha.le
    have := ha.most
    rcases sb with h1 | h1 | h1
    · omega
    · omega
    · rw [h1] at hx; cases hx
theorem roleAt_none {s : ByteArray} {k : Nat} (h : chars s ≤ k) : roleAt s k = 0 := by
  unfold roleAt
  rw [List.getElem?_eq_none h]
theorem role_one (r z : Nat) : roleN r z = 1 ∨ roleN r z = 2 ∨ roleN r z = 4 ∨ roleN r z = 8 ∨ roleN r z = 16 ∨ roleN r z = 32 ∨ roleN r z = 64 ∨ roleN r z = 128 ∨ roleN r z = 256 ∨ roleN r z = 512 ∨ roleN r z = 1024 ∨ roleN r z = 2048 ∨ roleN r z = 4096 := by
  unfold roleN
  by_cases h1 : r = 65533 ∧ z = 1
  · rw [if_pos h1]; simp
  rw [if_neg h1]
  by_cases h2 : r = 13
  · rw [if_pos h2]; simp
  rw [if_neg h2]
  by_cases h3 : r = 10
  · rw [if_pos h3]; simp
  rw [if_neg h3]
  by_cases h4 : r = 8204
  · rw [if_pos h4]; simp
  rw [if_neg h4]
  by_cases h5 : r = 8205
  · rw [if_pos h5]; simp
  rw [if_neg h5]
  by_cases h6 : r = 8232 ∨ r = 8233
  · rw [if_pos h6]; simp
  rw [if_neg h6]
  by_cases h7 : 127462 ≤ r ∧ r ≤ 127487
  · rw [if_pos h7]; simp
  rw [if_neg h7]
  by_cases h8 : 4352 ≤ r ∧ r ≤ 4607
  · rw [if_pos h8]
    repeat' split
    all_goals simp
  rw [if_neg h8]
  by_cases h9 : 44032 ≤ r ∧ r ≤ 55203
  · rw [if_pos h9]
    repeat' split
    all_goals simp
  rw [if_neg h9]
  unfold kindRole
  repeat' split
  all_goals simp
theorem roleAt_one {s : ByteArray} {k : Nat} (h : k < chars s) : roleAt s k = 1 ∨ roleAt s k = 2 ∨ roleAt s k = 4 ∨ roleAt s k = 8 ∨ roleAt s k = 16 ∨ roleAt s k = 32 ∨ roleAt s k = 64 ∨ roleAt s k = 128 ∨ roleAt s k = 256 ∨ roleAt s k = 512 ∨ roleAt s k = 1024 ∨ roleAt s k = 2048 ∨ roleAt s k = 4096 := by
  unfold roleAt
  rw [List.getElem?_eq_getElem h]
  exact role_one _ _
/-- what take tells -/
def tk (s : ByteArray) (k wanted : Nat) : Nat := if k < chars s ∧ k < 32 then roleAt s k &&& wanted else 0
theorem placeAt_le (s : ByteArray) (k : Nat) : placeAt s k ≤ s.size := by
  have h1 := total_append ((segs s.data.toList).take k) ((segs s.data.toList).drop k)
  rw [List.take_append_drop, total_segs, size_list] at h1
  unfold placeAt
  omega
theorem nxt_at {s : ByteArray} {k : Nat} (h : k < chars s) : (segs s.data.toList)[k]? = some (nxt (s.data.toList.drop (placeAt s k))) ∧ placeAt s k + (nxt (s.data.toList.drop (placeAt s k))).2 = placeAt s (k + 1) ∧ (nxt (s.data.toList.drop (placeAt s k))).2 ≠ 0 ∧ (nxt (s.data.toList.drop (placeAt s k))).2 ≤ 4 := by
  obtain ⟨_, h2, h3⟩ := segs_at s.data.toList k h
  have hne : s.data.toList.drop (placeAt s k) ≠ [] := drop_ne _ _ h3
  have hn : nxt (s.data.toList.drop (placeAt s k)) = dec (s.data.toList.drop (placeAt s k)) := by unfold nxt; rw [if_neg hne]
  rw [hn]
  refine ⟨h2, ?_, by have := dec_pos (s.data.toList.drop (placeAt s k)); omega, dec_le4 _ hne⟩
  unfold placeAt at *
  rw [List.take_add_one, h2, total_append]
  simp [total]
theorem nxt_end {s : ByteArray} {k : Nat} (h : chars s ≤ k) : (nxt (s.data.toList.drop (placeAt s k))).2 = 0 := by
  have : placeAt s k = s.data.toList.length := by
    unfold placeAt
    rw [List.take_of_length_le h, total_segs]
  rw [this, List.drop_length]
  rfl
theorem and_roles (wanted : Nat) (hw : wanted = 8191 ∨ wanted = 4 ∨ wanted = 24 ∨ wanted = 88 ∨ wanted = 32 ∨ wanted = 3456 ∨ wanted = 768 ∨ wanted = 512) (r z : Nat) : bits .and .u16 (roleN r z : Nat) (wanted : Nat) = ((roleN r z &&& wanted : Nat) : Int) := by
  rcases role_one r z with h | h | h | h | h | h | h | h | h | h | h | h | h <;> rw [h] <;> rcases hw with h | h | h | h | h | h | h | h <;> rw [h] <;> decide
theorem takeK (s : ByteArray) (g k wanted : Nat) (W : World) (hR : Rdr W g s (placeAt s k) k) (hT : Utf8Tabs 0 1 W) (hm : s.size ≤ 140737488351232) (hk : k ≤ chars s) (hk2 : k ≤ 32)
    (hw : wanted = 8191 ∨ wanted = 4 ∨ wanted = 24 ∨ wanted = 88 ∨ wanted = 32 ∨ wanted = 3456 ∨ wanted = 768 ∨ wanted = 512) :
    Calls Tryd.prog 77 #[.pointer (some ⟨g, 0, none⟩), .int .u16 (wanted : Int)] W fun e w' => e = .returned (.int .u16 (tk s k wanted : Nat)) ∧
      (tk s k wanted = 0 → Below W.heap.size W w') ∧ (tk s k wanted ≠ 0 → Rdr w' g s (placeAt s (k + 1)) (k + 1) ∧ Moves (fun k => k = g) W w') := by
  by_cases h : k < chars s
  · obtain ⟨h1, h2, h3, h4⟩ := nxt_at h
    have hra : roleAt s k = roleN (nxt (s.data.toList.drop (placeAt s k))).1 (nxt (s.data.toList.drop (placeAt s k))).2 := by
      unfold roleAt
      rw [h1]
    rw [← h2]
    refine take_any s g (placeAt s k) k wanted (tk s k wanted) W hR hT (placeAt_le s k) hm hk2 ?_ h4
    unfold tk
    by_cases h32 : k < 32
    · right
      refine ⟨h3, by omega, ?_⟩
      rw [if_pos ⟨h, h32⟩, hra]
      exact and_roles wanted hw _ _
    · left
      exact ⟨.inr (by omega), by rw [if_neg (by omega)]⟩
  · have he := nxt_end (s := s) (k := k) (by omega)
    have h0 : tk s k wanted = 0 := by unfold tk; rw [if_neg (by omega)]
    refine (take_any s g (placeAt s k) k wanted (tk s k wanted) W hR hT (placeAt_le s k) hm hk2 (.inl ⟨.inl he, h0⟩) (by omega)).mono ?_
    rintro e w' ⟨e1, e2, _⟩
    exact ⟨e1, e2, fun h => absurd h0 h⟩
end Go.Proofs.YtfegbfhkmdmheaaDoor

/- A scope with several labels: what holds at a jump to each of them, and a measure that every pass lowers. -/
namespace Go.Proofs.YtfegbfhkmdmheaaDoor

/-- as Q; by a goto to label l: J l -/
def toLabel (J : Nat → Act → World → Prop) (Q : Exit → Act → World → Prop) : Exit → Act → World → Prop
  | .goto l, a, w => J l a w
  | e, a, w => Q e a w

variable {P : Program} {a : Act} {w : World} {Q : Exit → Act → World → Prop}
@[go_sem] theorem toLabel_normal (J : Nat → Act → World → Prop) : toLabel J Q .normal a w = Q .normal a w := rfl
@[go_sem] theorem toLabel_ret (J : Nat → Act → World → Prop) : toLabel J Q .ret a w = Q .ret a w := rfl
@[go_sem] theorem toLabel_exit (J : Nat → Act → World → Prop) (id : Nat) : toLabel J Q (.exit id) a w = Q (.exit id) a w := rfl
@[go_sem] theorem toLabel_panic (J : Nat → Act → World → Prop) (ch : List PanicEntry) : toLabel J Q (.panic ch) a w = Q (.panic ch) a w := rfl
@[go_sem] theorem toLabel_goto (J : Nat → Act → World → Prop) (l : Nat) : toLabel J Q (.goto l) a w = J l a w := rfl

theorem scope_labels {c : Code} (J : Nat → Act → World → Prop) (μ : Nat → Act → World → Nat) (rest : Nat → Code) (hf : ∀ l a w, J l a w → findLabel c l = some (rest l))
    (first : c.wp P (toLabel J Q) a w)
    (pass : ∀ l a w, J l a w → (rest l).wp P (toLabel (fun l' a' w' => J l' a' w' ∧ μ l' a' w' < μ l a w) Q) a w) : (Code.scope c).wp P Q a w := by
  intro b k cs
  have key : ∀ n l a w, μ l a w = n → J l a w → ∃ e a' w', Q e a' w' ∧ Arrives P (lone (b.at a (.code (rest l) :: .inScope c :: k)) cs w) b k cs e a' w' := by
    intro n
    induction n using Nat.strongRecOn with
    | _ n ih =>
      intro l a w hn hJ
      obtain ⟨e, a₁, w₁, hq, harr⟩ := pass l a w hJ b (.inScope c :: k) cs
      cases e with
      | goto l' =>
        have hj : J l' a₁ w₁ ∧ μ l' a₁ w₁ < μ l a w := hq
        obtain ⟨e₂, a₂, w₂, hq₂, harr₂⟩ := ih _ (hn ▸ hj.2) l' a₁ w₁ rfl hj.1
        have hg : gotoIn l' (.inScope c :: k) = some (.code (rest l') :: .inScope c :: k) := by simp [gotoIn, hf l' a₁ w₁ hj.1]
        exact ⟨e₂, a₂, w₂, hq₂, .of_steps (harr _ hg) harr₂⟩
      | normal => exact ⟨.normal, a₁, w₁, hq, Steps.trans harr (.one step_inScope)⟩
      | exit id => exact ⟨.exit id, a₁, w₁, hq, fun k' hk => harr k' (by simp [exitTo, hk])⟩
      | ret => exact ⟨_, a₁, w₁, hq, harr⟩
      | panic ch => exact ⟨_, a₁, w₁, hq, harr⟩
      | outgrown => exact ⟨_, a₁, w₁, hq, harr⟩
  obtain ⟨e, a₁, w₁, hq, harr⟩ := first b (.inScope c :: k) cs
  cases e with
  | goto l' =>
    have hj : J l' a₁ w₁ := hq
    obtain ⟨e₂, a₂, w₂, hq₂, harr₂⟩ := key _ l' a₁ w₁ rfl hj
    have hg : gotoIn l' (.inScope c :: k) = some (.code (rest l') :: .inScope c :: k) := by simp [gotoIn, hf l' a₁ w₁ hj]
    exact ⟨e₂, a₂, w₂, hq₂, .of_steps (.head step_scope (harr _ hg)) harr₂⟩
  | normal => exact ⟨.normal, a₁, w₁, hq, .head step_scope (Steps.trans harr (.one step_inScope))⟩
  | exit id => exact ⟨.exit id, a₁, w₁, hq, fun k' hk => .head step_scope (harr k' (by simp [exitTo, hk]))⟩
  | ret => exact ⟨_, a₁, w₁, hq, .of_steps (.one step_scope) harr⟩
  | panic ch => exact ⟨_, a₁, w₁, hq, .of_steps (.one step_scope) harr⟩
  | outgrown => exact ⟨_, a₁, w₁, hq, .of_steps (.one step_scope) harr⟩
/-- the same, each label's rest as it is found -/
theorem scope_found {c : Code} (J : Nat → Act → World → Prop) (μ : Nat → Act → World → Nat) (hf : ∀ l a w, J l a w → (findLabel c l).isSome = true)
    (first : c.wp P (toLabel J Q) a w)
    (pass : ∀ l a w rest, J l a w → findLabel c l = some rest → rest.wp P (toLabel (fun l' a' w' => J l' a' w' ∧ μ l' a' w' < μ l a w) Q) a w) : (Code.scope c).wp P Q a w :=
  scope_labels J μ (fun l => (findLabel c l).getD .skip) (fun l a w h => by
    have := hf l a w h
    cases e : findLabel c l with
    | none => rw [e] at this; cases this
    | some r => rfl) first (fun l a w h => by
    have := hf l a w h
    refine pass l a w _ h ?_
    cases e : findLabel c l with
    | none => rw [e] at this; cases this
    | some r => rfl)
end Go.Proofs.YtfegbfhkmdmheaaDoor

/- The scanner's step: takeSyllable. -/
namespace Go.Proofs.YtfegbfhkmdmheaaDoor
open Go.RowKit Go.Lib

theorem tk_le {s : ByteArray} {k wanted : Nat} (h : tk s k wanted ≠ 0) : k < chars s ∧ k < 32 := by
  unfold tk at h
  by_cases hk : k < chars s ∧ k < 32
  · exact hk
  · rw [if_neg hk] at h
    exact absurd rfl h
theorem Runs.next {s : ByteArray} {k : Nat} (h : Runs s k) (h1 : k < chars s) (h2 : k < 32) (hg : goesOn s k = true) : Runs s (k + 1) :=
  ⟨by omega, h1, h2, fun i hi hk => by
    rcases Nat.lt_or_ge i k with h' | h'
    · exact h.on i hi h'
    · obtain rfl : i = k := by omega
      exact hg⟩
/-- what the scanner holds between two steps -/
structure Scans (s : ByteArray) (g : Nat) (W : World) (k : Nat) (w : World) : Prop where
  rdr : Rdr w g s (placeAt s k) k
  u8 : Utf8Tabs 0 1 w
  moves : Moves (fun k => k = g) W w
  le : k ≤ chars s
  most : k ≤ 32
def taken (g : Nat) (w : World) : Nat := (RowKit.intOf ((w.cell? ⟨g, 2, none⟩).getD undef)).toNat
theorem Scans.taken {s : ByteArray} {g : Nat} {W w : World} {k : Nat} (h : Scans s g W k w) : taken g w = k := by
  unfold Go.Proofs.YtfegbfhkmdmheaaDoor.taken
  rw [h.rdr.c2]
  simp [RowKit.intOf]
theorem Scans.below {s : ByteArray} {g : Nat} {W w w' : World} {k : Nat} (h : Scans s g W k w) (hb : Below w.heap.size w w') : Scans s g W k w' :=
  ⟨h.rdr.below hb, Utf8Tabs_below h.u8 hb, h.moves.trans' (.of_below _ hb), h.le, h.most⟩
theorem moves_u8 {g : Nat} {w w' : World} (hg : 1 + 1 ≤ g) (h : Moves (fun k => k = g) w w') (hT : Utf8Tabs 0 1 w) : Utf8Tabs 0 1 w' :=
  (⟨h.size, fun k hk ho => h.block k hk (fun e => by rcases ho with ho | ho; omega; exact ho)⟩ : KeepT (1 + 1) (fun _ => False) w w').u8 (Nat.le_refl _) hT
theorem Scans.next {s : ByteArray} {g : Nat} {W w w' : World} {k : Nat} (h : Scans s g W k w) (hg : 1 + 1 ≤ g) (h1 : k < chars s) (h2 : k < 32) (hr : Rdr w' g s (placeAt s (k + 1)) (k + 1)) (hm : Moves (fun k => k = g) w w') : Scans s g W (k + 1) w' :=
  ⟨hr, moves_u8 hg hm h.u8, h.moves.trans' hm, h1, h2⟩
/-- a step of the scanner: what take tells, and what it holds then -/
theorem scan_take (s : ByteArray) (g k wanted : Nat) (W w : World) (h : Scans s g W k w) (hg : 1 + 1 ≤ g) (hm : s.size ≤ 140737488351232)
    (hw : wanted = 8191 ∨ wanted = 4 ∨ wanted = 24 ∨ wanted = 88 ∨ wanted = 32 ∨ wanted = 3456 ∨ wanted = 768 ∨ wanted = 512) :
    Calls Tryd.prog 77 #[.pointer (some ⟨g, 0, none⟩), .int .u16 (wanted : Int)] w fun e w' => e = .returned (.int .u16 (tk s k wanted : Nat)) ∧
      (tk s k wanted = 0 → Scans s g W k w') ∧ (tk s k wanted ≠ 0 → Scans s g W (k + 1) w') := by
  refine (takeK s g k wanted w h.rdr h.u8 hm h.le h.most hw).mono ?_
  rintro e w' ⟨h1, h2, h3⟩
  exact ⟨h1, fun hz => h.below (h2 hz), fun hz => h.next hg (tk_le hz).1 (tk_le hz).2 (h3 hz).1 (h3 hz).2⟩

/-- behind a syllable -/
def SylEnd (s : ByteArray) (k : Nat) : Prop := Runs s k ∧ (k = chars s ∨ k = 32 ∨ syl (roleAt s (k - 1)) (roleAt s k) = false)
def SylAt (s : ByteArray) (k : Nat) : Nat → Prop
  | 2 => roleAt s (k - 1) = 128
  | 0 => roleAt s (k - 1) = 256 ∨ roleAt s (k - 1) = 1024
  | 1 => roleAt s (k - 1) = 512 ∨ roleAt s (k - 1) = 2048
  | _ => False
theorem goes_syl {s : ByteArray} {k : Nat} (h : syl (roleAt s (k - 1)) (roleAt s k) = true) : goesOn s k = true := by
  unfold goesOn
  rw [h]
  simp
theorem tk_role {s : ByteArray} {k wanted : Nat} (h1 : k < chars s) (h2 : k < 32) : tk s k wanted = roleAt s k &&& wanted := by
  unfold tk
  rw [if_pos ⟨h1, h2⟩]
theorem syl_lead {s : ByteArray} {k : Nat} (hr : Runs s k) (h : SylAt s k 2) : (tk s k 3456 = 0 ∧ SylEnd s k) ∨ (tk s k 3456 = 128 ∧ Runs s (k + 1) ∧ SylAt s (k + 1) 2) ∨ (tk s k 3456 = 256 ∧ Runs s (k + 1) ∧ SylAt s (k + 1) 0) ∨ (tk s k 3456 = 1024 ∧ Runs s (k + 1) ∧ SylAt s (k + 1) 0) ∨ (tk s k 3456 = 2048 ∧ Runs s (k + 1) ∧ SylAt s (k + 1) 1) := by
  have h : roleAt s (k - 1) = 128 := h
  by_cases hk : k < chars s ∧ k < 32
  · rw [tk_role hk.1 hk.2]
    have hn : ∀ v, roleAt s k = v → syl 128 v = true → Runs s (k + 1) := fun v e hv => hr.next hk.1 hk.2 (goes_syl (by rw [h, e]; exact hv))
    have he : ∀ v, roleAt s k = v → syl 128 v = false → SylEnd s k := fun v e hv => ⟨hr, .inr (.inr (by rw [h, e]; exact hv))⟩
    have hs : k + 1 - 1 = k := by omega
    unfold SylAt
    simp only [hs]
    rcases roleAt_one hk.1 with e | e | e | e | e | e | e | e | e | e | e | e | e <;> rw [e]
    all_goals first
      | exact .inl ⟨by decide, he _ e (by decide)⟩
      | exact .inr (.inl ⟨by decide, hn _ e (by decide), rfl⟩)
      | exact .inr (.inr (.inl ⟨by decide, hn _ e (by decide), .inl rfl⟩))
      | exact .inr (.inr (.inr (.inl ⟨by decide, hn _ e (by decide), .inr rfl⟩)))
      | exact .inr (.inr (.inr (.inr ⟨by decide, hn _ e (by decide), .inr rfl⟩)))
  · refine .inl ⟨by unfold tk; rw [if_neg hk], hr, ?_⟩
    have := hr.le
    have := hr.most
    omega
theorem syl_vowel {s : ByteArray} {k : Nat} (hr : Runs s k) (h : SylAt s k 0) : (tk s k 768 = 0 ∧ SylEnd s k) ∨ (tk s k 768 = 256 ∧ Runs s (k + 1) ∧ SylAt s (k + 1) 0) ∨ (tk s k 768 = 512 ∧ Runs s (k + 1) ∧ SylAt s (k + 1) 1) := by
  have h : roleAt s (k - 1) = 256 ∨ roleAt s (k - 1) = 1024 := h
  by_cases hk : k < chars s ∧ k < 32
  · rw [tk_role hk.1 hk.2]
    have hn : ∀ v, roleAt s k = v → (syl 256 v && syl 1024 v) = true → Runs s (k + 1) := fun v e hv => by
      simp only [Bool.and_eq_true] at hv
      refine hr.next hk.1 hk.2 (goes_syl ?_)
      rcases h with h | h <;> rw [h, e]
      · exact hv.1
      · exact hv.2
    have he : ∀ v, roleAt s k = v → (syl 256 v || syl 1024 v) = false → SylEnd s k := fun v e hv => by
      simp only [Bool.or_eq_false_iff] at hv
      refine ⟨hr, .inr (.inr ?_)⟩
      rcases h with h | h <;> rw [h, e]
      · exact hv.1
      · exact hv.2
    have hs : k + 1 - 1 = k := by omega
    unfold SylAt
    simp only [hs]
    rcases roleAt_one hk.1 with e | e | e | e | e | e | e | e | e | e | e | e | e <;> rw [e]
    all_goals first
      | exact .inl ⟨by decide, he _ e (by decide)⟩
      | exact .inr (.inl ⟨by decide, hn _ e (by decide), .inl rfl⟩)
      | exact .inr (.inr ⟨by decide, hn _ e (by decide), .inl rfl⟩)
  · refine .inl ⟨by unfold tk; rw [if_neg hk], hr, ?_⟩
    have := hr.le
    have := hr.most
    omega
theorem syl_final {s : ByteArray} {k : Nat} (hr : Runs s k) (h : SylAt s k 1) : (tk s k 512 = 0 ∧ SylEnd s k) ∨ (tk s k 512 = 512 ∧ Runs s (k + 1) ∧ SylAt s (k + 1) 1) := by
  have h : roleAt s (k - 1) = 512 ∨ roleAt s (k - 1) = 2048 := h
  by_cases hk : k < chars s ∧ k < 32
  · rw [tk_role hk.1 hk.2]
    have hn : ∀ v, roleAt s k = v → (syl 512 v && syl 2048 v) = true → Runs s (k + 1) := fun v e hv => by
      simp only [Bool.and_eq_true] at hv
      refine hr.next hk.1 hk.2 (goes_syl ?_)
      rcases h with h | h <;> rw [h, e]
      · exact hv.1
      · exact hv.2
    have he : ∀ v, roleAt s k = v → (syl 512 v || syl 2048 v) = false → SylEnd s k := fun v e hv => by
      simp only [Bool.or_eq_false_iff] at hv
      refine ⟨hr, .inr (.inr ?_)⟩
      rcases h with h | h <;> rw [h, e]
      · exact hv.1
      · exact hv.2
    have hs : k + 1 - 1 = k := by omega
    unfold SylAt
    simp only [hs]
    rcases roleAt_one hk.1 with e | e | e | e | e | e | e | e | e | e | e | e | e <;> rw [e]
    all_goals first
      | exact .inl ⟨by decide, he _ e (by decide)⟩
      | exact .inr ⟨by decide, hn _ e (by decide), .inl rfl⟩
  · refine .inl ⟨by unfold tk; rw [if_neg hk], hr, ?_⟩
    have := hr.le
    have := hr.most
    omega

def sylJ (s : ByteArray) (g : Nat) (W : World) (l : Nat) (a : Act) (w : World) : Prop := ∃ u1 u2 u3 u4 u5 u6 u7 u8 u9 u10 u11 u12 u13 u14 u15 u16 u17 u18 u19 u20 u21 u22 u23 u24 u25 u26 u27 u28, a = { tmps := #[.pointer (some ⟨g, 0, none⟩), u1, u2, u3, u4, u5, u6, u7, u8, u9, u10, u11, u12, u13, u14, u15, u16, u17, u18, u19, u20, u21, u22, u23, u24, u25, u26, u27, u28], defers := [] } ∧ ∃ k, Scans s g W k w ∧ Runs s k ∧ SylAt s k l

set_option maxRecDepth 100000 in
set_option maxHeartbeats 2000000 in
theorem syllable_any (s : ByteArray) (g x : Nat) (W w : World) (h : Scans s g W 1 w) (hg : 1 + 1 ≤ g) (hm : s.size ≤ 140737488351232) (hx : roleAt s 0 = x) (hxs : x = 128 ∨ x = 256 ∨ x = 512 ∨ x = 1024 ∨ x = 2048) :
    Calls Tryd.prog 78 #[.pointer (some ⟨g, 0, none⟩), .int .u16 (x : Int)] w fun e w' => (∃ v, e = .returned v) ∧ ∃ k, Scans s g W k w' ∧ SylEnd s k := by
  have hr1 : Runs s 1 := ⟨Nat.le_refl _, h.le, by omega, fun i h1 h2 => by omega⟩
  have Htake := Lib.hid (fun k wanted w (h : Scans s g W k w) hw => scan_take s g k wanted W w h hg hm hw)
  have Hh := Lib.hid h
  have Hr1 := Lib.hid hr1
  have Hx := Lib.hid hx
  clear h hr1 hx
  go_enter Tryd.func78, Tryd.ntmps78
  go_wp2_with fail
  refine scope_found (sylJ s g W) (fun _ _ w => 33 - taken g w) ?found ?first ?pass
  case found =>
    rintro l a w ⟨u1, u2, u3, u4, u5, u6, u7, u8, u9, u10, u11, u12, u13, u14, u15, u16, u17, u18, u19, u20, u21, u22, u23, u24, u25, u26, u27, u28, rfl, k, hs, hr, hl⟩
    match l, hl with
    | 0, _ => rfl
    | 1, _ => rfl
    | 2, _ => rfl
  case first =>
    rcases hxs with rfl | rfl | rfl | rfl | rfl
    · go_wp2_with fail
      go_step3
      have hs := Hh.out
      have hr := Hr1.out
      have hl : SylAt s 1 2 := Hx.out
      go_wp2_with fail
      refine (Htake.out _ 3456 _ hs (by simp)).mono ?_
      rintro _ w1 ⟨rfl, h0, h1⟩
      rcases syl_lead hr hl with ⟨e, he⟩ | ⟨e, hr', hl'⟩ | ⟨e, hr', hl'⟩ | ⟨e, hr', hl'⟩ | ⟨e, hr', hl'⟩
      · rw [e]
        have H0 := Lib.hid (h0 e)
        clear h0 h1 e
        go_wp2_with fail
        rw [toLabel_ret]
        refine bodyPost_ret (results_none rfl _ _ _) rfl ?_
        exact ⟨⟨_, rfl⟩, _, H0.out, he⟩
      · rw [e]
        have H1 := Lib.hid (h1 (by rw [e]; decide))
        clear h0 h1 e
        go_wp2_with fail
        go_step3
        exact ⟨_, _, _, _, _, _, _, _, _, _, _, _, _, _, _, _, _, _, _, _, _, _, _, _, _, _, _, _, rfl, _, H1.out, hr', hl'⟩
      · rw [e]
        have H1 := Lib.hid (h1 (by rw [e]; decide))
        clear h0 h1 e
        go_wp2_with fail
        go_step3
        exact ⟨_, _, _, _, _, _, _, _, _, _, _, _, _, _, _, _, _, _, _, _, _, _, _, _, _, _, _, _, rfl, _, H1.out, hr', hl'⟩
      · rw [e]
        have H1 := Lib.hid (h1 (by rw [e]; decide))
        clear h0 h1 e
        go_wp2_with fail
        go_step3
        exact ⟨_, _, _, _, _, _, _, _, _, _, _, _, _, _, _, _, _, _, _, _, _, _, _, _, _, _, _, _, rfl, _, H1.out, hr', hl'⟩
      · rw [e]
        have H1 := Lib.hid (h1 (by rw [e]; decide))
        clear h0 h1 e
        go_wp2_with fail
        go_step3
        exact ⟨_, _, _, _, _, _, _, _, _, _, _, _, _, _, _, _, _, _, _, _, _, _, _, _, _, _, _, _, rfl, _, H1.out, hr', hl'⟩
    · go_wp2_with fail
      go_step3
      exact ⟨_, _, _, _, _, _, _, _, _, _, _, _, _, _, _, _, _, _, _, _, _, _, _, _, _, _, _, _, rfl, 1, Hh.out, Hr1.out, .inl Hx.out⟩
    · go_wp2_with fail
      go_step3
      exact ⟨_, _, _, _, _, _, _, _, _, _, _, _, _, _, _, _, _, _, _, _, _, _, _, _, _, _, _, _, rfl, 1, Hh.out, Hr1.out, .inl Hx.out⟩
    · go_wp2_with fail
      go_step3
      exact ⟨_, _, _, _, _, _, _, _, _, _, _, _, _, _, _, _, _, _, _, _, _, _, _, _, _, _, _, _, rfl, 1, Hh.out, Hr1.out, .inr Hx.out⟩
    · go_wp2_with fail
      go_step3
      exact ⟨_, _, _, _, _, _, _, _, _, _, _, _, _, _, _, _, _, _, _, _, _, _, _, _, _, _, _, _, rfl, 1, Hh.out, Hr1.out, .inr Hx.out⟩
  case pass =>
    rintro l a w rest ⟨u1, u2, u3, u4, u5, u6, u7, u8, u9, u10, u11, u12, u13, u14, u15, u16, u17, u18, u19, u20, u21, u22, u23, u24, u25, u26, u27, u28, rfl, k, hs, hr, hl⟩ hf
    match l, hl, hf with
    | 0, hl, hf =>
      simp only [findLabel, Nat.reduceBEq, Bool.false_eq_true, if_true, if_false, reduceIte] at hf
      injection hf with hf
      subst hf
      go_wp2_with fail
      refine (Htake.out _ 768 _ hs (by simp)).mono ?_
      rintro _ w1 ⟨rfl, h0, h1⟩
      rcases syl_vowel hr hl with ⟨e, he⟩ | ⟨e, hr', hl'⟩ | ⟨e, hr', hl'⟩
      · rw [e]
        have H0 := Lib.hid (h0 e)
        clear h0 h1 e
        go_wp2_with fail
        rw [toLabel_ret]
        refine bodyPost_ret (results_none rfl _ _ _) rfl ?_
        exact ⟨⟨_, rfl⟩, _, H0.out, he⟩
      · rw [e]
        have H1 := Lib.hid (h1 (by rw [e]; decide))
        clear h0 h1 e
        go_wp2_with fail
        go_step3
        exact ⟨⟨_, _, _, _, _, _, _, _, _, _, _, _, _, _, _, _, _, _, _, _, _, _, _, _, _, _, _, _, rfl, _, H1.out, hr', hl'⟩, by rw [H1.out.taken, hs.taken]; have := hs.most; omega⟩
      · rw [e]
        have H1 := Lib.hid (h1 (by rw [e]; decide))
        clear h0 h1 e
        go_wp2_with fail
        go_step3
        exact ⟨⟨_, _, _, _, _, _, _, _, _, _, _, _, _, _, _, _, _, _, _, _, _, _, _, _, _, _, _, _, rfl, _, H1.out, hr', hl'⟩, by rw [H1.out.taken, hs.taken]; have := hs.most; omega⟩
    | 1, hl, hf =>
      simp only [findLabel, Nat.reduceBEq, Bool.false_eq_true, if_true, if_false, reduceIte] at hf
      injection hf with hf
      subst hf
      go_wp2_with fail
      refine (Htake.out _ 512 _ hs (by simp)).mono ?_
      rintro _ w1 ⟨rfl, h0, h1⟩
      rcases syl_final hr hl with ⟨e, he⟩ | ⟨e, hr', hl'⟩
      · rw [e]
        have H0 := Lib.hid (h0 e)
        clear h0 h1 e
        go_wp2_with fail
        rw [toLabel_normal]
        go_end0
        exact ⟨⟨_, rfl⟩, _, H0.out, he⟩
      · rw [e]
        have H1 := Lib.hid (h1 (by rw [e]; decide))
        clear h0 h1 e
        go_wp2_with fail
        go_step3
        exact ⟨⟨_, _, _, _, _, _, _, _, _, _, _, _, _, _, _, _, _, _, _, _, _, _, _, _, _, _, _, _, rfl, _, H1.out, hr', hl'⟩, by rw [H1.out.taken, hs.taken]; have := hs.most; omega⟩
    | 2, hl, hf =>
      simp only [findLabel, Nat.reduceBEq, Bool.false_eq_true, if_true, if_false, reduceIte] at hf
      injection hf with hf
      subst hf
      go_wp2_with fail
      refine (Htake.out _ 3456 _ hs (by simp)).mono ?_
      rintro _ w1 ⟨rfl, h0, h1⟩
      rcases syl_lead hr hl with ⟨e, he⟩ | ⟨e, hr', hl'⟩ | ⟨e, hr', hl'⟩ | ⟨e, hr', hl'⟩ | ⟨e, hr', hl'⟩
      · rw [e]
        have H0 := Lib.hid (h0 e)
        clear h0 h1 e
        go_wp2_with fail
        rw [toLabel_ret]
        refine bodyPost_ret (results_none rfl _ _ _) rfl ?_
        exact ⟨⟨_, rfl⟩, _, H0.out, he⟩
      · rw [e]
        have H1 := Lib.hid (h1 (by rw [e]; decide))
        clear h0 h1 e
        go_wp2_with fail
        go_step3
        exact ⟨⟨_, _, _, _, _, _, _, _, _, _, _, _, _, _, _, _, _, _, _, _, _, _, _, _, _, _, _, _, rfl, _, H1.out, hr', hl'⟩, by rw [H1.out.taken, hs.taken]; have := hs.most; omega⟩
      · rw [e]
        have H1 := Lib.hid (h1 (by rw [e]; decide))
        clear h0 h1 e
        go_wp2_with fail
        go_step3
        exact ⟨⟨_, _, _, _, _, _, _, _, _, _, _, _, _, _, _, _, _, _, _, _, _, _, _, _, _, _, _, _, rfl, _, H1.out, hr', hl'⟩, by rw [H1.out.taken, hs.taken]; have := hs.most; omega⟩
      · rw [e]
        have H1 := Lib.hid (h1 (by rw [e]; decide))
        clear h0 h1 e
        go_wp2_with fail
        go_step3
        exact ⟨⟨_, _, _, _, _, _, _, _, _, _, _, _, _, _, _, _, _, _, _, _, _, _, _, _, _, _, _, _, rfl, _, H1.out, hr', hl'⟩, by rw [H1.out.taken, hs.taken]; have := hs.most; omega⟩
      · rw [e]
        have H1 := Lib.hid (h1 (by rw [e]; decide))
        clear h0 h1 e
        go_wp2_with fail
        go_step3
        exact ⟨⟨_, _, _, _, _, _, _, _, _, _, _, _, _, _, _, _, _, _, _, _, _, _, _, _, _, _, _, _, rfl, _, H1.out, hr', hl'⟩, by rw [H1.out.taken, hs.taken]; have := hs.most; omega⟩
end Go.Proofs.YtfegbfhkmdmheaaDoor

/- cluster.Next: the first cluster. -/
namespace Go.Proofs.YtfegbfhkmdmheaaDoor
open Go.RowKit Go.Lib

def NxAt (s : ByteArray) (k : Nat) : Nat → Prop
  | 0 => k = 1 ∧ roleAt s 0 = 2
  | 1 => k = 1 ∧ roleAt s 0 = 32 ∧ 1 ≤ chars s
  | 2 => Runs s k ∧ roleAt s 0 = 64 ∧ (roleAt s (k - 1) = 64 ∨ roleAt s (k - 1) = 8)
  | 3 => Runs s k ∧ (roleAt s 0 ≠ 1 ∧ roleAt s 0 ≠ 2 ∧ roleAt s 0 ≠ 4 ∧ roleAt s 0 ≠ 64) ∧ (k = chars s ∨ k = 32 ∨ goesOn s k = (roleAt s k == 8 || roleAt s k == 16))
  | 4 => First s k
  | 5 => Runs s k ∧ roleAt s 0 = 64 ∧ roleAt s (k - 1) = 16
  | _ => False
theorem tk_out {s : ByteArray} {k wanted : Nat} (hr : Runs s k) (h : ¬ (k < chars s ∧ k < 32)) : tk s k wanted = 0 ∧ Stops s k := by
  refine ⟨by unfold tk; rw [if_neg h], ?_⟩
  unfold Stops
  have := hr.le
  have := hr.most
  omega
theorem runs_one {s : ByteArray} (h : 1 ≤ chars s) : Runs s 1 := ⟨Nat.le_refl _, h, by omega, fun i h1 h2 => by omega⟩
theorem nx_carr {s : ByteArray} (h : roleAt s 0 = 2) : (tk s 1 4 = 0 ∧ First s 1) ∨ (tk s 1 4 = 4 ∧ First s 2) := by
  by_cases hk : 1 < chars s
  · rw [tk_role hk (by omega)]
    rcases roleAt_one hk with e | e | e | e | e | e | e | e | e | e | e | e | e
    all_goals first
      | exact .inl ⟨by rw [e]; decide, .cr h (by rw [e]; decide)⟩
      | exact .inr ⟨by rw [e]; decide, .line h e⟩
  · exact .inl ⟨by unfold tk; rw [if_neg (by omega)], .cr h (by rw [roleAt_none (by omega)]; decide)⟩
theorem goes_pict {s : ByteArray} {k : Nat} (hr : Runs s k) (h0 : roleAt s 0 = 64) (h : roleAt s (k - 1) = 64 ∨ roleAt s (k - 1) = 8) : goesOn s k = (roleAt s k == 8 || roleAt s k == 16) := by
  unfold goesOn
  rw [h0]
  rcases h with h | h <;> rw [h] <;> simp [syl]
theorem goes_pj {s : ByteArray} {k : Nat} (hr : Runs s k) (h0 : roleAt s 0 = 64) (h : roleAt s (k - 1) = 16) : goesOn s k = (roleAt s k == 8 || roleAt s k == 16 || roleAt s k == 64) := by
  unfold goesOn
  rw [h0, h]
  simp [syl]
theorem nx_pict {s : ByteArray} {k : Nat} (h : NxAt s k 2) : (tk s k 24 = 0 ∧ First s k) ∨ (tk s k 24 = 8 ∧ NxAt s (k + 1) 2) ∨ (tk s k 24 = 16 ∧ NxAt s (k + 1) 5) := by
  obtain ⟨hr, h0, hz⟩ := h
  have hn : ∀ v, roleAt s 0 = 64 → roleAt s 0 ≠ v ∨ v = 64 := fun v e => by by_cases hv : v = 64; exact .inr hv; exact .inl (by rw [e]; exact fun e => hv e.symm)
  have hf : Stops s k → First s k := fun hs => .run k (by rw [h0]; decide) (by rw [h0]; decide) (by rw [h0]; decide) hr hs
  by_cases hk : k < chars s ∧ k < 32
  · rw [tk_role hk.1 hk.2]
    have hg := goes_pict hr h0 hz
    have hs : k + 1 - 1 = k := by omega
    unfold NxAt
    simp only [hs]
    rcases roleAt_one hk.1 with e | e | e | e | e | e | e | e | e | e | e | e | e
    all_goals first
      | exact .inl ⟨by rw [e]; decide, hf (.inr (.inr (by rw [hg, e]; decide)))⟩
      | exact .inr (.inl ⟨by rw [e]; decide, hr.next hk.1 hk.2 (by rw [hg, e]; decide), h0, .inr e⟩)
      | exact .inr (.inr ⟨by rw [e]; decide, hr.next hk.1 hk.2 (by rw [hg, e]; decide), h0, e⟩)
  · obtain ⟨a, b⟩ := tk_out (wanted := 24) hr hk
    exact .inl ⟨a, hf b⟩
theorem nx_pj {s : ByteArray} {k : Nat} (h : NxAt s k 5) : (tk s k 88 = 0 ∧ First s k) ∨ (tk s k 88 = 8 ∧ NxAt s (k + 1) 2) ∨ (tk s k 88 = 64 ∧ NxAt s (k + 1) 2) ∨ (tk s k 88 = 16 ∧ NxAt s (k + 1) 5) := by
  obtain ⟨hr, h0, hz⟩ := h
  have hf : Stops s k → First s k := fun hs => .run k (by rw [h0]; decide) (by rw [h0]; decide) (by rw [h0]; decide) hr hs
  by_cases hk : k < chars s ∧ k < 32
  · rw [tk_role hk.1 hk.2]
    have hg := goes_pj hr h0 hz
    have hs : k + 1 - 1 = k := by omega
    unfold NxAt
    simp only [hs]
    rcases roleAt_one hk.1 with e | e | e | e | e | e | e | e | e | e | e | e | e
    all_goals first
      | exact .inl ⟨by rw [e]; decide, hf (.inr (.inr (by rw [hg, e]; decide)))⟩
      | exact .inr (.inl ⟨by rw [e]; decide, hr.next hk.1 hk.2 (by rw [hg, e]; decide), h0, .inr e⟩)
      | exact .inr (.inr (.inl ⟨by rw [e]; decide, hr.next hk.1 hk.2 (by rw [hg, e]; decide), h0, .inl e⟩))
      | exact .inr (.inr (.inr ⟨by rw [e]; decide, hr.next hk.1 hk.2 (by rw [hg, e]; decide), h0, e⟩))
  · obtain ⟨a, b⟩ := tk_out (wanted := 88) hr hk
    exact .inl ⟨a, hf b⟩
theorem nx_oth {s : ByteArray} {k : Nat} (h : NxAt s k 3) : (tk s k 24 = 0 ∧ First s k) ∨ (tk s k 24 = 8 ∧ NxAt s (k + 1) 3) ∨ (tk s k 24 = 16 ∧ NxAt s (k + 1) 3) := by
  obtain ⟨hr, ⟨n1, n2, n4, n64⟩, hz⟩ := h
  have hf : Stops s k → First s k := fun hs => .run k n1 n2 n4 hr hs
  by_cases hk : k < chars s ∧ k < 32
  · rw [tk_role hk.1 hk.2]
    have hg : goesOn s k = (roleAt s k == 8 || roleAt s k == 16) := by
      rcases hz with hz | hz | hz
      · omega
      · omega
      · exact hz
    have hs : k + 1 - 1 = k := by omega
    have hnx : ∀ v, roleAt s k = v → (v = 8 ∨ v = 16) → NxAt s (k + 1) 3 := fun v e hv => by
      refine ⟨hr.next hk.1 hk.2 (by rw [hg, e]; rcases hv with rfl | rfl <;> decide), ⟨n1, n2, n4, n64⟩, ?_⟩
      refine .inr (.inr ?_)
      unfold goesOn
      have hp := hr.pos
      have h1 : (k + 1 == 1) = false := by simp; omega
      have h6 : (roleAt s 0 == 64) = false := by simp; exact n64
      rw [hs, e, h1, h6]
      rcases hv with rfl | rfl <;> simp [syl]
    rcases roleAt_one hk.1 with e | e | e | e | e | e | e | e | e | e | e | e | e
    all_goals first
      | exact .inl ⟨by rw [e]; decide, hf (.inr (.inr (by rw [hg, e]; decide)))⟩
      | exact .inr (.inl ⟨by rw [e]; decide, hnx _ e (.inl rfl)⟩)
      | exact .inr (.inr ⟨by rw [e]; decide, hnx _ e (.inr rfl)⟩)
  · obtain ⟨a, b⟩ := tk_out (wanted := 24) hr hk
    exact .inl ⟨a, hf b⟩
theorem nx_reg {s : ByteArray} (h : NxAt s 1 1) : (tk s 1 32 = 0 ∧ NxAt s 1 3) ∨ (tk s 1 32 = 32 ∧ NxAt s 2 3) := by
  obtain ⟨_, h0, hc⟩ := h
  have hne : roleAt s 0 ≠ 1 ∧ roleAt s 0 ≠ 2 ∧ roleAt s 0 ≠ 4 ∧ roleAt s 0 ≠ 64 := by rw [h0]; decide
  by_cases hk : 1 < chars s
  · rw [tk_role hk (by omega)]
    have hg : goesOn s 1 = (roleAt s 1 == 8 || roleAt s 1 == 16 || roleAt s 1 == 32) := by
      unfold goesOn
      simp [h0, syl]
    rcases roleAt_one hk with e | e | e | e | e | e | e | e | e | e | e | e | e
    all_goals first
      | exact .inl ⟨by rw [e]; decide, runs_one hc, hne, .inr (.inr (by rw [hg, e]; decide))⟩
      | (refine .inr ⟨by rw [e]; decide, (runs_one hc).next hk (by omega) (by rw [hg, e]; decide), hne, .inr (.inr ?_)⟩
         unfold goesOn
         simp [h0, e, syl])
  · exact .inl ⟨by unfold tk; rw [if_neg (by omega)], runs_one hc, hne, .inl (by omega)⟩
theorem nx_syl {s : ByteArray} {k x : Nat} (h : SylEnd s k) (h0 : roleAt s 0 = x) (hxs : x = 128 ∨ x = 256 ∨ x = 512 ∨ x = 1024 ∨ x = 2048) : NxAt s k 3 := by
  obtain ⟨hr, he⟩ := h
  refine ⟨hr, by rw [h0]; rcases hxs with rfl | rfl | rfl | rfl | rfl <;> decide, ?_⟩
  rcases he with he | he | he
  · exact .inl he
  · exact .inr (.inl he)
  · refine .inr (.inr ?_)
    unfold goesOn
    rw [he, h0]
    rcases hxs with rfl | rfl | rfl | rfl | rfl <;> simp
/-- a first one that is alone in its kind: a mark, a joiner, any other -/
theorem nx_one {s : ByteArray} (hc : 1 ≤ chars s) (h : roleAt s 0 = 8 ∨ roleAt s 0 = 16 ∨ roleAt s 0 = 4096) : NxAt s 1 3 := by
  refine ⟨runs_one hc, by rcases h with h | h | h <;> rw [h] <;> decide, .inr (.inr ?_)⟩
  unfold goesOn
  rcases h with h | h | h <;> simp [h, syl]
theorem nx_zero {s : ByteArray} : tk s 0 8191 = 0 ∧ First s 0 ∨ 1 ≤ chars s ∧ tk s 0 8191 = roleAt s 0 := by
  by_cases hk : 0 < chars s
  · right
    refine ⟨hk, ?_⟩
    rw [tk_role hk (by omega)]
    rcases roleAt_one hk with e | e | e | e | e | e | e | e | e | e | e | e | e <;> rw [e] <;> decide
  · exact .inl ⟨by unfold tk; rw [if_neg (by omega)], .none (by omega)⟩

def nxJ (s : ByteArray) (g : Nat) (W : World) (l : Nat) (a : Act) (w : World) : Prop := ∃ u1 u2 u4 u5 u6 u7 u8 u9 u10 u11 u12 u13 u14 u15 u16 u17 u18 u19 u20 u21 u22 u23 u24 u25 u26 u27 u28 u29 u30 u31 u32 u33 u34 u35 u36 u37 u38 u39 u40 u41 u42 u43, a = { tmps := #[.string s, u1, u2, .pointer (some ⟨g, 0, none⟩), u4, u5, u6, u7, u8, u9, u10, u11, u12, u13, u14, u15, u16, u17, u18, u19, u20, u21, u22, u23, u24, u25, u26, u27, u28, u29, u30, u31, u32, u33, u34, u35, u36, u37, u38, u39, u40, u41, u42, u43], defers := [] } ∧ ∃ k, Scans s g W k w ∧ NxAt s k l

set_option maxRecDepth 100000 in
set_option maxHeartbeats 4000000 in
theorem cnext_any (s : ByteArray) (w : World) (hT : Utf8Tabs 0 1 w) (hm : s.size ≤ 140737488351232) :
    Calls Tryd.prog 48 #[.string s] w fun e w' => ∃ k, First s k ∧ e = .returned (.int .i64 (placeAt s k : Nat)) ∧ Below w.heap.size w w' := by
  obtain ⟨g, hgs⟩ : ∃ g, w.heap.size = g := ⟨_, rfl⟩
  have hg : 1 + 1 ≤ g := by rw [← hgs]; exact tabs_size hT
  obtain ⟨W, hW⟩ : ∃ W, w.alloc (.cells #[.string s, .int .i64 0, .int .i64 0] 109) = W := ⟨_, rfl⟩
  have hbW : Below g w W := by rw [← hW]; exact (Below.refl g w).alloc (by omega) _
  have hs0 : Scans s g W 0 W := by
    refine ⟨?_, Utf8Tabs_below hT (by rw [hgs]; exact hbW), .refl _ _, Nat.zero_le _, by omega⟩
    rw [← hW]
    unfold Rdr
    rw [alloc_get, hgs, if_pos rfl]
    rfl
  have c1 := hs0.rdr.c1
  have c2 := hs0.rdr.c2
  rw [placeAt_zero] at c1
  have f1 := hs0.rdr.f 1
  have f2 := hs0.rdr.f 2
  have hs1 : Scans s g W 0 ((W.setCell ⟨g, 1, none⟩ (.int .i64 0)).setCell ⟨g, 2, none⟩ (.int .i64 0)) :=
    ⟨(hs0.rdr.set1 0).set2 0, moves_u8 hg ((Moves.setCell W g 1 _).trans' (Moves.setCell _ g 2 _)) hs0.u8, (Moves.setCell W g 1 _).trans' (Moves.setCell _ g 2 _), Nat.zero_le _, by omega⟩
  have Hs0 := Lib.hid hs1
  clear hs1
  have HbW := Lib.hid hbW
  have Htake := Lib.hid (fun k wanted w (h : Scans s g W k w) hw => scan_take s g k wanted W w h hg hm hw)
  have Hsyl := Lib.hid (fun x w (h : Scans s g W 1 w) hx hxs => syllable_any s g x W w h hg hm hx hxs)
  rw [hgs]
  clear hT hs0 hbW
  go_enter Tryd.func48, Tryd.ntmps48
  go_wp2_with fail
  refine scope_found (nxJ s g W) (fun l _ w => if l = 4 then 0 else 34 - taken g w) ?found ?first ?pass
  case found =>
    rintro l a w ⟨u1, u2, u4, u5, u6, u7, u8, u9, u10, u11, u12, u13, u14, u15, u16, u17, u18, u19, u20, u21, u22, u23, u24, u25, u26, u27, u28, u29, u30, u31, u32, u33, u34, u35, u36, u37, u38, u39, u40, u41, u42, u43, rfl, k, hs, hl⟩
    match l, hl with
    | 0, _ => rfl
    | 1, _ => rfl
    | 2, _ => rfl
    | 3, _ => rfl
    | 4, _ => rfl
    | 5, _ => rfl
  case first =>
    go_wp2_with fail
    refine (Htake.out 0 8191 _ Hs0.out (by simp)).mono ?_
    rintro _ w1 ⟨rfl, h0, h1⟩
    rcases nx_zero (s := s) with ⟨e, hf0⟩ | ⟨hc, e⟩
    · rw [e]
      have H0 := Lib.hid (h0 e)
      clear h0 h1 e
      go_wp2_with fail
      go_step3
      exact ⟨_, _, _, _, _, _, _, _, _, _, _, _, _, _, _, _, _, _, _, _, _, _, _, _, _, _, _, _, _, _, _, _, _, _, _, _, _, _, _, _, _, _, rfl, _, H0.out, hf0⟩
    · rw [e]
      rcases roleAt_one (s := s) (k := 0) hc with r | r | r | r | r | r | r | r | r | r | r | r | r
      · rw [r]
        have H1 := Lib.hid (h1 (by rw [e, r]; decide))
        clear h0 h1 e
        go_wp2_with fail
        go_step3
        exact ⟨_, _, _, _, _, _, _, _, _, _, _, _, _, _, _, _, _, _, _, _, _, _, _, _, _, _, _, _, _, _, _, _, _, _, _, _, _, _, _, _, _, _, rfl, _, H1.out, (show First s 1 from .alone (.inl r))⟩
      · rw [r]
        have H1 := Lib.hid (h1 (by rw [e, r]; decide))
        clear h0 h1 e
        go_wp2_with fail
        go_step3
        exact ⟨_, _, _, _, _, _, _, _, _, _, _, _, _, _, _, _, _, _, _, _, _, _, _, _, _, _, _, _, _, _, _, _, _, _, _, _, _, _, _, _, _, _, rfl, _, H1.out, (show NxAt s 1 0 from ⟨rfl, r⟩)⟩
      · rw [r]
        have H1 := Lib.hid (h1 (by rw [e, r]; decide))
        clear h0 h1 e
        go_wp2_with fail
        go_step3
        exact ⟨_, _, _, _, _, _, _, _, _, _, _, _, _, _, _, _, _, _, _, _, _, _, _, _, _, _, _, _, _, _, _, _, _, _, _, _, _, _, _, _, _, _, rfl, _, H1.out, (show First s 1 from .alone (.inr r))⟩
      · rw [r]
        have H1 := Lib.hid (h1 (by rw [e, r]; decide))
        clear h0 h1 e
        go_wp2_with fail
        go_step3
        exact ⟨_, _, _, _, _, _, _, _, _, _, _, _, _, _, _, _, _, _, _, _, _, _, _, _, _, _, _, _, _, _, _, _, _, _, _, _, _, _, _, _, _, _, rfl, _, H1.out, (nx_one hc (by rw [r]; simp))⟩
      · rw [r]
        have H1 := Lib.hid (h1 (by rw [e, r]; decide))
        clear h0 h1 e
        go_wp2_with fail
        go_step3
        exact ⟨_, _, _, _, _, _, _, _, _, _, _, _, _, _, _, _, _, _, _, _, _, _, _, _, _, _, _, _, _, _, _, _, _, _, _, _, _, _, _, _, _, _, rfl, _, H1.out, (nx_one hc (by rw [r]; simp))⟩
      · rw [r]
        have H1 := Lib.hid (h1 (by rw [e, r]; decide))
        clear h0 h1 e
        go_wp2_with fail
        go_step3
        exact ⟨_, _, _, _, _, _, _, _, _, _, _, _, _, _, _, _, _, _, _, _, _, _, _, _, _, _, _, _, _, _, _, _, _, _, _, _, _, _, _, _, _, _, rfl, _, H1.out, (show NxAt s 1 1 from ⟨rfl, r, hc⟩)⟩
      · rw [r]
        have H1 := Lib.hid (h1 (by rw [e, r]; decide))
        clear h0 h1 e
        go_wp2_with fail
        go_step3
        exact ⟨_, _, _, _, _, _, _, _, _, _, _, _, _, _, _, _, _, _, _, _, _, _, _, _, _, _, _, _, _, _, _, _, _, _, _, _, _, _, _, _, _, _, rfl, _, H1.out, (show NxAt s 1 2 from ⟨runs_one hc, r, .inl r⟩)⟩
      · rw [r]
        have H1 := Lib.hid (h1 (by rw [e, r]; decide))
        clear h0 h1 e
        go_wp2_with fail
        refine (Hsyl.out 128 _ H1.out r (by simp)).mono ?_
        rintro _ w2 ⟨⟨v, rfl⟩, k, hs2, he⟩
        go_wp2_with fail
        go_step3
        exact ⟨_, _, _, _, _, _, _, _, _, _, _, _, _, _, _, _, _, _, _, _, _, _, _, _, _, _, _, _, _, _, _, _, _, _, _, _, _, _, _, _, _, _, rfl, _, hs2, (nx_syl he r (by simp))⟩
      · rw [r]
        have H1 := Lib.hid (h1 (by rw [e, r]; decide))
        clear h0 h1 e
        go_wp2_with fail
        refine (Hsyl.out 256 _ H1.out r (by simp)).mono ?_
        rintro _ w2 ⟨⟨v, rfl⟩, k, hs2, he⟩
        go_wp2_with fail
        go_step3
        exact ⟨_, _, _, _, _, _, _, _, _, _, _, _, _, _, _, _, _, _, _, _, _, _, _, _, _, _, _, _, _, _, _, _, _, _, _, _, _, _, _, _, _, _, rfl, _, hs2, (nx_syl he r (by simp))⟩
      · rw [r]
        have H1 := Lib.hid (h1 (by rw [e, r]; decide))
        clear h0 h1 e
        go_wp2_with fail
        refine (Hsyl.out 512 _ H1.out r (by simp)).mono ?_
        rintro _ w2 ⟨⟨v, rfl⟩, k, hs2, he⟩
        go_wp2_with fail
        go_step3
        exact ⟨_, _, _, _, _, _, _, _, _, _, _, _, _, _, _, _, _, _, _, _, _, _, _, _, _, _, _, _, _, _, _, _, _, _, _, _, _, _, _, _, _, _, rfl, _, hs2, (nx_syl he r (by simp))⟩
      · rw [r]
        have H1 := Lib.hid (h1 (by rw [e, r]; decide))
        clear h0 h1 e
        go_wp2_with fail
        refine (Hsyl.out 1024 _ H1.out r (by simp)).mono ?_
        rintro _ w2 ⟨⟨v, rfl⟩, k, hs2, he⟩
        go_wp2_with fail
        go_step3
        exact ⟨_, _, _, _, _, _, _, _, _, _, _, _, _, _, _, _, _, _, _, _, _, _, _, _, _, _, _, _, _, _, _, _, _, _, _, _, _, _, _, _, _, _, rfl, _, hs2, (nx_syl he r (by simp))⟩
      · rw [r]
        have H1 := Lib.hid (h1 (by rw [e, r]; decide))
        clear h0 h1 e
        go_wp2_with fail
        refine (Hsyl.out 2048 _ H1.out r (by simp)).mono ?_
        rintro _ w2 ⟨⟨v, rfl⟩, k, hs2, he⟩
        go_wp2_with fail
        go_step3
        exact ⟨_, _, _, _, _, _, _, _, _, _, _, _, _, _, _, _, _, _, _, _, _, _, _, _, _, _, _, _, _, _, _, _, _, _, _, _, _, _, _, _, _, _, rfl, _, hs2, (nx_syl he r (by simp))⟩
      · rw [r]
        have H1 := Lib.hid (h1 (by rw [e, r]; decide))
        clear h0 h1 e
        go_wp2_with fail
        go_step3
        exact ⟨_, _, _, _, _, _, _, _, _, _, _, _, _, _, _, _, _, _, _, _, _, _, _, _, _, _, _, _, _, _, _, _, _, _, _, _, _, _, _, _, _, _, rfl, _, H1.out, (nx_one hc (by rw [r]; simp))⟩
  case pass =>
    rintro l a w1 rest ⟨u1, u2, u4, u5, u6, u7, u8, u9, u10, u11, u12, u13, u14, u15, u16, u17, u18, u19, u20, u21, u22, u23, u24, u25, u26, u27, u28, u29, u30, u31, u32, u33, u34, u35, u36, u37, u38, u39, u40, u41, u42, u43, rfl, k, hs, hl⟩ hf
    match l, hl, hf with
    | 0, hl, hf =>
      simp only [findLabel, Nat.reduceBEq, Bool.false_eq_true, if_true, if_false, reduceIte] at hf
      injection hf with hf
      subst hf
      obtain ⟨rfl, hr0⟩ := hl
      go_wp2_with fail
      refine (Htake.out 1 4 _ hs (by simp)).mono ?_
      rintro _ w2 ⟨rfl, h0, h1⟩
      rcases nx_carr hr0 with ⟨e, hf0⟩ | ⟨e, hf0⟩
      · rw [e]
        have H0 := Lib.hid (h0 e)
        clear h0 h1 e
        go_wp2_with fail
        go_step3
        refine ⟨⟨_, _, _, _, _, _, _, _, _, _, _, _, _, _, _, _, _, _, _, _, _, _, _, _, _, _, _, _, _, _, _, _, _, _, _, _, _, _, _, _, _, _, rfl, _, H0.out, hf0⟩, ?_⟩
        have m1 := hs.taken
        have m2 := H0.out.taken
        have m3 := hs.most
        simp [m1, m2]
        try omega
      · rw [e]
        have H1 := Lib.hid (h1 (by rw [e]; decide))
        clear h0 h1 e
        go_wp2_with fail
        go_step3
        refine ⟨⟨_, _, _, _, _, _, _, _, _, _, _, _, _, _, _, _, _, _, _, _, _, _, _, _, _, _, _, _, _, _, _, _, _, _, _, _, _, _, _, _, _, _, rfl, _, H1.out, hf0⟩, ?_⟩
        have m1 := hs.taken
        have m2 := H1.out.taken
        have m3 := hs.most
        simp [m1, m2]
        try omega
    | 1, hl, hf =>
      simp only [findLabel, Nat.reduceBEq, Bool.false_eq_true, if_true, if_false, reduceIte] at hf
      injection hf with hf
      subst hf
      obtain ⟨rfl, hr0⟩ := hl
      go_wp2_with fail
      refine (Htake.out 1 32 _ hs (by simp)).mono ?_
      rintro _ w2 ⟨rfl, h0, h1⟩
      rcases nx_reg ⟨rfl, hr0⟩ with ⟨e, hl2⟩ | ⟨e, hl2⟩
      · rw [e]
        have H0 := Lib.hid (h0 e)
        clear h0 h1 e
        go_wp2_with fail
        go_step3
        have hs2 := H0.out
        go_wp2_with fail
        refine (Htake.out _ 24 _ hs2 (by simp)).mono ?_
        rintro _ w3 ⟨rfl, h0, h1⟩
        rcases nx_oth hl2 with ⟨e, hf0⟩ | ⟨e, hl3⟩ | ⟨e, hl3⟩
        · rw [e]
          have H2 := Lib.hid (h0 e)
          have x1 := H2.out.rdr.c1
          clear h0 h1 e
          go_wp2_with fail
          go_step3
          go_wp2_with fail
          try rw [toLabel_ret]
          go_ret
          exact ⟨_, hf0, rfl, HbW.out.trans ⟨H2.out.moves.os, H2.out.moves.tape, H2.out.moves.output, H2.out.moves.size, fun i hi => H2.out.moves.block i (Nat.lt_of_lt_of_le hi (by have := HbW.out.size; omega)) (fun e => by omega)⟩⟩
        · rw [e]
          have H2 := Lib.hid (h1 (by rw [e]; decide))
          clear h0 h1 e
          go_wp2_with fail
          go_step3
          refine ⟨⟨_, _, _, _, _, _, _, _, _, _, _, _, _, _, _, _, _, _, _, _, _, _, _, _, _, _, _, _, _, _, _, _, _, _, _, _, _, _, _, _, _, _, rfl, _, H2.out, hl3⟩, ?_⟩
          have m1 := hs.taken
          have m2 := H2.out.taken
          have m3 := hs.most
          simp [m1, m2]
          try omega
        · rw [e]
          have H2 := Lib.hid (h1 (by rw [e]; decide))
          clear h0 h1 e
          go_wp2_with fail
          go_step3
          refine ⟨⟨_, _, _, _, _, _, _, _, _, _, _, _, _, _, _, _, _, _, _, _, _, _, _, _, _, _, _, _, _, _, _, _, _, _, _, _, _, _, _, _, _, _, rfl, _, H2.out, hl3⟩, ?_⟩
          have m1 := hs.taken
          have m2 := H2.out.taken
          have m3 := hs.most
          simp [m1, m2]
          try omega
      · rw [e]
        have H1 := Lib.hid (h1 (by rw [e]; decide))
        clear h0 h1 e
        go_wp2_with fail
        go_step3
        have hs2 := H1.out
        go_wp2_with fail
        refine (Htake.out _ 24 _ hs2 (by simp)).mono ?_
        rintro _ w3 ⟨rfl, h0, h1⟩
        rcases nx_oth hl2 with ⟨e, hf0⟩ | ⟨e, hl3⟩ | ⟨e, hl3⟩
        · rw [e]
          have H2 := Lib.hid (h0 e)
          have x1 := H2.out.rdr.c1
          clear h0 h1 e
          go_wp2_with fail
          go_step3
          go_wp2_with fail
          try rw [toLabel_ret]
          go_ret
          exact ⟨_, hf0, rfl, HbW.out.trans ⟨H2.out.moves.os, H2.out.moves.tape, H2.out.moves.output, H2.out.moves.size, fun i hi => H2.out.moves.block i (Nat.lt_of_lt_of_le hi (by have := HbW.out.size; omega)) (fun e => by omega)⟩⟩
        · rw [e]
          have H2 := Lib.hid (h1 (by rw [e]; decide))
          clear h0 h1 e
          go_wp2_with fail
          go_step3
          refine ⟨⟨_, _, _, _, _, _, _, _, _, _, _, _, _, _, _, _, _, _, _, _, _, _, _, _, _, _, _, _, _, _, _, _, _, _, _, _, _, _, _, _, _, _, rfl, _, H2.out, hl3⟩, ?_⟩
          have m1 := hs.taken
          have m2 := H2.out.taken
          have m3 := hs.most
          simp [m1, m2]
          try omega
        · rw [e]
          have H2 := Lib.hid (h1 (by rw [e]; decide))
          clear h0 h1 e
          go_wp2_with fail
          go_step3
          refine ⟨⟨_, _, _, _, _, _, _, _, _, _, _, _, _, _, _, _, _, _, _, _, _, _, _, _, _, _, _, _, _, _, _, _, _, _, _, _, _, _, _, _, _, _, rfl, _, H2.out, hl3⟩, ?_⟩
          have m1 := hs.taken
          have m2 := H2.out.taken
          have m3 := hs.most
          simp [m1, m2]
          try omega
    | 2, hl, hf =>
      simp only [findLabel, Nat.reduceBEq, Bool.false_eq_true, if_true, if_false, reduceIte] at hf
      injection hf with hf
      subst hf
      go_wp2_with fail
      refine (Htake.out _ 24 _ hs (by simp)).mono ?_
      rintro _ w2 ⟨rfl, h0, h1⟩
      rcases nx_pict hl with ⟨e, hf0⟩ | ⟨e, hl2⟩ | ⟨e, hl2⟩
      · rw [e]
        have H0 := Lib.hid (h0 e)
        clear h0 h1 e
        go_wp2_with fail
        go_step3
        refine ⟨⟨_, _, _, _, _, _, _, _, _, _, _, _, _, _, _, _, _, _, _, _, _, _, _, _, _, _, _, _, _, _, _, _, _, _, _, _, _, _, _, _, _, _, rfl, _, H0.out, hf0⟩, ?_⟩
        have m1 := hs.taken
        have m2 := H0.out.taken
        have m3 := hs.most
        simp [m1, m2]
        try omega
      · rw [e]
        have H1 := Lib.hid (h1 (by rw [e]; decide))
        clear h0 h1 e
        go_wp2_with fail
        go_step3
        refine ⟨⟨_, _, _, _, _, _, _, _, _, _, _, _, _, _, _, _, _, _, _, _, _, _, _, _, _, _, _, _, _, _, _, _, _, _, _, _, _, _, _, _, _, _, rfl, _, H1.out, hl2⟩, ?_⟩
        have m1 := hs.taken
        have m2 := H1.out.taken
        have m3 := hs.most
        simp [m1, m2]
        try omega
      · rw [e]
        have H1 := Lib.hid (h1 (by rw [e]; decide))
        clear h0 h1 e
        go_wp2_with fail
        go_step3
        refine ⟨⟨_, _, _, _, _, _, _, _, _, _, _, _, _, _, _, _, _, _, _, _, _, _, _, _, _, _, _, _, _, _, _, _, _, _, _, _, _, _, _, _, _, _, rfl, _, H1.out, hl2⟩, ?_⟩
        have m1 := hs.taken
        have m2 := H1.out.taken
        have m3 := hs.most
        simp [m1, m2]
        try omega
    | 3, hl, hf =>
      simp only [findLabel, Nat.reduceBEq, Bool.false_eq_true, if_true, if_false, reduceIte] at hf
      injection hf with hf
      subst hf
      go_wp2_with fail
      refine (Htake.out _ 24 _ hs (by simp)).mono ?_
      rintro _ w2 ⟨rfl, h0, h1⟩
      rcases nx_oth hl with ⟨e, hf0⟩ | ⟨e, hl2⟩ | ⟨e, hl2⟩
      · rw [e]
        have H2 := Lib.hid (h0 e)
        have x1 := H2.out.rdr.c1
        clear h0 h1 e
        go_wp2_with fail
        go_step3
        go_wp2_with fail
        try rw [toLabel_ret]
        go_ret
        exact ⟨_, hf0, rfl, HbW.out.trans ⟨H2.out.moves.os, H2.out.moves.tape, H2.out.moves.output, H2.out.moves.size, fun i hi => H2.out.moves.block i (Nat.lt_of_lt_of_le hi (by have := HbW.out.size; omega)) (fun e => by omega)⟩⟩
      · rw [e]
        have H1 := Lib.hid (h1 (by rw [e]; decide))
        clear h0 h1 e
        go_wp2_with fail
        go_step3
        refine ⟨⟨_, _, _, _, _, _, _, _, _, _, _, _, _, _, _, _, _, _, _, _, _, _, _, _, _, _, _, _, _, _, _, _, _, _, _, _, _, _, _, _, _, _, rfl, _, H1.out, hl2⟩, ?_⟩
        have m1 := hs.taken
        have m2 := H1.out.taken
        have m3 := hs.most
        simp [m1, m2]
        try omega
      · rw [e]
        have H1 := Lib.hid (h1 (by rw [e]; decide))
        clear h0 h1 e
        go_wp2_with fail
        go_step3
        refine ⟨⟨_, _, _, _, _, _, _, _, _, _, _, _, _, _, _, _, _, _, _, _, _, _, _, _, _, _, _, _, _, _, _, _, _, _, _, _, _, _, _, _, _, _, rfl, _, H1.out, hl2⟩, ?_⟩
        have m1 := hs.taken
        have m2 := H1.out.taken
        have m3 := hs.most
        simp [m1, m2]
        try omega
    | 4, hl, hf =>
      simp only [findLabel, Nat.reduceBEq, Bool.false_eq_true, if_true, if_false, reduceIte] at hf
      injection hf with hf
      subst hf
      have x1 := hs.rdr.c1
      have Hs := Lib.hid hs
      clear hs
      go_wp2_with fail
      try rw [toLabel_ret]
      go_ret
      exact ⟨_, hl, rfl, HbW.out.trans ⟨Hs.out.moves.os, Hs.out.moves.tape, Hs.out.moves.output, Hs.out.moves.size, fun i hi => Hs.out.moves.block i (Nat.lt_of_lt_of_le hi (by have := HbW.out.size; omega)) (fun e => by omega)⟩⟩
    | 5, hl, hf =>
      simp only [findLabel, Nat.reduceBEq, Bool.false_eq_true, if_true, if_false, reduceIte] at hf
      injection hf with hf
      subst hf
      go_wp2_with fail
      refine (Htake.out _ 88 _ hs (by simp)).mono ?_
      rintro _ w2 ⟨rfl, h0, h1⟩
      rcases nx_pj hl with ⟨e, hf0⟩ | ⟨e, hl2⟩ | ⟨e, hl2⟩ | ⟨e, hl2⟩
      · rw [e]
        have H0 := Lib.hid (h0 e)
        clear h0 h1 e
        go_wp2_with fail
        go_step3
        refine ⟨⟨_, _, _, _, _, _, _, _, _, _, _, _, _, _, _, _, _, _, _, _, _, _, _, _, _, _, _, _, _, _, _, _, _, _, _, _, _, _, _, _, _, _, rfl, _, H0.out, hf0⟩, ?_⟩
        have m1 := hs.taken
        have m2 := H0.out.taken
        have m3 := hs.most
        simp [m1, m2]
        try omega
      · rw [e]
        have H1 := Lib.hid (h1 (by rw [e]; decide))
        clear h0 h1 e
        go_wp2_with fail
        go_step3
        refine ⟨⟨_, _, _, _, _, _, _, _, _, _, _, _, _, _, _, _, _, _, _, _, _, _, _, _, _, _, _, _, _, _, _, _, _, _, _, _, _, _, _, _, _, _, rfl, _, H1.out, hl2⟩, ?_⟩
        have m1 := hs.taken
        have m2 := H1.out.taken
        have m3 := hs.most
        simp [m1, m2]
        try omega
      · rw [e]
        have H1 := Lib.hid (h1 (by rw [e]; decide))
        clear h0 h1 e
        go_wp2_with fail
        go_step3
        refine ⟨⟨_, _, _, _, _, _, _, _, _, _, _, _, _, _, _, _, _, _, _, _, _, _, _, _, _, _, _, _, _, _, _, _, _, _, _, _, _, _, _, _, _, _, rfl, _, H1.out, hl2⟩, ?_⟩
        have m1 := hs.taken
        have m2 := H1.out.taken
        have m3 := hs.most
        simp [m1, m2]
        try omega
      · rw [e]
        have H1 := Lib.hid (h1 (by rw [e]; decide))
        clear h0 h1 e
        go_wp2_with fail
        go_step3
        refine ⟨⟨_, _, _, _, _, _, _, _, _, _, _, _, _, _, _, _, _, _, _, _, _, _, _, _, _, _, _, _, _, _, _, _, _, _, _, _, _, _, _, _, _, _, rfl, _, H1.out, hl2⟩, ?_⟩
        have m1 := hs.taken
        have m2 := H1.out.taken
        have m3 := hs.most
        simp [m1, m2]
        try omega
end Go.Proofs.YtfegbfhkmdmheaaDoor

/- The clusters of a text, one behind the other; pure; and Next of a rest. -/
namespace Go.Proofs.YtfegbfhkmdmheaaDoor
open Go.RowKit Go.Lib

def roleD (ds : List (Nat × Nat)) (k : Nat) : Nat := match ds[k]? with
  | some d => roleN d.1 d.2
  | none => 0
def goesD (ds : List (Nat × Nat)) (k : Nat) : Bool := roleD ds k == 8 || roleD ds k == 16 || (k == 1 && roleD ds 0 == 32 && roleD ds k == 32) || (roleD ds (k - 1) == 16 && roleD ds k == 64 && roleD ds 0 == 64) || syl (roleD ds (k - 1)) (roleD ds k)
def runD (ds : List (Nat × Nat)) : Nat → Nat → Nat
  | 0, n => n
  | f + 1, n => if n < ds.length ∧ n < 32 ∧ goesD ds n = true then runD ds f (n + 1) else n
/-- how many characters the first cluster of a list has -/
def clD (ds : List (Nat × Nat)) : Nat :=
  if ds.length = 0 then 0 else if roleD ds 0 = 1 ∨ roleD ds 0 = 4 then 1 else if roleD ds 0 = 2 then (if roleD ds 1 = 4 then 2 else 1) else runD ds 32 1
theorem runD_runs (s : ByteArray) : ∀ (f n : Nat), Runs s n → 33 ≤ f + n → Runs s (runD (segs s.data.toList) f n) ∧ Stops s (runD (segs s.data.toList) f n)
  | 0, n, h, hf => by have := h.most; omega
  | f + 1, n, h, hf => by
    unfold runD
    by_cases hc : n < (segs s.data.toList).length ∧ n < 32 ∧ goesD (segs s.data.toList) n = true
    · rw [if_pos hc]
      exact runD_runs s f (n + 1) (h.next hc.1 hc.2.1 hc.2.2) (by omega)
    · rw [if_neg hc]
      refine ⟨h, ?_⟩
      by_cases h1 : n = chars s
      · exact .inl h1
      · by_cases h2 : n = 32
        · exact .inr (.inl h2)
        · refine .inr (.inr ?_)
          have hle := h.le
          have hmost := h.most
          have : ¬ goesD (segs s.data.toList) n = true := fun hg => hc ⟨Nat.lt_of_le_of_ne hle h1, by omega, hg⟩
          show goesD (segs s.data.toList) n = false
          simpa using this
theorem first_clD {s : ByteArray} {k : Nat} (h : First s k) : k = clD (segs s.data.toList) := by
  have hR : ∀ j, roleD (segs s.data.toList) j = roleAt s j := fun j => rfl
  have hlen : ∀ r, roleAt s 0 = r → r ≠ 0 → (segs s.data.toList).length ≠ 0 := fun r h hr e => hr (by rw [← h]; exact roleAt_none (Nat.le_of_eq e))
  unfold clD
  simp only [hR]
  cases h with
  | none h => rw [if_pos (show (segs s.data.toList).length = 0 from h)]
  | alone h => rw [if_neg (by rcases h with h | h; exact hlen 1 h (by decide); exact hlen 4 h (by decide)), if_pos h]
  | line h h1 => rw [if_neg (hlen 2 h (by decide)), if_neg (by rw [h]; decide), if_pos h, if_pos h1]
  | cr h h1 => rw [if_neg (hlen 2 h (by decide)), if_neg (by rw [h]; decide), if_pos h, if_neg h1]
  | run n h1 h2 h4 hr hs =>
    have hp := hr.pos
    have hl := hr.le
    have hc : 1 ≤ chars s := by omega
    rw [if_neg (show ¬ (segs s.data.toList).length = 0 from fun e => by have : chars s = 0 := e; omega), if_neg (by intro h; rcases h with h | h; exact h1 h; exact h4 h), if_neg h2]
    obtain ⟨a, b⟩ := runD_runs s 32 1 (runs_one hc) (by omega)
    exact runs_unique hr hs a b
theorem runD_bounds (ds : List (Nat × Nat)) : ∀ (f n : Nat), n ≤ ds.length → n ≤ 32 → n ≤ runD ds f n ∧ runD ds f n ≤ ds.length ∧ runD ds f n ≤ 32
  | 0, n, h, h2 => ⟨Nat.le_refl _, h, h2⟩
  | f + 1, n, h, h2 => by
    unfold runD
    by_cases hc : n < ds.length ∧ n < 32 ∧ goesD ds n = true
    · rw [if_pos hc]
      have := runD_bounds ds f (n + 1) (by omega) (by omega)
      omega
    · rw [if_neg hc]
      exact ⟨Nat.le_refl _, h, h2⟩
theorem roleD_none {ds : List (Nat × Nat)} {k : Nat} (h : ds.length ≤ k) : roleD ds k = 0 := by
  unfold roleD
  rw [List.getElem?_eq_none h]
theorem clD_bounds {ds : List (Nat × Nat)} (h : 0 < ds.length) : 1 ≤ clD ds ∧ clD ds ≤ ds.length ∧ clD ds ≤ 32 := by
  unfold clD
  rw [if_neg (by omega)]
  by_cases h1 : roleD ds 0 = 1 ∨ roleD ds 0 = 4
  · rw [if_pos h1]; omega
  rw [if_neg h1]
  by_cases h2 : roleD ds 0 = 2
  · rw [if_pos h2]
    by_cases h3 : roleD ds 1 = 4
    · rw [if_pos h3]
      have : 1 < ds.length := by
        rcases Nat.lt_or_ge 1 ds.length with h' | h'
        · exact h'
        · rw [roleD_none h'] at h3; cases h3
      omega
    · rw [if_neg h3]; omega
  rw [if_neg h2]
  have := runD_bounds ds 32 1 h (by omega)
  omega
theorem segs_rest : ∀ (l : List UInt8) (i : Nat), i ≤ (segs l).length → segs (l.drop (total ((segs l).take i))) = (segs l).drop i := walk_ind
  (p := fun l => ∀ i, i ≤ (segs l).length → segs (l.drop (total ((segs l).take i))) = (segs l).drop i)
  (fun i h => by simp [segs_nil, total]) fun l hl ih i h => by
    cases i with
    | zero => simp [total]
    | succ i =>
      rw [segs_cons l hl] at h ⊢
      have := ih i (by simpa using h)
      have e : total ((dec l :: segs (l.drop (dec l).2)).take (i + 1)) = (dec l).2 + total ((segs (l.drop (dec l).2)).take i) := by simp [total]
      rw [e, List.drop_succ_cons, ← List.drop_drop, this]
/-- where the cluster ends that begins at the i-th character -/
def clEnd (s : ByteArray) (i : Nat) : Nat := i + clD ((segs s.data.toList).drop i)
theorem clEnd_bounds {s : ByteArray} {i : Nat} (h : i < chars s) : i < clEnd s i ∧ clEnd s i ≤ chars s := by
  have hl : ((segs s.data.toList).drop i).length = chars s - i := by rw [List.length_drop]; rfl
  have := clD_bounds (ds := (segs s.data.toList).drop i) (by omega)
  unfold clEnd
  omega
theorem placeAt_add (s : ByteArray) (i c : Nat) : placeAt s (i + c) = placeAt s i + total (((segs s.data.toList).drop i).take c) := by
  unfold placeAt
  rw [List.take_add, total_append]
theorem cnext_rest (s : ByteArray) (i : Nat) (w : World) (hi : i ≤ chars s) (hT : Utf8Tabs 0 1 w) (hm : s.size ≤ 140737488351232) :
    Calls Tryd.prog 48 #[.string (s.extract (placeAt s i) s.size)] w fun e w' => e = .returned (.int .i64 ((placeAt s (clEnd s i) - placeAt s i : Nat) : Int)) ∧ Below w.heap.size w w' := by
  refine (cnext_any (s.extract (placeAt s i) s.size) w hT (by simp; omega)).mono ?_
  rintro e w' ⟨k, hk, rfl, hb⟩
  refine ⟨?_, hb⟩
  have hk := first_clD hk
  rw [drop_list, show s.data.toList.drop (placeAt s i) = s.data.toList.drop (total ((segs s.data.toList).take i)) from rfl, segs_rest _ _ hi] at hk
  have : placeAt (s.extract (placeAt s i) s.size) k = placeAt s (clEnd s i) - placeAt s i := by
    unfold clEnd
    rw [← hk, placeAt_add, Nat.add_sub_cancel_left]
    unfold placeAt
    rw [drop_list, segs_rest _ _ hi]
  rw [this]
theorem placeAt_mono (s : ByteArray) {i j : Nat} (h : i ≤ j) : placeAt s i ≤ placeAt s j := by
  obtain ⟨c, rfl⟩ := Nat.exists_eq_add_of_le h
  rw [placeAt_add]
  omega
theorem placeAt_lt (s : ByteArray) {i j : Nat} (h : i < j) (hj : j ≤ chars s) : placeAt s i < placeAt s j := by
  obtain ⟨_, h2, h3, _⟩ := nxt_at (s := s) (k := i) (by omega)
  have := placeAt_mono s (show i + 1 ≤ j from h)
  omega
/-- the clusters from the i-th character on: where each begins, and its text -/
def pcsF (s : ByteArray) : Nat → Nat → List (Nat × ByteArray)
  | 0, _ => []
  | f + 1, i => if i < chars s then (placeAt s i, s.extract (placeAt s i) (placeAt s (clEnd s i))) :: pcsF s f (clEnd s i) else []
def pcs (s : ByteArray) : List (Nat × ByteArray) := pcsF s (chars s) 0
theorem pcsF_end (s : ByteArray) (f i : Nat) (h : chars s ≤ i) : pcsF s f i = [] := by
  cases f with
  | zero => rfl
  | succ f => unfold pcsF; rw [if_neg (by omega)]
theorem pcsF_fuel (s : ByteArray) : ∀ (f g i : Nat), chars s - i ≤ f → chars s - i ≤ g → pcsF s f i = pcsF s g i
  | 0, g, i, hf, _ => by rw [pcsF_end s 0 i (by omega), pcsF_end s g i (by omega)]
  | f + 1, 0, i, _, hg => by rw [pcsF_end s 0 i (by omega), pcsF_end s (f + 1) i (by omega)]
  | f + 1, g + 1, i, hf, hg => by
    unfold pcsF
    by_cases h : i < chars s
    · have := (clEnd_bounds h).1
      rw [if_pos h, if_pos h, pcsF_fuel s f g _ (by omega) (by omega)]
    · rw [if_neg h, if_neg h]
theorem pcsF_step (s : ByteArray) (i : Nat) (h : i < chars s) : pcsF s (chars s) i = (placeAt s i, s.extract (placeAt s i) (placeAt s (clEnd s i))) :: pcsF s (chars s) (clEnd s i) := by
  have := (clEnd_bounds h).1
  rw [pcsF_fuel s (chars s) (chars s - 1 + 1) i (by omega) (by omega)]
  rw [show pcsF s (chars s - 1 + 1) i = (placeAt s i, s.extract (placeAt s i) (placeAt s (clEnd s i))) :: pcsF s (chars s - 1) (clEnd s i) by rw [pcsF, if_pos h]]
  rw [pcsF_fuel s (chars s - 1) (chars s) _ (by omega) (by omega)]
end Go.Proofs.YtfegbfhkmdmheaaDoor
