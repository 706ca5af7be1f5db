/- A stable sort by halves is the piles one behind the other (pure). -/
import Derived.Test.YtjkakemlhhieoaaGreatDoorSwapP
import Derived.Test.YtjkakemlhhieoaaGreatDoorRefsG
import Derived.Test.YtjkakemlhhieoaaGreatDoorApG
import Derived.Laws.Slices
import Derived.Laws.AppendOwnNone
import Derived.Test.YtjkakemlhhieoaaGreatDoorCompG
import Derived.Deep.RegionLaw
set_option linter.unusedSimpArgs false
set_option linter.unusedVariables false
namespace Go.Proofs.YtjkakemlhhieoaaGreatDoor
section
variable {α : Type} (num : α → Nat)
/-- two lists laid into one: the first one's go ahead where the numbers are alike -/
def merge2 : Nat → List α → List α → List α
  | 0, a, b => a ++ b
  | _ + 1, [], b => b
  | _ + 1, a, [] => a
  | f + 1, x :: a, y :: b => if num x ≤ num y then x :: merge2 f a (y :: b) else y :: merge2 f (x :: a) b
def mergeZ (a b : List α) : List α := merge2 num (a.length + b.length) a b
theorem mergeZ_left (b : List α) : mergeZ num [] b = b := by
  unfold mergeZ
  cases b <;> simp [merge2]
theorem mergeZ_right (a : List α) : mergeZ num a [] = a := by
  unfold mergeZ
  cases a <;> simp [merge2]
theorem merge2_more : ∀ (f g : Nat) (a b : List α), a.length + b.length ≤ f → a.length + b.length ≤ g → merge2 num f a b = merge2 num g a b
  | 0, g, a, b, h, _ => by
    obtain rfl : a = [] := List.eq_nil_of_length_eq_zero (by omega)
    obtain rfl : b = [] := List.eq_nil_of_length_eq_zero (by omega)
    cases g <;> simp [merge2]
  | f + 1, 0, a, b, _, h => by
    obtain rfl : a = [] := List.eq_nil_of_length_eq_zero (by omega)
    obtain rfl : b = [] := List.eq_nil_of_length_eq_zero (by omega)
    simp [merge2]
  | f + 1, g + 1, [], b, _, _ => by simp [merge2]
  | f + 1, g + 1, x :: a, [], _, _ => by simp [merge2]
  | f + 1, g + 1, x :: a, y :: b, h, h2 => by
    simp only [List.length_cons] at h h2
    unfold merge2
    rw [merge2_more f g a (y :: b) (by simp; omega) (by simp; omega), merge2_more f g (x :: a) b (by simp; omega) (by simp; omega)]
theorem mergeZ_le {x y : α} (a b : List α) (h : num x ≤ num y) : mergeZ num (x :: a) (y :: b) = x :: mergeZ num a (y :: b) := by
  unfold mergeZ
  rw [show (x :: a).length + (y :: b).length = (a.length + (b.length + 1)) + 1 by simp; omega]
  conv => lhs; unfold merge2
  rw [if_pos h]
  rfl
theorem mergeZ_gt {x y : α} (a b : List α) (h : ¬ num x ≤ num y) : mergeZ num (x :: a) (y :: b) = y :: mergeZ num (x :: a) b := by
  unfold mergeZ
  rw [show (x :: a).length + (y :: b).length = (a.length + 1 + b.length) + 1 by simp; omega]
  conv => lhs; unfold merge2
  rw [if_neg h]
  rfl
/-- what is laid into one rises, and has each number's pile -/
theorem mergeZ_ok : ∀ (n : Nat) (a b : List α), a.length + b.length ≤ n → a.Pairwise (fun x y => num x ≤ num y) → b.Pairwise (fun x y => num x ≤ num y) →
    (mergeZ num a b).Pairwise (fun x y => num x ≤ num y) ∧ (∀ z, z ∈ mergeZ num a b → z ∈ a ∨ z ∈ b) ∧ ∀ i, pile num (mergeZ num a b) i = pile num a i ++ pile num b i
  | n, [], b, _, _, hb => by
    rw [mergeZ_left]
    exact ⟨hb, fun z hz => .inr hz, fun i => rfl⟩
  | n, x :: a, [], _, ha, _ => by
    rw [mergeZ_right]
    exact ⟨ha, fun z hz => .inl hz, fun i => by simp [pile]⟩
  | 0, x :: a, y :: b, h, _, _ => by simp at h
  | n + 1, x :: a, y :: b, h, ha, hb => by
    simp only [List.length_cons] at h
    have ha1 := List.pairwise_cons.1 ha
    have hb1 := List.pairwise_cons.1 hb
    by_cases c : num x ≤ num y
    · rw [mergeZ_le num a b c]
      obtain ⟨h1, h2, h3⟩ := mergeZ_ok n a (y :: b) (by simp; omega) ha1.2 hb
      refine ⟨List.pairwise_cons.2 ⟨fun z hz => ?_, h1⟩, fun z hz => ?_, fun i => ?_⟩
      · rcases h2 z hz with hz | hz
        · exact ha1.1 z hz
        · rcases List.mem_cons.1 hz with rfl | hz
          · exact c
          · have := hb1.1 z hz; omega
      · rcases List.mem_cons.1 hz with rfl | hz
        · exact .inl (List.mem_cons_self ..)
        · rcases h2 z hz with hz | hz
          · exact .inl (List.mem_cons_of_mem _ hz)
          · exact .inr hz
      · have := h3 i
        unfold pile at this ⊢
        rw [List.filter_cons, this, List.filter_cons (x := x)]
        split <;> rfl
    · rw [mergeZ_gt num a b c]
      obtain ⟨h1, h2, h3⟩ := mergeZ_ok n (x :: a) b (by simp; omega) ha hb1.2
      refine ⟨List.pairwise_cons.2 ⟨fun z hz => ?_, h1⟩, fun z hz => ?_, fun i => ?_⟩
      · rcases h2 z hz with hz | hz
        · rcases List.mem_cons.1 hz with rfl | hz
          · omega
          · have := ha1.1 z hz; omega
        · exact hb1.1 z hz
      · rcases List.mem_cons.1 hz with rfl | hz
        · exact .inr (List.mem_cons_self ..)
        · rcases h2 z hz with hz | hz
          · exact .inl hz
          · exact .inr (List.mem_cons_of_mem _ hz)
      · have := h3 i
        unfold pile at this ⊢
        rw [List.filter_cons, this]
        by_cases e : num y = i
        · rw [if_pos (by simp [e])]
          have e2 : (x :: a).filter (fun z => num z == i) = [] := by
            rw [List.filter_eq_nil_iff]
            intro z hz hzi
            have hzi := eq_of_beq hzi
            rcases List.mem_cons.1 hz with rfl | hz
            · omega
            · have := ha1.1 z hz; omega
          rw [e2, List.nil_append, List.nil_append, List.filter_cons_of_pos (by simp [e])]
        · rw [if_neg (by simp [e]), List.filter_cons_of_neg (a := y) (by simp [e])]
theorem filter_next (k : Nat) : ∀ xs : List α, xs.Pairwise (fun x y => num x ≤ num y) → (xs.filter fun x => decide (num x < k)) ++ pile num xs k = xs.filter fun x => decide (num x < k + 1)
  | [], _ => rfl
  | x :: t, h => by
    have h1 := List.pairwise_cons.1 h
    have ih := filter_next k t h1.2
    unfold pile at ih ⊢
    by_cases c : num x < k
    · rw [List.filter_cons_of_pos (by simp [c]), List.filter_cons_of_neg (by simp; omega), List.filter_cons_of_pos (by simp; omega), List.cons_append, ih]
    · have e : t.filter (fun z => decide (num z < k)) = [] := by
        rw [List.filter_eq_nil_iff]
        intro z hz hzi
        have := h1.1 z hz
        have := of_decide_eq_true hzi
        omega
      rw [e, List.nil_append] at ih
      rw [List.filter_cons_of_neg (by simp [c]), e, List.nil_append]
      by_cases c2 : num x = k
      · rw [List.filter_cons_of_pos (by simp [c2]), List.filter_cons_of_pos (by simp; omega), ih]
      · rw [List.filter_cons_of_neg (by simp [c2]), List.filter_cons_of_neg (by simp; omega), ih]
theorem conc_filter (xs : List α) (h : xs.Pairwise (fun x y => num x ≤ num y)) : ∀ k, conc num xs k = xs.filter fun x => decide (num x < k)
  | 0 => by
    unfold conc
    symm
    rw [List.filter_eq_nil_iff]
    intro z _ hz
    have := of_decide_eq_true hz
    omega
  | k + 1 => by rw [conc, conc_filter xs h k, filter_next num k xs h]
theorem bucket_sorted (xs : List α) (h : xs.Pairwise (fun x y => num x ≤ num y)) (hn : ∀ x ∈ xs, num x < 256) : bucket num xs = xs := by
  unfold bucket
  rw [conc_filter num xs h 256, List.filter_eq_self]
  intro x hx
  exact decide_eq_true (hn x hx)
theorem bucket_piles {xs ys : List α} (h : ∀ i, pile num xs i = pile num ys i) : bucket num xs = bucket num ys := conc_piles num h 256
theorem pile_bucket (xs : List α) (hn : ∀ x ∈ xs, num x < 256) (i : Nat) : pile num (bucket num xs) i = pile num xs i := by
  unfold bucket
  rw [pile_conc]
  split
  · rfl
  · symm
    unfold pile
    rw [List.filter_eq_nil_iff]
    intro z hz hzi
    have := eq_of_beq hzi
    have := hn z hz
    omega
/-- two rows in order, laid into one, are both rows in order -/
theorem merge_bucket (xs ys : List α) (hx : ∀ x ∈ xs, num x < 256) (hy : ∀ x ∈ ys, num x < 256) : mergeZ num (bucket num xs) (bucket num ys) = bucket num (xs ++ ys) := by
  obtain ⟨h1, h2, h3⟩ := mergeZ_ok num _ (bucket num xs) (bucket num ys) (Nat.le_refl _) (conc_sorted num xs 256).1 (conc_sorted num ys 256).1
  rw [← bucket_sorted num _ h1 (fun z hz => by
    rcases h2 z hz with h | h
    · exact hx z (bucket_mem num xs z h)
    · exact hy z (bucket_mem num ys z h))]
  refine bucket_piles num fun i => ?_
  rw [h3 i, pile_bucket num xs hx, pile_bucket num ys hy, pile_append]
end
end Go.Proofs.YtjkakemlhhieoaaGreatDoor

/- The document's items: their mark, walked; rows of them. -/
namespace Go.Proofs.YtjkakemlhhieoaaGreatDoor
open Go.RowKit Go.Lib

/-- an item's cells: its number, whether it is a byte that is no character, that byte -/
def encI (p : Pc) : List Value := [.int .i32 p.1, .bool (p.2.2 != 0), .int .u8 (p.2.2 : Int)]
def ItP (p : Pc) : Prop := p.2.2 < 256 ∧ (p.2.2 = 0 ∧ p.2.1 = markZ p.1 ∨ p.2.2 ≠ 0 ∧ p.2.1 = 0)
theorem encI_len : ∀ p : Pc, (encI p).length = 3 := fun _ => rfl
theorem itP_num {p : Pc} (h : ItP p) : numP p < 256 := by
  show p.2.1 < 256
  rcases h.2 with ⟨_, e⟩ | ⟨_, e⟩
  · rw [e]; exact markZ_lt _
  · rw [e]; decide
theorem item_info : (Tryz.prog.info? 99).map (fun i => (i.zero, i.size, i.bytes)) = some (some (.agg #[.int .i32 0, .bool false, .int .u8 0]), 3, 8) := by kernel_rfl
set_option maxRecDepth 100000 in
theorem rmark_any (p : Pc) (h : ItP p) (w : World) : Calls Tryz.prog 94 #[.agg #[.int .i32 p.1, .bool (p.2.2 != 0), .int .u8 (p.2.2 : Int)]] w fun e w' => e = .returned (.int .u8 (p.2.1 : Int)) ∧ Below w.heap.size w w' := by
  have HM := Lib.hid (fun w => refMark_is p.1 w)
  obtain ⟨q, m, b⟩ := p
  rcases h.2 with ⟨e1, e2⟩ | ⟨e1, e2⟩
  · simp only at e1 e2 HM ⊢
    subst e1
    have hc : ((0 : Nat) != 0) = false := rfl
    have E2 := Lib.hid e2
    rw [hc]
    clear hc e2 h
    obtain ⟨k, hk⟩ : ∃ k : Int, ((cls marksL (char q) : Nat) : Int) = k := ⟨_, rfl⟩
    rw [hk] at HM
    have E3 : Hid ((m : Int) = k) := by unfold Hid; rw [E2.out, ← hk]; rfl
    clear hk
    go_enter Tryz.func94, Tryz.ntmps94
    go_wp2_with fail
    refine (HM.out _).mono ?_
    rintro _ w2 ⟨rfl, rfl⟩
    go_wp2_with fail
    go_ret
    exact ⟨by rw [E3.out]; rfl, (Below.refl _ w).alloc (Nat.le_refl _) _⟩
  · simp only at e1 e2 HM ⊢
    subst e2
    have hc : (b != 0) = true := by simp [e1]
    rw [hc]
    clear hc e1 h HM
    go_enter Tryz.func94, Tryz.ntmps94
    go_wp2_with fail
    go_ret
    exact ⟨rfl, (Below.refl _ w).alloc (Nat.le_refl _) _⟩

theorem flat_cons4 {enc : Pc → List Value} (x : Pc) (t : List Pc) : flat enc (x :: t) = enc x ++ flat enc t := by simp [flat]
/-- the first of a row of items -/
theorem Rd_head {w : World} {B n : Nat} {A : Option Addr} {x : Pc} {t : List Pc} (h : Rd w B 3 A n (flat encI (x :: t))) : ∃ a, A = some a ∧ a.block < B ∧ w.cell? a = some (.int .i32 x.1) ∧ w.cell? ⟨a.block, a.off + 1, none⟩ = some (.bool (x.2.2 != 0)) ∧ w.cell? ⟨a.block, a.off + 2, none⟩ = some (.int .u8 (x.2.2 : Int)) := by
  have hl := h.1
  have hn : 0 < n := by
    rw [flat_cons4, List.length_append, encI_len] at hl
    omega
  obtain ⟨a, rfl, hb, hc⟩ := h.addr hn
  have h0 := hc 0 (.int .i32 x.1) (by rw [flat_cons4]; rfl)
  have h1 := hc 1 (.bool (x.2.2 != 0)) (by rw [flat_cons4]; rfl)
  have h2 := hc 2 (.int .u8 (x.2.2 : Int)) (by rw [flat_cons4]; rfl)
  refine ⟨a, rfl, hb, ?_, ?_, ?_⟩
  · simpa [Addr.add] using h0
  · simpa [Addr.add] using h1
  · simpa [Addr.add] using h2
/-- what is left of a row behind its first ones -/
theorem Rd_drop {w : World} {B n k : Nat} {a : Addr} {xs : List Pc} (h : Rd w B 3 (some a) n (flat encI xs)) (hk : k ≤ n) : Rd w B 3 (some (a.add (k * 3))) (n - k) (flat encI (xs.drop k)) := by
  have hl : xs.length = n := by have := h.1; rw [flat_len encI_len] at this; omega
  refine ⟨by rw [flat_len encI_len, List.length_drop, hl], ?_⟩
  rcases Nat.lt_or_ge k n with hkn | hkn
  · right
    obtain ⟨a', e, hb, hc⟩ := h.addr (by omega)
    injection e with e
    subst e
    refine ⟨_, rfl, by rw [add_block]; exact hb, fun j u hu => ?_⟩
    rw [add_sum]
    refine hc _ u ?_
    have hd : flat encI xs = flat encI (xs.take k) ++ flat encI (xs.drop k) := by rw [← flat_append, List.take_append_drop]
    rw [hd, List.getElem?_append_right (by rw [flat_len encI_len, List.length_take, hl]; omega), flat_len encI_len, List.length_take, hl, show k * 3 + j - min k n * 3 = j by rw [Nat.min_eq_left hk]; omega]
    exact hu
  · left; omega
theorem Rd_take {w : World} {B n k : Nat} {A : Option Addr} {xs : List Pc} (h : Rd w B 3 A n (flat encI xs)) (hk : k ≤ n) : Rd w B 3 A k (flat encI (xs.take k)) := by
  have hl : xs.length = n := by have := h.1; rw [flat_len encI_len] at this; omega
  refine ⟨by rw [flat_len encI_len, List.length_take, hl, Nat.min_eq_left hk], ?_⟩
  rcases Nat.eq_zero_or_pos k with hk0 | hk0
  · exact .inl hk0
  · right
    obtain ⟨a, e, hb, hc⟩ := h.addr (by omega)
    refine ⟨a, e, hb, fun j u hu => hc j u ?_⟩
    have hd : flat encI xs = flat encI (xs.take k) ++ flat encI (xs.drop k) := by rw [← flat_append, List.take_append_drop]
    rw [hd, List.getElem?_append_left (List.getElem?_eq_some_iff.1 hu).1]
    exact hu
theorem own_nil9 {w : World} {base : Nat} {e : TypeId} {size n c : Nat} {A : Option Addr} {xs : List Value} (h : w.ownsRow base e size (.slice A n c) n xs) (hA : A = none) : c = 0 := by
  subst hA
  rcases h.2 with ⟨h1, _⟩ | ⟨g, cap, cur, h1, _⟩
  · injection h1
  · injection h1 with h2; cases h2
/-- 'append' of a row that reads as a list, nil or not, to one's own -/
theorem wpList_append_rd {P : Program} {w : World} {ops : Array Oper} {rest : List Oper} {o : Oper} {a : Act} {Q : Exit → Act → World → Prop} (hgd : o.guard = none) (s x : Operand) (t : TypeId)
    (ho : o.op = .call { callee := .builtin .append, args := #[s, x], argTypes := #[t, t] })
    (base : Nat) (e : TypeId) (i : TypeInfo) (z : Value) (size bytes : Nat) (ht : P.underlying t = some (.slice e)) (hi : P.info? e = some i) (hz : i.zero = some z)
    (hsize : i.size = size) (hby : i.bytes = bytes) (hzs : z.cells.size = size) (hsz : 0 < size)
    (v : Value) (n : Nat) (xs : List Value) (hs : a.eval s = v) (hown : w.ownsRow base e size v n xs)
    (B2 : Nat) (A : Option Addr) (m c : Nat) (news : List Value) (hx : a.eval x = .slice A m c) (hrd : Rd w B2 size A m news) (hnil : A = none → c = 0) (h1 : ∀ u ∈ news, u.oneCell' = true)
    (h63 : n + m ≤ maxLen) (hbytes : (n + m) * bytes ≤ 140737488355328) (hbase : base ≤ w.heap.size)
    (h : ∀ v' w', w'.ownsRow base e size v' (n + m) (xs ++ news) → w.grownBy w' v.ownBlock → wpList P ops Q rest (a.put o.dst v') w') :
    wpList P ops Q (o :: rest) a w := by
  have hl := hrd.1
  cases A with
  | none =>
    obtain rfl := hnil rfl
    have hm : m = 0 := by
      rcases Nat.eq_zero_or_pos m with h0 | h0
      · exact h0
      · obtain ⟨_, e, _⟩ := hrd.addr h0
        cases e
    subst hm
    have hn : news = [] := List.eq_nil_of_length_eq_zero (by omega)
    subst hn
    refine wpList_append_own_none hgd s x t ho base e i size ht hi v n xs hs hown hx ?_
    exact h v w (by simpa using hown) ⟨rfl, rfl, rfl, Nat.le_refl _, fun _ _ _ => rfl⟩
  | some ad =>
    refine wpList_append_own w hgd s x t ho base e i z size bytes ht hi hz hsize hby hzs hsz v n xs hs hown ad m c news hx hl (fun j u hu => ?_) h1 h63 hbytes hbase (fun v' w' a b _ => h v' w' a b)
    have hj := (List.getElem?_eq_some_iff.1 hu).1
    obtain ⟨a', e, _, hc⟩ := hrd.addr (by
      rcases Nat.eq_zero_or_pos m with h0 | h0
      · subst h0; omega
      · exact h0)
    obtain rfl := Option.some.inj e
    exact hc j u hu
end Go.Proofs.YtjkakemlhhieoaaGreatDoor

/- The document's sorted, walked. (Made by tools/mksort.py.) -/
namespace Go.Proofs.YtjkakemlhhieoaaGreatDoor
open Go.RowKit Go.Lib

def lenV4 : Value → Nat
  | .slice _ n _ => n
  | _ => 0
theorem below_Ds {B : Nat} {w w' : World} (h : Below B w w') : Below B w w'.drew := ⟨h.os, h.tape, h.output, h.size, h.block⟩
/-- what sorted answers -/
def SortAt (w : World) (ps : List Pc) (e : Ending) (w' : World) : Prop := ∃ A c, e = .returned (.slice A ps.length c) ∧ ps.length ≤ c ∧ c ≤ maxLen ∧ (A = none → c = 0) ∧ Rd w' w'.heap.size 3 A ps.length (flat encI (bucket numP ps)) ∧ Below w.heap.size w w'
set_option maxRecDepth 100000 in
set_option maxHeartbeats 8000000 in
theorem rsorted_any : ∀ (m : Nat) (ps : List Pc), ps.length ≤ m → (∀ p ∈ ps, ItP p) → ps.length ≤ 1073741824 → ∀ (A : Option Addr) (c : Nat) (w : World), ps.length ≤ c → c ≤ maxLen → (A = none → c = 0) → Rd w w.heap.size 3 A ps.length (flat encI ps) → Calls Tryz.prog 95 #[.slice A ps.length c] w (SortAt w ps)
  | 0, ps, hm, hit, hn, A, c, w, hc, hcm, hnil, hrd => by
    have h0 : ps.length = 0 := by omega
    have hbs := bucket_short numP ps (by omega) (fun p hp => itP_num (hit p hp))
    have HR : Hid (SortAt w ps (.returned (.slice A ps.length c)) w) := Lib.hid ⟨A, c, rfl, hc, hcm, hnil, by rw [hbs]; exact hrd, Below.refl _ _⟩
    rw [h0] at HR ⊢
    clear hit hrd hbs hm
    go_enter Tryz.func95, Tryz.ntmps95
    go_wp2_with fail
    go_ret
    exact HR.out
  | m + 1, ps, hm, hit, hn, A, c, w, hc, hcm, hnil, hrd => by
    obtain ⟨i0, hi, hz0, hz1, hz2⟩ := info_parts item_info
    by_cases h2 : ps.length < 2
    · have hbs := bucket_short numP ps h2 (fun p hp => itP_num (hit p hp))
      have HR : Hid (SortAt w ps (.returned (.slice A ps.length c)) w) := Lib.hid ⟨A, c, rfl, hc, hcm, hnil, by rw [hbs]; exact hrd, Below.refl _ _⟩
      obtain ⟨n, hnn⟩ : ∃ n, ps.length = n := ⟨_, rfl⟩
      rw [hnn] at HR h2 ⊢
      have h2i : (n : Int) < 2 := by omega
      clear hit hrd hbs hm
      go_enter Tryz.func95, Tryz.ntmps95
      go_wp2_with fail
      go_ret
      exact HR.out
    · obtain ⟨h, hh⟩ : ∃ h, ps.length / 2 = h := ⟨_, rfl⟩
      obtain ⟨n, hnn⟩ : ∃ n, ps.length = n := ⟨_, rfl⟩
      obtain ⟨a0, rfl, _⟩ := hrd.addr (by omega)
      have hl1 : (ps.take h).length = h := by rw [List.length_take]; omega
      have hl2 : (ps.drop h).length = n - h := by rw [List.length_drop]; omega
      have HA := Lib.hid (fun (w' : World) (hb : Below w.heap.size w w') => by
        have h1 := rsorted_any m (ps.take h) (by omega) (fun p hp => hit p (List.mem_of_mem_take hp)) (by omega) (some a0) c w' (by omega) hcm (fun e => by cases e) (by rw [hl1]; exact (Rd_take ((hrd.below hb).more hb.size) (by omega)))
        rw [hl1] at h1
        exact h1)
      have HB := Lib.hid (fun (w' : World) (hb : Below w.heap.size w w') => by
        have h1 := rsorted_any m (ps.drop h) (by omega) (fun p hp => hit p (List.mem_of_mem_drop hp)) (by omega) (some (a0.add (h * 3))) (c - h) w' (by omega) (by omega) (fun e => by cases e) (by rw [hl2, ← hnn]; exact (Rd_drop ((hrd.below hb).more hb.size) (by omega)))
        rw [hl2] at h1
        exact h1)
      have hmb := merge_bucket numP (ps.take h) (ps.drop h) (fun p hp => itP_num (hit p (List.mem_of_mem_take hp))) (fun p hp => itP_num (hit p (List.mem_of_mem_drop hp)))
      rw [List.take_append_drop] at hmb
      have hia : ∀ p ∈ bucket numP (ps.take h), ItP p := fun p hp => hit p (List.mem_of_mem_take (bucket_mem numP _ p hp))
      have hib : ∀ p ∈ bucket numP (ps.drop h), ItP p := fun p hp => hit p (List.mem_of_mem_drop (bucket_mem numP _ p hp))
      have hba := bucket_len numP (ps.take h) (fun p hp => itP_num (hit p (List.mem_of_mem_take hp)))
      have hbb := bucket_len numP (ps.drop h) (fun p hp => itP_num (hit p (List.mem_of_mem_drop hp)))
      rw [hl1] at hba
      rw [hl2] at hbb
      unfold SortAt at HA HB ⊢
      rw [hl1] at HA
      rw [hl2] at HB
      obtain ⟨la, hla⟩ : ∃ la, bucket numP (ps.take h) = la := ⟨_, rfl⟩
      obtain ⟨lb, hlb⟩ : ∃ lb, bucket numP (ps.drop h) = lb := ⟨_, rfl⟩
      obtain ⟨R, hR⟩ : ∃ R, bucket numP ps = R := ⟨_, rfl⟩
      rw [hla] at HA hmb hia hba
      rw [hlb] at HB hmb hib hbb
      rw [hR] at hmb ⊢
      rw [hnn] at hh hn hc ⊢
      have Hmb := Lib.hid hmb
      have Hia := Lib.hid hia
      have Hib := Lib.hid hib
      have hRl : R.length = n := by rw [← hR, bucket_len numP ps (fun p hp => itP_num (hit p hp)), hnn]
      have HRl := Lib.hid hRl
      have HMk := Lib.hid (fun (p : Pc) (hp : ItP p) w => rmark_any p hp w)
      have h2i : ¬ (n : Int) < 2 := by omega
      have q1 : (n : Int).tdiv 2 = (h : Int) := by rw [Int.tdiv_eq_ediv_of_nonneg (by omega)]; omega
      have q2 : IntKind.i64.wrap (h : Int) = (h : Int) := IntWalk.i64_in _ (by omega)
      have q3 : ¬ c = 0 := by omega
      have q4 : ¬ c = h := by omega
      have q5 : (h : Int) ≤ (c : Int) := by omega
      have q6 : (h : Int) ≤ (n : Int) := by omega
      have hb0 := Lib.hid (Below.refl w.heap.size w)
      clear hmb hia hib hrd hit hla hlb hR hl1 hl2 hm hRl h2
      go_enter Tryz.func95, Tryz.ntmps95
      go_wp2_with fail
      refine (HA.out _ hb0.out).mono ?_
      rintro _ w1 ⟨A1, c1, rfl, hn1, hcm1, _, hr1, b1⟩
      have Hb1 := Lib.hid b1
      have Hr1 := Lib.hid hr1
      clear b1 hr1
      go_wp2_with fail
      refine (HB.out _ Hb1.out).mono ?_
      rintro _ w2 ⟨A2, c2, rfl, hn2, hcm2, _, hr2, b2⟩
      obtain ⟨B2, hB2⟩ : ∃ B2, w2.heap.size = B2 := ⟨_, rfl⟩
      have Hb2 := Lib.hid (Hb1.out.trans (b2.mono Hb1.out.size))
      have Hr1 := Lib.hid ((Hr1.out.below b2).more b2.size)
      have Hr2 := Lib.hid hr2
      rw [hB2] at Hr1 Hr2
      have HB2 := Lib.hid hB2
      clear b2 hr2 hB2
      go_wp2_with fail
      go_loopw [3, 4, 5] (fun p q v wr => ∃ (xa xb ys : List Pc) (Aa Ab : Option Addr) (ca cb : Nat) (W : World), W = wr ∧ p = .slice Aa xa.length ca ∧ q = .slice Ab xb.length cb ∧ xa.length ≤ ca ∧ xb.length ≤ cb ∧ Hid (Rd W B2 3 Aa xa.length (flat encI xa)) ∧ Hid (Rd W B2 3 Ab xb.length (flat encI xb)) ∧ Hid (W.ownsRow B2 99 3 v ys.length (flat encI ys)) ∧ Hid (Below B2 w2 W) ∧ Hid (ys ++ mergeZ numP xa xb = R) ∧ Hid ((∀ p ∈ xa, ItP p) ∧ ∀ p ∈ xb, ItP p) ∧ ys.length + xa.length + xb.length = n) (fun p q _ _ => lenV4 p + lenV4 q)
      case atStart =>
        refine ⟨la, lb, [], A1, A2, c1, c2, _, rfl, by rw [hba], by rw [hbb], by omega, by omega, ?_, ?_, Lib.hid (World.ownsRow_nil _ _ _ _), Lib.hid (Below.refl _ _), Lib.hid Hmb.out, Lib.hid ⟨Hia.out, Hib.out⟩, by simp; omega⟩
        · rw [hba]; exact Hr1
        · rw [hbb]; exact Hr2
      case round =>
        obtain ⟨xa, xb, ys, Aa, Ab, ca, cb, W, hW, rfl, rfl, hca, hcb, Hra, Hrb, Hown, HbW, Hrun, Hit, hsum⟩ := hrel
        subst hW
        rcases xa with _ | ⟨x, xt⟩
        · rcases xb with _ | ⟨y, yt⟩
          · -- nothing is left
            have hr := Hrun.out
            rw [mergeZ_left, List.append_nil] at hr
            simp only [List.length_nil, Nat.add_zero] at hsum
            obtain ⟨A9, c9, hv9, h9, h9m⟩ := own_shape Hown.out
            subst hv9
            have Hnl9 := Lib.hid (fun e => own_nil9 Hown.out e)
            have Hown9 := Lib.hid (Rd.own Hown.out)
            rw [hsum, hr] at Hown9
            rw [hsum] at h9 ⊢
            clear Hown hr Hrun hsum
            go_wp2_with fail
            go_ret
            exact ⟨A9, c9, rfl, h9, h9m, Hnl9.out, Hown9.out, Hb2.out.trans (HbW.out.mono (by have := Hb2.out.size; have := HB2.out; omega))⟩
          · -- b alone
            obtain ⟨b, hAb, _, _⟩ := Rd_head Hrb.out
            subst hAb
            obtain ⟨nb, hnb⟩ : ∃ nb, (y :: yt).length = nb := ⟨_, rfl⟩
            have hlb : yt.length = nb - 1 := by rw [← hnb]; simp
            have hpb : 1 ≤ nb := by rw [← hnb]; simp
            rw [hnb] at Hrb hcb hsum ⊢
            have zb1 : (0 : Int) < (nb : Int) := by omega
            have zb2 : ((nb : Int) == 0) = false := by simp; omega
            have zb3 : (1 : Int) ≤ (nb : Int) := by omega
            have zb4 : ¬ nb = 0 := by omega
            have zb5 : decide ((0 : Int) < (nb : Int)) = true := decide_eq_true zb1
            have zb7 : 0 < nb := by omega
            have zb6 : decide (0 < nb) = true := decide_eq_true zb7
            have hitb := Hit.out.2 y (List.mem_cons_self ..)
            have hr := Hrun.out
            rw [mergeZ_left] at hr
            have Hnx : Hid (ys ++ ([y] ++ mergeZ numP [] yt) = R) := by unfold Hid; rw [mergeZ_left]; exact hr
            simp only [List.length_nil, Nat.add_zero] at hsum
            clear hr Hrun
            have hbD := below_Ds HbW.out
            go_wp2_with fail
            refine wp_region_noPanic ?_
            refine wp_region_held_drew (S := fun W' : World => True) (by kernel_rfl) (trivial) (fun hHeld => ?_)
            refine wpAnyH_take (i := 0) (oi := ({ dst := some 30, op := Op.move (Operand.tmp 4), type := 77, pos := "ref.go:186", after := #[], guard := none } : Oper)) (v := ?_) rfl (by kernel_rfl) (by kernel_rfl) (by kernel_rfl) (fun _ _ _ h => h) (Or.inl ⟨by rfl, ?_⟩) (by assumption) ?_
            rotate_left
            · (intro w hSw; (try dsimp only at hSw); go_simp; all_goals (with_reducible rfl))
            try simp only [Act.put, List.setIfInBounds_toArray, List.set_cons_zero, List.set_cons_succ]
            refine wpAnyH_take (i := 1) (oi := ({ dst := some 31, op := Op.call { callee := Callee.builtin Builtin.len, args := #[Operand.tmp 30], argTypes := #[77] }, type := 3, pos := "ref.go:186", after := #[{ on := 0, ground := Ground.data }], guard := none } : Oper)) (v := ?_) rfl (by kernel_rfl) (by kernel_rfl) (by kernel_rfl) (fun _ _ _ h => h) (Or.inl ⟨by rfl, ?_⟩) (by assumption) ?_
            rotate_left
            · (intro w hSw; (try dsimp only at hSw); go_simp; all_goals (with_reducible rfl))
            try simp only [Act.put, List.setIfInBounds_toArray, List.set_cons_zero, List.set_cons_succ]
            refine wpAnyH_take (i := 2) (oi := ({ dst := some 32, op := Op.binOp BinOp.eql 3 (Operand.tmp 31) (Operand.const (Value.int IntKind.i64 0)) 3, type := 4, pos := "ref.go:186", after := #[{ on := 1, ground := Ground.data }], guard := none } : Oper)) (v := ?_) rfl (by kernel_rfl) (by kernel_rfl) (by kernel_rfl) (fun _ _ _ h => h) (Or.inl ⟨by rfl, ?_⟩) (by assumption) ?_
            rotate_left
            · (intro w hSw; (try dsimp only at hSw); go_simp; all_goals (with_reducible rfl))
            try simp only [Act.put, List.setIfInBounds_toArray, List.set_cons_zero, List.set_cons_succ]
            refine wpAnyH_take (i := 3) (oi := ({ dst := some 33, op := Op.move (Operand.tmp 32), type := 4, pos := "ref.go:186", after := #[{ on := 2, ground := Ground.data }], guard := none } : Oper)) (v := ?_) rfl (by kernel_rfl) (by kernel_rfl) (by kernel_rfl) (fun _ _ _ h => h) (Or.inl ⟨by rfl, ?_⟩) (by assumption) ?_
            rotate_left
            · (intro w hSw; (try dsimp only at hSw); go_simp; all_goals (with_reducible rfl))
            try simp only [Act.put, List.setIfInBounds_toArray, List.set_cons_zero, List.set_cons_succ]
            refine wpAnyH_take (i := 4) (oi := ({ dst := some 34, op := Op.move (Operand.tmp 3), type := 77, pos := "ref.go:186", after := #[{ on := 3, ground := Ground.guard }], guard := some (3, false) } : Oper)) (v := ?_) rfl (by kernel_rfl) (by kernel_rfl) (by kernel_rfl) (fun _ _ _ h => h) (Or.inl ⟨by rfl, ?_⟩) (by assumption) ?_
            rotate_left
            · (intro w hSw; (try dsimp only at hSw); go_simp; all_goals (with_reducible rfl))
            try simp only [Act.put, List.setIfInBounds_toArray, List.set_cons_zero, List.set_cons_succ]
            refine wpAnyH_take (i := 5) (oi := ({ dst := some 35, op := Op.call { callee := Callee.builtin Builtin.len, args := #[Operand.tmp 34], argTypes := #[77] }, type := 3, pos := "ref.go:186", after := #[{ on := 4, ground := Ground.data }, { on := 3, ground := Ground.guard }], guard := some (3, false) } : Oper)) (v := ?_) rfl (by kernel_rfl) (by kernel_rfl) (by kernel_rfl) (fun _ _ _ h => h) (Or.inl ⟨by rfl, ?_⟩) (by assumption) ?_
            rotate_left
            · (intro w hSw; (try dsimp only at hSw); go_simp; all_goals (with_reducible rfl))
            try simp only [Act.put, List.setIfInBounds_toArray, List.set_cons_zero, List.set_cons_succ]
            refine wpAnyH_take (i := 6) (oi := ({ dst := some 36, op := Op.binOp BinOp.gtr 3 (Operand.tmp 35) (Operand.const (Value.int IntKind.i64 0)) 3, type := 4, pos := "ref.go:186", after := #[{ on := 5, ground := Ground.data }, { on := 3, ground := Ground.guard }], guard := some (3, false) } : Oper)) (v := ?_) rfl (by kernel_rfl) (by kernel_rfl) (by kernel_rfl) (fun _ _ _ h => h) (Or.inl ⟨by rfl, ?_⟩) (by assumption) ?_
            rotate_left
            · (intro w hSw; (try dsimp only at hSw); go_simp; all_goals (with_reducible rfl))
            try simp only [Act.put, List.setIfInBounds_toArray, List.set_cons_zero, List.set_cons_succ]
            refine wpAnyH_take (i := 7) (oi := ({ dst := some 37, op := Op.move (Operand.tmp 36), type := 4, pos := "ref.go:186", after := #[{ on := 6, ground := Ground.data }, { on := 3, ground := Ground.chain }, { on := 3, ground := Ground.guard }], guard := some (3, false) } : Oper)) (v := ?_) rfl (by kernel_rfl) (by kernel_rfl) (by kernel_rfl) (fun _ _ _ h => h) (Or.inl ⟨by rfl, ?_⟩) (by assumption) ?_
            rotate_left
            · (intro w hSw; (try dsimp only at hSw); go_simp; all_goals (with_reducible rfl))
            try simp only [Act.put, List.setIfInBounds_toArray, List.set_cons_zero, List.set_cons_succ]
            refine wpAnyH_take (i := 8) (oi := ({ dst := some 38, op := Op.move (Operand.tmp 3), type := 77, pos := "ref.go:186", after := #[{ on := 7, ground := Ground.guard }], guard := some (7, true) } : Oper)) (v := undef) rfl (by kernel_rfl) (by kernel_rfl) (by kernel_rfl) (fun _ _ _ h => h) (Or.inr ⟨by rfl, rfl⟩) (by assumption) ?_
            try simp only [Act.put, List.setIfInBounds_toArray, List.set_cons_zero, List.set_cons_succ]
            refine wpAnyH_take (i := 9) (oi := ({ dst := some 39, op := Op.indexAddr 77 (Operand.tmp 38) (Operand.const (Value.int IntKind.i64 0)), type := 0, pos := "ref.go:186", after := #[{ on := 8, ground := Ground.data }, { on := 7, ground := Ground.guard }], guard := some (7, true) } : Oper)) (v := undef) rfl (by kernel_rfl) (by kernel_rfl) (by kernel_rfl) (fun _ _ _ h => h) (Or.inr ⟨by rfl, rfl⟩) (by assumption) ?_
            try simp only [Act.put, List.setIfInBounds_toArray, List.set_cons_zero, List.set_cons_succ]
            refine wpAnyH_take (i := 10) (oi := ({ dst := some 40, op := Op.load 99 (Operand.tmp 39), type := 99, pos := "ref.go:186", after := #[{ on := 9, ground := Ground.data }, { on := 7, ground := Ground.guard }], guard := some (7, true) } : Oper)) (v := undef) rfl (by kernel_rfl) (by kernel_rfl) (by kernel_rfl) (fun _ _ _ h => h) (Or.inr ⟨by rfl, rfl⟩) (by assumption) ?_
            try simp only [Act.put, List.setIfInBounds_toArray, List.set_cons_zero, List.set_cons_succ]
            refine wpAnyH_take (i := 11) (oi := ({ dst := some 41, op := Op.call { callee := Callee.value (Operand.func 94), args := #[Operand.tmp 40], argTypes := #[99] }, type := 5, pos := "ref.go:186", after := #[{ on := 10, ground := Ground.data }, { on := 7, ground := Ground.chain }, { on := 7, ground := Ground.guard }], guard := some (7, true) } : Oper)) (v := undef) rfl (by kernel_rfl) (by kernel_rfl) (by kernel_rfl) (fun _ _ _ h => h) (Or.inr ⟨by rfl, rfl⟩) (by assumption) ?_
            try simp only [Act.put, List.setIfInBounds_toArray, List.set_cons_zero, List.set_cons_succ]
            refine wpAnyH_take (i := 12) (oi := ({ dst := some 42, op := Op.move (Operand.tmp 4), type := 77, pos := "ref.go:186", after := #[{ on := 7, ground := Ground.guard }], guard := some (7, true) } : Oper)) (v := undef) rfl (by kernel_rfl) (by kernel_rfl) (by kernel_rfl) (fun _ _ _ h => h) (Or.inr ⟨by rfl, rfl⟩) (by assumption) ?_
            try simp only [Act.put, List.setIfInBounds_toArray, List.set_cons_zero, List.set_cons_succ]
            refine wpAnyH_take (i := 13) (oi := ({ dst := some 43, op := Op.indexAddr 77 (Operand.tmp 42) (Operand.const (Value.int IntKind.i64 0)), type := 0, pos := "ref.go:186", after := #[{ on := 12, ground := Ground.data }, { on := 7, ground := Ground.guard }], guard := some (7, true) } : Oper)) (v := undef) rfl (by kernel_rfl) (by kernel_rfl) (by kernel_rfl) (fun _ _ _ h => h) (Or.inr ⟨by rfl, rfl⟩) (by assumption) ?_
            try simp only [Act.put, List.setIfInBounds_toArray, List.set_cons_zero, List.set_cons_succ]
            refine wpAnyH_take (i := 14) (oi := ({ dst := some 44, op := Op.load 99 (Operand.tmp 43), type := 99, pos := "ref.go:186", after := #[{ on := 13, ground := Ground.data }, { on := 7, ground := Ground.guard }], guard := some (7, true) } : Oper)) (v := undef) rfl (by kernel_rfl) (by kernel_rfl) (by kernel_rfl) (fun _ _ _ h => h) (Or.inr ⟨by rfl, rfl⟩) (by assumption) ?_
            try simp only [Act.put, List.setIfInBounds_toArray, List.set_cons_zero, List.set_cons_succ]
            refine wpAnyH_take (i := 15) (oi := ({ dst := some 45, op := Op.call { callee := Callee.value (Operand.func 94), args := #[Operand.tmp 44], argTypes := #[99] }, type := 5, pos := "ref.go:186", after := #[{ on := 14, ground := Ground.data }, { on := 11, ground := Ground.chain }, { on := 7, ground := Ground.guard }], guard := some (7, true) } : Oper)) (v := undef) rfl (by kernel_rfl) (by kernel_rfl) (by kernel_rfl) (fun _ _ _ h => h) (Or.inr ⟨by rfl, rfl⟩) (by assumption) ?_
            try simp only [Act.put, List.setIfInBounds_toArray, List.set_cons_zero, List.set_cons_succ]
            refine wpAnyH_take (i := 16) (oi := ({ dst := some 46, op := Op.binOp BinOp.leq 5 (Operand.tmp 41) (Operand.tmp 45) 5, type := 4, pos := "ref.go:186", after := #[{ on := 11, ground := Ground.data }, { on := 15, ground := Ground.data }, { on := 7, ground := Ground.guard }], guard := some (7, true) } : Oper)) (v := undef) rfl (by kernel_rfl) (by kernel_rfl) (by kernel_rfl) (fun _ _ _ h => h) (Or.inr ⟨by rfl, rfl⟩) (by assumption) ?_
            try simp only [Act.put, List.setIfInBounds_toArray, List.set_cons_zero, List.set_cons_succ]
            refine wpAnyH_take (i := 17) (oi := ({ dst := some 47, op := Op.pick (Operand.tmp 37) (Operand.tmp 46) (Operand.const (Value.bool false)), type := 4, pos := "ref.go:186", after := #[{ on := 7, ground := Ground.data }, { on := 16, ground := Ground.data }, { on := 3, ground := Ground.guard }], guard := some (3, false) } : Oper)) (v := ?_) rfl (by kernel_rfl) (by kernel_rfl) (by kernel_rfl) (fun _ _ _ h => h) (Or.inl ⟨by rfl, ?_⟩) (by assumption) ?_
            rotate_left
            · (intro w hSw; (try dsimp only at hSw); go_simp; all_goals (with_reducible rfl))
            try simp only [Act.put, List.setIfInBounds_toArray, List.set_cons_zero, List.set_cons_succ]
            refine wpAnyH_take (i := 18) (oi := ({ dst := some 48, op := Op.pick (Operand.tmp 33) (Operand.const (Value.bool true)) (Operand.tmp 47), type := 4, pos := "ref.go:186", after := #[{ on := 3, ground := Ground.data }, { on := 17, ground := Ground.data }], guard := none } : Oper)) (v := ?_) rfl (by kernel_rfl) (by kernel_rfl) (by kernel_rfl) (fun _ _ _ h => h) (Or.inl ⟨by rfl, ?_⟩) (by assumption) ?_
            rotate_left
            · (intro w hSw; (try dsimp only at hSw); go_simp; all_goals (with_reducible rfl))
            try simp only [Act.put, List.setIfInBounds_toArray, List.set_cons_zero, List.set_cons_succ]
            refine wpAnyH_done (by kernel_rfl) ?_ _
            refine NoPanic.normal ?_
            obtain ⟨W9, hW9⟩ : ∃ W9, W.drew = W9 := ⟨_, rfl⟩
            rw [hW9]
            rw [hW9] at hbD
            have Hb9 := Lib.hid ((show Below B2 W W9 by rw [← hW9]; exact below_Ds (Below.refl _ _)))
            have Hbw9 := Lib.hid hbD
            have Own9 := Lib.hid (show W9.ownsRow B2 99 3 _ _ _ by rw [← hW9]; exact Hown.out)
            have S9 : B2 ≤ W9.heap.size := by have := hbD.size; have := HB2.out; omega
            clear hbD hW9 Hown HbW
            obtain ⟨_, e9, _, k0, k1, k2⟩ := Rd_head (Hrb.out.below Hb9.out)
            obtain rfl := Option.some.inj e9
            clear e9
            go_wp2_with (at_builtin; refine wpList_append_own _ rfl _ _ 77 rfl B2 99 i0 _ 3 8 Tryz.underlying77 hi hz0 hz1 hz2 rfl (by decide) _ _ _ rfl (Own9.out.alloc _) ⟨W9.heap.size, 0, none⟩ 1 1 [.int .i32 y.1, .bool (y.2.2 != 0), .int .u8 (y.2.2 : Int)] rfl rfl (new_cells W9 [.int .i32 y.1, .bool (y.2.2 != 0), .int .u8 (y.2.2 : Int)] 99) (by simp [Value.oneCell']) (by unfold maxLen; omega) (by omega) (by simp; omega) ?_; intro v' w9 own9 g9 _; have OwnN := Lib.hid own9; have BN := Lib.hid ((Hbw9.out.alloc S9 (.cells #[.int .i32 y.1, .bool (y.2.2 != 0), .int .u8 (y.2.2 : Int)] 99)).grown g9 (by simp; omega) (fun k hk => (Own9.out.lt k hk).1)); have BW := Lib.hid ((Hb9.out.alloc S9 (.cells #[.int .i32 y.1, .bool (y.2.2 != 0), .int .u8 (y.2.2 : Int)] 99)).grown g9 (by simp; omega) (fun k hk => (Own9.out.lt k hk).1)); clear own9 g9; rcases Classical.em (cb = 1) with hc1 | hc1)
            all_goals go_wp2_with fail
            · refine ⟨⟨[], yt, ys ++ [y], Aa, (some b), ca, 0, _, rfl, rfl, by rw [hlb, show nb - 1 = 0 by omega], by first | assumption | (simp; omega) | omega, by rw [hlb]; omega, Lib.hid (Hra.out.below BW.out), Lib.hid (by rw [hlb, show nb - 1 = 0 by omega]; have e : yt = [] := List.eq_nil_of_length_eq_zero (by omega); rw [e]; exact Rd.nil _ _ _ _), Lib.hid ?_, BN, Lib.hid ?_, Lib.hid ⟨Hit.out.1, fun p hp => Hit.out.2 p (List.mem_cons_of_mem _ hp)⟩, ?_⟩, ?_⟩
              · rw [List.length_append, flat_append, show flat encI [y] = encI y by simp [flat]]
                exact OwnN.out
              · rw [← Hnx.out, List.append_assoc]
              all_goals first | (simp only [lenV4]; omega) | (rw [List.length_append]; simp [hlb]; omega) | (rw [List.length_append]; simp [hlb]; done) | (rw [List.length_append]; done) | (simp [hlb]; omega)
            · refine ⟨⟨[], yt, ys ++ [y], Aa, (some ⟨b.block, b.off + 3, none⟩), ca, (cb - 1), _, rfl, rfl, by rw [hlb], by first | assumption | (simp; omega) | omega, by rw [hlb]; omega, Lib.hid (Hra.out.below BW.out), Lib.hid (by have h := Rd_drop (Hrb.out.below BW.out) (k := 1) (by omega); rw [hlb]; rw [show b.add (1 * 3) = ⟨b.block, b.off + 3, none⟩ by simp [Addr.add]] at h; exact h), Lib.hid ?_, BN, Lib.hid ?_, Lib.hid ⟨Hit.out.1, fun p hp => Hit.out.2 p (List.mem_cons_of_mem _ hp)⟩, ?_⟩, ?_⟩
              · rw [List.length_append, flat_append, show flat encI [y] = encI y by simp [flat]]
                exact OwnN.out
              · rw [← Hnx.out, List.append_assoc]
              all_goals first | (simp only [lenV4]; omega) | (rw [List.length_append]; simp [hlb]; omega) | (rw [List.length_append]; simp [hlb]; done) | (rw [List.length_append]; done) | (simp [hlb]; omega)
        · rcases xb with _ | ⟨y, yt⟩
          · -- a alone
            obtain ⟨a, hAa, _, _⟩ := Rd_head Hra.out
            subst hAa
            obtain ⟨na, hna⟩ : ∃ na, (x :: xt).length = na := ⟨_, rfl⟩
            have hla : xt.length = na - 1 := by rw [← hna]; simp
            have hpa : 1 ≤ na := by rw [← hna]; simp
            rw [hna] at Hra hca hsum ⊢
            have za1 : (0 : Int) < (na : Int) := by omega
            have za2 : ((na : Int) == 0) = false := by simp; omega
            have za3 : (1 : Int) ≤ (na : Int) := by omega
            have za4 : ¬ na = 0 := by omega
            have za5 : decide ((0 : Int) < (na : Int)) = true := decide_eq_true za1
            have za7 : 0 < na := by omega
            have za6 : decide (0 < na) = true := decide_eq_true za7
            have hita := Hit.out.1 x (List.mem_cons_self ..)
            have hr := Hrun.out
            rw [mergeZ_right] at hr
            have Hnx : Hid (ys ++ ([x] ++ mergeZ numP xt []) = R) := by unfold Hid; rw [mergeZ_right]; exact hr
            simp only [List.length_nil, Nat.add_zero] at hsum
            clear hr Hrun
            have hbD := below_Ds HbW.out
            go_wp2_with fail
            refine wp_region_noPanic ?_
            refine wp_region_held_drew (S := fun W' : World => True) (by kernel_rfl) (trivial) (fun hHeld => ?_)
            refine wpAnyH_take (i := 0) (oi := ({ dst := some 30, op := Op.move (Operand.tmp 4), type := 77, pos := "ref.go:186", after := #[], guard := none } : Oper)) (v := ?_) rfl (by kernel_rfl) (by kernel_rfl) (by kernel_rfl) (fun _ _ _ h => h) (Or.inl ⟨by rfl, ?_⟩) (by assumption) ?_
            rotate_left
            · (intro w hSw; (try dsimp only at hSw); go_simp; all_goals (with_reducible rfl))
            try simp only [Act.put, List.setIfInBounds_toArray, List.set_cons_zero, List.set_cons_succ]
            refine wpAnyH_take (i := 1) (oi := ({ dst := some 31, op := Op.call { callee := Callee.builtin Builtin.len, args := #[Operand.tmp 30], argTypes := #[77] }, type := 3, pos := "ref.go:186", after := #[{ on := 0, ground := Ground.data }], guard := none } : Oper)) (v := ?_) rfl (by kernel_rfl) (by kernel_rfl) (by kernel_rfl) (fun _ _ _ h => h) (Or.inl ⟨by rfl, ?_⟩) (by assumption) ?_
            rotate_left
            · (intro w hSw; (try dsimp only at hSw); go_simp; all_goals (with_reducible rfl))
            try simp only [Act.put, List.setIfInBounds_toArray, List.set_cons_zero, List.set_cons_succ]
            refine wpAnyH_take (i := 2) (oi := ({ dst := some 32, op := Op.binOp BinOp.eql 3 (Operand.tmp 31) (Operand.const (Value.int IntKind.i64 0)) 3, type := 4, pos := "ref.go:186", after := #[{ on := 1, ground := Ground.data }], guard := none } : Oper)) (v := ?_) rfl (by kernel_rfl) (by kernel_rfl) (by kernel_rfl) (fun _ _ _ h => h) (Or.inl ⟨by rfl, ?_⟩) (by assumption) ?_
            rotate_left
            · (intro w hSw; (try dsimp only at hSw); go_simp; all_goals (with_reducible rfl))
            try simp only [Act.put, List.setIfInBounds_toArray, List.set_cons_zero, List.set_cons_succ]
            refine wpAnyH_take (i := 3) (oi := ({ dst := some 33, op := Op.move (Operand.tmp 32), type := 4, pos := "ref.go:186", after := #[{ on := 2, ground := Ground.data }], guard := none } : Oper)) (v := ?_) rfl (by kernel_rfl) (by kernel_rfl) (by kernel_rfl) (fun _ _ _ h => h) (Or.inl ⟨by rfl, ?_⟩) (by assumption) ?_
            rotate_left
            · (intro w hSw; (try dsimp only at hSw); go_simp; all_goals (with_reducible rfl))
            try simp only [Act.put, List.setIfInBounds_toArray, List.set_cons_zero, List.set_cons_succ]
            refine wpAnyH_take (i := 4) (oi := ({ dst := some 34, op := Op.move (Operand.tmp 3), type := 77, pos := "ref.go:186", after := #[{ on := 3, ground := Ground.guard }], guard := some (3, false) } : Oper)) (v := undef) rfl (by kernel_rfl) (by kernel_rfl) (by kernel_rfl) (fun _ _ _ h => h) (Or.inr ⟨by rfl, rfl⟩) (by assumption) ?_
            try simp only [Act.put, List.setIfInBounds_toArray, List.set_cons_zero, List.set_cons_succ]
            refine wpAnyH_take (i := 5) (oi := ({ dst := some 35, op := Op.call { callee := Callee.builtin Builtin.len, args := #[Operand.tmp 34], argTypes := #[77] }, type := 3, pos := "ref.go:186", after := #[{ on := 4, ground := Ground.data }, { on := 3, ground := Ground.guard }], guard := some (3, false) } : Oper)) (v := undef) rfl (by kernel_rfl) (by kernel_rfl) (by kernel_rfl) (fun _ _ _ h => h) (Or.inr ⟨by rfl, rfl⟩) (by assumption) ?_
            try simp only [Act.put, List.setIfInBounds_toArray, List.set_cons_zero, List.set_cons_succ]
            refine wpAnyH_take (i := 6) (oi := ({ dst := some 36, op := Op.binOp BinOp.gtr 3 (Operand.tmp 35) (Operand.const (Value.int IntKind.i64 0)) 3, type := 4, pos := "ref.go:186", after := #[{ on := 5, ground := Ground.data }, { on := 3, ground := Ground.guard }], guard := some (3, false) } : Oper)) (v := undef) rfl (by kernel_rfl) (by kernel_rfl) (by kernel_rfl) (fun _ _ _ h => h) (Or.inr ⟨by rfl, rfl⟩) (by assumption) ?_
            try simp only [Act.put, List.setIfInBounds_toArray, List.set_cons_zero, List.set_cons_succ]
            refine wpAnyH_take (i := 7) (oi := ({ dst := some 37, op := Op.move (Operand.tmp 36), type := 4, pos := "ref.go:186", after := #[{ on := 6, ground := Ground.data }, { on := 3, ground := Ground.chain }, { on := 3, ground := Ground.guard }], guard := some (3, false) } : Oper)) (v := undef) rfl (by kernel_rfl) (by kernel_rfl) (by kernel_rfl) (fun _ _ _ h => h) (Or.inr ⟨by rfl, rfl⟩) (by assumption) ?_
            try simp only [Act.put, List.setIfInBounds_toArray, List.set_cons_zero, List.set_cons_succ]
            refine wpAnyH_take (i := 8) (oi := ({ dst := some 38, op := Op.move (Operand.tmp 3), type := 77, pos := "ref.go:186", after := #[{ on := 7, ground := Ground.guard }], guard := some (7, true) } : Oper)) (v := undef) rfl (by kernel_rfl) (by kernel_rfl) (by kernel_rfl) (fun _ _ _ h => h) (Or.inr ⟨by rfl, rfl⟩) (by assumption) ?_
            try simp only [Act.put, List.setIfInBounds_toArray, List.set_cons_zero, List.set_cons_succ]
            refine wpAnyH_take (i := 9) (oi := ({ dst := some 39, op := Op.indexAddr 77 (Operand.tmp 38) (Operand.const (Value.int IntKind.i64 0)), type := 0, pos := "ref.go:186", after := #[{ on := 8, ground := Ground.data }, { on := 7, ground := Ground.guard }], guard := some (7, true) } : Oper)) (v := undef) rfl (by kernel_rfl) (by kernel_rfl) (by kernel_rfl) (fun _ _ _ h => h) (Or.inr ⟨by rfl, rfl⟩) (by assumption) ?_
            try simp only [Act.put, List.setIfInBounds_toArray, List.set_cons_zero, List.set_cons_succ]
            refine wpAnyH_take (i := 10) (oi := ({ dst := some 40, op := Op.load 99 (Operand.tmp 39), type := 99, pos := "ref.go:186", after := #[{ on := 9, ground := Ground.data }, { on := 7, ground := Ground.guard }], guard := some (7, true) } : Oper)) (v := undef) rfl (by kernel_rfl) (by kernel_rfl) (by kernel_rfl) (fun _ _ _ h => h) (Or.inr ⟨by rfl, rfl⟩) (by assumption) ?_
            try simp only [Act.put, List.setIfInBounds_toArray, List.set_cons_zero, List.set_cons_succ]
            refine wpAnyH_take (i := 11) (oi := ({ dst := some 41, op := Op.call { callee := Callee.value (Operand.func 94), args := #[Operand.tmp 40], argTypes := #[99] }, type := 5, pos := "ref.go:186", after := #[{ on := 10, ground := Ground.data }, { on := 7, ground := Ground.chain }, { on := 7, ground := Ground.guard }], guard := some (7, true) } : Oper)) (v := undef) rfl (by kernel_rfl) (by kernel_rfl) (by kernel_rfl) (fun _ _ _ h => h) (Or.inr ⟨by rfl, rfl⟩) (by assumption) ?_
            try simp only [Act.put, List.setIfInBounds_toArray, List.set_cons_zero, List.set_cons_succ]
            refine wpAnyH_take (i := 12) (oi := ({ dst := some 42, op := Op.move (Operand.tmp 4), type := 77, pos := "ref.go:186", after := #[{ on := 7, ground := Ground.guard }], guard := some (7, true) } : Oper)) (v := undef) rfl (by kernel_rfl) (by kernel_rfl) (by kernel_rfl) (fun _ _ _ h => h) (Or.inr ⟨by rfl, rfl⟩) (by assumption) ?_
            try simp only [Act.put, List.setIfInBounds_toArray, List.set_cons_zero, List.set_cons_succ]
            refine wpAnyH_take (i := 13) (oi := ({ dst := some 43, op := Op.indexAddr 77 (Operand.tmp 42) (Operand.const (Value.int IntKind.i64 0)), type := 0, pos := "ref.go:186", after := #[{ on := 12, ground := Ground.data }, { on := 7, ground := Ground.guard }], guard := some (7, true) } : Oper)) (v := undef) rfl (by kernel_rfl) (by kernel_rfl) (by kernel_rfl) (fun _ _ _ h => h) (Or.inr ⟨by rfl, rfl⟩) (by assumption) ?_
            try simp only [Act.put, List.setIfInBounds_toArray, List.set_cons_zero, List.set_cons_succ]
            refine wpAnyH_take (i := 14) (oi := ({ dst := some 44, op := Op.load 99 (Operand.tmp 43), type := 99, pos := "ref.go:186", after := #[{ on := 13, ground := Ground.data }, { on := 7, ground := Ground.guard }], guard := some (7, true) } : Oper)) (v := undef) rfl (by kernel_rfl) (by kernel_rfl) (by kernel_rfl) (fun _ _ _ h => h) (Or.inr ⟨by rfl, rfl⟩) (by assumption) ?_
            try simp only [Act.put, List.setIfInBounds_toArray, List.set_cons_zero, List.set_cons_succ]
            refine wpAnyH_take (i := 15) (oi := ({ dst := some 45, op := Op.call { callee := Callee.value (Operand.func 94), args := #[Operand.tmp 44], argTypes := #[99] }, type := 5, pos := "ref.go:186", after := #[{ on := 14, ground := Ground.data }, { on := 11, ground := Ground.chain }, { on := 7, ground := Ground.guard }], guard := some (7, true) } : Oper)) (v := undef) rfl (by kernel_rfl) (by kernel_rfl) (by kernel_rfl) (fun _ _ _ h => h) (Or.inr ⟨by rfl, rfl⟩) (by assumption) ?_
            try simp only [Act.put, List.setIfInBounds_toArray, List.set_cons_zero, List.set_cons_succ]
            refine wpAnyH_take (i := 16) (oi := ({ dst := some 46, op := Op.binOp BinOp.leq 5 (Operand.tmp 41) (Operand.tmp 45) 5, type := 4, pos := "ref.go:186", after := #[{ on := 11, ground := Ground.data }, { on := 15, ground := Ground.data }, { on := 7, ground := Ground.guard }], guard := some (7, true) } : Oper)) (v := undef) rfl (by kernel_rfl) (by kernel_rfl) (by kernel_rfl) (fun _ _ _ h => h) (Or.inr ⟨by rfl, rfl⟩) (by assumption) ?_
            try simp only [Act.put, List.setIfInBounds_toArray, List.set_cons_zero, List.set_cons_succ]
            refine wpAnyH_take (i := 17) (oi := ({ dst := some 47, op := Op.pick (Operand.tmp 37) (Operand.tmp 46) (Operand.const (Value.bool false)), type := 4, pos := "ref.go:186", after := #[{ on := 7, ground := Ground.data }, { on := 16, ground := Ground.data }, { on := 3, ground := Ground.guard }], guard := some (3, false) } : Oper)) (v := undef) rfl (by kernel_rfl) (by kernel_rfl) (by kernel_rfl) (fun _ _ _ h => h) (Or.inr ⟨by rfl, rfl⟩) (by assumption) ?_
            try simp only [Act.put, List.setIfInBounds_toArray, List.set_cons_zero, List.set_cons_succ]
            refine wpAnyH_take (i := 18) (oi := ({ dst := some 48, op := Op.pick (Operand.tmp 33) (Operand.const (Value.bool true)) (Operand.tmp 47), type := 4, pos := "ref.go:186", after := #[{ on := 3, ground := Ground.data }, { on := 17, ground := Ground.data }], guard := none } : Oper)) (v := ?_) rfl (by kernel_rfl) (by kernel_rfl) (by kernel_rfl) (fun _ _ _ h => h) (Or.inl ⟨by rfl, ?_⟩) (by assumption) ?_
            rotate_left
            · (intro w hSw; (try dsimp only at hSw); go_simp; all_goals (with_reducible rfl))
            try simp only [Act.put, List.setIfInBounds_toArray, List.set_cons_zero, List.set_cons_succ]
            refine wpAnyH_done (by kernel_rfl) ?_ _
            refine NoPanic.normal ?_
            obtain ⟨W9, hW9⟩ : ∃ W9, W.drew = W9 := ⟨_, rfl⟩
            rw [hW9]
            rw [hW9] at hbD
            have Hb9 := Lib.hid ((show Below B2 W W9 by rw [← hW9]; exact below_Ds (Below.refl _ _)))
            have Hbw9 := Lib.hid hbD
            have Own9 := Lib.hid (show W9.ownsRow B2 99 3 _ _ _ by rw [← hW9]; exact Hown.out)
            have S9 : B2 ≤ W9.heap.size := by have := hbD.size; have := HB2.out; omega
            clear hbD hW9 Hown HbW
            obtain ⟨_, e9, _, k0, k1, k2⟩ := Rd_head (Hra.out.below Hb9.out)
            obtain rfl := Option.some.inj e9
            clear e9
            go_wp2_with (at_builtin; refine wpList_append_own _ rfl _ _ 77 rfl B2 99 i0 _ 3 8 Tryz.underlying77 hi hz0 hz1 hz2 rfl (by decide) _ _ _ rfl (Own9.out.alloc _) ⟨W9.heap.size, 0, none⟩ 1 1 [.int .i32 x.1, .bool (x.2.2 != 0), .int .u8 (x.2.2 : Int)] rfl rfl (new_cells W9 [.int .i32 x.1, .bool (x.2.2 != 0), .int .u8 (x.2.2 : Int)] 99) (by simp [Value.oneCell']) (by unfold maxLen; omega) (by omega) (by simp; omega) ?_; intro v' w9 own9 g9 _; have OwnN := Lib.hid own9; have BN := Lib.hid ((Hbw9.out.alloc S9 (.cells #[.int .i32 x.1, .bool (x.2.2 != 0), .int .u8 (x.2.2 : Int)] 99)).grown g9 (by simp; omega) (fun k hk => (Own9.out.lt k hk).1)); have BW := Lib.hid ((Hb9.out.alloc S9 (.cells #[.int .i32 x.1, .bool (x.2.2 != 0), .int .u8 (x.2.2 : Int)] 99)).grown g9 (by simp; omega) (fun k hk => (Own9.out.lt k hk).1)); clear own9 g9; rcases Classical.em (ca = 1) with hc1 | hc1)
            all_goals go_wp2_with fail
            · refine ⟨⟨xt, [], ys ++ [x], (some a), Ab, 0, cb, _, rfl, by rw [hla, show na - 1 = 0 by omega], rfl, by rw [hla]; omega, by first | assumption | (simp; omega) | omega, Lib.hid (by rw [hla, show na - 1 = 0 by omega]; have e : xt = [] := List.eq_nil_of_length_eq_zero (by omega); rw [e]; exact Rd.nil _ _ _ _), Lib.hid (Hrb.out.below BW.out), Lib.hid ?_, BN, Lib.hid ?_, Lib.hid ⟨fun p hp => Hit.out.1 p (List.mem_cons_of_mem _ hp), Hit.out.2⟩, ?_⟩, ?_⟩
              · rw [List.length_append, flat_append, show flat encI [x] = encI x by simp [flat]]
                exact OwnN.out
              · rw [← Hnx.out, List.append_assoc]
              all_goals first | (simp only [lenV4]; omega) | (rw [List.length_append]; simp [hla]; omega) | (rw [List.length_append]; simp [hla]; done) | (rw [List.length_append]; done) | (simp [hla]; omega)
            · refine ⟨⟨xt, [], ys ++ [x], (some ⟨a.block, a.off + 3, none⟩), Ab, (ca - 1), cb, _, rfl, by rw [hla], rfl, by rw [hla]; omega, by first | assumption | (simp; omega) | omega, Lib.hid (by have h := Rd_drop (Hra.out.below BW.out) (k := 1) (by omega); rw [hla]; rw [show a.add (1 * 3) = ⟨a.block, a.off + 3, none⟩ by simp [Addr.add]] at h; exact h), Lib.hid (Hrb.out.below BW.out), Lib.hid ?_, BN, Lib.hid ?_, Lib.hid ⟨fun p hp => Hit.out.1 p (List.mem_cons_of_mem _ hp), Hit.out.2⟩, ?_⟩, ?_⟩
              · rw [List.length_append, flat_append, show flat encI [x] = encI x by simp [flat]]
                exact OwnN.out
              · rw [← Hnx.out, List.append_assoc]
              all_goals first | (simp only [lenV4]; omega) | (rw [List.length_append]; simp [hla]; omega) | (rw [List.length_append]; simp [hla]; done) | (rw [List.length_append]; done) | (simp [hla]; omega)
          · -- both
            obtain ⟨a, hAa, _, _⟩ := Rd_head Hra.out
            subst hAa
            obtain ⟨na, hna⟩ : ∃ na, (x :: xt).length = na := ⟨_, rfl⟩
            have hla : xt.length = na - 1 := by rw [← hna]; simp
            have hpa : 1 ≤ na := by rw [← hna]; simp
            rw [hna] at Hra hca hsum ⊢
            have za1 : (0 : Int) < (na : Int) := by omega
            have za2 : ((na : Int) == 0) = false := by simp; omega
            have za3 : (1 : Int) ≤ (na : Int) := by omega
            have za4 : ¬ na = 0 := by omega
            have za5 : decide ((0 : Int) < (na : Int)) = true := decide_eq_true za1
            have za7 : 0 < na := by omega
            have za6 : decide (0 < na) = true := decide_eq_true za7
            have hita := Hit.out.1 x (List.mem_cons_self ..)
            obtain ⟨b, hAb, _, _⟩ := Rd_head Hrb.out
            subst hAb
            obtain ⟨nb, hnb⟩ : ∃ nb, (y :: yt).length = nb := ⟨_, rfl⟩
            have hlb : yt.length = nb - 1 := by rw [← hnb]; simp
            have hpb : 1 ≤ nb := by rw [← hnb]; simp
            rw [hnb] at Hrb hcb hsum ⊢
            have zb1 : (0 : Int) < (nb : Int) := by omega
            have zb2 : ((nb : Int) == 0) = false := by simp; omega
            have zb3 : (1 : Int) ≤ (nb : Int) := by omega
            have zb4 : ¬ nb = 0 := by omega
            have zb5 : decide ((0 : Int) < (nb : Int)) = true := decide_eq_true zb1
            have zb7 : 0 < nb := by omega
            have zb6 : decide (0 < nb) = true := decide_eq_true zb7
            have hitb := Hit.out.2 y (List.mem_cons_self ..)
            have SW : B2 ≤ W.heap.size := by have := HbW.out.size; have := HB2.out; omega
            have HC := Lib.hid (fun (W' : World) (hb : Below B2 W W') => show (W'.cell? a = some (.int .i32 x.1) ∧ W'.cell? ⟨a.block, a.off + 1, none⟩ = some (.bool (x.2.2 != 0)) ∧ W'.cell? ⟨a.block, a.off + 2, none⟩ = some (.int .u8 (x.2.2 : Int))) ∧ W'.cell? b = some (.int .i32 y.1) ∧ W'.cell? ⟨b.block, b.off + 1, none⟩ = some (.bool (y.2.2 != 0)) ∧ W'.cell? ⟨b.block, b.off + 2, none⟩ = some (.int .u8 (y.2.2 : Int)) from by
              obtain ⟨_, e1, _, k0, k1, k2⟩ := Rd_head (Hra.out.below hb)
              obtain rfl := Option.some.inj e1
              obtain ⟨_, e2, _, j0, j1, j2⟩ := Rd_head (Hrb.out.below hb)
              obtain rfl := Option.some.inj e2
              exact ⟨⟨k0, k1, k2⟩, j0, j1, j2⟩)
            have HCa := Lib.hid (fun (W' : World) (hb : Below W.heap.size W W') => HC.out W' (hb.mono SW))
            have BR := Lib.hid (below_Ds (Below.refl W.heap.size W))
            have PR := Lib.hid (HCa.out _ BR.out)
            have HMx := Lib.hid (HMk.out x hita)
            have HMy := Lib.hid (HMk.out y hitb)
            obtain ⟨M, hM⟩ : ∃ M : Int, (x.2.1 : Int) = M := ⟨_, rfl⟩
            obtain ⟨M2, hM2⟩ : ∃ M : Int, (y.2.1 : Int) = M := ⟨_, rfl⟩
            rw [hM] at HMx
            rw [hM2] at HMy
            have hr := Hrun.out
            by_cases hle : numP x ≤ numP y
            · rw [mergeZ_le numP _ _ hle] at hr
              have Hnx : Hid (ys ++ ([x] ++ mergeZ numP xt (y :: yt)) = R) := hr
              have hMM : M ≤ M2 := by have h : x.2.1 ≤ y.2.1 := hle; omega
              clear hr hle hM hM2 Hrun
              go_wp2_with fail
              refine wp_region_noPanic ?_
              refine wp_region_held_drew (S := fun W' : World => (W'.cell? a = some (.int .i32 x.1) ∧ W'.cell? ⟨a.block, a.off + 1, none⟩ = some (.bool (x.2.2 != 0)) ∧ W'.cell? ⟨a.block, a.off + 2, none⟩ = some (.int .u8 (x.2.2 : Int))) ∧ W'.cell? b = some (.int .i32 y.1) ∧ W'.cell? ⟨b.block, b.off + 1, none⟩ = some (.bool (y.2.2 != 0)) ∧ W'.cell? ⟨b.block, b.off + 2, none⟩ = some (.int .u8 (y.2.2 : Int))) (by kernel_rfl) (PR.out) (fun hHeld => ?_)
              refine wpAnyH_take (i := 0) (oi := ({ dst := some 30, op := Op.move (Operand.tmp 4), type := 77, pos := "ref.go:186", after := #[], guard := none } : Oper)) (v := ?_) rfl (by kernel_rfl) (by kernel_rfl) (by kernel_rfl) (fun _ _ _ h => h) (Or.inl ⟨by rfl, ?_⟩) (by assumption) ?_
              rotate_left
              · (intro w hSw; (try dsimp only at hSw); go_simp; all_goals (with_reducible rfl))
              try simp only [Act.put, List.setIfInBounds_toArray, List.set_cons_zero, List.set_cons_succ]
              refine wpAnyH_take (i := 1) (oi := ({ dst := some 31, op := Op.call { callee := Callee.builtin Builtin.len, args := #[Operand.tmp 30], argTypes := #[77] }, type := 3, pos := "ref.go:186", after := #[{ on := 0, ground := Ground.data }], guard := none } : Oper)) (v := ?_) rfl (by kernel_rfl) (by kernel_rfl) (by kernel_rfl) (fun _ _ _ h => h) (Or.inl ⟨by rfl, ?_⟩) (by assumption) ?_
              rotate_left
              · (intro w hSw; (try dsimp only at hSw); go_simp; all_goals (with_reducible rfl))
              try simp only [Act.put, List.setIfInBounds_toArray, List.set_cons_zero, List.set_cons_succ]
              refine wpAnyH_take (i := 2) (oi := ({ dst := some 32, op := Op.binOp BinOp.eql 3 (Operand.tmp 31) (Operand.const (Value.int IntKind.i64 0)) 3, type := 4, pos := "ref.go:186", after := #[{ on := 1, ground := Ground.data }], guard := none } : Oper)) (v := ?_) rfl (by kernel_rfl) (by kernel_rfl) (by kernel_rfl) (fun _ _ _ h => h) (Or.inl ⟨by rfl, ?_⟩) (by assumption) ?_
              rotate_left
              · (intro w hSw; (try dsimp only at hSw); go_simp; all_goals (with_reducible rfl))
              try simp only [Act.put, List.setIfInBounds_toArray, List.set_cons_zero, List.set_cons_succ]
              refine wpAnyH_take (i := 3) (oi := ({ dst := some 33, op := Op.move (Operand.tmp 32), type := 4, pos := "ref.go:186", after := #[{ on := 2, ground := Ground.data }], guard := none } : Oper)) (v := ?_) rfl (by kernel_rfl) (by kernel_rfl) (by kernel_rfl) (fun _ _ _ h => h) (Or.inl ⟨by rfl, ?_⟩) (by assumption) ?_
              rotate_left
              · (intro w hSw; (try dsimp only at hSw); go_simp; all_goals (with_reducible rfl))
              try simp only [Act.put, List.setIfInBounds_toArray, List.set_cons_zero, List.set_cons_succ]
              refine wpAnyH_take (i := 4) (oi := ({ dst := some 34, op := Op.move (Operand.tmp 3), type := 77, pos := "ref.go:186", after := #[{ on := 3, ground := Ground.guard }], guard := some (3, false) } : Oper)) (v := ?_) rfl (by kernel_rfl) (by kernel_rfl) (by kernel_rfl) (fun _ _ _ h => h) (Or.inl ⟨by rfl, ?_⟩) (by assumption) ?_
              rotate_left
              · (intro w hSw; (try dsimp only at hSw); go_simp; all_goals (with_reducible rfl))
              try simp only [Act.put, List.setIfInBounds_toArray, List.set_cons_zero, List.set_cons_succ]
              refine wpAnyH_take (i := 5) (oi := ({ dst := some 35, op := Op.call { callee := Callee.builtin Builtin.len, args := #[Operand.tmp 34], argTypes := #[77] }, type := 3, pos := "ref.go:186", after := #[{ on := 4, ground := Ground.data }, { on := 3, ground := Ground.guard }], guard := some (3, false) } : Oper)) (v := ?_) rfl (by kernel_rfl) (by kernel_rfl) (by kernel_rfl) (fun _ _ _ h => h) (Or.inl ⟨by rfl, ?_⟩) (by assumption) ?_
              rotate_left
              · (intro w hSw; (try dsimp only at hSw); go_simp; all_goals (with_reducible rfl))
              try simp only [Act.put, List.setIfInBounds_toArray, List.set_cons_zero, List.set_cons_succ]
              refine wpAnyH_take (i := 6) (oi := ({ dst := some 36, op := Op.binOp BinOp.gtr 3 (Operand.tmp 35) (Operand.const (Value.int IntKind.i64 0)) 3, type := 4, pos := "ref.go:186", after := #[{ on := 5, ground := Ground.data }, { on := 3, ground := Ground.guard }], guard := some (3, false) } : Oper)) (v := ?_) rfl (by kernel_rfl) (by kernel_rfl) (by kernel_rfl) (fun _ _ _ h => h) (Or.inl ⟨by rfl, ?_⟩) (by assumption) ?_
              rotate_left
              · (intro w hSw; (try dsimp only at hSw); go_simp; all_goals (with_reducible rfl))
              try simp only [Act.put, List.setIfInBounds_toArray, List.set_cons_zero, List.set_cons_succ]
              refine wpAnyH_take (i := 7) (oi := ({ dst := some 37, op := Op.move (Operand.tmp 36), type := 4, pos := "ref.go:186", after := #[{ on := 6, ground := Ground.data }, { on := 3, ground := Ground.chain }, { on := 3, ground := Ground.guard }], guard := some (3, false) } : Oper)) (v := ?_) rfl (by kernel_rfl) (by kernel_rfl) (by kernel_rfl) (fun _ _ _ h => h) (Or.inl ⟨by rfl, ?_⟩) (by assumption) ?_
              rotate_left
              · (intro w hSw; (try dsimp only at hSw); go_simp; all_goals (with_reducible rfl))
              try simp only [Act.put, List.setIfInBounds_toArray, List.set_cons_zero, List.set_cons_succ]
              refine wpAnyH_take (i := 8) (oi := ({ dst := some 38, op := Op.move (Operand.tmp 3), type := 77, pos := "ref.go:186", after := #[{ on := 7, ground := Ground.guard }], guard := some (7, true) } : Oper)) (v := ?_) rfl (by kernel_rfl) (by kernel_rfl) (by kernel_rfl) (fun _ _ _ h => h) (Or.inl ⟨by rfl, ?_⟩) (by assumption) ?_
              rotate_left
              · (intro w hSw; (try dsimp only at hSw); go_simp; all_goals (with_reducible rfl))
              try simp only [Act.put, List.setIfInBounds_toArray, List.set_cons_zero, List.set_cons_succ]
              refine wpAnyH_take (i := 9) (oi := ({ dst := some 39, op := Op.indexAddr 77 (Operand.tmp 38) (Operand.const (Value.int IntKind.i64 0)), type := 0, pos := "ref.go:186", after := #[{ on := 8, ground := Ground.data }, { on := 7, ground := Ground.guard }], guard := some (7, true) } : Oper)) (v := ?_) rfl (by kernel_rfl) (by kernel_rfl) (by kernel_rfl) (fun _ _ _ h => h) (Or.inl ⟨by rfl, ?_⟩) (by assumption) ?_
              rotate_left
              · (intro w hSw; (try dsimp only at hSw); go_simp; all_goals (with_reducible rfl))
              try simp only [Act.put, List.setIfInBounds_toArray, List.set_cons_zero, List.set_cons_succ]
              refine wpAnyH_take (i := 10) (oi := ({ dst := some 40, op := Op.load 99 (Operand.tmp 39), type := 99, pos := "ref.go:186", after := #[{ on := 9, ground := Ground.data }, { on := 7, ground := Ground.guard }], guard := some (7, true) } : Oper)) (v := ?_) rfl (by kernel_rfl) (by kernel_rfl) (by kernel_rfl) (fun _ _ _ h => h) (Or.inl ⟨by rfl, ?_⟩) (by assumption) ?_
              rotate_left
              · (intro w hSw; (try dsimp only at hSw); go_simp; all_goals (with_reducible rfl))
              try simp only [Act.put, List.setIfInBounds_toArray, List.set_cons_zero, List.set_cons_succ]
              refine wpAnyH_take (i := 12) (oi := ({ dst := some 42, op := Op.move (Operand.tmp 4), type := 77, pos := "ref.go:186", after := #[{ on := 7, ground := Ground.guard }], guard := some (7, true) } : Oper)) (v := ?_) rfl (by kernel_rfl) (by kernel_rfl) (by kernel_rfl) (fun _ _ _ h => h) (Or.inl ⟨by rfl, ?_⟩) (by assumption) ?_
              rotate_left
              · (intro w hSw; (try dsimp only at hSw); go_simp; all_goals (with_reducible rfl))
              try simp only [Act.put, List.setIfInBounds_toArray, List.set_cons_zero, List.set_cons_succ]
              refine wpAnyH_take (i := 13) (oi := ({ dst := some 43, op := Op.indexAddr 77 (Operand.tmp 42) (Operand.const (Value.int IntKind.i64 0)), type := 0, pos := "ref.go:186", after := #[{ on := 12, ground := Ground.data }, { on := 7, ground := Ground.guard }], guard := some (7, true) } : Oper)) (v := ?_) rfl (by kernel_rfl) (by kernel_rfl) (by kernel_rfl) (fun _ _ _ h => h) (Or.inl ⟨by rfl, ?_⟩) (by assumption) ?_
              rotate_left
              · (intro w hSw; (try dsimp only at hSw); go_simp; all_goals (with_reducible rfl))
              try simp only [Act.put, List.setIfInBounds_toArray, List.set_cons_zero, List.set_cons_succ]
              refine wpAnyH_take (i := 14) (oi := ({ dst := some 44, op := Op.load 99 (Operand.tmp 43), type := 99, pos := "ref.go:186", after := #[{ on := 13, ground := Ground.data }, { on := 7, ground := Ground.guard }], guard := some (7, true) } : Oper)) (v := ?_) rfl (by kernel_rfl) (by kernel_rfl) (by kernel_rfl) (fun _ _ _ h => h) (Or.inl ⟨by rfl, ?_⟩) (by assumption) ?_
              rotate_left
              · (intro w hSw; (try dsimp only at hSw); go_simp; all_goals (with_reducible rfl))
              try simp only [Act.put, List.setIfInBounds_toArray, List.set_cons_zero, List.set_cons_succ]
              refine wpAnyH_ready (rs := [11]) (by kernel_rfl) (by simp) ?_
              refine AllReadyH.cons (o := ({ dst := some 41, op := Op.call { callee := Callee.value (Operand.func 94), args := #[Operand.tmp 40], argTypes := #[99] }, type := 5, pos := "ref.go:186", after := #[{ on := 10, ground := Ground.data }, { on := 7, ground := Ground.chain }, { on := 7, ground := Ground.guard }], guard := some (7, true) } : Oper)) rfl (fun K hK => ?_) AllReadyH.nil
              (go_simp; go_at_call 94; refine (HMx.out _).mono ?_; rintro e wx ⟨rfl, bx⟩; have Ba := Lib.hid (BR.out.trans (bx.mono BR.out.size)); clear bx; (try dsimp only))
              refine hK.out _ _ (HCa.out _ Ba.out) (fun hHeld => ?_)
              clear hK K
              try simp only [Act.put, List.setIfInBounds_toArray, List.set_cons_zero, List.set_cons_succ]
              refine wpAnyH_ready (rs := [15]) (by kernel_rfl) (by simp) ?_
              refine AllReadyH.cons (o := ({ dst := some 45, op := Op.call { callee := Callee.value (Operand.func 94), args := #[Operand.tmp 44], argTypes := #[99] }, type := 5, pos := "ref.go:186", after := #[{ on := 14, ground := Ground.data }, { on := 11, ground := Ground.chain }, { on := 7, ground := Ground.guard }], guard := some (7, true) } : Oper)) rfl (fun K hK => ?_) AllReadyH.nil
              (go_simp; go_at_call 94; refine (HMy.out _).mono ?_; rintro e wy ⟨rfl, bq⟩; have Bb := Lib.hid (Ba.out.trans (bq.mono Ba.out.size)); clear bq; (try dsimp only))
              refine hK.out _ _ (HCa.out _ Bb.out) (fun hHeld => ?_)
              clear hK K
              try simp only [Act.put, List.setIfInBounds_toArray, List.set_cons_zero, List.set_cons_succ]
              refine wpAnyH_take (i := 16) (oi := ({ dst := some 46, op := Op.binOp BinOp.leq 5 (Operand.tmp 41) (Operand.tmp 45) 5, type := 4, pos := "ref.go:186", after := #[{ on := 11, ground := Ground.data }, { on := 15, ground := Ground.data }, { on := 7, ground := Ground.guard }], guard := some (7, true) } : Oper)) (v := ?_) rfl (by kernel_rfl) (by kernel_rfl) (by kernel_rfl) (fun _ _ _ h => h) (Or.inl ⟨by rfl, ?_⟩) (by assumption) ?_
              rotate_left
              · (intro w hSw; (try dsimp only at hSw); go_simp; all_goals (with_reducible rfl))
              try simp only [Act.put, List.setIfInBounds_toArray, List.set_cons_zero, List.set_cons_succ]
              refine wpAnyH_take (i := 17) (oi := ({ dst := some 47, op := Op.pick (Operand.tmp 37) (Operand.tmp 46) (Operand.const (Value.bool false)), type := 4, pos := "ref.go:186", after := #[{ on := 7, ground := Ground.data }, { on := 16, ground := Ground.data }, { on := 3, ground := Ground.guard }], guard := some (3, false) } : Oper)) (v := ?_) rfl (by kernel_rfl) (by kernel_rfl) (by kernel_rfl) (fun _ _ _ h => h) (Or.inl ⟨by rfl, ?_⟩) (by assumption) ?_
              rotate_left
              · (intro w hSw; (try dsimp only at hSw); go_simp; all_goals (with_reducible rfl))
              try simp only [Act.put, List.setIfInBounds_toArray, List.set_cons_zero, List.set_cons_succ]
              refine wpAnyH_take (i := 18) (oi := ({ dst := some 48, op := Op.pick (Operand.tmp 33) (Operand.const (Value.bool true)) (Operand.tmp 47), type := 4, pos := "ref.go:186", after := #[{ on := 3, ground := Ground.data }, { on := 17, ground := Ground.data }], guard := none } : Oper)) (v := ?_) rfl (by kernel_rfl) (by kernel_rfl) (by kernel_rfl) (fun _ _ _ h => h) (Or.inl ⟨by rfl, ?_⟩) (by assumption) ?_
              rotate_left
              · (intro w hSw; (try dsimp only at hSw); go_simp; all_goals (with_reducible rfl))
              try simp only [Act.put, List.setIfInBounds_toArray, List.set_cons_zero, List.set_cons_succ]
              refine wpAnyH_done (by kernel_rfl) ?_ _
              refine NoPanic.normal ?_
              have Hb9 := Lib.hid (Bb.out.mono SW)
              have Hbw9 := Lib.hid (HbW.out.trans Hb9.out)
              have Own9 := Lib.hid (row_same4 Hown.out (fun k hk => Bb.out.block k (Hown.out.lt k hk).2))
              have S9 : B2 ≤ wy.heap.size := Nat.le_trans SW Bb.out.size
              clear Hown HbW PR
              obtain ⟨_, e9, _, k0, k1, k2⟩ := Rd_head (Hra.out.below Hb9.out)
              obtain rfl := Option.some.inj e9
              clear e9
              go_wp2_with (at_builtin; refine wpList_append_own _ rfl _ _ 77 rfl B2 99 i0 _ 3 8 Tryz.underlying77 hi hz0 hz1 hz2 rfl (by decide) _ _ _ rfl (Own9.out.alloc _) ⟨wy.heap.size, 0, none⟩ 1 1 [.int .i32 x.1, .bool (x.2.2 != 0), .int .u8 (x.2.2 : Int)] rfl rfl (new_cells wy [.int .i32 x.1, .bool (x.2.2 != 0), .int .u8 (x.2.2 : Int)] 99) (by simp [Value.oneCell']) (by unfold maxLen; omega) (by omega) (by simp; omega) ?_; intro v' w9 own9 g9 _; have OwnN := Lib.hid own9; have BN := Lib.hid ((Hbw9.out.alloc S9 (.cells #[.int .i32 x.1, .bool (x.2.2 != 0), .int .u8 (x.2.2 : Int)] 99)).grown g9 (by simp; omega) (fun k hk => (Own9.out.lt k hk).1)); have BW := Lib.hid ((Hb9.out.alloc S9 (.cells #[.int .i32 x.1, .bool (x.2.2 != 0), .int .u8 (x.2.2 : Int)] 99)).grown g9 (by simp; omega) (fun k hk => (Own9.out.lt k hk).1)); clear own9 g9; rcases Classical.em (ca = 1) with hc1 | hc1)
              all_goals go_wp2_with fail
              · refine ⟨⟨xt, (y :: yt), ys ++ [x], (some a), (some b), 0, cb, _, rfl, by rw [hla, show na - 1 = 0 by omega], by rw [hnb], by rw [hla]; omega, by rw [hnb]; omega, Lib.hid (by rw [hla, show na - 1 = 0 by omega]; have e : xt = [] := List.eq_nil_of_length_eq_zero (by omega); rw [e]; exact Rd.nil _ _ _ _), Lib.hid (by rw [hnb]; exact Hrb.out.below BW.out), Lib.hid ?_, BN, Lib.hid ?_, Lib.hid ⟨fun p hp => Hit.out.1 p (List.mem_cons_of_mem _ hp), Hit.out.2⟩, ?_⟩, ?_⟩
                · rw [List.length_append, flat_append, show flat encI [x] = encI x by simp [flat]]
                  exact OwnN.out
                · rw [← Hnx.out, List.append_assoc]
                all_goals first | (simp only [lenV4]; omega) | (rw [List.length_append]; simp [hla]; omega) | (rw [List.length_append]; simp [hla]; done) | (rw [List.length_append]; done) | (simp [hla]; omega)
              · refine ⟨⟨xt, (y :: yt), ys ++ [x], (some ⟨a.block, a.off + 3, none⟩), (some b), (ca - 1), cb, _, rfl, by rw [hla], by rw [hnb], by rw [hla]; omega, by rw [hnb]; omega, Lib.hid (by have h := Rd_drop (Hra.out.below BW.out) (k := 1) (by omega); rw [hla]; rw [show a.add (1 * 3) = ⟨a.block, a.off + 3, none⟩ by simp [Addr.add]] at h; exact h), Lib.hid (by rw [hnb]; exact Hrb.out.below BW.out), Lib.hid ?_, BN, Lib.hid ?_, Lib.hid ⟨fun p hp => Hit.out.1 p (List.mem_cons_of_mem _ hp), Hit.out.2⟩, ?_⟩, ?_⟩
                · rw [List.length_append, flat_append, show flat encI [x] = encI x by simp [flat]]
                  exact OwnN.out
                · rw [← Hnx.out, List.append_assoc]
                all_goals first | (simp only [lenV4]; omega) | (rw [List.length_append]; simp [hla]; omega) | (rw [List.length_append]; simp [hla]; done) | (rw [List.length_append]; done) | (simp [hla]; omega)
            · rw [mergeZ_gt numP _ _ hle] at hr
              have Hnx : Hid (ys ++ ([y] ++ mergeZ numP (x :: xt) yt) = R) := hr
              have hMM : ¬ M ≤ M2 := by have h : ¬ x.2.1 ≤ y.2.1 := hle; omega
              clear hr hle hM hM2 Hrun
              go_wp2_with fail
              refine wp_region_noPanic ?_
              refine wp_region_held_drew (S := fun W' : World => (W'.cell? a = some (.int .i32 x.1) ∧ W'.cell? ⟨a.block, a.off + 1, none⟩ = some (.bool (x.2.2 != 0)) ∧ W'.cell? ⟨a.block, a.off + 2, none⟩ = some (.int .u8 (x.2.2 : Int))) ∧ W'.cell? b = some (.int .i32 y.1) ∧ W'.cell? ⟨b.block, b.off + 1, none⟩ = some (.bool (y.2.2 != 0)) ∧ W'.cell? ⟨b.block, b.off + 2, none⟩ = some (.int .u8 (y.2.2 : Int))) (by kernel_rfl) (PR.out) (fun hHeld => ?_)
              refine wpAnyH_take (i := 0) (oi := ({ dst := some 30, op := Op.move (Operand.tmp 4), type := 77, pos := "ref.go:186", after := #[], guard := none } : Oper)) (v := ?_) rfl (by kernel_rfl) (by kernel_rfl) (by kernel_rfl) (fun _ _ _ h => h) (Or.inl ⟨by rfl, ?_⟩) (by assumption) ?_
              rotate_left
              · (intro w hSw; (try dsimp only at hSw); go_simp; all_goals (with_reducible rfl))
              try simp only [Act.put, List.setIfInBounds_toArray, List.set_cons_zero, List.set_cons_succ]
              refine wpAnyH_take (i := 1) (oi := ({ dst := some 31, op := Op.call { callee := Callee.builtin Builtin.len, args := #[Operand.tmp 30], argTypes := #[77] }, type := 3, pos := "ref.go:186", after := #[{ on := 0, ground := Ground.data }], guard := none } : Oper)) (v := ?_) rfl (by kernel_rfl) (by kernel_rfl) (by kernel_rfl) (fun _ _ _ h => h) (Or.inl ⟨by rfl, ?_⟩) (by assumption) ?_
              rotate_left
              · (intro w hSw; (try dsimp only at hSw); go_simp; all_goals (with_reducible rfl))
              try simp only [Act.put, List.setIfInBounds_toArray, List.set_cons_zero, List.set_cons_succ]
              refine wpAnyH_take (i := 2) (oi := ({ dst := some 32, op := Op.binOp BinOp.eql 3 (Operand.tmp 31) (Operand.const (Value.int IntKind.i64 0)) 3, type := 4, pos := "ref.go:186", after := #[{ on := 1, ground := Ground.data }], guard := none } : Oper)) (v := ?_) rfl (by kernel_rfl) (by kernel_rfl) (by kernel_rfl) (fun _ _ _ h => h) (Or.inl ⟨by rfl, ?_⟩) (by assumption) ?_
              rotate_left
              · (intro w hSw; (try dsimp only at hSw); go_simp; all_goals (with_reducible rfl))
              try simp only [Act.put, List.setIfInBounds_toArray, List.set_cons_zero, List.set_cons_succ]
              refine wpAnyH_take (i := 3) (oi := ({ dst := some 33, op := Op.move (Operand.tmp 32), type := 4, pos := "ref.go:186", after := #[{ on := 2, ground := Ground.data }], guard := none } : Oper)) (v := ?_) rfl (by kernel_rfl) (by kernel_rfl) (by kernel_rfl) (fun _ _ _ h => h) (Or.inl ⟨by rfl, ?_⟩) (by assumption) ?_
              rotate_left
              · (intro w hSw; (try dsimp only at hSw); go_simp; all_goals (with_reducible rfl))
              try simp only [Act.put, List.setIfInBounds_toArray, List.set_cons_zero, List.set_cons_succ]
              refine wpAnyH_take (i := 4) (oi := ({ dst := some 34, op := Op.move (Operand.tmp 3), type := 77, pos := "ref.go:186", after := #[{ on := 3, ground := Ground.guard }], guard := some (3, false) } : Oper)) (v := ?_) rfl (by kernel_rfl) (by kernel_rfl) (by kernel_rfl) (fun _ _ _ h => h) (Or.inl ⟨by rfl, ?_⟩) (by assumption) ?_
              rotate_left
              · (intro w hSw; (try dsimp only at hSw); go_simp; all_goals (with_reducible rfl))
              try simp only [Act.put, List.setIfInBounds_toArray, List.set_cons_zero, List.set_cons_succ]
              refine wpAnyH_take (i := 5) (oi := ({ dst := some 35, op := Op.call { callee := Callee.builtin Builtin.len, args := #[Operand.tmp 34], argTypes := #[77] }, type := 3, pos := "ref.go:186", after := #[{ on := 4, ground := Ground.data }, { on := 3, ground := Ground.guard }], guard := some (3, false) } : Oper)) (v := ?_) rfl (by kernel_rfl) (by kernel_rfl) (by kernel_rfl) (fun _ _ _ h => h) (Or.inl ⟨by rfl, ?_⟩) (by assumption) ?_
              rotate_left
              · (intro w hSw; (try dsimp only at hSw); go_simp; all_goals (with_reducible rfl))
              try simp only [Act.put, List.setIfInBounds_toArray, List.set_cons_zero, List.set_cons_succ]
              refine wpAnyH_take (i := 6) (oi := ({ dst := some 36, op := Op.binOp BinOp.gtr 3 (Operand.tmp 35) (Operand.const (Value.int IntKind.i64 0)) 3, type := 4, pos := "ref.go:186", after := #[{ on := 5, ground := Ground.data }, { on := 3, ground := Ground.guard }], guard := some (3, false) } : Oper)) (v := ?_) rfl (by kernel_rfl) (by kernel_rfl) (by kernel_rfl) (fun _ _ _ h => h) (Or.inl ⟨by rfl, ?_⟩) (by assumption) ?_
              rotate_left
              · (intro w hSw; (try dsimp only at hSw); go_simp; all_goals (with_reducible rfl))
              try simp only [Act.put, List.setIfInBounds_toArray, List.set_cons_zero, List.set_cons_succ]
              refine wpAnyH_take (i := 7) (oi := ({ dst := some 37, op := Op.move (Operand.tmp 36), type := 4, pos := "ref.go:186", after := #[{ on := 6, ground := Ground.data }, { on := 3, ground := Ground.chain }, { on := 3, ground := Ground.guard }], guard := some (3, false) } : Oper)) (v := ?_) rfl (by kernel_rfl) (by kernel_rfl) (by kernel_rfl) (fun _ _ _ h => h) (Or.inl ⟨by rfl, ?_⟩) (by assumption) ?_
              rotate_left
              · (intro w hSw; (try dsimp only at hSw); go_simp; all_goals (with_reducible rfl))
              try simp only [Act.put, List.setIfInBounds_toArray, List.set_cons_zero, List.set_cons_succ]
              refine wpAnyH_take (i := 8) (oi := ({ dst := some 38, op := Op.move (Operand.tmp 3), type := 77, pos := "ref.go:186", after := #[{ on := 7, ground := Ground.guard }], guard := some (7, true) } : Oper)) (v := ?_) rfl (by kernel_rfl) (by kernel_rfl) (by kernel_rfl) (fun _ _ _ h => h) (Or.inl ⟨by rfl, ?_⟩) (by assumption) ?_
              rotate_left
              · (intro w hSw; (try dsimp only at hSw); go_simp; all_goals (with_reducible rfl))
              try simp only [Act.put, List.setIfInBounds_toArray, List.set_cons_zero, List.set_cons_succ]
              refine wpAnyH_take (i := 9) (oi := ({ dst := some 39, op := Op.indexAddr 77 (Operand.tmp 38) (Operand.const (Value.int IntKind.i64 0)), type := 0, pos := "ref.go:186", after := #[{ on := 8, ground := Ground.data }, { on := 7, ground := Ground.guard }], guard := some (7, true) } : Oper)) (v := ?_) rfl (by kernel_rfl) (by kernel_rfl) (by kernel_rfl) (fun _ _ _ h => h) (Or.inl ⟨by rfl, ?_⟩) (by assumption) ?_
              rotate_left
              · (intro w hSw; (try dsimp only at hSw); go_simp; all_goals (with_reducible rfl))
              try simp only [Act.put, List.setIfInBounds_toArray, List.set_cons_zero, List.set_cons_succ]
              refine wpAnyH_take (i := 10) (oi := ({ dst := some 40, op := Op.load 99 (Operand.tmp 39), type := 99, pos := "ref.go:186", after := #[{ on := 9, ground := Ground.data }, { on := 7, ground := Ground.guard }], guard := some (7, true) } : Oper)) (v := ?_) rfl (by kernel_rfl) (by kernel_rfl) (by kernel_rfl) (fun _ _ _ h => h) (Or.inl ⟨by rfl, ?_⟩) (by assumption) ?_
              rotate_left
              · (intro w hSw; (try dsimp only at hSw); go_simp; all_goals (with_reducible rfl))
              try simp only [Act.put, List.setIfInBounds_toArray, List.set_cons_zero, List.set_cons_succ]
              refine wpAnyH_take (i := 12) (oi := ({ dst := some 42, op := Op.move (Operand.tmp 4), type := 77, pos := "ref.go:186", after := #[{ on := 7, ground := Ground.guard }], guard := some (7, true) } : Oper)) (v := ?_) rfl (by kernel_rfl) (by kernel_rfl) (by kernel_rfl) (fun _ _ _ h => h) (Or.inl ⟨by rfl, ?_⟩) (by assumption) ?_
              rotate_left
              · (intro w hSw; (try dsimp only at hSw); go_simp; all_goals (with_reducible rfl))
              try simp only [Act.put, List.setIfInBounds_toArray, List.set_cons_zero, List.set_cons_succ]
              refine wpAnyH_take (i := 13) (oi := ({ dst := some 43, op := Op.indexAddr 77 (Operand.tmp 42) (Operand.const (Value.int IntKind.i64 0)), type := 0, pos := "ref.go:186", after := #[{ on := 12, ground := Ground.data }, { on := 7, ground := Ground.guard }], guard := some (7, true) } : Oper)) (v := ?_) rfl (by kernel_rfl) (by kernel_rfl) (by kernel_rfl) (fun _ _ _ h => h) (Or.inl ⟨by rfl, ?_⟩) (by assumption) ?_
              rotate_left
              · (intro w hSw; (try dsimp only at hSw); go_simp; all_goals (with_reducible rfl))
              try simp only [Act.put, List.setIfInBounds_toArray, List.set_cons_zero, List.set_cons_succ]
              refine wpAnyH_take (i := 14) (oi := ({ dst := some 44, op := Op.load 99 (Operand.tmp 43), type := 99, pos := "ref.go:186", after := #[{ on := 13, ground := Ground.data }, { on := 7, ground := Ground.guard }], guard := some (7, true) } : Oper)) (v := ?_) rfl (by kernel_rfl) (by kernel_rfl) (by kernel_rfl) (fun _ _ _ h => h) (Or.inl ⟨by rfl, ?_⟩) (by assumption) ?_
              rotate_left
              · (intro w hSw; (try dsimp only at hSw); go_simp; all_goals (with_reducible rfl))
              try simp only [Act.put, List.setIfInBounds_toArray, List.set_cons_zero, List.set_cons_succ]
              refine wpAnyH_ready (rs := [11]) (by kernel_rfl) (by simp) ?_
              refine AllReadyH.cons (o := ({ dst := some 41, op := Op.call { callee := Callee.value (Operand.func 94), args := #[Operand.tmp 40], argTypes := #[99] }, type := 5, pos := "ref.go:186", after := #[{ on := 10, ground := Ground.data }, { on := 7, ground := Ground.chain }, { on := 7, ground := Ground.guard }], guard := some (7, true) } : Oper)) rfl (fun K hK => ?_) AllReadyH.nil
              (go_simp; go_at_call 94; refine (HMx.out _).mono ?_; rintro e wx ⟨rfl, bx⟩; have Ba := Lib.hid (BR.out.trans (bx.mono BR.out.size)); clear bx; (try dsimp only))
              refine hK.out _ _ (HCa.out _ Ba.out) (fun hHeld => ?_)
              clear hK K
              try simp only [Act.put, List.setIfInBounds_toArray, List.set_cons_zero, List.set_cons_succ]
              refine wpAnyH_ready (rs := [15]) (by kernel_rfl) (by simp) ?_
              refine AllReadyH.cons (o := ({ dst := some 45, op := Op.call { callee := Callee.value (Operand.func 94), args := #[Operand.tmp 44], argTypes := #[99] }, type := 5, pos := "ref.go:186", after := #[{ on := 14, ground := Ground.data }, { on := 11, ground := Ground.chain }, { on := 7, ground := Ground.guard }], guard := some (7, true) } : Oper)) rfl (fun K hK => ?_) AllReadyH.nil
              (go_simp; go_at_call 94; refine (HMy.out _).mono ?_; rintro e wy ⟨rfl, bq⟩; have Bb := Lib.hid (Ba.out.trans (bq.mono Ba.out.size)); clear bq; (try dsimp only))
              refine hK.out _ _ (HCa.out _ Bb.out) (fun hHeld => ?_)
              clear hK K
              try simp only [Act.put, List.setIfInBounds_toArray, List.set_cons_zero, List.set_cons_succ]
              refine wpAnyH_take (i := 16) (oi := ({ dst := some 46, op := Op.binOp BinOp.leq 5 (Operand.tmp 41) (Operand.tmp 45) 5, type := 4, pos := "ref.go:186", after := #[{ on := 11, ground := Ground.data }, { on := 15, ground := Ground.data }, { on := 7, ground := Ground.guard }], guard := some (7, true) } : Oper)) (v := ?_) rfl (by kernel_rfl) (by kernel_rfl) (by kernel_rfl) (fun _ _ _ h => h) (Or.inl ⟨by rfl, ?_⟩) (by assumption) ?_
              rotate_left
              · (intro w hSw; (try dsimp only at hSw); go_simp; all_goals (with_reducible rfl))
              try simp only [Act.put, List.setIfInBounds_toArray, List.set_cons_zero, List.set_cons_succ]
              refine wpAnyH_take (i := 17) (oi := ({ dst := some 47, op := Op.pick (Operand.tmp 37) (Operand.tmp 46) (Operand.const (Value.bool false)), type := 4, pos := "ref.go:186", after := #[{ on := 7, ground := Ground.data }, { on := 16, ground := Ground.data }, { on := 3, ground := Ground.guard }], guard := some (3, false) } : Oper)) (v := ?_) rfl (by kernel_rfl) (by kernel_rfl) (by kernel_rfl) (fun _ _ _ h => h) (Or.inl ⟨by rfl, ?_⟩) (by assumption) ?_
              rotate_left
              · (intro w hSw; (try dsimp only at hSw); go_simp; all_goals (with_reducible rfl))
              try simp only [Act.put, List.setIfInBounds_toArray, List.set_cons_zero, List.set_cons_succ]
              refine wpAnyH_take (i := 18) (oi := ({ dst := some 48, op := Op.pick (Operand.tmp 33) (Operand.const (Value.bool true)) (Operand.tmp 47), type := 4, pos := "ref.go:186", after := #[{ on := 3, ground := Ground.data }, { on := 17, ground := Ground.data }], guard := none } : Oper)) (v := ?_) rfl (by kernel_rfl) (by kernel_rfl) (by kernel_rfl) (fun _ _ _ h => h) (Or.inl ⟨by rfl, ?_⟩) (by assumption) ?_
              rotate_left
              · (intro w hSw; (try dsimp only at hSw); go_simp; all_goals (with_reducible rfl))
              try simp only [Act.put, List.setIfInBounds_toArray, List.set_cons_zero, List.set_cons_succ]
              refine wpAnyH_done (by kernel_rfl) ?_ _
              refine NoPanic.normal ?_
              have Hb9 := Lib.hid (Bb.out.mono SW)
              have Hbw9 := Lib.hid (HbW.out.trans Hb9.out)
              have Own9 := Lib.hid (row_same4 Hown.out (fun k hk => Bb.out.block k (Hown.out.lt k hk).2))
              have S9 : B2 ≤ wy.heap.size := Nat.le_trans SW Bb.out.size
              clear Hown HbW PR
              obtain ⟨_, e9, _, k0, k1, k2⟩ := Rd_head (Hrb.out.below Hb9.out)
              obtain rfl := Option.some.inj e9
              clear e9
              go_wp2_with (at_builtin; refine wpList_append_own _ rfl _ _ 77 rfl B2 99 i0 _ 3 8 Tryz.underlying77 hi hz0 hz1 hz2 rfl (by decide) _ _ _ rfl (Own9.out.alloc _) ⟨wy.heap.size, 0, none⟩ 1 1 [.int .i32 y.1, .bool (y.2.2 != 0), .int .u8 (y.2.2 : Int)] rfl rfl (new_cells wy [.int .i32 y.1, .bool (y.2.2 != 0), .int .u8 (y.2.2 : Int)] 99) (by simp [Value.oneCell']) (by unfold maxLen; omega) (by omega) (by simp; omega) ?_; intro v' w9 own9 g9 _; have OwnN := Lib.hid own9; have BN := Lib.hid ((Hbw9.out.alloc S9 (.cells #[.int .i32 y.1, .bool (y.2.2 != 0), .int .u8 (y.2.2 : Int)] 99)).grown g9 (by simp; omega) (fun k hk => (Own9.out.lt k hk).1)); have BW := Lib.hid ((Hb9.out.alloc S9 (.cells #[.int .i32 y.1, .bool (y.2.2 != 0), .int .u8 (y.2.2 : Int)] 99)).grown g9 (by simp; omega) (fun k hk => (Own9.out.lt k hk).1)); clear own9 g9; rcases Classical.em (cb = 1) with hc1 | hc1)
              all_goals go_wp2_with fail
              · refine ⟨⟨(x :: xt), yt, ys ++ [y], (some a), (some b), ca, 0, _, rfl, by rw [hna], by rw [hlb, show nb - 1 = 0 by omega], by rw [hna]; omega, by rw [hlb]; omega, Lib.hid (by rw [hna]; exact Hra.out.below BW.out), Lib.hid (by rw [hlb, show nb - 1 = 0 by omega]; have e : yt = [] := List.eq_nil_of_length_eq_zero (by omega); rw [e]; exact Rd.nil _ _ _ _), Lib.hid ?_, BN, Lib.hid ?_, Lib.hid ⟨Hit.out.1, fun p hp => Hit.out.2 p (List.mem_cons_of_mem _ hp)⟩, ?_⟩, ?_⟩
                · rw [List.length_append, flat_append, show flat encI [y] = encI y by simp [flat]]
                  exact OwnN.out
                · rw [← Hnx.out, List.append_assoc]
                all_goals first | (simp only [lenV4]; omega) | (rw [List.length_append]; simp [hlb]; omega) | (rw [List.length_append]; simp [hlb]; done) | (rw [List.length_append]; done) | (simp [hlb]; omega)
              · refine ⟨⟨(x :: xt), yt, ys ++ [y], (some a), (some ⟨b.block, b.off + 3, none⟩), ca, (cb - 1), _, rfl, by rw [hna], by rw [hlb], by rw [hna]; omega, by rw [hlb]; omega, Lib.hid (by rw [hna]; exact Hra.out.below BW.out), Lib.hid (by have h := Rd_drop (Hrb.out.below BW.out) (k := 1) (by omega); rw [hlb]; rw [show b.add (1 * 3) = ⟨b.block, b.off + 3, none⟩ by simp [Addr.add]] at h; exact h), Lib.hid ?_, BN, Lib.hid ?_, Lib.hid ⟨Hit.out.1, fun p hp => Hit.out.2 p (List.mem_cons_of_mem _ hp)⟩, ?_⟩, ?_⟩
                · rw [List.length_append, flat_append, show flat encI [y] = encI y by simp [flat]]
                  exact OwnN.out
                · rw [← Hnx.out, List.append_assoc]
                all_goals first | (simp only [lenV4]; omega) | (rw [List.length_append]; simp [hlb]; omega) | (rw [List.length_append]; simp [hlb]; done) | (rw [List.length_append]; done) | (simp [hlb]; omega)
end Go.Proofs.YtjkakemlhhieoaaGreatDoor

/- The document's ordered: rows cut, rows put in order (pure, and the cut walked). -/
namespace Go.Proofs.YtjkakemlhhieoaaGreatDoor
open Go.RowKit Go.Lib

theorem below_self {w : World} : Below w.heap.size w w := Below.refl _ w
theorem ord_more {ps out R : List Pc} {f k : Nat} {x : Pc} (hfk : f ≤ k) (hx : ps[k]? = some x) (h : out ++ ordR numP ((ps.drop f).take (k - f)) (ps.drop k) = R) (hn : numP x ≠ 0) : out ++ ordR numP ((ps.drop f).take (k + 1 - f)) (ps.drop (k + 1)) = R := by
  obtain ⟨hk, rfl⟩ := List.getElem?_eq_some_iff.1 hx
  rw [← h, List.drop_eq_getElem_cons hk, ordR_more numP _ _ hn]
  congr 2
  have e : k + 1 - f = (k - f) + 1 := by omega
  rw [e, List.take_add_one, List.getElem?_drop, show f + (k - f) = k by omega, List.getElem?_eq_getElem hk]
  rfl
theorem ord_cut {ps out R : List Pc} {f k : Nat} {x : Pc} (hx : ps[k]? = some x) (h : out ++ ordR numP ((ps.drop f).take (k - f)) (ps.drop k) = R) (hn : numP x = 0) : (out ++ bucket numP ((ps.drop f).take (k - f)) ++ [x]) ++ ordR numP ((ps.drop (k + 1)).take (k + 1 - (k + 1))) (ps.drop (k + 1)) = R := by
  obtain ⟨hk, rfl⟩ := List.getElem?_eq_some_iff.1 hx
  rw [← h, List.drop_eq_getElem_cons hk, ordR_zero numP _ _ hn]
  simp
theorem ord_last {ps out R : List Pc} {f k : Nat} (hk : k = ps.length) (h : out ++ ordR numP ((ps.drop f).take (k - f)) (ps.drop k) = R) : out ++ bucket numP ((ps.drop f).take (k - f)) = R := by
  have e : ps.drop k = [] := List.drop_of_length_le (by omega)
  rw [← h, e, ordR_nil]
set_option maxRecDepth 100000 in
theorem slice_items (W : World) (A : Option Addr) (n c f k : Nat) (h1 : f ≤ k) (h2 : k ≤ c) : (Instr.slice 77 (.slice A n c) (some (.int .i64 (f : Int))) (some (.int .i64 (k : Int))) none).run Tryz.prog W = .ok (sliced A f k c 3) W := by
  have h := run_slice_lh (P := Tryz.prog) W 77 A n c (show Tryz.prog.underlying 77 = some (.slice (Tryz.prog.elem 77)) from Tryz.underlying77) .i64 .i64 (f : Int) (k : Int) (by omega) (by omega) (by omega)
  rw [h]
  have hs : (sizeOf (Tryz.prog.elem 77)).run Tryz.prog W = .ok 3 W := by rfl
  rw [hs]
  simp
/-- the part of a row, put in order -/
theorem part_sorted (ps : List Pc) (A : Option Addr) (n c f k : Nat) (w : World) (hl : ps.length = n) (hnc : n ≤ c) (hcm : c ≤ maxLen) (hnil : A = none → c = 0) (hfk : f ≤ k) (hkn : k ≤ n) (hn : n ≤ 1073741824) (hit : ∀ p ∈ ps, ItP p) (hrd : Rd w w.heap.size 3 A n (flat encI ps)) :
    Calls Tryz.prog 95 #[sliced A f k c 3] w (SortAt w ((ps.drop f).take (k - f))) := by
  have hrl : ((ps.drop f).take (k - f)).length = k - f := by rw [List.length_take, List.length_drop]; omega
  have hrit : ∀ p ∈ (ps.drop f).take (k - f), ItP p := fun p hp => hit p (List.mem_of_mem_drop (List.mem_of_mem_take hp))
  unfold sliced
  by_cases hcf : c = f
  · rw [if_pos hcf]
    have h0 : k - f = 0 := by omega
    have hnl : (ps.drop f).take (k - f) = [] := by rw [h0]; rfl
    have h1 := rsorted_any 0 [] (by simp) (fun _ h => by cases h) (by simp) A 0 w (by simp) (by omega) (fun _ => rfl) (Rd.nil _ _ _ _)
    rw [hnl, h0, show c - f = 0 by omega]
    exact h1
  · rw [if_neg hcf]
    cases A with
    | none => have := hnil rfl; omega
    | some a =>
      have hr := Rd_take (Rd_drop hrd (k := f) (by omega)) (k := k - f) (by omega)
      have h1 := rsorted_any (k - f) ((ps.drop f).take (k - f)) (by omega) hrit (by omega) (some (a.add (f * 3))) (c - f) w (by omega) (by omega) (fun e => by cases e) (by rw [hrl]; exact hr)
      rw [hrl] at h1
      exact h1

end Go.Proofs.YtjkakemlhhieoaaGreatDoor

/- The document's ordered, walked. -/
namespace Go.Proofs.YtjkakemlhhieoaaGreatDoor
open Go.RowKit Go.Lib

set_option maxRecDepth 100000 in
set_option maxHeartbeats 4000000 in
theorem rordered_any (ps : List Pc) (A : Option Addr) (n c : Nat) (w : World) (hl : ps.length = n) (hnc : n ≤ c) (hcm : c ≤ maxLen) (hnil : A = none → c = 0) (hn : n ≤ 536870912) (hit : ∀ p ∈ ps, ItP p) (hrd : Rd w w.heap.size 3 A n (flat encI ps)) :
    Calls Tryz.prog 80 #[.slice A n c] w fun e w' => ∃ v, e = .returned v ∧ w'.ownsRow w.heap.size 99 3 v n (flat encI (ordZ numP ps)) ∧ Below w.heap.size w w' := by
  obtain ⟨i0, hi, hz0, hz1, hz2⟩ := info_parts item_info
  have hRl : (ordZ numP ps).length = n := by
    unfold ordZ
    rw [ordR_len numP ps [] (fun _ h => by cases h) (fun p hp => itP_num (hit p hp)), hl]
    simp
  have hR0 : [] ++ ordR numP ((ps.drop 0).take (0 - 0)) (ps.drop 0) = ordZ numP ps := by simp [ordZ]
  obtain ⟨R, hR⟩ : ∃ R, ordZ numP ps = R := ⟨_, rfl⟩
  rw [hR] at hRl hR0 ⊢
  obtain ⟨B, hB⟩ : ∃ B, w.heap.size = B := ⟨_, rfl⟩
  have Hit := Lib.hid hit
  have Hrd := Lib.hid (fun (W : World) (hb : Below B w W) => (show Rd W W.heap.size 3 A n (flat encI ps) from (hrd.below (by rw [hB]; exact hb)).more (by rw [hB]; have := hb.size; omega)))
  have Hl := Lib.hid hl
  have HRl := Lib.hid hRl
  have HR0 := Lib.hid hR0
  have HB := Lib.hid hB
  have Hnil := Lib.hid hnil
  have HMk := Lib.hid (fun (p : Pc) (hp : ItP p) w => rmark_any p hp w)
  have Hb0 := Lib.hid (Below.refl B w)
  rw [hB]
  clear hit hrd hl hRl hR0 hB hnil hR
  go_enter Tryz.func80, Tryz.ntmps80
  go_wp2_with fail
  go_loopw [3, 4, 5, 6] (fun v x y _ wr => ∃ (k f : Nat) (out : List Pc) (W : World), W = wr ∧ x = .int .i64 (f : Int) ∧ y = .int .i64 (k : Int) ∧ k ≤ n + 1 ∧ Hid (W.ownsRow B 99 3 v out.length (flat encI out)) ∧ Hid (Below B w W) ∧ Hid (k ≤ n → f ≤ k ∧ out ++ ordR numP ((ps.drop f).take (k - f)) (ps.drop k) = R) ∧ Hid (n < k → out = R) ∧ out.length ≤ f ∧ f ≤ k) (fun _ _ y _ _ => n + 2 - (RowKit.intOf y).toNat)
  case atStart => exact ⟨0, 0, [], _, rfl, rfl, rfl, by omega, Lib.hid (World.ownsRow_nil _ _ _ _), Hb0, Lib.hid (fun _ => ⟨Nat.le_refl _, HR0.out⟩), Lib.hid (fun h => by omega), Nat.le_refl _, Nat.le_refl _⟩
  case round =>
    obtain ⟨k, f, out, W, hW, rfl, rfl, hk, Hown, HbW, Hrun, Hend, hol, hfk0⟩ := hrel
    subst hW
    have SW : B ≤ W.heap.size := by have := HbW.out.size; have := HB.out; omega
    by_cases hkn : k ≤ n
    · have hki : (k : Int) ≤ (n : Int) := by omega
      obtain ⟨hfk, hrun⟩ := Hrun.out hkn
      have HS := Lib.hid (fun (W' : World) (hb : Below B w W') => part_sorted ps A n c f k W' Hl.out hnc hcm Hnil.out hfk hkn (by omega) Hit.out (Hrd.out W' hb))
      have Hsl := Lib.hid (fun W' => slice_items W' A n c f k hfk (by omega))
      have hrl : ((ps.drop f).take (k - f)).length = k - f := by rw [List.length_take, List.length_drop, Hl.out]; omega
      unfold SortAt at HS
      rw [hrl] at HS
      have hbl := bucket_len numP ((ps.drop f).take (k - f)) (fun p hp => itP_num (Hit.out p (List.mem_of_mem_drop (List.mem_of_mem_take hp))))
      rw [hrl] at hbl
      obtain ⟨sv, hsv⟩ : ∃ sv, sliced A f k c 3 = sv := ⟨_, rfl⟩
      rw [hsv] at HS
      simp only [hsv] at Hsl
      clear hsv hrl
      have Hrun2 := Lib.hid hrun
      clear hrun Hend Hrun
      by_cases hlt : k < n
      · have hlti : (k : Int) < (n : Int) := by omega
        obtain ⟨x, hx⟩ : ∃ x, ps[k]? = some x := ⟨_, List.getElem?_eq_getElem (by rw [Hl.out]; exact hlt)⟩
        have hitx := Hit.out x (List.mem_of_getElem? hx)
        have hcx : ∀ (W' : World), Below B w W' → ∃ a, A = some a ∧ W'.cell? (a.add (k * 3)) = some (.int .i32 x.1) ∧ W'.cell? ⟨(a.add (k * 3)).block, (a.add (k * 3)).off + 1, none⟩ = some (.bool (x.2.2 != 0)) ∧ W'.cell? ⟨(a.add (k * 3)).block, (a.add (k * 3)).off + 2, none⟩ = some (.int .u8 (x.2.2 : Int)) := by
          intro W' hb
          obtain ⟨a, rfl, hab, hc⟩ := Rd.addr (Hrd.out W' hb) (by omega)
          have hx3 : ∀ j u, (encI x)[j]? = some u → W'.cell? ((a.add (k * 3)).add j) = some u := by
            intro j u hu
            rw [add_sum]
            exact hc _ u (flat_at encI_len ps k x hx j u hu)
          refine ⟨a, rfl, ?_, ?_, ?_⟩
          · have := hx3 0 _ rfl; simpa [Addr.add] using this
          · have := hx3 1 _ rfl; simpa [Addr.add] using this
          · have := hx3 2 _ rfl; simpa [Addr.add] using this
        have Hcx := Lib.hid hcx
        obtain ⟨a, rfl, x0, x1, x2⟩ := hcx W HbW.out
        have HM := Lib.hid (HMk.out x hitx)
        obtain ⟨M, hM⟩ : ∃ M : Int, (x.2.1 : Int) = M := ⟨_, rfl⟩
        obtain ⟨xb, hxb⟩ : ∃ b, (x.2.2 != 0) = b := ⟨_, rfl⟩
        obtain ⟨xq, hxq⟩ : ∃ b, x.1 = b := ⟨_, rfl⟩
        obtain ⟨xr, hxr⟩ : ∃ b : Int, (x.2.2 : Int) = b := ⟨_, rfl⟩
        have hex : encI x = [.int .i32 xq, .bool xb, .int .u8 xr] := by unfold encI; rw [hxb, hxq, hxr]
        rw [hM, hxb, hxq, hxr] at HM
        rw [hxb] at x1
        rw [hxr] at x2
        rw [hxq] at x0
        simp only [hxb, hxq, hxr] at Hcx
        have Hex := Lib.hid hex
        clear hcx hitx hxb hxq hxr hex
        by_cases hm0 : M = 0
        · have hn0 : numP x = 0 := by show x.2.1 = 0; omega
          have Hnx := Lib.hid (ord_cut hx Hrun2.out hn0)
          have hmb : (M != 0) = false := by simp [hm0]
          clear hM hx hn0 hm0
          go_wp2_with fail
          refine (HM.out _).mono ?_
          rintro _ w1 ⟨rfl, b1⟩
          have Hb1 := Lib.hid (HbW.out.trans (b1.mono SW))
          have Own1 := Lib.hid (own_below Hown.out b1)
          have S1 : B ≤ w1.heap.size := by have := b1.size; omega
          have hslw := Hsl.out w1
          clear b1 x0 x1 x2 Hown
          go_wp2_with fail
          refine (HS.out w1 Hb1.out).mono ?_
          rintro _ w2 ⟨A2, c2, rfl, hc2, hcm2, hn2, hr2, b2⟩
          have Hb2 := Lib.hid (Hb1.out.trans (b2.mono S1))
          have Own2 := Lib.hid (own_below Own1.out b2)
          have Hr2 := Lib.hid hr2
          have S2 : B ≤ w2.heap.size := by have := b2.size; omega
          clear b2 hr2 Own1
          go_wp2_with (at_builtin; refine wpList_append_rd rfl _ _ 77 rfl B 99 i0 _ 3 8 Tryz.underlying77 hi hz0 hz1 hz2 rfl (by decide) _ _ _ rfl Own2.out _ A2 _ c2 _ rfl Hr2.out hn2 (by intro u hu; simp [flat, encI] at hu; obtain ⟨q1, q2, q3, q4, q5⟩ := hu; rcases q5 with rfl | rfl | rfl <;> rfl) (by unfold maxLen; omega) (by omega) S2 ?_)
          intro v3 w3 own3 g3
          have Hb3 := Lib.hid (Hb2.out.grown g3 S2 (fun q hq => (Own2.out.lt q hq).1))
          have Own3 := Lib.hid own3
          have S3 : B ≤ w3.heap.size := by have := g3.size; omega
          obtain ⟨_, e3, y0, y1, y2⟩ := Hcx.out w3 Hb3.out
          obtain rfl := Option.some.inj e3
          clear own3 g3 e3
          go_wp2_with (at_builtin; refine wpList_append_own _ rfl _ _ 77 rfl B 99 i0 _ 3 8 Tryz.underlying77 hi hz0 hz1 hz2 rfl (by decide) _ _ _ rfl (Own3.out.alloc _) ⟨w3.heap.size, 0, none⟩ 1 1 [.int .i32 xq, .bool xb, .int .u8 xr] rfl rfl (new_cells w3 [.int .i32 xq, .bool xb, .int .u8 xr] 99) (by simp [Value.oneCell']) (by unfold maxLen; omega) (by omega) (by simp; omega) ?_)
          intro v4 w4 own4 g4 _
          have Hb4 := Lib.hid ((Hb3.out.alloc S3 (.cells #[.int .i32 xq, .bool xb, .int .u8 xr] 99)).grown g4 (by simp; omega) (fun q hq => (Own3.out.lt q hq).1))
          have Own4 := Lib.hid own4
          clear own4 g4
          go_wp2
          go_roundw
          case rel =>
            refine ⟨k + 1, k + 1, out ++ bucket numP ((ps.drop f).take (k - f)) ++ [x], _, rfl, by go_num, by go_num, by omega, Lib.hid ?_, Hb4, Lib.hid (fun _ => ⟨Nat.le_refl _, Hnx.out⟩), Lib.hid (fun h => by omega), by rw [List.length_append, List.length_append, hbl]; simp; omega, by omega⟩
            have e1 : (out ++ bucket numP ((ps.drop f).take (k - f)) ++ [x]).length = out.length + (k - f) + 1 := by rw [List.length_append, List.length_append, hbl]; rfl
            have e2 : flat encI (out ++ bucket numP ((ps.drop f).take (k - f)) ++ [x]) = flat encI out ++ flat encI (bucket numP ((ps.drop f).take (k - f))) ++ [.int .i32 xq, .bool xb, .int .u8 xr] := by rw [flat_append, flat_append, show flat encI [x] = encI x by simp [flat], Hex.out]
            rw [e1, e2, List.append_assoc]
            exact Own4.out
          case measure => first | (simp [RowKit.intOf]; done) | (simp [RowKit.intOf]; omega)
        · have hn0 : numP x ≠ 0 := by show x.2.1 ≠ 0; omega
          have Hnx := Lib.hid (ord_more hfk hx Hrun2.out hn0)
          have hmb : (M != 0) = true := by simp [hm0]
          clear hM hx hn0 hm0
          go_wp2_with fail
          refine (HM.out _).mono ?_
          rintro _ w1 ⟨rfl, b1⟩
          have Hb1 := Lib.hid (HbW.out.trans (b1.mono SW))
          have Own1 := Lib.hid (own_below Hown.out b1)
          clear b1 x0 x1 x2 Hown
          go_wp2_with fail
          go_roundw
          case rel => exact ⟨k + 1, f, out, w1, rfl, rfl, by go_num, by omega, Own1, Hb1, Lib.hid (fun _ => ⟨by omega, Hnx.out⟩), Lib.hid (fun h => by omega), by omega, by omega⟩
          case measure => first | (simp [RowKit.intOf]; done) | (simp [RowKit.intOf]; omega)
      · obtain rfl : k = n := by omega
        have Hnx := Lib.hid (ord_last Hl.out.symm Hrun2.out)
        have hlti : ¬ (k : Int) < (k : Int) := by omega
        have hslw := Hsl.out W
        go_wp2_with fail
        refine (HS.out W HbW.out).mono ?_
        rintro _ w2 ⟨A2, c2, rfl, hc2, hcm2, hn2, hr2, b2⟩
        have Hb2 := Lib.hid (HbW.out.trans (b2.mono SW))
        have Own2 := Lib.hid (own_below Hown.out b2)
        have Hr2 := Lib.hid hr2
        have S2 : B ≤ w2.heap.size := by have := b2.size; omega
        clear b2 hr2 Hown
        go_wp2_with (at_builtin; refine wpList_append_rd rfl _ _ 77 rfl B 99 i0 _ 3 8 Tryz.underlying77 hi hz0 hz1 hz2 rfl (by decide) _ _ _ rfl Own2.out _ A2 _ c2 _ rfl Hr2.out hn2 (by intro u hu; simp [flat, encI] at hu; obtain ⟨q1, q2, q3, q4, q5⟩ := hu; rcases q5 with rfl | rfl | rfl <;> rfl) (by unfold maxLen; omega) (by omega) S2 ?_)
        intro v3 w3 own3 g3
        have Hb3 := Lib.hid (Hb2.out.grown g3 S2 (fun q hq => (Own2.out.lt q hq).1))
        have Own3 := Lib.hid own3
        clear own3 g3
        go_wp2
        go_roundw
        case rel =>
          refine ⟨k + 1, k + 1, out ++ bucket numP ((ps.drop f).take (k - f)), _, rfl, by go_num, by go_num, by omega, Lib.hid ?_, Hb3, Lib.hid (fun h => by omega), Lib.hid (fun _ => Hnx.out), by rw [List.length_append, hbl]; omega, by omega⟩
          rw [List.length_append, hbl, flat_append]
          exact Own3.out
        case measure => first | (simp [RowKit.intOf]; done) | (simp [RowKit.intOf]; omega)
    · have hki : ¬ (k : Int) ≤ (n : Int) := by omega
      have he := Hend.out (by omega)
      subst he
      have Hown2 := Hown.out
      rw [HRl.out] at Hown2
      have Hown3 := Lib.hid Hown2
      clear Hown2 Hown
      go_wp2_with fail
      go_ret
      exact ⟨_, rfl, Hown3.out, HbW.out⟩
end Go.Proofs.YtjkakemlhhieoaaGreatDoor
