/- Spans, walked: every table, every value. -/
import Derived.Test.YthakdkpgobloiabSpanP
import Derived.Laws.AppendOwnNone
import Derived.Laws.OwnMore
import Derived.LoopIn
namespace Go.Proofs.Ythakdkpgobloiab
open Go.RowKit Go.Lib

theorem wpList_append_two {P : Program} {w : World} {ops : Array Oper} {rest : List Oper} {o : Oper} {a : Act} {Q : Exit → Act → World → Prop} (hgd : o.guard = none) (s x : Operand) (t : TypeId)
    (ho : o.op = .call { callee := .builtin .append, args := #[s, x], argTypes := #[t, t] })
    (base : Nat) (e : TypeId) (i : TypeInfo) (z : Value) (bytes : Nat) (ht : P.underlying t = some (.slice e)) (hi : P.info? e = some i) (hz : i.zero = some z)
    (hsize : i.size = 2) (hby : i.bytes = bytes) (hzs : z.cells.size = 2)
    (v : Value) (n : Nat) (xs : List Value) (hs : a.eval s = v) (hown : w.ownsRow base e 2 v n xs)
    (base2 : Nat) (v2 : Value) (m : Nat) (news : List Value) (hx : a.eval x = v2) (hown2 : w.ownsRow base2 e 2 v2 m news) (h1 : ∀ u ∈ news, u.oneCell' = true)
    (h63 : n + m ≤ maxLen) (hbytes : (n + m) * bytes ≤ 140737488355328) (hbase : base ≤ w.heap.size)
    (h : ∀ v' w', w'.ownsRow base e 2 v' (n + m) (xs ++ news) → w.grownBy w' v.ownBlock → wpList P ops Q rest (a.put o.dst v') w') :
    wpList P ops Q (o :: rest) a w := by
  have hl := hown2.1
  rcases hown2.2 with ⟨rfl, rfl⟩ | ⟨g, cap, cur, rfl, _, hg, _, _, _, htake⟩
  · have hn : news = [] := List.eq_nil_of_length_eq_zero (by omega)
    subst hn
    refine wpList_append_own_none hgd s x t ho base e i 2 ht hi v n xs hs hown hx ?_
    exact h v w (by simpa using hown) ⟨rfl, rfl, rfl, Nat.le_refl _, fun _ _ _ => rfl⟩
  · exact wpList_append_own w hgd s x t ho base e i z 2 bytes ht hi hz hsize hby hzs (by omega) v n xs hs hown ⟨g, 0, none⟩ m cap news hx hl (hown2.cells (g := g) rfl) h1 h63 hbytes hbase (fun v' w' a b _ => h v' w' a b)

set_option maxRecDepth 100000 in
set_option maxHeartbeats 2000000 in
theorem spans_with (f : FuncId) (L : Tab) (t v : Int) (w : World) (hr : rises L = true) (h0 : headOf L = 0) (hm : ∀ e ∈ L, e.1 ≤ 1114111 ∧ e.2 < 256) (hn : L.length < 1000)
    (heg : ∀ args w, (callFunc f args).run Try.prog w = .ok (.enter f args) w)
    (hf : ∀ (r : Nat) (w : World), Calls Try.prog f #[.int .i32 (r : Int)] w fun e w' => e = .returned (.tuple #[.int .u8 (cls L r : Nat), .int .i32 (endFrom L r : Nat)]) ∧ Below w.heap.size w w')
    (ht : Calls Try.prog 38 #[.int .i8 t] w fun e w' => e = .returned (.func (.func f) #[] #[]) ∧ w' = w) :
    Calls Try.prog 17 #[.int .i8 t, .int .i64 v] w fun e w' => ∃ u, e = .returned u ∧ w'.ownsRow w.heap.size 35 2 u (spansFrom L v).length (spCells (spansFrom L v)) ∧ Below w.heap.size w w' := by
  obtain ⟨i0, hi, hz0, hz1, hz2⟩ := info_parts span_info
  obtain ⟨B, hB⟩ : ∃ B, w.heap.size = B := ⟨_, rfl⟩
  have HB := Lib.hid hB
  have hBle : B ≤ w.heap.size := by omega
  have hnil : ∀ w, (binOp .eql 51 (.func (.func f) #[] #[]) .nilFunc).run Try.prog w = .ok (.bool false) w := fun w => by rfl
  have Ht := Lib.hid ht
  have Hf := Lib.hid hf
  have Hm := Lib.hid hm
  rw [hB]
  clear ht hf hm hB
  go_enter Try.func17, Try.ntmps17
  go_wp2_with fail
  refine Ht.out.mono ?_
  rintro _ w ⟨rfl, rfl⟩
  go_wp2_with fail
  go_loopw [6, 7] (fun u i wr => ∃ (pre rest : Tab) (acc : List (Nat × Nat)), i = .int .i32 (headOf rest : Nat) ∧ wr.ownsRow B 35 2 u acc.length (spCells acc) ∧ Below B w wr ∧ Hid (L = pre ++ rest) ∧ Hid (acc ++ spansFrom rest v = spansFrom L v) ∧ acc.length ≤ 2 * pre.length) (fun _ i _ => 1114112 - (RowKit.intOf i).toNat)
  case atStart => exact ⟨[], L, [], by rw [h0]; rfl, World.ownsRow_nil _ _ _ _, Below.refl _ _, by unfold Hid; rfl, by unfold Hid; rfl, Nat.zero_le _⟩
  case round =>
    obtain ⟨pre, rest, acc, rfl, hown, hbw, hL, hacc, hal⟩ := hrel
    cases rest with
    | nil =>
      have hz : ¬ (((headOf [] : Nat) : Int) ≤ 1114111) := by decide
      have hz2 : ((headOf [] : Nat) : Int) = 1114112 := rfl
      rw [hz2] at hz ⊢
      have hq : acc = spansFrom L v := by have := hacc.out; simpa [spansFrom] using this
      have Hq := Lib.hid hq
      clear hq hacc hz2
      go_wp2_with fail
      go_ret
      rw [← Hq.out]
      exact ⟨_, rfl, hown, hbw⟩
    | cons e t' =>
      obtain ⟨f0, c⟩ := e
      have hrr := hr
      rw [hL.out] at hrr
      obtain ⟨k1, k2⟩ := cls_part pre 0 f0 c t' hrr
      rw [← hL.out] at k1 k2
      obtain ⟨k3, k4⟩ := part_head pre f0 c t' hrr (fun x hx => (Hm.out x (by rw [hL.out]; exact hx)).1)
      have k5 := (Hm.out (f0, c) (by rw [hL.out]; simp)).2
      have k6 : pre.length + 1 ≤ L.length := by rw [hL.out]; simp
      have hcl : cls L f0 = c := k1
      have hask := Hf.out f0
      rw [hcl, k2] at hask
      obtain ⟨to, hto⟩ : ∃ to, headOf t' - 1 = to := ⟨_, rfl⟩
      rw [hto] at hask
      have hacc2 := hacc.out
      simp only [spansFrom, hto] at hacc2
      have Hacc := Lib.hid hacc2
      have HL := Lib.hid (show L = (pre ++ [(f0, c)]) ++ t' by rw [hL.out]; simp)
      have hz : ((headOf ((f0, c) :: t') : Nat) : Int) = (f0 : Int) := rfl
      rw [hz]
      have hf1 : (f0 : Int) ≤ 1114111 := by omega
      have hw1 : IntKind.i64.wrap (c : Int) = (c : Int) := IntWalk.i64_in _ (by omega)
      have hw2 : IntKind.i32.wrap ((to : Int) + 1) = ((headOf t' : Nat) : Int) := by rw [show (to : Int) + 1 = ((headOf t' : Nat) : Int) by omega]; exact IntWalk.i32_in _ (by omega)
      have htl : to ≤ 1114111 := by omega
      have hfl : f0 ≤ 1114111 := by omega
      have Hask := Lib.hid hask
      have Hown := Lib.hid hown
      have Hbw := Lib.hid hbw
      have hBr : B ≤ wr.heap.size := Nat.le_trans hBle hbw.size
      clear hrr k1 k2 hcl hask hacc hacc2 hL hz hto hown hbw k5
      by_cases hv : (c : Int) = v
      · have hb : ((c : Int) == v) = true := by simpa using hv
        have hal' := charsOf_len f0 to
        have h63 : acc.length + (charsOf f0 to).length ≤ maxLen := by unfold maxLen; omega
        have hby : (acc.length + (charsOf f0 to).length) * 8 ≤ 140737488355328 := by omega
        have Hv := Lib.hid hv
        clear hv
        go_wp2_with (go_at_fn f; refine (Hask.out _).mono ?_; rintro _ w1 ⟨rfl, b1⟩; have B1 := Lib.hid b1; clear b1)
        refine (characters_any f0 to hfl htl w1).mono ?_
        rintro _ w2 ⟨u2, rfl, own2, b2⟩
        have Hown1 := Lib.hid ((own_below Hown.out B1.out))
        have hs1 := B1.out.size
        have hs2 := b2.size
        have Hown2 := Lib.hid (own_below Hown1.out b2)
        have B2 := Lib.hid b2
        have Own2 := Lib.hid own2
        clear b2 own2
        go_wp2_with (at_builtin; refine wpList_append_two rfl _ _ 31 rfl B 35 i0 _ 8 Try.underlying31 hi hz0 hz1 hz2 rfl _ _ _ rfl Hown2.out _ _ _ _ rfl Own2.out (spCells_one _) h63 hby (by omega) ?_; intro v3 w3 own3 g3; have B3 := Lib.hid ((Hbw.out.trans ((B1.out.mono hBr).trans (B2.out.mono (Nat.le_trans hBr hs1)))).grown g3 (by omega) (fun k hk => (Hown2.out.lt k hk).1)); rw [← List.length_append, ← spCells_append] at own3; have Own3 := Lib.hid own3; clear own3 g3)
        go_roundw
        case rel =>
          refine ⟨pre ++ [(f0, c)], t', acc ++ charsOf f0 to, rfl, Own3.out, B3.out, HL, ?_, by simp; omega⟩
          unfold Hid
          have := Hacc.out
          rw [if_pos Hv.out] at this
          rw [List.append_assoc]
          exact this
        case measure => simp [RowKit.intOf]; omega
      · have hb : ((c : Int) == v) = false := by simpa using hv
        have Hv := Lib.hid hv
        clear hv
        go_wp2_with (go_at_fn f; refine (Hask.out _).mono ?_; rintro _ w1 ⟨rfl, b1⟩; have B1 := Lib.hid b1; clear b1)
        go_roundw
        case rel =>
          refine ⟨pre ++ [(f0, c)], t', acc, rfl, own_below Hown.out B1.out, Hbw.out.trans (B1.out.mono hBr), HL, ?_, by simp; omega⟩
          unfold Hid
          have := Hacc.out
          rw [if_neg Hv.out] at this
          exact this
        case measure => simp [RowKit.intOf]; omega
end Go.Proofs.Ythakdkpgobloiab
