/- Order of numbers. -/
import Derived.Test.YtakfgeonjamjeaaDoorRowsR
import Derived.Laws.AppendOwnNone
namespace Go.Proofs.YtakfgeonjamjeaaDoor
open Go.RowKit Go.Lib

theorem wpList_append_rd4 {P : Program} {w : World} {ops : Array Oper} {rest : List Oper} {o : Oper} {a : Act} {Q : Exit → Act → World → Prop} (hgd : o.guard = none) (s x : Operand) (t : TypeId)
    (ho : o.op = .call { callee := .builtin .append, args := #[s, x], argTypes := #[t, t] })
    (base : Nat) (e : TypeId) (i : TypeInfo) (z : Value) (bytes : Nat) (ht : P.underlying t = some (.slice e)) (hi : P.info? e = some i) (hz : i.zero = some z)
    (hsize : i.size = 1) (hby : i.bytes = bytes) (hzs : z.cells.size = 1)
    (v : Value) (n : Nat) (xs : List Value) (hs : a.eval s = v) (hown : w.ownsRow base e 1 v n xs)
    (A : Option Addr) (m c : Nat) (news : List Value) (hx : a.eval x = .slice A m c) (hnil : A = none → c = 0) (b2 : Nat) (hrd : Rd w b2 1 A m news) (h1 : ∀ u ∈ news, u.oneCell' = true)
    (h63 : n + m ≤ maxLen) (hbytes : (n + m) * bytes ≤ 140737488355328) (hbase : base ≤ w.heap.size)
    (h : ∀ v' w', w'.ownsRow base e 1 v' (n + m) (xs ++ news) → w.grownBy w' v.ownBlock → wpList P ops Q rest (a.put o.dst v') w') :
    wpList P ops Q (o :: rest) a w := by
  have hl := hrd.1
  rcases A with _ | ad
  · obtain rfl := hnil rfl
    obtain rfl : m = 0 := by
      rcases hrd.2 with h | ⟨a, e, _⟩
      · exact h
      · cases e
    obtain rfl : news = [] := List.eq_nil_of_length_eq_zero (by omega)
    refine wpList_append_own_none hgd s x t ho base e i 1 ht hi v n xs hs hown hx ?_
    exact h v w (by simpa using hown) ⟨rfl, rfl, rfl, Nat.le_refl _, fun _ _ _ => rfl⟩
  · have hc : ∀ j u, news[j]? = some u → w.cell? (ad.add j) = some u := by
      rcases hrd.2 with h | ⟨a, e, _, hc⟩
      · intro j u hu
        rw [List.eq_nil_of_length_eq_zero (show news.length = 0 by omega)] at hu
        cases hu
      · cases e
        exact hc
    exact wpList_append_own_at w hgd s x t ho base e i z 1 bytes ht hi hz hsize hby hzs (by omega) v n xs hs hown ad m c news hx hl hc h1 h63 hbytes hbase (fun v' w' a b _ c => h v' w' a b)


theorem rowsR_nil (fv : Value) (w : World) : Calls Tryd.prog 43 #[.slice none 0 0, fv] w fun e w' => e = .returned (.tuple #[]) ∧ w' = w := by
  have HS := Lib.hid (fun A c fv w => rowR_short A 0 c fv w (by omega))
  go_enter Tryd.func43, Tryd.ntmps43
  go_wp2_with fail
  refine wp_loop_rounds 1 ?_
  rw [rounds_succ]
  go_wp2_with fail
  refine (HS.out _ _ _ _).mono ?_
  rintro _ w2 ⟨rfl, h⟩
  obtain rfl := h.symm
  go_wp2_with fail
  exact ⟨rfl, _, results_none rfl _ _ _, rfl, rfl⟩
/-- a row of one's own, as a block -/
theorem own_blk {w : World} {base : Nat} {e : TypeId} {g cap sz n : Nat} {xs : List Value} (h : w.ownsRow base e sz (.slice (some ⟨g, 0, none⟩) n cap) n xs) : ∃ post, Blk w g e (xs ++ post) ∧ base ≤ g ∧ n ≤ cap ∧ cap ≤ maxLen ∧ xs.length = n * sz ∧ (xs ++ post).length = cap * sz := by
  rcases h.2 with ⟨h0, _⟩ | ⟨g', cap', cur, he, h1, h2, h3, h4, h5, h6⟩
  · cases h0
  · cases he
    refine ⟨cur.toList.drop (n * sz), ?_, h1, h3, h4, h.1, ?_⟩
    · unfold Blk
      rw [← h6, List.take_append_drop]
      exact h2
    · rw [← h6, List.take_append_drop, Array.length_toList, h5]
theorem blk_own {w : World} {base : Nat} {e : TypeId} {g cap sz n : Nat} {xs post : List Value} (h : Blk w g e (xs ++ post)) (h1 : base ≤ g) (h2 : n ≤ cap) (h3 : cap ≤ maxLen) (h4 : xs.length = n * sz) (h5 : (xs ++ post).length = cap * sz) : w.ownsRow base e sz (.slice (some ⟨g, 0, none⟩) n cap) n xs :=
  ⟨h4, .inr ⟨g, cap, _, rfl, h1, h, h2, h3, by simpa using h5, by show (xs ++ post).take (n * sz) = xs; rw [← h4, List.take_left]⟩⟩

set_option maxRecDepth 100000 in
theorem Order_any (xs : List Int) (A : Option Addr) (n c : Nat) (w : World) (hrd : Rd w w.heap.size 1 A n (runes xs)) (hnil : A = none → c = 0) (hn : n ≤ 1073741824) :
    Calls Tryd.prog 19 #[.slice A n c] w fun e w' => ∃ A' c', e = .returned (.slice A' n c') ∧ w'.ownsRow w.heap.size 21 1 (.slice A' n c') n (runes (ordZ markZ xs)) ∧ Below w.heap.size w w' := by
  obtain ⟨i0, hi, hz0, hz1, hz2⟩ := info_parts runeN_info
  have hxl : xs.length = n := by have := hrd.1; simpa using this
  have Hrd := Lib.hid hrd
  have HR := Lib.hid (fun xs R cap tb post w a b c d => rowsR_any xs R cap tb post w a b c d)
  have HN := Lib.hid rowsR_nil
  have hol : (ordZ markZ xs).length = n := by
    have := ordR_len markZ xs [] (fun _ h => by cases h) (fun x _ => markZ_lt x)
    unfold ordZ
    rw [this, hxl]
    simp
  obtain ⟨Q, hQ⟩ : ∃ Q, w.heap.size = Q := ⟨_, rfl⟩
  rw [hQ]
  have HQ := Lib.hid hQ
  clear hrd hQ
  go_enter Tryd.func19, Tryd.ntmps19
  go_wp2_with (at_builtin; refine wpList_append_rd4 rfl _ _ 22 rfl Q 21 i0 _ 4 Tryd.underlying22 hi hz0 hz1 hz2 rfl _ 0 [] rfl (World.ownsRow_nil _ _ _ _) _ _ _ _ rfl hnil _ Hrd.out ?c1 ?c2 ?c3 ?c4 ?_)
  case c1 => simp [Value.oneCell']
  case c2 => unfold maxLen; omega
  case c3 => omega
  case c4 => rw [HQ.out]; exact Nat.le_refl _
  intro v2 w2 hown2 hg2
  have hown2 : w2.ownsRow Q 21 1 v2 n (runes xs) := by simpa using hown2
  have hb2 : Below Q w w2 := (Below.refl Q w).grown hg2 (by rw [HQ.out]; exact Nat.le_refl _) (fun k hk => by cases hk)
  have Hb2 := Lib.hid hb2
  clear hb2 hg2
  rcases hown2.2 with ⟨rfl, hn0⟩ | ⟨g, cap, cur, rfl, _⟩
  · subst hn0
    have hx0 : xs = [] := List.eq_nil_of_length_eq_zero hxl
    subst hx0
    clear hown2
    go_wp2_with fail
    refine (HN.out _ _).mono ?_
    rintro _ w3 ⟨rfl, h⟩
    obtain rfl := h.symm
    go_wp2_with fail
    go_ret
    exact ⟨none, 0, rfl, World.ownsRow_nil _ _ _ _, Hb2.out⟩
  · obtain ⟨post, hbl, hQg, hnc, hcm, hlx, hlc⟩ := own_blk hown2
    rw [← flat_runes] at hbl hlc hlx
    have hr := HR.out xs g cap 21 post w2 hbl (by omega) hcm (by omega)
    rw [hxl] at hr
    have Hr := Lib.hid hr
    have hgl := hbl.lt
    clear hr hown2 hbl
    go_wp2_with fail
    refine Hr.out.mono ?_
    rintro _ w3 ⟨rfl, hb3, ho3⟩
    have Hb3 := Lib.hid hb3
    have Ho3 := Lib.hid ho3
    clear hb3 ho3
    go_wp2_with fail
    go_ret
    refine ⟨_, cap, rfl, ?_, Hb2.out.trans (Ho3.out.below.mono (by omega))⟩
    rw [← flat_runes]
    have hl3 : (flat encR (ordZ markZ xs)).length = n * 1 := by rw [flat_len encR_len, hol]
    exact blk_own Hb3.out hQg hnc hcm hl3 (by rw [List.length_append, hl3, ← hlc, List.length_append, hlx])
end Go.Proofs.YtakfgeonjamjeaaDoor
