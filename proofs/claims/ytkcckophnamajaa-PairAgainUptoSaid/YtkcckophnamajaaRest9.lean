/- Layer 9, the document: rest. -/
import Derived.Test.YtkcckophnamajaaRd9
import Derived.Maps.AppendAt
import Derived.Laws.AppendOwnNone
set_option linter.unusedSimpArgs false
set_option linter.unusedVariables false
namespace Go.Proofs.Ytkcckophnamajaa
open Go.RowKit Go.Lib

/-- behind a row of one's own what a list holds that is read, nil too -/
theorem wpList_append_rd9 {P : Program} {w : World} {ops : Array Oper} {rest : List Oper} {o : Oper} {a : Act} {Q : Exit → Act → World → Prop} (hgd : o.guard = none) (s x : Operand) (t : TypeId)
    (ho : o.op = .call { callee := .builtin .append, args := #[s, x], argTypes := #[t, t] })
    (base : Nat) (e : TypeId) (i : TypeInfo) (z : Value) (size bytes : Nat) (ht : P.underlying t = some (.slice e)) (hi : P.info? e = some i) (hz : i.zero = some z)
    (hsize : i.size = size) (hby : i.bytes = bytes) (hzs : z.cells.size = size) (hsz : 0 < size)
    (v : Value) (n : Nat) (xs : List Value) (hs : a.eval s = v) (hown : w.ownsRow base e size v n xs)
    (A : Option Addr) (m c : Nat) (news : List Value) (hx : a.eval x = .slice A m c) (hnil : A = none → c = 0) (b2 : Nat) (hrd : Rd w b2 size A m news) (h1 : ∀ u ∈ news, u.oneCell' = true)
    (h63 : n + m ≤ maxLen) (hbytes : (n + m) * bytes ≤ 140737488355328) (hbase : base ≤ w.heap.size)
    (h : ∀ v' w', w'.ownsRow base e size v' (n + m) (xs ++ news) → w.grownBy w' v.ownBlock → wpList P ops Q rest (a.put o.dst v') w') :
    wpList P ops Q (o :: rest) a w := by
  have hl := hrd.1
  rcases A with _ | ad
  · obtain rfl := hnil rfl
    obtain rfl : m = 0 := by
      rcases hrd.2 with h | ⟨a, e, _⟩
      · exact h
      · cases e
    obtain rfl : news = [] := List.eq_nil_of_length_eq_zero (by omega)
    refine wpList_append_own_none hgd s x t ho base e i size ht hi v n xs hs hown hx ?_
    exact h v w (by simpa using hown) ⟨rfl, rfl, rfl, Nat.le_refl _, fun _ _ _ => rfl⟩
  · have hc : ∀ j u, news[j]? = some u → w.cell? (ad.add j) = some u := by
      rcases hrd.2 with h | ⟨a, e, _, hc⟩
      · intro j u hu
        subst h
        rw [List.eq_nil_of_length_eq_zero (show news.length = 0 by omega)] at hu
        cases hu
      · cases e
        exact hc
    exact wpList_append_own_at w hgd s x t ho base e i z size bytes ht hi hz hsize hby hzs hsz v n xs hs hown ad m c news hx hl hc h1 h63 hbytes hbase (fun v' w' a b _ c => h v' w' a b)
theorem one_cells9 (l : List Int) : ∀ u ∈ i8s l, u.oneCell' = true := by
  intro u hu
  obtain ⟨x, _, rfl⟩ := List.mem_map.1 hu
  rfl

/- a stretch -/
theorem stretch : ∀ l : List Int, ∃ N t, l = N ++ t ∧ (∀ k ∈ N, neuZ k = true) ∧ (t = [] ∨ ∃ k t', t = k :: t' ∧ neuZ k = false)
  | [] => ⟨[], [], rfl, (fun _ h => by cases h), .inl rfl⟩
  | k :: l => by
    by_cases h : neuZ k = true
    · obtain ⟨N, t, e, hN, ht⟩ := stretch l
      exact ⟨k :: N, t, by rw [e]; rfl, (fun x hx => by rcases List.mem_cons.1 hx with rfl | hx; exact h; exact hN x hx), ht⟩
    · exact ⟨[], k :: l, rfl, (fun _ h => by cases h), .inr ⟨k, l, rfl, by simpa using h⟩⟩
theorem rst_row (e eos : Int) (t : List Int) : ∀ (N : List Int) (a : Int) (c : Nat), (∀ k ∈ N, neuZ k = true) → rstZ e eos a c (N ++ t) = rstZ e eos a (c + N.length) t
  | [], a, c, _ => by simp
  | k :: N, a, c, h => by
    have hk := h k (by simp)
    rw [List.cons_append, rstZ, if_pos hk, rst_row e eos t N a (c + 1) (fun x hx => h x (by simp [hx])), List.length_cons, show c + 1 + N.length = c + (N.length + 1) by omega]
/-- the direction behind -/
def behZ (eos : Int) : List Int → Int
  | [] => eos
  | k :: _ => wayZ k
theorem rst_off (e eos : Int) {t : List Int} (h : t = [] ∨ ∃ k t', t = k :: t' ∧ neuZ k = false) (a a' : Int) (c : Nat) : rstZ e eos a c t = List.replicate c (if a = behZ eos t then a else e) ++ rstZ e eos a' 0 t := by
  rcases h with rfl | ⟨k, t', rfl, hk⟩
  · have e1 : rstZ e eos a' 0 [] = [] := by rw [rstZ]; rfl
    rw [e1, rstZ, List.append_nil]
    rfl
  · have e1 : rstZ e eos a' 0 (k :: t') = k :: rstZ e eos (wayZ k) 0 t' := by
      rw [rstZ, if_neg (by rw [hk]; decide)]
      rfl
    rw [e1, rstZ, if_neg (by rw [hk]; decide)]
    rfl
theorem rst_skip (e eos a : Int) {k : Int} (h : neuZ k = false) (t : List Int) : rstZ e eos a 0 (k :: t) = k :: rstZ e eos (wayZ k) 0 t := by
  rw [rstZ, if_neg (by rw [h]; decide)]
  rfl
/-- the direction ahead -/
def ahdZ (sos : Int) (p : List Int) : Int := match p.getLast? with | none => sos | some y => wayZ y
theorem ahdZ_nil (sos : Int) : ahdZ sos [] = sos := rfl
theorem ahdZ_snoc (sos : Int) (p : List Int) (y : Int) : ahdZ sos (p ++ [y]) = wayZ y := by simp [ahdZ]
/-- what holds between two stretches -/
def RstI (w : World) (Q : Nat) (A1 : Option Addr) (c1 n : Nat) (L R : List Int) (e eos sos : Int) (W : World) (d p t : List Int) : Prop :=
  L = p ++ t ∧ d.length = p.length ∧ (∃ a, d ++ rstZ e eos a 0 t = R ∧ (∀ k t', t = k :: t' → neuZ k = true → a = ahdZ sos p)) ∧ W.ownsRow Q 33 1 (.slice A1 n c1) n (i8s (d ++ t)) ∧ Below Q w W ∧ Q ≤ W.heap.size
set_option maxRecDepth 100000 in
set_option maxHeartbeats 2000000 in
theorem rest_any9 (A : Option Addr) (n c : Nat) (L : List Int) (e sos eos : Int) (w : World) (hrd : RdK w A n L) (hn : n ≤ 140737488355328) (hnil : A = none → c = 0) :
    Calls Try.prog 36 #[.slice A n c, .int .i8 e, .int .i8 sos, .int .i8 eos] w (NewAt n (rstZ e eos sos 0 L) w) := by
  obtain ⟨i0, hi, hz0, hz1, hz2⟩ := info_parts i8_info
  have hLl := hrd.len
  have HN := Lib.hid Neutral_any
  have HW := Lib.hid Way_any
  obtain ⟨R, hR⟩ : ∃ R, rstZ e eos sos 0 L = R := ⟨_, rfl⟩
  rw [hR]
  unfold NewAt
  obtain ⟨Q, hQ⟩ : ∃ Q, w.heap.size = Q := ⟨_, rfl⟩
  rw [hQ]
  have HQ := Lib.hid hQ
  have HR := Lib.hid hR
  have Hrd := Lib.hid hrd
  clear hrd hQ hR
  go_enter Try.func36, Try.ntmps36
  go_wp2_with (at_builtin; refine wpList_append_rd9 rfl _ _ 23 rfl Q 33 i0 _ 1 1 Try.underlying23 hi hz0 hz1 hz2 rfl (by decide) _ 0 [] rfl (World.ownsRow_nil _ _ _ _) _ _ _ _ rfl hnil _ Hrd.out (one_cells9 _) ?c1 ?c2 ?c3 ?_)
  case c1 => unfold maxLen; omega
  case c2 => omega
  case c3 => have := HQ.out; omega
  intro v1 w1 o1 g1
  have o1' : w1.ownsRow Q 33 1 v1 n (i8s L) := by simpa using o1
  obtain ⟨A1, c1, hv1, _, _⟩ := own_shape o1'
  subst hv1
  have B1 : Below Q w w1 := (Below.refl Q w).grown g1 (by have := HQ.out; omega) (fun k hk => by cases hk)
  have H1 := Lib.hid (show RstI w Q A1 c1 n L R e eos sos w1 [] [] L from ⟨rfl, rfl, ⟨sos, HR.out, fun _ _ _ _ => rfl⟩, o1', B1, by have := B1.size; have := HQ.out; omega⟩)
  clear o1 o1' g1 B1 HR
  go_wp2_with fail
  go_loopw [10] (fun x wr => ∃ (d p t : List Int) (W : World), W = wr ∧ x = .int .i64 (p.length : Int) ∧ Hid (RstI w Q A1 c1 n L R e eos sos W d p t)) (fun x _ => n - (RowKit.intOf x).toNat)
  case atStart => exact ⟨[], [], L, _, rfl, rfl, H1⟩
  case round =>
    obtain ⟨d, p, t, W, hW, rfl, HI⟩ := hrel
    subst hW
    have hl : p.length + t.length = n := by have := congrArg List.length HI.out.1; rw [hLl, List.length_append] at this; omega
    have hrw : RdK W A n (p ++ t) := by rw [← HI.out.1]; exact Hrd.out.below (by rw [HQ.out]; exact HI.out.2.2.2.2.1)
    have HrW := Lib.hid hrw
    rcases t with _ | ⟨k, t⟩
    · have hpl : p.length = n := by simpa using hl
      rw [hpl]
      have hnn : ¬ (n : Int) < (n : Int) := by omega
      have HF := Lib.hid (show W.ownsRow Q 33 1 (.slice A1 n c1) n (i8s R) ∧ Below Q w W from by
        obtain ⟨_, _, ⟨a, h3, _⟩, h4, h5, _⟩ := HI.out
        rw [← h3]
        exact ⟨by simpa [rstZ] using h4, h5⟩)
      clear hl hpl HI hrw HrW
      go_wp2_with fail
      go_ret
      exact ⟨_, _, rfl, HF.out⟩
    · obtain ⟨a0, hA, hin, hcell⟩ := hrw.at
      rw [List.length_cons] at hl
      have hini : (p.length : Int) < (n : Int) := by omega
      have hnext : IntKind.i64.wrap ((p.length : Int) + 1) = (p.length : Int) + 1 := IntWalk.i64_in _ (by omega)
      by_cases hk : neuZ k = true
      · obtain ⟨N, t2, et, hN, ht2⟩ := stretch (k :: t)
        have hN1 : 1 ≤ N.length := by
          rcases N with _ | ⟨x, N⟩
          · rw [List.nil_append] at et
            rcases ht2 with h | ⟨k', t', h, hk'⟩
            · rw [h] at et; cases et
            · rw [h] at et
              injection et with e1 _
              rw [← e1, hk] at hk'
              cases hk'
          · simp
        have HI' := HI.out
        rw [et] at HI' HrW
        obtain ⟨m, hm⟩ : ∃ m, N.length = m := ⟨_, rfl⟩
        have hmt : m + t2.length = t.length + 1 := by have := congrArg List.length et; simp at this; omega
        subst hA
        obtain ⟨i, hi'⟩ : ∃ i, p.length = i := ⟨_, rfl⟩
        obtain ⟨j, hj⟩ : ∃ j, i + m = j := ⟨_, rfl⟩
        rw [hi'] at hin hcell hini hnext hl ⊢
        have hjn : j ≤ n := by omega
        obtain ⟨va, hva⟩ : ∃ va, ahdZ sos p = va := ⟨_, rfl⟩
        obtain ⟨vb, hvb⟩ : ∃ vb, behZ eos t2 = vb := ⟨_, rfl⟩
        have hat : ∀ (p' t' : List Int) (x : Int), p ++ (N ++ t2) = p' ++ x :: t' → W.cell? (a0.add p'.length) = some (.int .i8 x) := fun p' t' x e => by
          have h := HrW.out
          rw [e] at h
          obtain ⟨a1, hA1, _, hc1⟩ := h.at
          injection hA1 with hA1
          rw [← hA1] at hc1
          exact hc1
        have Hrow := Lib.hid (show ∀ q, i ≤ q → q < j → ∃ x, W.cell? (a0.add q) = some (.int .i8 x) ∧ neuZ x = true from fun q h1 h2 => by
          have hq : q - i < N.length := by omega
          refine ⟨N[q - i], ?_, hN _ (List.getElem_mem hq)⟩
          have e : p ++ (N ++ t2) = (p ++ N.take (q - i)) ++ N[q - i] :: (N.drop (q - i + 1) ++ t2) := by
            have h3 := List.take_append_drop (q - i) N
            rw [List.drop_eq_getElem_cons hq] at h3
            have h5 : N ++ t2 = N.take (q - i) ++ N[q - i] :: (N.drop (q - i + 1) ++ t2) := by rw [← List.cons_append, ← List.append_assoc, h3]
            rw [h5, List.append_assoc]
          have h4 := hat _ _ _ e
          rw [List.length_append, List.length_take, Nat.min_eq_left (by omega), hi', show i + (q - i) = q by omega] at h4
          exact h4)
        have Hend := Lib.hid (show j < n → ∃ x, W.cell? (a0.add j) = some (.int .i8 x) ∧ neuZ x = false ∧ wayZ x = vb from fun h => by
          rcases ht2 with h1 | ⟨x, t', h1, hx⟩
          · rw [h1] at hmt; simp at hmt; omega
          · refine ⟨x, ?_, hx, by rw [← hvb, h1]; rfl⟩
            have h4 := hat (p ++ N) t' x (by rw [h1]; simp)
            rw [List.length_append, hi', hm, hj] at h4
            exact h4)
        have Hend0 := Lib.hid (show j = n → eos = vb from fun h => by
          have : t2.length = 0 := by omega
          rw [← hvb, List.eq_nil_of_length_eq_zero this]
          rfl)
        have Hbeg0 := Lib.hid (show i = 0 → sos = va from fun h => by
          rw [← hva, List.eq_nil_of_length_eq_zero (show p.length = 0 by omega)]
          rfl)
        have Hbeg := Lib.hid (show 0 < i → ∃ y, W.cell? (a0.add (i - 1)) = some (.int .i8 y) ∧ wayZ y = va from fun h => by
          rcases List.eq_nil_or_concat p with h0 | ⟨p', y, h0⟩
          · rw [h0] at hi'; simp at hi'; omega
          · rw [List.concat_eq_append] at h0
            refine ⟨y, ?_, by rw [← hva, h0, ahdZ_snoc]⟩
            have h4 := hat p' (N ++ t2) y (by rw [h0]; simp)
            rw [show p'.length = i - 1 by rw [← hi', h0]; simp] at h4
            exact h4)
        obtain ⟨v, hv, hv2⟩ : ∃ v, ((va = vb ∧ v = va) ∨ (va ≠ vb ∧ v = e)) ∧ v = if va = vb then va else e := by
          by_cases h : va = vb
          · exact ⟨va, .inl ⟨h, rfl⟩, by rw [if_pos h]⟩
          · exact ⟨e, .inr ⟨h, rfl⟩, by rw [if_neg h]⟩
        have HDone := Lib.hid (show ∀ W', W'.ownsRow Q 33 1 (.slice A1 n c1) n (i8s ((d ++ List.replicate N.length v) ++ t2)) → Below Q w W' → Q ≤ W'.heap.size → RstI w Q A1 c1 n L R e eos sos W' (d ++ List.replicate N.length v) (p ++ N) t2 from fun W' h1 h2 h3 => by
          obtain ⟨g1, g2, ⟨a, g3, g4⟩, _⟩ := HI'
          have ha : a = va := by
            rw [← hva]
            rcases N with _ | ⟨x, N⟩
            · simp at hN1
            · exact g4 x (N ++ t2) rfl (hN x (by simp))
          refine ⟨by rw [g1]; simp, by simp [g2], ⟨va, ?_, fun x t' ex hx => ?_⟩, h1, h2, h3⟩
          · rw [← g3, rst_row e eos t2 N a 0 hN, Nat.zero_add, rst_off e eos ht2 a va, ha, hvb, ← hv2, List.append_assoc]
          · rcases ht2 with h5 | ⟨x', t'', h5, hx'⟩
            · rw [h5] at ex; cases ex
            · rw [h5] at ex
              injection ex with ex _
              rw [ex, hx] at hx'
              cases hx')
        have HW0 := Lib.hid (show W.ownsRow Q 33 1 (.slice A1 n c1) n (i8s (d ++ (N ++ t2))) ∧ Below Q w W ∧ Q ≤ W.heap.size from ⟨HI'.2.2.2.1, HI'.2.2.2.2.1, HI'.2.2.2.2.2⟩)
        have Hm := Lib.hid hm
        have Hj := Lib.hid hj
        have Hdl := Lib.hid (show d.length = i by rw [HI'.2.1, hi'])
        have Hpl := Lib.hid (show (p ++ N).length = j by rw [List.length_append, hi', hm, hj])
        have Hij := Lib.hid (show i < j ∧ j ≤ n by omega)
        have hkn := Lib.hid hk
        clear hva hvb hat hN ht2 et HI HI' HrW hN1 hm hmt hj hl hi' hv2 hrw
        go_wp2_with fail
        refine (HN.out _ _).mono ?_
        rintro _ w9 ⟨rfl, h9⟩
        obtain rfl := h9.symm
        rw [hkn.out]
        go_wp2_with fail
        go_loopw [11] (fun x wr => wr = W ∧ ∃ q : Nat, i ≤ q ∧ q ≤ j ∧ x = .int .i64 (q : Int)) (fun x _ => j - (RowKit.intOf x).toNat)
        case atStart => exact ⟨rfl, i, Nat.le_refl _, by have := Hij.out; omega, rfl⟩
        case round =>
          obtain ⟨hWW, q, hiq, hqj, rfl⟩ := hrel
          subst hWW
          by_cases hq : q < j
          · obtain ⟨x, hcx, hnx⟩ := Hrow.out q hiq hq
            have hqn : q < n := by omega
            have hqi : (q : Int) < (n : Int) := by omega
            have hnq : IntKind.i64.wrap ((q : Int) + 1) = (q : Int) + 1 := IntWalk.i64_in _ (by omega)
            go_wp2_with fail
            refine (HN.out _ _).mono ?_
            rintro _ w9 ⟨rfl, h9⟩
            obtain rfl := h9.symm
            rw [hnx]
            go_wp2_with fail
            go_roundw
            case rel => exact ⟨trivial, q + 1, by omega, by omega, by first | rfl | go_num⟩
            case measure => simp [RowKit.intOf]; omega
          · obtain rfl : j = q := by omega
            clear hiq hqj hq
            by_cases hjn2 : j < n
            · obtain ⟨x, hcx, hnx, hvb⟩ := Hend.out hjn2
              have hji : (j : Int) < (n : Int) := by omega
              clear Hend0
              go_wp2_with fail
              refine (HN.out _ _).mono ?_
              rintro _ w9 ⟨rfl, h9⟩
              obtain rfl := h9.symm
              rw [hnx]
              by_cases hi0 : i = 0
              · have hva := Hbeg0.out hi0
                have hii : ¬ (0 : Int) < (i : Int) := by omega
                clear hi0
                subst hva
                go_wp2_with fail
                refine (HW.out _ _).mono ?_
                rintro _ w9 ⟨rfl, h9⟩
                obtain rfl := h9.symm
                rw [hvb]
                rcases hv with ⟨hab, hve⟩ | ⟨hab, hve⟩
                · subst hve
                  subst hab
                  have haa : (v == v) = true := by simp
                  have HF0 := Lib.hid (HW0.out)
                  clear HW0 Hrow Hend Hbeg0 Hbeg
                  go_wp2_with fail
                  go_loopw [10] (fun x wr => ∃ (N1 N2 : List Int) (W' : World), W' = wr ∧ Hid (N = N1 ++ N2) ∧ x = .int .i64 ((i + N1.length : Nat) : Int) ∧ Hid (W'.ownsRow Q 33 1 (.slice A1 n c1) n (i8s ((d ++ List.replicate N1.length v) ++ (N2 ++ t2))) ∧ Below Q w W' ∧ Q ≤ W'.heap.size)) (fun x _ => j - (RowKit.intOf x).toNat)
                  case atStart => exact ⟨[], N, _, rfl, Lib.hid rfl, rfl, Lib.hid ⟨by simpa using HF0.out.1, HF0.out.2⟩⟩
                  case round =>
                    obtain ⟨N1, N2, W', hW', hNN, rfl, HX⟩ := hrel
                    subst hW'
                    have hml := congrArg List.length hNN.out
                    rw [List.length_append, Hm.out] at hml
                    rcases N2 with _ | ⟨x, N2⟩
                    · have hje : i + N1.length = j := by have := Hj.out; simp at hml; omega
                      rw [hje]
                      have hjj : ¬ (j : Int) < (j : Int) := by omega
                      have HJ := Lib.hid (HDone.out W' (by have := HX.out.1; rw [List.nil_append] at this; rw [Hm.out, show m = N1.length by simp at hml; omega]; exact this) HX.out.2.1 HX.out.2.2)
                      clear HX hml hje HDone
                      go_wp2_with fail
                      go_roundw
                      case rel => exact ⟨_, p ++ N, t2, _, rfl, by rw [Hpl.out], HJ⟩
                      case measure => have := Hij.out; simp [RowKit.intOf]; omega
                    · have hje : i + N1.length < j := by have := Hj.out; simp at hml; omega
                      obtain ⟨h3, h4, h5⟩ := HX.out
                      rw [List.cons_append] at h3
                      obtain ⟨g, hA1, hin', hnc', hcm', hcell', hfz', hset'⟩ := row_at h3
                      rw [List.length_append, List.length_replicate, Hdl.out] at hin' hcell' hfz' hset'
                      subst hA1
                      obtain ⟨q, hq⟩ : ∃ q, i + N1.length = q := ⟨_, rfl⟩
                      rw [hq] at hin' hcell' hfz' hset' hje ⊢
                      have hqj : (q : Int) < (j : Int) := by omega
                      have hwq : IntKind.i64.wrap ((q : Int) + 1) = (q : Int) + 1 := IntWalk.i64_in _ (by omega)
                      have Hn := Lib.hid (show _ ∧ _ ∧ _ from ⟨(hset' v).1, h4.grown (hset' v).2 h5 (fun b hb => (h3.lt b hb).1), Nat.le_trans h5 (hset' v).2.size⟩)
                      have Hq := Lib.hid hq
                      have HNx := Lib.hid (show N = (N1 ++ [x]) ++ N2 by rw [hNN.out]; simp)
                      clear HX h3 h4 h5 hset' hml hNN hq HDone
                      go_wp2_with fail
                      go_roundw
                      case rel =>
                        refine ⟨N1 ++ [x], N2, _, rfl, HNx, ?_, Lib.hid ⟨?_, Hn.out.2⟩⟩
                        · rw [List.length_append, ← Nat.add_assoc, Hq.out]
                          first | rfl | (simp; done)
                        · have := Hn.out.1
                          rw [List.length_append, show N1.length + [x].length = N1.length + 1 from rfl, List.replicate_succ', ← List.append_assoc d, List.append_assoc (d ++ List.replicate N1.length v)]
                          exact this
                      case measure => simp [RowKit.intOf]; omega
                · subst hve
                  have haa := beq_false_of_ne hab
                  have HF0 := Lib.hid (HW0.out)
                  clear HW0 Hrow Hend Hbeg0 Hbeg
                  go_wp2_with fail
                  go_loopw [10] (fun x wr => ∃ (N1 N2 : List Int) (W' : World), W' = wr ∧ Hid (N = N1 ++ N2) ∧ x = .int .i64 ((i + N1.length : Nat) : Int) ∧ Hid (W'.ownsRow Q 33 1 (.slice A1 n c1) n (i8s ((d ++ List.replicate N1.length v) ++ (N2 ++ t2))) ∧ Below Q w W' ∧ Q ≤ W'.heap.size)) (fun x _ => j - (RowKit.intOf x).toNat)
                  case atStart => exact ⟨[], N, _, rfl, Lib.hid rfl, rfl, Lib.hid ⟨by simpa using HF0.out.1, HF0.out.2⟩⟩
                  case round =>
                    obtain ⟨N1, N2, W', hW', hNN, rfl, HX⟩ := hrel
                    subst hW'
                    have hml := congrArg List.length hNN.out
                    rw [List.length_append, Hm.out] at hml
                    rcases N2 with _ | ⟨x, N2⟩
                    · have hje : i + N1.length = j := by have := Hj.out; simp at hml; omega
                      rw [hje]
                      have hjj : ¬ (j : Int) < (j : Int) := by omega
                      have HJ := Lib.hid (HDone.out W' (by have := HX.out.1; rw [List.nil_append] at this; rw [Hm.out, show m = N1.length by simp at hml; omega]; exact this) HX.out.2.1 HX.out.2.2)
                      clear HX hml hje HDone
                      go_wp2_with fail
                      go_roundw
                      case rel => exact ⟨_, p ++ N, t2, _, rfl, by rw [Hpl.out], HJ⟩
                      case measure => have := Hij.out; simp [RowKit.intOf]; omega
                    · have hje : i + N1.length < j := by have := Hj.out; simp at hml; omega
                      obtain ⟨h3, h4, h5⟩ := HX.out
                      rw [List.cons_append] at h3
                      obtain ⟨g, hA1, hin', hnc', hcm', hcell', hfz', hset'⟩ := row_at h3
                      rw [List.length_append, List.length_replicate, Hdl.out] at hin' hcell' hfz' hset'
                      subst hA1
                      obtain ⟨q, hq⟩ : ∃ q, i + N1.length = q := ⟨_, rfl⟩
                      rw [hq] at hin' hcell' hfz' hset' hje ⊢
                      have hqj : (q : Int) < (j : Int) := by omega
                      have hwq : IntKind.i64.wrap ((q : Int) + 1) = (q : Int) + 1 := IntWalk.i64_in _ (by omega)
                      have Hn := Lib.hid (show _ ∧ _ ∧ _ from ⟨(hset' v).1, h4.grown (hset' v).2 h5 (fun b hb => (h3.lt b hb).1), Nat.le_trans h5 (hset' v).2.size⟩)
                      have Hq := Lib.hid hq
                      have HNx := Lib.hid (show N = (N1 ++ [x]) ++ N2 by rw [hNN.out]; simp)
                      clear HX h3 h4 h5 hset' hml hNN hq HDone
                      go_wp2_with fail
                      go_roundw
                      case rel =>
                        refine ⟨N1 ++ [x], N2, _, rfl, HNx, ?_, Lib.hid ⟨?_, Hn.out.2⟩⟩
                        · rw [List.length_append, ← Nat.add_assoc, Hq.out]
                          first | rfl | (simp; done)
                        · have := Hn.out.1
                          rw [List.length_append, show N1.length + [x].length = N1.length + 1 from rfl, List.replicate_succ', ← List.append_assoc d, List.append_assoc (d ++ List.replicate N1.length v)]
                          exact this
                      case measure => simp [RowKit.intOf]; omega
              · obtain ⟨y, hcy, hwy⟩ := Hbeg.out (by omega)
                have hii : (0 : Int) < (i : Int) := by omega
                obtain ⟨im, him⟩ : ∃ im, i - 1 = im := ⟨_, rfl⟩
                rw [him] at hcy
                have hwi : IntKind.i64.wrap ((i : Int) - 1) = (im : Int) := by rw [IntWalk.i64_in _ (by omega)]; omega
                have himn : im < n := by omega
                clear him hi0
                go_wp2_with fail
                refine (HW.out _ _).mono ?_
                rintro _ w9 ⟨rfl, h9⟩
                obtain rfl := h9.symm
                rw [hwy]
                go_wp2_with fail
                refine (HW.out _ _).mono ?_
                rintro _ w9 ⟨rfl, h9⟩
                obtain rfl := h9.symm
                rw [hvb]
                rcases hv with ⟨hab, hve⟩ | ⟨hab, hve⟩
                · subst hve
                  subst hab
                  have haa : (v == v) = true := by simp
                  have HF0 := Lib.hid (HW0.out)
                  clear HW0 Hrow Hend Hbeg0 Hbeg
                  go_wp2_with fail
                  go_loopw [10] (fun x wr => ∃ (N1 N2 : List Int) (W' : World), W' = wr ∧ Hid (N = N1 ++ N2) ∧ x = .int .i64 ((i + N1.length : Nat) : Int) ∧ Hid (W'.ownsRow Q 33 1 (.slice A1 n c1) n (i8s ((d ++ List.replicate N1.length v) ++ (N2 ++ t2))) ∧ Below Q w W' ∧ Q ≤ W'.heap.size)) (fun x _ => j - (RowKit.intOf x).toNat)
                  case atStart => exact ⟨[], N, _, rfl, Lib.hid rfl, rfl, Lib.hid ⟨by simpa using HF0.out.1, HF0.out.2⟩⟩
                  case round =>
                    obtain ⟨N1, N2, W', hW', hNN, rfl, HX⟩ := hrel
                    subst hW'
                    have hml := congrArg List.length hNN.out
                    rw [List.length_append, Hm.out] at hml
                    rcases N2 with _ | ⟨x, N2⟩
                    · have hje : i + N1.length = j := by have := Hj.out; simp at hml; omega
                      rw [hje]
                      have hjj : ¬ (j : Int) < (j : Int) := by omega
                      have HJ := Lib.hid (HDone.out W' (by have := HX.out.1; rw [List.nil_append] at this; rw [Hm.out, show m = N1.length by simp at hml; omega]; exact this) HX.out.2.1 HX.out.2.2)
                      clear HX hml hje HDone
                      go_wp2_with fail
                      go_roundw
                      case rel => exact ⟨_, p ++ N, t2, _, rfl, by rw [Hpl.out], HJ⟩
                      case measure => have := Hij.out; simp [RowKit.intOf]; omega
                    · have hje : i + N1.length < j := by have := Hj.out; simp at hml; omega
                      obtain ⟨h3, h4, h5⟩ := HX.out
                      rw [List.cons_append] at h3
                      obtain ⟨g, hA1, hin', hnc', hcm', hcell', hfz', hset'⟩ := row_at h3
                      rw [List.length_append, List.length_replicate, Hdl.out] at hin' hcell' hfz' hset'
                      subst hA1
                      obtain ⟨q, hq⟩ : ∃ q, i + N1.length = q := ⟨_, rfl⟩
                      rw [hq] at hin' hcell' hfz' hset' hje ⊢
                      have hqj : (q : Int) < (j : Int) := by omega
                      have hwq : IntKind.i64.wrap ((q : Int) + 1) = (q : Int) + 1 := IntWalk.i64_in _ (by omega)
                      have Hn := Lib.hid (show _ ∧ _ ∧ _ from ⟨(hset' v).1, h4.grown (hset' v).2 h5 (fun b hb => (h3.lt b hb).1), Nat.le_trans h5 (hset' v).2.size⟩)
                      have Hq := Lib.hid hq
                      have HNx := Lib.hid (show N = (N1 ++ [x]) ++ N2 by rw [hNN.out]; simp)
                      clear HX h3 h4 h5 hset' hml hNN hq HDone
                      go_wp2_with fail
                      go_roundw
                      case rel =>
                        refine ⟨N1 ++ [x], N2, _, rfl, HNx, ?_, Lib.hid ⟨?_, Hn.out.2⟩⟩
                        · rw [List.length_append, ← Nat.add_assoc, Hq.out]
                          first | rfl | (simp; done)
                        · have := Hn.out.1
                          rw [List.length_append, show N1.length + [x].length = N1.length + 1 from rfl, List.replicate_succ', ← List.append_assoc d, List.append_assoc (d ++ List.replicate N1.length v)]
                          exact this
                      case measure => simp [RowKit.intOf]; omega
                · subst hve
                  have haa := beq_false_of_ne hab
                  have HF0 := Lib.hid (HW0.out)
                  clear HW0 Hrow Hend Hbeg0 Hbeg
                  go_wp2_with fail
                  go_loopw [10] (fun x wr => ∃ (N1 N2 : List Int) (W' : World), W' = wr ∧ Hid (N = N1 ++ N2) ∧ x = .int .i64 ((i + N1.length : Nat) : Int) ∧ Hid (W'.ownsRow Q 33 1 (.slice A1 n c1) n (i8s ((d ++ List.replicate N1.length v) ++ (N2 ++ t2))) ∧ Below Q w W' ∧ Q ≤ W'.heap.size)) (fun x _ => j - (RowKit.intOf x).toNat)
                  case atStart => exact ⟨[], N, _, rfl, Lib.hid rfl, rfl, Lib.hid ⟨by simpa using HF0.out.1, HF0.out.2⟩⟩
                  case round =>
                    obtain ⟨N1, N2, W', hW', hNN, rfl, HX⟩ := hrel
                    subst hW'
                    have hml := congrArg List.length hNN.out
                    rw [List.length_append, Hm.out] at hml
                    rcases N2 with _ | ⟨x, N2⟩
                    · have hje : i + N1.length = j := by have := Hj.out; simp at hml; omega
                      rw [hje]
                      have hjj : ¬ (j : Int) < (j : Int) := by omega
                      have HJ := Lib.hid (HDone.out W' (by have := HX.out.1; rw [List.nil_append] at this; rw [Hm.out, show m = N1.length by simp at hml; omega]; exact this) HX.out.2.1 HX.out.2.2)
                      clear HX hml hje HDone
                      go_wp2_with fail
                      go_roundw
                      case rel => exact ⟨_, p ++ N, t2, _, rfl, by rw [Hpl.out], HJ⟩
                      case measure => have := Hij.out; simp [RowKit.intOf]; omega
                    · have hje : i + N1.length < j := by have := Hj.out; simp at hml; omega
                      obtain ⟨h3, h4, h5⟩ := HX.out
                      rw [List.cons_append] at h3
                      obtain ⟨g, hA1, hin', hnc', hcm', hcell', hfz', hset'⟩ := row_at h3
                      rw [List.length_append, List.length_replicate, Hdl.out] at hin' hcell' hfz' hset'
                      subst hA1
                      obtain ⟨q, hq⟩ : ∃ q, i + N1.length = q := ⟨_, rfl⟩
                      rw [hq] at hin' hcell' hfz' hset' hje ⊢
                      have hqj : (q : Int) < (j : Int) := by omega
                      have hwq : IntKind.i64.wrap ((q : Int) + 1) = (q : Int) + 1 := IntWalk.i64_in _ (by omega)
                      have Hn := Lib.hid (show _ ∧ _ ∧ _ from ⟨(hset' v).1, h4.grown (hset' v).2 h5 (fun b hb => (h3.lt b hb).1), Nat.le_trans h5 (hset' v).2.size⟩)
                      have Hq := Lib.hid hq
                      have HNx := Lib.hid (show N = (N1 ++ [x]) ++ N2 by rw [hNN.out]; simp)
                      clear HX h3 h4 h5 hset' hml hNN hq HDone
                      go_wp2_with fail
                      go_roundw
                      case rel =>
                        refine ⟨N1 ++ [x], N2, _, rfl, HNx, ?_, Lib.hid ⟨?_, Hn.out.2⟩⟩
                        · rw [List.length_append, ← Nat.add_assoc, Hq.out]
                          first | rfl | (simp; done)
                        · have := Hn.out.1
                          rw [List.length_append, show N1.length + [x].length = N1.length + 1 from rfl, List.replicate_succ', ← List.append_assoc d, List.append_assoc (d ++ List.replicate N1.length v)]
                          exact this
                      case measure => simp [RowKit.intOf]; omega
            · obtain rfl : n = j := by omega
              have hvb := Hend0.out rfl
              subst hvb
              have hji : ¬ (n : Int) < (n : Int) := by omega
              clear Hend0
              by_cases hi0 : i = 0
              · have hva := Hbeg0.out hi0
                have hii : ¬ (0 : Int) < (i : Int) := by omega
                clear hi0
                subst hva
                rcases hv with ⟨hab, hve⟩ | ⟨hab, hve⟩
                · subst hve
                  subst hab
                  have haa : (v == v) = true := by simp
                  have HF0 := Lib.hid (HW0.out)
                  clear HW0 Hrow Hend Hbeg0 Hbeg
                  go_wp2_with fail
                  go_loopw [10] (fun x wr => ∃ (N1 N2 : List Int) (W' : World), W' = wr ∧ Hid (N = N1 ++ N2) ∧ x = .int .i64 ((i + N1.length : Nat) : Int) ∧ Hid (W'.ownsRow Q 33 1 (.slice A1 n c1) n (i8s ((d ++ List.replicate N1.length v) ++ (N2 ++ t2))) ∧ Below Q w W' ∧ Q ≤ W'.heap.size)) (fun x _ => n - (RowKit.intOf x).toNat)
                  case atStart => exact ⟨[], N, _, rfl, Lib.hid rfl, rfl, Lib.hid ⟨by simpa using HF0.out.1, HF0.out.2⟩⟩
                  case round =>
                    obtain ⟨N1, N2, W', hW', hNN, rfl, HX⟩ := hrel
                    subst hW'
                    have hml := congrArg List.length hNN.out
                    rw [List.length_append, Hm.out] at hml
                    rcases N2 with _ | ⟨x, N2⟩
                    · have hje : i + N1.length = n := by have := Hj.out; simp at hml; omega
                      rw [hje]
                      have hjj : ¬ (n : Int) < (n : Int) := by omega
                      have HJ := Lib.hid (HDone.out W' (by have := HX.out.1; rw [List.nil_append] at this; rw [Hm.out, show m = N1.length by simp at hml; omega]; exact this) HX.out.2.1 HX.out.2.2)
                      clear HX hml hje HDone
                      go_wp2_with fail
                      go_roundw
                      case rel => exact ⟨_, p ++ N, t2, _, rfl, by rw [Hpl.out], HJ⟩
                      case measure => have := Hij.out; simp [RowKit.intOf]; omega
                    · have hje : i + N1.length < n := by have := Hj.out; simp at hml; omega
                      obtain ⟨h3, h4, h5⟩ := HX.out
                      rw [List.cons_append] at h3
                      obtain ⟨g, hA1, hin', hnc', hcm', hcell', hfz', hset'⟩ := row_at h3
                      rw [List.length_append, List.length_replicate, Hdl.out] at hin' hcell' hfz' hset'
                      subst hA1
                      obtain ⟨q, hq⟩ : ∃ q, i + N1.length = q := ⟨_, rfl⟩
                      rw [hq] at hin' hcell' hfz' hset' hje ⊢
                      have hqj : (q : Int) < (n : Int) := by omega
                      have hwq : IntKind.i64.wrap ((q : Int) + 1) = (q : Int) + 1 := IntWalk.i64_in _ (by omega)
                      have Hn := Lib.hid (show _ ∧ _ ∧ _ from ⟨(hset' v).1, h4.grown (hset' v).2 h5 (fun b hb => (h3.lt b hb).1), Nat.le_trans h5 (hset' v).2.size⟩)
                      have Hq := Lib.hid hq
                      have HNx := Lib.hid (show N = (N1 ++ [x]) ++ N2 by rw [hNN.out]; simp)
                      clear HX h3 h4 h5 hset' hml hNN hq HDone
                      go_wp2_with fail
                      go_roundw
                      case rel =>
                        refine ⟨N1 ++ [x], N2, _, rfl, HNx, ?_, Lib.hid ⟨?_, Hn.out.2⟩⟩
                        · rw [List.length_append, ← Nat.add_assoc, Hq.out]
                          first | rfl | (simp; done)
                        · have := Hn.out.1
                          rw [List.length_append, show N1.length + [x].length = N1.length + 1 from rfl, List.replicate_succ', ← List.append_assoc d, List.append_assoc (d ++ List.replicate N1.length v)]
                          exact this
                      case measure => simp [RowKit.intOf]; omega
                · subst hve
                  have haa := beq_false_of_ne hab
                  have HF0 := Lib.hid (HW0.out)
                  clear HW0 Hrow Hend Hbeg0 Hbeg
                  go_wp2_with fail
                  go_loopw [10] (fun x wr => ∃ (N1 N2 : List Int) (W' : World), W' = wr ∧ Hid (N = N1 ++ N2) ∧ x = .int .i64 ((i + N1.length : Nat) : Int) ∧ Hid (W'.ownsRow Q 33 1 (.slice A1 n c1) n (i8s ((d ++ List.replicate N1.length v) ++ (N2 ++ t2))) ∧ Below Q w W' ∧ Q ≤ W'.heap.size)) (fun x _ => n - (RowKit.intOf x).toNat)
                  case atStart => exact ⟨[], N, _, rfl, Lib.hid rfl, rfl, Lib.hid ⟨by simpa using HF0.out.1, HF0.out.2⟩⟩
                  case round =>
                    obtain ⟨N1, N2, W', hW', hNN, rfl, HX⟩ := hrel
                    subst hW'
                    have hml := congrArg List.length hNN.out
                    rw [List.length_append, Hm.out] at hml
                    rcases N2 with _ | ⟨x, N2⟩
                    · have hje : i + N1.length = n := by have := Hj.out; simp at hml; omega
                      rw [hje]
                      have hjj : ¬ (n : Int) < (n : Int) := by omega
                      have HJ := Lib.hid (HDone.out W' (by have := HX.out.1; rw [List.nil_append] at this; rw [Hm.out, show m = N1.length by simp at hml; omega]; exact this) HX.out.2.1 HX.out.2.2)
                      clear HX hml hje HDone
                      go_wp2_with fail
                      go_roundw
                      case rel => exact ⟨_, p ++ N, t2, _, rfl, by rw [Hpl.out], HJ⟩
                      case measure => have := Hij.out; simp [RowKit.intOf]; omega
                    · have hje : i + N1.length < n := by have := Hj.out; simp at hml; omega
                      obtain ⟨h3, h4, h5⟩ := HX.out
                      rw [List.cons_append] at h3
                      obtain ⟨g, hA1, hin', hnc', hcm', hcell', hfz', hset'⟩ := row_at h3
                      rw [List.length_append, List.length_replicate, Hdl.out] at hin' hcell' hfz' hset'
                      subst hA1
                      obtain ⟨q, hq⟩ : ∃ q, i + N1.length = q := ⟨_, rfl⟩
                      rw [hq] at hin' hcell' hfz' hset' hje ⊢
                      have hqj : (q : Int) < (n : Int) := by omega
                      have hwq : IntKind.i64.wrap ((q : Int) + 1) = (q : Int) + 1 := IntWalk.i64_in _ (by omega)
                      have Hn := Lib.hid (show _ ∧ _ ∧ _ from ⟨(hset' v).1, h4.grown (hset' v).2 h5 (fun b hb => (h3.lt b hb).1), Nat.le_trans h5 (hset' v).2.size⟩)
                      have Hq := Lib.hid hq
                      have HNx := Lib.hid (show N = (N1 ++ [x]) ++ N2 by rw [hNN.out]; simp)
                      clear HX h3 h4 h5 hset' hml hNN hq HDone
                      go_wp2_with fail
                      go_roundw
                      case rel =>
                        refine ⟨N1 ++ [x], N2, _, rfl, HNx, ?_, Lib.hid ⟨?_, Hn.out.2⟩⟩
                        · rw [List.length_append, ← Nat.add_assoc, Hq.out]
                          first | rfl | (simp; done)
                        · have := Hn.out.1
                          rw [List.length_append, show N1.length + [x].length = N1.length + 1 from rfl, List.replicate_succ', ← List.append_assoc d, List.append_assoc (d ++ List.replicate N1.length v)]
                          exact this
                      case measure => simp [RowKit.intOf]; omega
              · obtain ⟨y, hcy, hwy⟩ := Hbeg.out (by omega)
                have hii : (0 : Int) < (i : Int) := by omega
                obtain ⟨im, him⟩ : ∃ im, i - 1 = im := ⟨_, rfl⟩
                rw [him] at hcy
                have hwi : IntKind.i64.wrap ((i : Int) - 1) = (im : Int) := by rw [IntWalk.i64_in _ (by omega)]; omega
                have himn : im < n := by omega
                clear him hi0
                go_wp2_with fail
                refine (HW.out _ _).mono ?_
                rintro _ w9 ⟨rfl, h9⟩
                obtain rfl := h9.symm
                rw [hwy]
                rcases hv with ⟨hab, hve⟩ | ⟨hab, hve⟩
                · subst hve
                  subst hab
                  have haa : (v == v) = true := by simp
                  have HF0 := Lib.hid (HW0.out)
                  clear HW0 Hrow Hend Hbeg0 Hbeg
                  go_wp2_with fail
                  go_loopw [10] (fun x wr => ∃ (N1 N2 : List Int) (W' : World), W' = wr ∧ Hid (N = N1 ++ N2) ∧ x = .int .i64 ((i + N1.length : Nat) : Int) ∧ Hid (W'.ownsRow Q 33 1 (.slice A1 n c1) n (i8s ((d ++ List.replicate N1.length v) ++ (N2 ++ t2))) ∧ Below Q w W' ∧ Q ≤ W'.heap.size)) (fun x _ => n - (RowKit.intOf x).toNat)
                  case atStart => exact ⟨[], N, _, rfl, Lib.hid rfl, rfl, Lib.hid ⟨by simpa using HF0.out.1, HF0.out.2⟩⟩
                  case round =>
                    obtain ⟨N1, N2, W', hW', hNN, rfl, HX⟩ := hrel
                    subst hW'
                    have hml := congrArg List.length hNN.out
                    rw [List.length_append, Hm.out] at hml
                    rcases N2 with _ | ⟨x, N2⟩
                    · have hje : i + N1.length = n := by have := Hj.out; simp at hml; omega
                      rw [hje]
                      have hjj : ¬ (n : Int) < (n : Int) := by omega
                      have HJ := Lib.hid (HDone.out W' (by have := HX.out.1; rw [List.nil_append] at this; rw [Hm.out, show m = N1.length by simp at hml; omega]; exact this) HX.out.2.1 HX.out.2.2)
                      clear HX hml hje HDone
                      go_wp2_with fail
                      go_roundw
                      case rel => exact ⟨_, p ++ N, t2, _, rfl, by rw [Hpl.out], HJ⟩
                      case measure => have := Hij.out; simp [RowKit.intOf]; omega
                    · have hje : i + N1.length < n := by have := Hj.out; simp at hml; omega
                      obtain ⟨h3, h4, h5⟩ := HX.out
                      rw [List.cons_append] at h3
                      obtain ⟨g, hA1, hin', hnc', hcm', hcell', hfz', hset'⟩ := row_at h3
                      rw [List.length_append, List.length_replicate, Hdl.out] at hin' hcell' hfz' hset'
                      subst hA1
                      obtain ⟨q, hq⟩ : ∃ q, i + N1.length = q := ⟨_, rfl⟩
                      rw [hq] at hin' hcell' hfz' hset' hje ⊢
                      have hqj : (q : Int) < (n : Int) := by omega
                      have hwq : IntKind.i64.wrap ((q : Int) + 1) = (q : Int) + 1 := IntWalk.i64_in _ (by omega)
                      have Hn := Lib.hid (show _ ∧ _ ∧ _ from ⟨(hset' v).1, h4.grown (hset' v).2 h5 (fun b hb => (h3.lt b hb).1), Nat.le_trans h5 (hset' v).2.size⟩)
                      have Hq := Lib.hid hq
                      have HNx := Lib.hid (show N = (N1 ++ [x]) ++ N2 by rw [hNN.out]; simp)
                      clear HX h3 h4 h5 hset' hml hNN hq HDone
                      go_wp2_with fail
                      go_roundw
                      case rel =>
                        refine ⟨N1 ++ [x], N2, _, rfl, HNx, ?_, Lib.hid ⟨?_, Hn.out.2⟩⟩
                        · rw [List.length_append, ← Nat.add_assoc, Hq.out]
                          first | rfl | (simp; done)
                        · have := Hn.out.1
                          rw [List.length_append, show N1.length + [x].length = N1.length + 1 from rfl, List.replicate_succ', ← List.append_assoc d, List.append_assoc (d ++ List.replicate N1.length v)]
                          exact this
                      case measure => simp [RowKit.intOf]; omega
                · subst hve
                  have haa := beq_false_of_ne hab
                  have HF0 := Lib.hid (HW0.out)
                  clear HW0 Hrow Hend Hbeg0 Hbeg
                  go_wp2_with fail
                  go_loopw [10] (fun x wr => ∃ (N1 N2 : List Int) (W' : World), W' = wr ∧ Hid (N = N1 ++ N2) ∧ x = .int .i64 ((i + N1.length : Nat) : Int) ∧ Hid (W'.ownsRow Q 33 1 (.slice A1 n c1) n (i8s ((d ++ List.replicate N1.length v) ++ (N2 ++ t2))) ∧ Below Q w W' ∧ Q ≤ W'.heap.size)) (fun x _ => n - (RowKit.intOf x).toNat)
                  case atStart => exact ⟨[], N, _, rfl, Lib.hid rfl, rfl, Lib.hid ⟨by simpa using HF0.out.1, HF0.out.2⟩⟩
                  case round =>
                    obtain ⟨N1, N2, W', hW', hNN, rfl, HX⟩ := hrel
                    subst hW'
                    have hml := congrArg List.length hNN.out
                    rw [List.length_append, Hm.out] at hml
                    rcases N2 with _ | ⟨x, N2⟩
                    · have hje : i + N1.length = n := by have := Hj.out; simp at hml; omega
                      rw [hje]
                      have hjj : ¬ (n : Int) < (n : Int) := by omega
                      have HJ := Lib.hid (HDone.out W' (by have := HX.out.1; rw [List.nil_append] at this; rw [Hm.out, show m = N1.length by simp at hml; omega]; exact this) HX.out.2.1 HX.out.2.2)
                      clear HX hml hje HDone
                      go_wp2_with fail
                      go_roundw
                      case rel => exact ⟨_, p ++ N, t2, _, rfl, by rw [Hpl.out], HJ⟩
                      case measure => have := Hij.out; simp [RowKit.intOf]; omega
                    · have hje : i + N1.length < n := by have := Hj.out; simp at hml; omega
                      obtain ⟨h3, h4, h5⟩ := HX.out
                      rw [List.cons_append] at h3
                      obtain ⟨g, hA1, hin', hnc', hcm', hcell', hfz', hset'⟩ := row_at h3
                      rw [List.length_append, List.length_replicate, Hdl.out] at hin' hcell' hfz' hset'
                      subst hA1
                      obtain ⟨q, hq⟩ : ∃ q, i + N1.length = q := ⟨_, rfl⟩
                      rw [hq] at hin' hcell' hfz' hset' hje ⊢
                      have hqj : (q : Int) < (n : Int) := by omega
                      have hwq : IntKind.i64.wrap ((q : Int) + 1) = (q : Int) + 1 := IntWalk.i64_in _ (by omega)
                      have Hn := Lib.hid (show _ ∧ _ ∧ _ from ⟨(hset' v).1, h4.grown (hset' v).2 h5 (fun b hb => (h3.lt b hb).1), Nat.le_trans h5 (hset' v).2.size⟩)
                      have Hq := Lib.hid hq
                      have HNx := Lib.hid (show N = (N1 ++ [x]) ++ N2 by rw [hNN.out]; simp)
                      clear HX h3 h4 h5 hset' hml hNN hq HDone
                      go_wp2_with fail
                      go_roundw
                      case rel =>
                        refine ⟨N1 ++ [x], N2, _, rfl, HNx, ?_, Lib.hid ⟨?_, Hn.out.2⟩⟩
                        · rw [List.length_append, ← Nat.add_assoc, Hq.out]
                          first | rfl | (simp; done)
                        · have := Hn.out.1
                          rw [List.length_append, show N1.length + [x].length = N1.length + 1 from rfl, List.replicate_succ', ← List.append_assoc d, List.append_assoc (d ++ List.replicate N1.length v)]
                          exact this
                      case measure => simp [RowKit.intOf]; omega
      · have hkf : neuZ k = false := by simpa using hk
        have hsnoc := snoc_len p k
        have HN1 := Lib.hid (show RstI w Q A1 c1 n L R e eos sos W (d ++ [k]) (p ++ [k]) t from by
          obtain ⟨h1, h2, ⟨a, h3, _⟩, h4, h5⟩ := HI.out
          refine ⟨by rw [h1]; simp, by simp [h2], ⟨wayZ k, ?_, fun _ _ _ _ => (ahdZ_snoc _ _ _).symm⟩, by rw [List.append_assoc]; exact h4, h5⟩
          rw [← h3, rst_skip e eos a hkf]
          simp)
        subst hA
        obtain ⟨q, hq⟩ : ∃ q, p ++ [k] = q := ⟨_, rfl⟩
        obtain ⟨i, hi'⟩ : ∃ i, p.length = i := ⟨_, rfl⟩
        rw [hq, hi'] at hsnoc
        rw [hq] at HN1
        rw [hi'] at hin hcell hini hnext ⊢
        clear hl hrw HrW HI hq hi' hk
        go_wp2_with fail
        refine (HN.out _ _).mono ?_
        rintro _ w9 ⟨rfl, h9⟩
        obtain rfl := h9.symm
        rw [hkf]
        go_wp2_with fail
        go_roundw
        case rel => exact ⟨_, q, t, _, rfl, by rw [hsnoc], HN1⟩
        case measure => simp [RowKit.intOf]; omega
end Go.Proofs.Ytkcckophnamajaa
