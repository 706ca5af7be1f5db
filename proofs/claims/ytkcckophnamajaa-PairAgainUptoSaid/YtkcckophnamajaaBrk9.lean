/- Layer 9, the document: Brackets. -/
import Derived.Test.YtkcckophnamajaaPut9
import Derived.Test.YtkcckophnamajaaBec9
set_option linter.unusedSimpArgs false
set_option linter.unusedVariables false
namespace Go.Proofs.Ytkcckophnamajaa
open Go.RowKit Go.Lib

def stC (l : Stk) : List Value := l.flatMap fun p => [.int .i64 (p.1 : Int), .int .i32 p.2]
theorem stC_cons (p : Nat × Int) (l : Stk) : stC (p :: l) = .int .i64 (p.1 : Int) :: .int .i32 p.2 :: stC l := rfl
theorem stC_append (l m : Stk) : stC (l ++ m) = stC l ++ stC m := List.flatMap_append ..
theorem stC_len (l : Stk) : (stC l).length = l.length * 2 := by
  induction l with
  | nil => rfl
  | cons p l ih => rw [stC_cons]; simp only [List.length_cons, ih]; omega
theorem stC_at (u v : Stk) (p : Nat × Int) : (stC (u ++ p :: v))[u.length * 2]? = some (.int .i64 (p.1 : Int)) ∧ (stC (u ++ p :: v))[u.length * 2 + 1]? = some (.int .i32 p.2) := by
  rw [stC_append, stC_cons, ← stC_len u]
  constructor
  · rw [List.getElem?_append_right (Nat.le_refl _), Nat.sub_self]; rfl
  · rw [List.getElem?_append_right (Nat.le_succ _), show (stC u).length + 1 - (stC u).length = 1 by omega]; rfl
theorem RdK.get {w : World} {n : Nat} {A : Option Addr} {xs : List Int} (h : RdK w A n xs) {i : Nat} {r : Int} (hr : xs[i]? = some r) : ∃ a, A = some a ∧ i < n ∧ a.block < w.heap.size ∧ w.cell? (a.add i) = some (.int .i8 r) := by
  have hl := h.len
  have hi := (List.getElem?_eq_some_iff.1 hr).1
  obtain ⟨a, e, hb, hc⟩ := Rd.addr h (by omega)
  exact ⟨a, e, by omega, hb, hc i _ (by rw [List.getElem?_map, hr]; rfl)⟩
theorem own_takeS {w : World} {base g cap n k size : Nat} {e : TypeId} {xs : List Value} (h : w.ownsRow base e size (.slice (some ⟨g, 0, none⟩) n cap) n xs) (hk : k ≤ n) : w.ownsRow base e size (.slice (some ⟨g, 0, none⟩) k cap) k (xs.take (k * size)) := by
  have hl := h.1
  have hle : k * size ≤ n * size := Nat.mul_le_mul_right _ hk
  refine ⟨by rw [List.length_take]; omega, ?_⟩
  rcases h.2 with ⟨h1, _⟩ | ⟨g', cap', cur, h1, h2, h3, h4, h5, h6, h7⟩
  · cases h1
  · cases h1
    refine .inr ⟨g, cap, cur, rfl, h2, h3, by omega, h5, h6, ?_⟩
    rw [← h7, List.take_take, Nat.min_eq_left hle]
/-- a row of other elements stays where a row is grown -/
theorem own_other {w w' : World} {B B' n n' size size' : Nat} {e e' : TypeId} {v v' : Value} {xs xs' : List Value} {ob : Obj} (h : w.ownsRow B e size v n xs) (h' : w.ownsRow B' e' size' v' n' xs') (hne : e ≠ e') (g : (w.alloc ob).grownBy w' v'.ownBlock) : w'.ownsRow B e size v n xs := by
  refine ⟨h.1, ?_⟩
  rcases h.2 with h0 | ⟨q, cap, cur, hv, hg, hh, r⟩
  · exact .inl h0
  · have hq := (Array.getElem?_eq_some_iff.1 hh).1
    refine .inr ⟨q, cap, cur, hv, hg, ?_, r⟩
    rw [g.block q (by rw [World.size_alloc]; omega) (fun e1 => ?_), heap_alloc_old w ob hq, hh]
    rcases h'.2 with ⟨h1, _⟩ | ⟨q', cap', cur', hv', _, hh', _⟩
    · rw [h1] at e1; cases e1
    · rw [hv'] at e1
      have e2 : q = q' := by injection e1
      rw [← e2, hh] at hh'
      injection hh' with hh'
      injection hh' with _ h2 _
      exact hne h2
theorem open_info : (Try.prog.info? 51).map (fun i => (i.zero, i.size, i.bytes)) = some (some (.agg #[.int .i64 0, .int .i32 0]), 2, 16) := by kernel_rfl
/-- what holds between two characters -/
structure BrS (pr : Int → Int × Bool × Bool) (rs ks : List Int) (R : Prs) (w : World) (B i m o cs co : Nat) (As Ao : Option Addr) (stk : Stk) (out : Prs) (W : World) : Prop where
  m_ : stk.length = m
  o_ : out.length = o
  mi : m ≤ i
  oi : o ≤ i
  st : W.ownsRow B 51 2 (.slice As m cs) m (stC stk.reverse)
  ou : W.ownsRow B 29 2 (.slice Ao o co) o (prC out)
  be : Below B w W
  le : B ≤ W.heap.size
  br : brkZ pr i ((rs.zip ks).drop i) stk out = R
theorem own_kept {W W' : World} {B n size : Nat} {e : TypeId} {v : Value} {xs : List Value} (h : W.ownsRow B e size v n xs) (hb : Below W.heap.size W W') : W'.ownsRow B e size v n xs := own_below h hb
theorem BrS.below {pr : Int → Int × Bool × Bool} {rs ks : List Int} {R : Prs} {w : World} {B i m o cs co : Nat} {As Ao : Option Addr} {stk : Stk} {out : Prs} {W W' : World} (h : BrS pr rs ks R w B i m o cs co As Ao stk out W) (hb : Below W.heap.size W W') : BrS pr rs ks R w B i m o cs co As Ao stk out W' :=
  ⟨h.m_, h.o_, h.mi, h.oi, own_below h.st hb, own_below h.ou hb, h.be.trans (hb.mono h.le), Nat.le_trans h.le hb.size, h.br⟩
set_option maxRecDepth 100000 in
set_option maxHeartbeats 2000000 in
theorem brackets_any9 (pr : Int → Int × Bool × Bool) (HPair : Hid (∀ x w, Calls Try.prog 24 #[.int .i32 x] w fun e w' => e = .returned (.tuple #[.int .i32 (pr x).1, .bool (pr x).2.1, .bool (pr x).2.2]) ∧ Below w.heap.size w w'))
    (Ar A : Option Addr) (nr cr n c : Nat) (rs ks : List Int) (w : World) (hr : RdR w Ar nr rs) (hk : RdK w A n ks) (hn : min nr n ≤ 1048576) :
    Calls Try.prog 10 #[.slice Ar nr cr, .slice A n c] w (NewPr (brZ pr rs ks) w) := by
  obtain ⟨i0, hi, hz0, hz1, hz2⟩ := info_parts open_info
  have HC := Lib.hid (count_any9 Ar A nr n cr c)
  unfold NewPr brZ
  obtain ⟨R, hR⟩ : ∃ R, brkZ pr 0 (rs.zip ks) [] [] = R := ⟨_, rfl⟩
  rw [hR]
  obtain ⟨B, hB⟩ : ∃ B, w.heap.size = B := ⟨_, rfl⟩
  rw [hB]
  have H0 := Lib.hid (show BrS pr rs ks R w B 0 0 0 0 0 none none [] [] w from ⟨rfl, rfl, Nat.le_refl _, Nat.le_refl _, World.ownsRow_nil _ _ _ _, World.ownsRow_nil _ _ _ _, Below.refl _ _, by omega, hR⟩)
  obtain ⟨N, hN⟩ : ∃ N, min nr n = N := ⟨_, rfl⟩
  rw [hN] at hn HC
  have Hzl := Lib.hid (show (rs.zip ks).length = N by rw [List.length_zip, hr.len, hk.len, hN])
  have Hr := Lib.hid hr
  have Hk := Lib.hid hk
  have HB := Lib.hid hB
  clear hR hB hN hr hk
  go_enter Try.func10, Try.ntmps10
  go_wp2_with fail
  refine (HC.out _).mono ?_
  rintro _ w9 ⟨rfl, h9⟩
  obtain rfl := h9.symm
  go_wp2_with fail
  go_loopw [6, 7, 8] (fun y z x wr => ∃ (i m o cs co : Nat) (As Ao : Option Addr) (stk : Stk) (out : Prs) (W : World), W = wr ∧ y = .slice As m cs ∧ z = .slice Ao o co ∧ x = .int .i64 (i : Int) ∧ i ≤ N ∧ Hid (BrS pr rs ks R w B i m o cs co As Ao stk out W)) (fun _ _ x _ => N - (RowKit.intOf x).toNat)
  case atStart => exact ⟨0, 0, 0, 0, 0, none, none, [], [], _, rfl, rfl, rfl, rfl, Nat.zero_le _, H0⟩
  case round =>
    obtain ⟨i, m, o, cs, co, As, Ao, stk, out, W, hW, rfl, rfl, rfl, hiN, HI⟩ := hrel
    subst hW
    rcases Nat.lt_or_ge i N with hlt | hge
    · have hzi : i < (rs.zip ks).length := by rw [Hzl.out]; exact hlt
      obtain ⟨r, k, hrk⟩ : ∃ r k, (rs.zip ks)[i] = (r, k) := ⟨_, _, rfl⟩
      have hget : (rs.zip ks)[i]? = some (r, k) := by rw [List.getElem?_eq_getElem hzi, hrk]
      have hz := List.getElem?_zip_eq_some.1 hget
      have hdr : (rs.zip ks).drop i = (r, k) :: (rs.zip ks).drop (i + 1) := by rw [List.drop_eq_getElem_cons hzi, hrk]
      have hW0 : Below w.heap.size w W := by rw [HB.out]; exact HI.out.be
      obtain ⟨ar, hAr, hir, harb, hcr⟩ := (Hr.out.below hW0).at hz.1
      obtain ⟨ak, hAk, hik, hakb, hck⟩ := (Hk.out.below hW0).get hz.2
      subst hAr
      subst hAk
      have hiri : (i : Int) < (nr : Int) := by omega
      have hiki : (i : Int) < (n : Int) := by omega
      have hiNi : (i : Int) < (N : Int) := by omega
      have hnext : IntKind.i64.wrap ((i : Int) + 1) = (i : Int) + 1 := IntWalk.i64_in _ (by omega)
      have hbr := HI.out.br
      rw [hdr, brkZ] at hbr
      have Hbr := Lib.hid hbr
      have Hkc := Lib.hid (show ak.block < W.heap.size ∧ ar.block < W.heap.size from ⟨hakb, harb⟩)
      have Hcc := Lib.hid (show W.cell? (ak.add i) = some (.int .i8 k) ∧ W.cell? (ar.add i) = some (.int .i32 r) from ⟨hck, hcr⟩)
      clear hget hz hrk hzi hdr hW0 hbr hck hakb harb
      go_wp2_with fail
      refine (HPair.out _ _).mono ?_
      rintro _ w9 ⟨rfl, h9⟩
      have hck9 : w9.cell? (ak.add i) = some (.int .i8 k) := (h9.cell (by rw [add_block]; exact Hkc.out.1)).trans Hcc.out.1
      have Hakb := Lib.hid (show ar.block < w9.heap.size from Nat.lt_of_lt_of_le Hkc.out.2 h9.size)
      have hcr9 : w9.cell? (ar.add i) = some (.int .i32 r) := (h9.cell (by rw [add_block]; exact Hkc.out.2)).trans Hcc.out.2
      have HI9 := Lib.hid (HI.out.below h9)
      have HbK := Lib.hid (show ∀ W', Below w9.heap.size w9 W' → Below w.heap.size w W' from fun W' h => by rw [HB.out]; exact (HI9.out.be).trans (h.mono HI9.out.le))
      obtain ⟨ot, hot⟩ : ∃ ot, (pr r).1 = ot := ⟨_, rfl⟩
      obtain ⟨op, hop⟩ : ∃ op, (pr r).2.1 = op := ⟨_, rfl⟩
      obtain ⟨ok, hok⟩ : ∃ ok, (pr r).2.2 = ok := ⟨_, rfl⟩
      rw [hot, hop, hok] at Hbr ⊢
      have Hnx := Lib.hid (show i + 1 ≤ N from hlt)
      clear h9 HI hot hop hok Hcc Hkc hcr
      rcases ok with _ | _
      · have HIn := Lib.hid (show BrS pr rs ks R w B (i + 1) m o cs co As Ao stk out w9 from by
          have h := HI9.out
          exact ⟨h.m_, h.o_, by have := h.mi; omega, by have := h.oi; omega, h.st, h.ou, h.be, h.le, by have h2 := Hbr.out; rwa [if_pos (.inl rfl)] at h2⟩)
        clear Hbr HI9
        go_wp2_with fail
        go_roundw
        case rel => exact ⟨i + 1, m, o, cs, co, As, Ao, stk, out, _, rfl, rfl, rfl, by first | rfl | go_num, Hnx.out, HIn⟩
        case measure => simp [RowKit.intOf]; omega
      · by_cases h13 : k = 13
        · have e13 : (k != 13) = false := by simp [h13]
          have Hb2 := Lib.hid (show (if op = true then (if stk.length = 63 then out else brkZ pr (i + 1) ((rs.zip ks).drop (i + 1)) ((i, ot) :: stk) out) else match fndZ r stk with | none => brkZ pr (i + 1) ((rs.zip ks).drop (i + 1)) stk out | some (a, t') => brkZ pr (i + 1) ((rs.zip ks).drop (i + 1)) t' (putZ out (a, i))) = R from by
            have h2 := Hbr.out
            rwa [if_neg (by rw [h13]; decide)] at h2)
          clear Hbr
          rcases op with _ | _
          · have hwm : IntKind.i64.wrap ((m : Int) - 1) = (m : Int) - 1 := IntWalk.i64_in _ (by have := HI9.out.mi; omega)
            have HbN := Lib.hid (show (match fndZ r stk with | none => brkZ pr (i + 1) ((rs.zip ks).drop (i + 1)) stk out | some (a, t') => brkZ pr (i + 1) ((rs.zip ks).drop (i + 1)) t' (putZ out (a, i))) = R from by
              have h2 := Hb2.out
              rwa [if_neg (by decide)] at h2)
            clear Hb2
            have Hm0 := Lib.hid HI9.out.m_
            have Hcr := Lib.hid hcr9
            have Hab := Lib.hid (show ar.block < w9.heap.size from Hakb.out)
            have hmi := HI9.out.mi
            go_wp2_with fail
            go_loopw [6, 7, 12] (fun y z x wr => ∃ (u v : Stk) (V : World), V = wr ∧ y = .slice As m cs ∧ z = .slice Ao o co ∧ x = .int .i64 ((v.length : Int) - 1) ∧ v.length ≤ m ∧ Hid (stk = u ++ v ∧ fndZ r stk = fndZ r v) ∧ Hid (Below w9.heap.size w9 V)) (fun _ _ x _ => ((RowKit.intOf x) + 1).toNat)
            case atStart => exact ⟨[], stk, _, rfl, rfl, rfl, by rw [Hm0.out], by rw [Hm0.out]; exact Nat.le_refl _, Lib.hid ⟨rfl, rfl⟩, Lib.hid (Below.refl _ _)⟩
            case round =>
              obtain ⟨u, v, V, hV, rfl, rfl, rfl, hvm, Huv, HV⟩ := hrel
              subst hV
              have HIV := Lib.hid (HI9.out.below HV.out)
              rcases v with _ | ⟨⟨a, oo⟩, v⟩
              · obtain ⟨z, hz⟩ : ∃ z, ((([] : Stk).length : Nat) : Int) - 1 = z := ⟨_, rfl⟩
                have hz0' : ¬ (0 : Int) ≤ z := by simp at hz; omega
                rw [hz]
                have HIn := Lib.hid (show BrS pr rs ks R w B (i + 1) m o cs co As Ao stk out V from by
                  have h := HIV.out
                  have h2 := HbN.out
                  rw [Huv.out.2] at h2
                  exact ⟨h.m_, h.o_, by omega, by have := h.oi; omega, h.st, h.ou, h.be, h.le, h2⟩)
                clear hz HbN HI9 HIV Huv hvm
                go_wp2_with fail
                go_roundw
                case rel => exact ⟨i + 1, m, o, cs, co, As, Ao, stk, out, _, rfl, rfl, rfl, by first | rfl | go_num, Hnx.out, HIn⟩
                case measure => simp [RowKit.intOf]; omega
              · have hvl : v.length + 1 ≤ m := by simpa using hvm
                obtain ⟨j, hj⟩ : ∃ j, v.length = j := ⟨_, rfl⟩
                have hz : (((((a, oo) :: v) : Stk).length : Nat) : Int) - 1 = (j : Int) := by simp [hj]
                rw [hz]
                have hj0 : (0 : Int) ≤ (j : Int) := by omega
                obtain ⟨g, cap, hv1, _, _⟩ := HIV.out.st.form (by omega)
                injection hv1 with hA _ hcc
                subst hA hcc
                have hat : stk.reverse = v.reverse ++ (a, oo) :: u.reverse := by rw [Huv.out.1]; simp
                have hcells := stC_at v.reverse u.reverse (a, oo)
                rw [← hat, List.length_reverse, hj] at hcells
                have hs0 : V.cell? ⟨g, j * 2, none⟩ = some (.int .i64 (a : Int)) := by
                  rw [HIV.out.st.cellAt _ (by omega)]
                  exact hcells.1
                have hs1 : V.cell? ⟨g, j * 2 + 1, none⟩ = some (.int .i32 oo) := by
                  rw [HIV.out.st.cellAt _ (by omega)]
                  exact hcells.2
                have hs0D : V.drew.cell? ⟨g, j * 2, none⟩ = some (.int .i64 (a : Int)) := hs0
                have hs1D : V.drew.cell? ⟨g, j * 2 + 1, none⟩ = some (.int .i32 oo) := hs1
                have hcrV : V.cell? (ar.add i) = some (.int .i32 r) := (HV.out.cell (by rw [add_block]; exact Hab.out)).trans Hcr.out
                have hcrVD : V.drew.cell? (ar.add i) = some (.int .i32 r) := hcrV
                have hjm : (j : Int) < (m : Int) := by omega
                have hwj : IntKind.i64.wrap ((j : Int) - 1) = (j : Int) - 1 := IntWalk.i64_in _ (by have := HI9.out.mi; omega)
                by_cases hor : oo = r
                · have hob : (oo == r) = true := by simp [hor]
                  have Hfz := Lib.hid (show brkZ pr (i + 1) ((rs.zip ks).drop (i + 1)) v (putZ out (a, i)) = R from by
                    have h2 := HbN.out
                    rw [Huv.out.2, fndZ, if_pos hor] at h2
                    exact h2)
                  have Htk := Lib.hid (show (stC stk.reverse).take (j * 2) = stC v.reverse by
                    rw [hat, stC_append, ← hj, ← List.length_reverse, ← stC_len]
                    exact List.take_left)
                  have Hj := Lib.hid hj
                  clear hcells hat hj hz hvl hvm
                  go_wp2_with fail
                  go_quiet (fail)
                  generalize hX : World.drewN V _ = V1
                  have HI1 := Lib.hid (show BrS pr rs ks R w B i m o cs co (some ⟨g, 0, none⟩) Ao stk out V1 by rw [← hX]; exact HIV.out.below (below_N (Below.refl _ V) _))
                  have hs01 : V1.cell? ⟨g, j * 2, none⟩ = some (.int .i64 (a : Int)) := by rw [← hX]; exact hs0
                  have HP := Lib.hid (put_any9 Ao o co out a i V1 (Rd.own HI1.out.ou) (by have := HI1.out.oi; omega) (own_caps HI1.out.ou).1 (fun h => by
                    rcases HI1.out.ou.2 with ⟨h1, _⟩ | ⟨_, _, _, h1, _⟩
                    · injection h1
                    · injection h1 with h1; rw [h1] at h; cases h))
                  clear hX hs0 hs1 hs0D hs1D hcrV hcrVD HIV
                  go_wp2_with fail
                  refine (HP.out).mono ?_
                  rintro _ w8 ⟨Ao2, co2, rfl, ho8, hb8⟩
                  have hjm2 : j ≤ m := by omega
                  have hjc : j ≤ cs := Nat.le_trans hjm2 (own_caps HI1.out.st).1
                  have hjci : (j : Int) ≤ (cs : Int) := by omega
                  have HIn := Lib.hid (show BrS pr rs ks R w B (i + 1) j (putZ out (a, i)).length cs co2 (some ⟨g, 0, none⟩) Ao2 v (putZ out (a, i)) w8 from by
                    have h := HI1.out
                    refine ⟨Hj.out, rfl, by omega, by rw [putZ_len, h.o_]; have := h.oi; omega, ?_, own_base ho8 h.le, h.be.trans (hb8.mono h.le), Nat.le_trans h.le hb8.size, Hfz.out⟩
                    have h1 := own_takeS (own_below h.st hb8) hjm2
                    rw [Htk.out] at h1
                    exact h1)
                  clear ho8 hb8 HP HI1 Hfz Htk HbN
                  go_wp2_with fail
                  go_roundw
                  case rel => exact ⟨i + 1, j, _, cs, co2, _, Ao2, v, putZ out (a, i), _, rfl, rfl, rfl, by first | rfl | go_num, Hnx.out, HIn⟩
                  case measure => simp [RowKit.intOf]; omega
                · have hob : (oo == r) = false := by simp [hor]
                  have Huv2 := Lib.hid (show stk = (u ++ [(a, oo)]) ++ v ∧ fndZ r stk = fndZ r v from by
                    obtain ⟨h1, h2⟩ := Huv.out
                    refine ⟨by rw [h1]; simp, by rw [h2, fndZ, if_neg hor]⟩)
                  have Hj := Lib.hid hj
                  clear hcells hat HIV
                  go_wp2_with fail
                  go_quiet (fail)
                  go_wp2_with fail
                  go_roundw
                  case rel => exact ⟨u ++ [(a, oo)], v, _, rfl, rfl, rfl, by rw [Hj.out], by have := Hj.out; omega, Huv2, Lib.hid (below_N HV.out _)⟩
                  case measure => first | (simp [RowKit.intOf]; done) | (simp [RowKit.intOf]; omega)
          · by_cases hm : m = 63
            · have hmi : ((m : Int) == 63) = true := by rw [hm]; rfl
              have HF := Lib.hid (show R = out ∧ _ from ⟨by
                have h2 := Hb2.out
                rw [if_pos rfl, if_pos (by rw [HI9.out.m_, hm])] at h2
                exact h2.symm, HI9.out⟩)
              clear Hb2 HI9 hm
              go_wp2_with fail
              go_ret
              obtain ⟨e, h⟩ := HF.out
              subst e
              obtain rfl := h.o_
              exact ⟨_, _, rfl, h.ou, h.be⟩
            · have hmi : ((m : Int) == 63) = false := by simp; omega
              have hm1 := HI9.out.mi
              have HbN := Lib.hid (show brkZ pr (i + 1) ((rs.zip ks).drop (i + 1)) ((i, ot) :: stk) out = R from by
                have h2 := Hb2.out
                rwa [if_pos rfl, if_neg (by rw [HI9.out.m_]; exact hm)] at h2)
              clear Hb2
              go_wp2_with (at_builtin; refine wpList_append_own_at _ rfl _ _ 49 rfl B 51 i0 _ 2 16 Try.underlying49 hi hz0 hz1 hz2 rfl (by decide) _ _ _ rfl (HI9.out.st.alloc _) ⟨w9.heap.size, 0, none⟩ 1 1 [.int .i64 (i : Int), .int .i32 ot] rfl rfl ?d1 ?d2 ?d3 ?d4 ?d5 ?_)
              try (case d1 => exact new_cells w9 [.int .i64 (i : Int), .int .i32 ot] 51)
              case d2 => simp [Value.oneCell']
              case d3 => unfold maxLen; omega
              case d4 => omega
              case d5 => rw [World.size_alloc]; have := HI9.out.le; omega
              intro v2 w2 o2 g2 _ _
              obtain ⟨As2, cs2, hv2, _, _⟩ := own_shape o2
              subst hv2
              have HIn := Lib.hid (show BrS pr rs ks R w B (i + 1) (m + 1) o cs2 co As2 Ao ((i, ot) :: stk) out w2 from by
                have h := HI9.out
                have hb : Below B w w2 := (h.be.alloc h.le _).grown g2 (by rw [World.size_alloc]; have := h.le; omega) (fun q hq => (h.st.lt q hq).1)
                refine ⟨by simp [h.m_], h.o_, by omega, by have := h.oi; omega, ?_, own_other h.ou h.st (by decide) g2, hb, ?_, HbN.out⟩
                · rw [List.reverse_cons, stC_append]
                  exact o2
                · have := g2.size; rw [World.size_alloc] at this; have := h.le; omega)
              clear o2 g2 HI9 HbN
              go_wp2_with fail
              go_roundw
              case rel => exact ⟨i + 1, m + 1, o, cs2, co, As2, Ao, _, out, _, rfl, rfl, rfl, by first | rfl | go_num, Hnx.out, HIn⟩
              case measure => simp [RowKit.intOf]; omega
        · have e13 : (k != 13) = true := by simp [h13]
          have HIn := Lib.hid (show BrS pr rs ks R w B (i + 1) m o cs co As Ao stk out w9 from by
            have h := HI9.out
            exact ⟨h.m_, h.o_, by have := h.mi; omega, by have := h.oi; omega, h.st, h.ou, h.be, h.le, by have h2 := Hbr.out; rwa [if_pos (.inr h13)] at h2⟩)
          clear Hbr HI9
          go_wp2_with fail
          go_roundw
          case rel => exact ⟨i + 1, m, o, cs, co, As, Ao, stk, out, _, rfl, rfl, rfl, by first | rfl | go_num, Hnx.out, HIn⟩
          case measure => simp [RowKit.intOf]; omega
    · obtain rfl : i = N := by omega
      have hnn : ¬ (i : Int) < (i : Int) := by omega
      have HF := Lib.hid (show R = out ∧ _ from by
        have h := HI.out.br
        rw [List.drop_of_length_le (by rw [Hzl.out]; exact Nat.le_refl _)] at h
        exact ⟨h.symm, HI.out⟩)
      clear hiN hge HI
      go_wp2_with fail
      go_ret
      obtain ⟨e, h⟩ := HF.out
      subst e
      obtain rfl := h.o_
      exact ⟨_, _, rfl, h.ou, h.be⟩
end Go.Proofs.Ytkcckophnamajaa
