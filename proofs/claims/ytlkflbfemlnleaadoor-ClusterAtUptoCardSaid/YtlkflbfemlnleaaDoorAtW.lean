/- ClusterAt, walked. -/
import Derived.Test.YtlkflbfemlnleaaDoorAliveC
import Derived.Test.YtlkflbfemlnleaaDoorDocG
import Derived.Deep.RegionHeld3
import Derived.Laws.AppendOwnNone
namespace Go.Proofs.YtlkflbfemlnleaaDoor
open Go.RowKit Go.Shelf Go.Lib

/-- what At says, wherever it is asked -/
def AtIs (s : ByteArray) (q : Int) (a b : Nat) : Prop := (∃ p : Nat, min (max q 0) (s.size : Int) = (p : Int) ∧ p < s.size ∧ Around s p a b) ∨ (min (max q 0) (s.size : Int) = (s.size : Int) ∧ a = s.size ∧ b = s.size)
theorem cat_both (s : ByteArray) (q : Int) (w : World) (hs : s.size ≤ 1073741824) (hT : Utf8Tabs 0 1 w) :
    Calls Tryd.prog 20 #[.string s, .int .i64 q] w fun e w' => (∃ a b : Nat, e = .returned (.tuple #[.int .i64 (a : Int), .int .i64 (b : Int)]) ∧ AtIs s q a b) ∧ Below w.heap.size w w' := by
  obtain ⟨p, hp⟩ : ∃ p : Nat, min (max q 0) (s.size : Int) = (p : Int) := ⟨(min (max q 0) (s.size : Int)).toNat, by omega⟩
  rcases Nat.lt_or_ge p s.size with h | h
  · refine (at_any s q p w hp h hs hT).mono ?_
    rintro _ w1 ⟨⟨a, b, rfl, ha⟩, hb⟩
    exact ⟨⟨a, b, rfl, .inl ⟨p, hp, h, ha⟩⟩, hb⟩
  · have : p = s.size := by omega
    subst this
    refine (at_end s q w hp hs).mono ?_
    rintro _ w1 ⟨rfl, hb⟩
    exact ⟨⟨_, _, rfl, .inr ⟨hp, rfl, rfl⟩⟩, hb⟩
theorem rat_same (s : ByteArray) (q : Int) (a b : Nat) (h : AtIs s q a b) (w : World) (hs : s.size ≤ 1073741824) :
    Calls Tryd.prog 21 #[.string s, .int .i64 q] w fun e w' => e = .returned (.tuple #[.int .i64 (a : Int), .int .i64 (b : Int)]) ∧ Below w.heap.size w w' := by
  refine (rat_any s q w hs).mono ?_
  rintro _ w1 ⟨⟨a', b', rfl, h1, h2⟩, hb⟩
  refine ⟨?_, hb⟩
  rcases h with ⟨p, hp, hlt, har⟩ | ⟨hp, rfl, rfl⟩
  · obtain ⟨rfl, rfl⟩ := h1 p a b hp hlt har
    rfl
  · obtain ⟨rfl, rfl⟩ := h2 hp
    rfl

theorem is_same (s : ByteArray) (q : Int) (b : Bool) (hb : b = true ↔ isB s q) (w : World) (hs : s.size ≤ 1073741824) (hT : Utf8Tabs 0 1 w) :
    Calls Tryd.prog 22 #[.string s, .int .i64 q] w fun e w' => e = .returned (.bool b) ∧ Below w.heap.size w w' := by
  refine (is_any s q w hs hT).mono ?_
  rintro _ w1 ⟨⟨c, rfl, hc⟩, h⟩
  have : c = b := by rw [Bool.eq_iff_iff, hc, hb]
  exact ⟨by rw [this], h⟩
theorem ris_same (s : ByteArray) (q : Int) (b : Bool) (hb : b = true ↔ isB s q) (w : World) (hs : s.size ≤ 1073741824) :
    Calls Tryd.prog 23 #[.string s, .int .i64 q] w fun e w' => e = .returned (.bool b) ∧ Below w.heap.size w w' := by
  refine (ris_any s q w hs).mono ?_
  rintro _ w1 ⟨⟨c, rfl, hc⟩, h⟩
  have : c = b := by rw [Bool.eq_iff_iff, hc, hb]
  exact ⟨by rw [this], h⟩
theorem wpList_append_rd {P : Program} {w : World} {ops : Array Oper} {rest : List Oper} {o : Oper} {a : Act} {Q : Exit → Act → World → Prop} (hgd : o.guard = none) (s x : Operand) (t : TypeId)
    (ho : o.op = .call { callee := .builtin .append, args := #[s, x], argTypes := #[t, t] })
    (base : Nat) (e : TypeId) (i : TypeInfo) (z : Value) (bytes : Nat) (ht : P.underlying t = some (.slice e)) (hi : P.info? e = some i) (hz : i.zero = some z)
    (hsize : i.size = 1) (hby : i.bytes = bytes) (hzs : z.cells.size = 1)
    (v : Value) (n : Nat) (xs : List Value) (hs : a.eval s = v) (hown : w.ownsRow base e 1 v n xs)
    (A : Option Addr) (m c : Nat) (news : List Value) (hx : a.eval x = .slice A m c) (hnil : A = none → c = 0) (b2 : Nat) (hrd : Rd w b2 1 A m news) (h1 : ∀ u ∈ news, u.oneCell' = true)
    (h63 : n + m ≤ maxLen) (hbytes : (n + m) * bytes ≤ 140737488355328) (hbase : base ≤ w.heap.size)
    (h : ∀ v' w', w'.ownsRow base e 1 v' (n + m) (xs ++ news) → w.grownBy w' v.ownBlock → wpList P ops Q rest (a.put o.dst v') w') :
    wpList P ops Q (o :: rest) a w := by
  have hl := hrd.1
  rcases A with _ | ad
  · obtain rfl := hnil rfl
    obtain rfl : m = 0 := by
      rcases hrd.2 with h | ⟨a, e, _⟩
      · exact h
      · cases e
    obtain rfl : news = [] := List.eq_nil_of_length_eq_zero (by omega)
    refine wpList_append_own_none hgd s x t ho base e i 1 ht hi v n xs hs hown hx ?_
    exact h v w (by simpa using hown) ⟨rfl, rfl, rfl, Nat.le_refl _, fun _ _ _ => rfl⟩
  · have hc : ∀ j u, news[j]? = some u → w.cell? (ad.add j) = some u := by
      rcases hrd.2 with h | ⟨a, e, _, hc⟩
      · intro j u hu
        rw [List.eq_nil_of_length_eq_zero (show news.length = 0 by omega)] at hu
        cases hu
      · cases e
        exact hc
    exact wpList_append_own_at w hgd s x t ho base e i z 1 bytes ht hi hz hsize hby hzs (by omega) v n xs hs hown ad m c news hx hl hc h1 h63 hbytes hbase (fun v' w' a b _ c => h v' w' a b)

set_option maxRecDepth 100000 in
set_option maxHeartbeats 8000000 in
theorem clat_walk (s : ByteArray) (A : Option Addr) (n c : Nat) (zs : List Int) (w : World) (hs : s.size ≤ 1073741824) (hT : Utf8Tabs 0 1 w) (hrd : Rd w w.heap.size 1 A n (zs.map (Value.int .i64))) (hn : n ≤ 1048576) (hnil : A = none → c = 0) :
    Calls Tryd.prog 4 #[.string s, .slice A n c] w fun e w' => e = .returned (.bool true) ∧ Below w.heap.size w w' := by
  obtain ⟨i0, hi, hz0, hz1, hz2⟩ := info_parts rint_info
  have Hst := Lib.hid steps_any
  have Hal := Lib.hid alive_any
  have Hat := Lib.hid (fun q w hT => cat_both s q w hs hT)
  have Hra := Lib.hid (fun q a b h w => rat_same s q a b h w hs)
  have HT := Lib.hid hT
  have Hrd := Lib.hid hrd
  clear hT hrd
  go_enter Tryd.func4, Tryd.ntmps4
  go_wp2_with fail
  refine (Hst.out _ HT.out).mono ?_
  rintro _ w1 ⟨rfl, b1⟩
  have HT1 := Lib.hid (Utf8Tabs_below HT.out b1)
  have B1 := Lib.hid b1
  have Hrd1 := Lib.hid (Hrd.out.below b1)
  clear b1 Hrd HT Hst
  have hzl : zs.length = n := by have := Hrd1.out.1; simpa using this
  obtain ⟨Q, hQ⟩ : ∃ Q, w1.heap.size = Q := ⟨_, rfl⟩
  have HQ := Lib.hid hQ
  have h2Q := tabs_size HT1.out
  have hwQ := B1.out.size
  rw [hQ] at h2Q hwQ
  clear hQ
  go_wp2_with (at_builtin; refine wpList_append_rd rfl (.tmp 14) (.tmp 15) 31 rfl Q 3 i0 _ 8 Tryd.underlying31 hi hz0 hz1 hz2 rfl _ 0 [] rfl (World.ownsRow_nil _ _ _ _) _ _ _ _ rfl hnil _ Hrd1.out ?c1 ?c2 ?c3 ?c4 ?_)
  case c1 => simp [Value.oneCell']
  case c2 => unfold maxLen; omega
  case c3 => omega
  case c4 => rw [HQ.out]; exact Nat.le_refl _
  intro v2 w2 hown2 hg2
  have hown2 : w2.ownsRow Q 3 1 v2 n (zs.map (Value.int .i64)) := by simpa using hown2
  have hb2 : Below Q w1 w2 := (Below.refl Q w1).grown hg2 (by rw [HQ.out]; exact Nat.le_refl _) (fun k hk => by cases hk)
  have Hown2 := Lib.hid hown2
  have Hb2 := Lib.hid hb2
  clear hown2 hg2 hb2 Hrd1
  go_wp2_with fail
  go_loopw [5, 6] (fun v i wr => ∃ (k : Nat) (L : List Int), i = .int .i64 ((k : Int) - 1) ∧ wr.ownsRow Q 3 1 v L.length (L.map (Value.int .i64)) ∧ L.length = n + k ∧ k ≤ s.size + 3 ∧ (k = 0 ∨ s.size < 200) ∧ Below Q w1 wr) (fun _ i _ => s.size + 5 - (RowKit.intOf i + 1).toNat)
  case atStart => exact ⟨0, zs, rfl, by rw [hzl]; exact Hown2.out, by rw [hzl]; rfl, Nat.zero_le _, .inl rfl, Hb2.out⟩
  case round =>
    obtain ⟨k, L, rfl, hown, hL, hk, hk2, hbw⟩ := hrel
    have HwB : Hid (Q ≤ wr.heap.size) := Lib.hid (by have := hbw.size; have := HQ.out; omega)
    have hwl : IntKind.i64.wrap ((s.size : Int) + 1) = (s.size : Int) + 1 := IntWalk.i64_in _ (by omega)
    have Hown := Lib.hid hown
    have Hbw := Lib.hid hbw
    have HL := Lib.hid hL
    clear hown hbw hL
    have hcase : (((k : Int) - 1 ≤ (s.size : Int) + 1) ∧ ((s.size : Int) < 200)) ∨ (((k : Int) - 1 ≤ (s.size : Int) + 1) ∧ ¬ ((s.size : Int) < 200)) ∨ ¬ ((k : Int) - 1 ≤ (s.size : Int) + 1) := by omega
    rcases hcase with ⟨q1, q2⟩ | hno
    · have hlen : L.length ≤ 1048576 + 300 := by have := HL.out; omega
      go_wp2_with (at_builtin; refine wpList_append_own _ rfl _ _ 31 rfl Q 3 i0 _ 1 8 Tryd.underlying31 hi hz0 hz1 hz2 rfl (by decide) _ _ _ rfl (Hown.out.alloc _) ⟨wr.heap.size, 0, none⟩ 1 1 [.int .i64 ((k : Int) - 1)] rfl rfl ?c1 ?c2 ?c3 ?c4 ?c5 ?_)
      try (case c1 => exact new_cells wr [.int .i64 ((k : Int) - 1)] 3)
      case c2 => simp [Value.oneCell']
      case c3 => unfold maxLen; omega
      case c4 => omega
      case c5 => have := HwB.out; simp; omega
      intro v' w3 hown3 hg3 _
      have Hown3 := Lib.hid hown3
      clear hown3
      have hwk : IntKind.i64.wrap ((k : Int) - 1 + 1) = (((k + 1 : Nat) : Int) - 1) := by rw [IntWalk.i64_in _ (by omega)]; omega
      go_wp2
      go_roundw
      case rel =>
        refine ⟨k + 1, L ++ [(k : Int) - 1], by first | rfl | (congr 1; omega), ?_, by rw [List.length_append, HL.out]; rfl, by omega, .inr (by omega), (Hbw.out.alloc HwB.out _).grown hg3 (by have := HwB.out; simp; omega) (fun k hk => (Hown.out.lt k hk).1)⟩
        rw [List.map_append, List.length_append]
        exact Hown3.out
      case measure => simp only [RowKit.intOf]; omega
    · obtain ⟨Af, cf, rfl, _⟩ := own_shape Hown.out
      obtain ⟨wz, hwz⟩ : ∃ wz, wz = wr := ⟨_, rfl⟩
      subst hwz
      have hR : Rd wz wz.heap.size 1 Af L.length (L.map (Value.int .i64)) := Rd.own Hown.out
      have HR := Lib.hid hR
      have HTr := Lib.hid (Utf8Tabs_below HT1.out (by rw [HQ.out]; exact Hbw.out))
      have HB := Lib.hid (B1.out.trans (Hbw.out.mono hwQ))
      obtain ⟨M, hM⟩ : ∃ M, L.length = M := ⟨_, rfl⟩
      have hMle : M ≤ 1048576 + s.size + 3 := by rw [← hM, HL.out]; omega
      rw [hM] at HR ⊢
      have HM := Lib.hid hM
      clear hM hR Hown Hbw HwB HL hk hk2 Hown2 Hb2
      have hgo : (¬ ((k : Int) - 1 ≤ (s.size : Int) + 1)) ∨ (((k : Int) - 1 ≤ (s.size : Int) + 1) ∧ ¬ ((s.size : Int) < 200)) := by rcases hno with h | h; exact .inr h; exact .inl h
      clear hno
      rcases hgo with q1 | ⟨q1, q2⟩
      all_goals
        go_wp2_with fail
        go_loopw [7] (fun i wv => ∃ j : Nat, j ≤ M ∧ i = .int .i64 (j : Int) ∧ Below wz.heap.size wz wv) (fun i _ => M - (RowKit.intOf i).toNat)
        case atStart => exact ⟨0, Nat.zero_le _, rfl, Below.refl _ _⟩
        case round =>
          obtain ⟨j, hj, rfl, hbv⟩ := hrel
          have HTv := Lib.hid (Utf8Tabs_below HTr.out hbv)
          have HRv := Lib.hid (HR.out.below hbv)
          have Hbv := Lib.hid hbv
          clear hbv
          have hcs : (((j : Int) < (M : Int)) ∧ ((j : Int) < 400) ∧ ((j : Int) < 5)) ∨ (((j : Int) < (M : Int)) ∧ ((j : Int) < 400) ∧ ¬ ((j : Int) < 5) ∧ ((s.size : Int) < 4000)) ∨
              (((j : Int) < (M : Int)) ∧ ((j : Int) < 400) ∧ ¬ ((j : Int) < 5) ∧ ¬ ((s.size : Int) < 4000)) ∨ (((j : Int) < (M : Int)) ∧ ¬ ((j : Int) < 400)) ∨ ¬ ((j : Int) < (M : Int)) := by omega
          rcases hcs with ⟨p1, p2, p3⟩ | ⟨p1, p2, p3, p4⟩ | ⟨p1, p2, p3, p4⟩ | ⟨p1, p2⟩ | p1
          · obtain ⟨q, hq⟩ : ∃ q, L[j]? = some q := ⟨_, List.getElem?_eq_getElem (by rw [HM.out]; omega)⟩
            obtain ⟨a, rfl, hab, g⟩ := Rd.addr HRv.out (by omega)
            have g := g j (.int .i64 q) (by simp [hq])
            have hab' : (a.add j).block < wz.heap.size := by rw [add_block]; exact hab
            obtain ⟨bq, hbq⟩ : ∃ b : Bool, (b = true ↔ isB s q) := by
              by_cases h : isB s q
              · exact ⟨true, by simp [h]⟩
              · exact ⟨false, by simp [h]⟩
            have Hi := Lib.hid (fun w hT => is_same s q bq hbq w hs hT)
            have Hri := Lib.hid (fun w => ris_same s q bq hbq w hs)
            have hbb : (bq != bq) = false := by simp
            have hsv := Hbv.out.size
            have HRv2 := Lib.hid HRv.out
            clear HRv hq
            go_wp2_with fail
            refine (Hat.out q _ HTv.out).mono ?_
            rintro _ w4 ⟨⟨x, y, rfl, hxy⟩, b4⟩
            have g4 := (b4.cell (p := a.add j) (by omega)).trans g
            have HT4 := Lib.hid (Utf8Tabs_below HTv.out b4)
            have Hxy := Lib.hid (Hra.out q x y hxy)
            have B4 := Lib.hid (Hbv.out.trans (b4.mono hsv))
            have hs4 := B4.out.size
            have e1 : ((x : Int) != (x : Int)) = false := by simp
            have e2 : ((y : Int) != (y : Int)) = false := by simp
            have e3 : (x != x) = false := by simp
            have e4 : (y != y) = false := by simp
            clear b4 hxy g
            go_wp2_with fail
            refine (Hxy.out _).mono ?_
            rintro _ w5 ⟨rfl, b5⟩
            have g5 := (b5.cell (p := a.add j) (by omega)).trans g4
            have HT5 : Hid (Utf8Tabs 0 1 w5.drew) := Lib.hid (show Utf8Tabs 0 1 w5 from Utf8Tabs_below HT4.out b5)
            have B5 : Hid (Below wz.heap.size wz w5.drew) := Lib.hid (B4.out.trans (b5.mono hs4)).drew
            have g5d : w5.drew.cell? (a.add j) = some (.int .i64 q) := g5
            have hs5 : wz.heap.size ≤ w5.drew.heap.size := B5.out.size
            clear b5 g4 g5 Hxy
            go_wp2_with fail
            go_region_held3 (fun W' => W'.cell? (a.add j) = some (.int .i64 q))
              (first | exact g5d | exact (b6.cell (p := a.add j) (by omega)).trans g5d | exact (b7.cell (p := a.add j) (by omega)).trans ((b6.cell (p := a.add j) (by omega)).trans g5d))
              (first
                | (go_at_call 22; refine (Hi.out _ HT5.out).mono ?_; rintro e w6 ⟨rfl, b6⟩; have hs6 := b6.size)
                | (go_at_call 23; refine (Hri.out _).mono ?_; rintro e w7 ⟨rfl, b7⟩))
            go_wp2
            go_roundw
            case rel => exact ⟨j + 1, by omega, by go_num, B5.out.trans ((b6.trans (b7.mono hs6)).mono hs5)⟩
            case measure => simp [RowKit.intOf]; omega
          · obtain ⟨q, hq⟩ : ∃ q, L[j]? = some q := ⟨_, List.getElem?_eq_getElem (by rw [HM.out]; omega)⟩
            obtain ⟨a, rfl, hab, g⟩ := Rd.addr HRv.out (by omega)
            have g := g j (.int .i64 q) (by simp [hq])
            have hab' : (a.add j).block < wz.heap.size := by rw [add_block]; exact hab
            obtain ⟨bq, hbq⟩ : ∃ b : Bool, (b = true ↔ isB s q) := by
              by_cases h : isB s q
              · exact ⟨true, by simp [h]⟩
              · exact ⟨false, by simp [h]⟩
            have Hi := Lib.hid (fun w hT => is_same s q bq hbq w hs hT)
            have Hri := Lib.hid (fun w => ris_same s q bq hbq w hs)
            have hbb : (bq != bq) = false := by simp
            have hsv := Hbv.out.size
            have HRv2 := Lib.hid HRv.out
            clear HRv hq
            go_wp2_with fail
            refine (Hat.out q _ HTv.out).mono ?_
            rintro _ w4 ⟨⟨x, y, rfl, hxy⟩, b4⟩
            have g4 := (b4.cell (p := a.add j) (by omega)).trans g
            have HT4 := Lib.hid (Utf8Tabs_below HTv.out b4)
            have Hxy := Lib.hid (Hra.out q x y hxy)
            have B4 := Lib.hid (Hbv.out.trans (b4.mono hsv))
            have hs4 := B4.out.size
            have e1 : ((x : Int) != (x : Int)) = false := by simp
            have e2 : ((y : Int) != (y : Int)) = false := by simp
            have e3 : (x != x) = false := by simp
            have e4 : (y != y) = false := by simp
            clear b4 hxy g
            go_wp2_with fail
            refine (Hxy.out _).mono ?_
            rintro _ w5 ⟨rfl, b5⟩
            have g5 := (b5.cell (p := a.add j) (by omega)).trans g4
            have HT5 : Hid (Utf8Tabs 0 1 w5.drew) := Lib.hid (show Utf8Tabs 0 1 w5 from Utf8Tabs_below HT4.out b5)
            have B5 : Hid (Below wz.heap.size wz w5.drew) := Lib.hid (B4.out.trans (b5.mono hs4)).drew
            have g5d : w5.drew.cell? (a.add j) = some (.int .i64 q) := g5
            have hs5 : wz.heap.size ≤ w5.drew.heap.size := B5.out.size
            clear b5 g4 g5 Hxy
            go_wp2_with fail
            go_region_held3 (fun W' => W'.cell? (a.add j) = some (.int .i64 q))
              (first | exact g5d | exact (b6.cell (p := a.add j) (by omega)).trans g5d | exact (b7.cell (p := a.add j) (by omega)).trans ((b6.cell (p := a.add j) (by omega)).trans g5d))
              (first
                | (go_at_call 22; refine (Hi.out _ HT5.out).mono ?_; rintro e w6 ⟨rfl, b6⟩; have hs6 := b6.size)
                | (go_at_call 23; refine (Hri.out _).mono ?_; rintro e w7 ⟨rfl, b7⟩))
            go_wp2
            go_roundw
            case rel => exact ⟨j + 1, by omega, by go_num, B5.out.trans ((b6.trans (b7.mono hs6)).mono hs5)⟩
            case measure => simp [RowKit.intOf]; omega
          all_goals
            go_wp2_with fail
            refine (Hal.out _ HTv.out).mono ?_
            rintro _ w9 ⟨rfl, b9⟩
            go_wp2_with fail
            go_ret
            exact ⟨rfl, HB.out.trans ((Hbv.out.trans (b9.mono Hbv.out.size)).mono HB.out.size)⟩
end Go.Proofs.YtlkflbfemlnleaaDoor
