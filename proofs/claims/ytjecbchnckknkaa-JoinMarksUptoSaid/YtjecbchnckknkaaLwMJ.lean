/- Layer 11, the law JoinMarks, over the program's contracts. (Made by tools/mkmarks.py.) -/
import Derived.Test.YtjecbchnckknkaaLwSJ
import Derived.Test.YtjecbchnckknkaaPureG
set_option linter.unusedSimpArgs false
set_option linter.unusedVariables false
namespace Go.Proofs.Ytjecbchnckknkaa
open Go.RowKit Go.Lib

abbrev i64j (l : List Int) : List Value := l.map (Value.int .i64)
/-- numbers that are read -/
def RdN (w : World) (A : Option Addr) (n : Nat) (xs : List Int) : Prop := Rd w w.heap.size 1 A n (i64j xs)
theorem RdN.below {w w' : World} {A : Option Addr} {n : Nat} {xs : List Int} (h : RdN w A n xs) (hb : Below w.heap.size w w') : RdN w' A n xs := (Rd.below h hb).more hb.size
theorem RdN.own {w : World} {B n c : Nat} {A : Option Addr} {xs : List Int} (h : w.ownsRow B 3 1 (.slice A n c) n (i64j xs)) : RdN w A n xs := Rd.own h
theorem RdN.len {w : World} {A : Option Addr} {n : Nat} {xs : List Int} (h : RdN w A n xs) : xs.length = n := by have := h.1; simpa using this
theorem RdN.at {w : World} {n : Nat} {A : Option Addr} {xs : List Int} (h : RdN w A n xs) {i : Nat} {r : Int} (hr : xs[i]? = some r) : ∃ a, A = some a ∧ i < n ∧ a.block < w.heap.size ∧ w.cell? (a.add i) = some (.int .i64 r) := by
  have hl := h.len
  have hi := (List.getElem?_eq_some_iff.1 hr).1
  obtain ⟨a, e, hb, hc⟩ := Rd.addr h (by omega)
  exact ⟨a, e, by omega, hb, hc i _ (by rw [List.getElem?_map, hr]; rfl)⟩
theorem int_infoJ : (Try.prog.info? 3).map (fun i => (i.zero, i.size, i.bytes)) = some (some (.int .i64 0), 1, 8) := by kernel_rfl
/-- two rows of one's own, apart -/
structure TwoJ (Q : Nat) (vW : Value) (k : Nat) (wl : List Value) (vO : Value) (q : Nat) (ol : List Value) (W0 W : World) : Prop where
  ow : W.ownsRow Q 21 1 vW k wl
  oo : W.ownsRow Q 3 1 vO q ol
  ap : ∀ g, vW.ownBlock = some g → vO.ownBlock ≠ some g
  be : Below Q W0 W
  sz : Q ≤ W.heap.size
theorem apart_neJ {a b : Option Nat} (h : ∀ g, a = some g → b ≠ some g) : a = none ∨ a ≠ b := by
  rcases a with _ | g
  · exact .inl rfl
  · exact .inr fun e => h g rfl e.symm
theorem TwoJ.left {Q k q k' : Nat} {vW vO v' : Value} {wl ol wl' : List Value} {W0 W w' : World} (h : TwoJ Q vW k wl vO q ol W0 W) (o : Obj)
    (o3 : w'.ownsRow Q 21 1 v' k' wl') (g3 : (W.alloc o).grownBy w' vW.ownBlock) (e3 : v'.ownBlock = vW.ownBlock ∨ v'.ownBlock = some (W.heap.size + 1)) : TwoJ Q v' k' wl' vO q ol W0 w' := by
  have hs : Q ≤ (W.alloc o).heap.size := by rw [World.size_alloc]; have := h.sz; omega
  refine ⟨o3, (h.oo.alloc o).kept g3 (apart_neJ fun g e e' => h.ap g e' e), fun g e e' => ?_, (h.be.alloc h.sz o).grown g3 hs (fun q hq => (h.ow.lt q hq).1), Nat.le_trans hs g3.size⟩
  rcases e3 with e3 | e3
  · exact h.ap g (e3.symm.trans e) e'
  · rw [e3] at e
    injection e with e
    have h2 := (h.oo.lt g e').2
    omega
theorem TwoJ.right {Q k q q' : Nat} {vW vO v' : Value} {wl ol ol' : List Value} {W0 W w' : World} (h : TwoJ Q vW k wl vO q ol W0 W) (o : Obj)
    (o3 : w'.ownsRow Q 3 1 v' q' ol') (g3 : (W.alloc o).grownBy w' vO.ownBlock) (e3 : v'.ownBlock = vO.ownBlock ∨ v'.ownBlock = some (W.heap.size + 1)) : TwoJ Q vW k wl v' q' ol' W0 w' := by
  have hs : Q ≤ (W.alloc o).heap.size := by rw [World.size_alloc]; have := h.sz; omega
  refine ⟨(h.ow.alloc o).kept g3 (apart_neJ fun g e => h.ap g e), o3, fun g e e' => ?_, (h.be.alloc h.sz o).grown g3 hs (fun q hq => (h.oo.lt q hq).1), Nat.le_trans hs g3.size⟩
  rcases e3 with e3 | e3
  · exact h.ap g e (e3.symm.trans e')
  · rw [e3] at e'
    injection e' with e'
    have h2 := (h.ow.lt g e).2
    omega
/-- where each rune stands, as numbers -/
def ownI (ats xs : List Int) : List Int := (ownJ (cntM ats) 0 0 xs).map Int.ofNat
theorem ownI_next (ats : List Int) (m : Int) (xs : List Int) (i : Nat) (h : i < xs.length) : (ownI ats xs).take (i + 1) = (ownI ats xs).take i ++ [(((preM (cntM ats) m 0 (xs.take i)).length + cntM ats i : Nat) : Int)] := by
  rw [List.take_add_one]
  unfold ownI
  rw [List.getElem?_map, ownJ_at (cntM ats) m xs i h]
  rfl
theorem ownI_at (ats : List Int) (m : Int) (xs : List Int) (i : Nat) (h : i < xs.length) : (ownI ats xs)[i]? = some (((preM (cntM ats) m 0 (xs.take i)).length + cntM ats i : Nat) : Int) := by
  unfold ownI
  rw [List.getElem?_map, ownJ_at (cntM ats) m xs i h]
  rfl
theorem ownI_len (ats xs : List Int) : (ownI ats xs).length = xs.length := by unfold ownI; rw [List.length_map, ownJ_len]
set_option maxRecDepth 100000 in
set_option maxHeartbeats 8000000 in
theorem joinMarks_oneJ {N : Nat} (H : JoinP N) (A A1 : Option Addr) (n c n1 c1 : Nat) (xs ats : List Int) (m : Int) (hm : kJ m = 4) (w : World) (hr : RdJ w A n xs) (hr1 : RdN w A1 n1 ats) (hn : n ≤ 1048576) (hn1 : n1 ≤ 1048576) :
    Calls Try.prog 7 #[.slice A n c, .slice A1 n1 c1, .int .i32 m] w fun e w' => e = .returned (.bool true) ∧ Below w.heap.size w w' := by
  obtain ⟨i0, hi, hz0, hz1, hz2⟩ := info_parts i32_infoJ
  obtain ⟨j0, hj, hy0, hy1, hy2⟩ := info_parts int_infoJ
  have hl := hr.len
  have hl1 := hr1.len
  obtain ⟨B, hB⟩ : ∃ B, w.heap.size = B := ⟨_, rfl⟩
  have H0 := Lib.hid (show OnJ B w w from ⟨Below.refl _ _, by omega⟩)
  have HR := Lib.hid (show ∀ W, OnJ B w W → RdJ W A n xs ∧ RdN W A1 n1 ats from fun W h => ⟨hr.below (by rw [hB]; exact h.1), hr1.below (by rw [hB]; exact h.1)⟩)
  rw [hB]
  clear hB hr hr1
  have HW := Lib.hid (fun W => works_anyJ H W)
  have HK := Lib.hid (fun W => show Calls Try.prog 26 #[.int .i32 m] W (fun e w' => e = .returned (.int .i8 4) ∧ Below W.heap.size W w') from by have h : Calls Try.prog 26 #[.int .i32 m] W (fun e w' => e = .returned (.int .i8 (kJ m)) ∧ Below W.heap.size W w') := Join_any m W; rwa [hm] at h)
  have HF := Lib.hid (fun A n c xs W h (h2 : n ≤ 4194304) => H.forms A n c xs W h (Nat.le_trans h2 H.big))
  obtain ⟨fs, hfs⟩ : ∃ fs, formsJ 0 (xs.map kJ) = fs := ⟨_, rfl⟩
  have hfl : fs.length = n := by rw [← hfs, formsJ_len, List.length_map, hl]
  obtain ⟨ww, hww⟩ : ∃ ww, withJ (cntM ats) m 0 xs = ww := ⟨_, rfl⟩
  obtain ⟨os, hos⟩ : ∃ os, ownI ats xs = os := ⟨_, rfl⟩
  have hol : os.length = n := by rw [← hos, ownI_len, hl]
  obtain ⟨gs, hgs⟩ : ∃ gs, formsJ 0 (ww.map kJ) = gs := ⟨_, rfl⟩
  have hwp : ww = preM (cntM ats) m 0 (xs.take n) ++ List.replicate (cntM ats n) m := by
    rw [← hww, withJ_pre, Nat.zero_add, hl, List.take_of_length_le (by omega)]
  have HL := Lib.hid (show ∀ i, i ≤ n → (preM (cntM ats) m 0 (xs.take i)).length + cntM ats i ≤ i + n1 from fun i h => by
    have h1 := preM_le ats m (xs.take i)
    rw [List.length_take, Nat.min_eq_left (by omega), hl1] at h1
    exact h1)
  have hwl : ww.length ≤ 2097152 := by
    have h1 := HL.out n (Nat.le_refl _)
    rw [hwp, List.length_append, List.length_replicate]
    omega
  obtain ⟨K, hK⟩ : ∃ K, ww.length = K := ⟨_, rfl⟩
  have HKK := Lib.hid hK
  have hgl : gs.length = K := by rw [← hgs, formsJ_len, List.length_map, hK]
  have HN := Lib.hid (show ∀ i x, xs[i]? = some x → preM (cntM ats) m 0 (xs.take (i + 1)) = preM (cntM ats) m 0 (xs.take i) ++ List.replicate (cntM ats i) m ++ [x] from fun i x h => preM_next _ m xs i x h)
  have HO := Lib.hid (show ∀ i, i < n → os.take (i + 1) = os.take i ++ [(((preM (cntM ats) m 0 (xs.take i)).length + cntM ats i : Nat) : Int)] from fun i h => by rw [← hos]; exact ownI_next ats m xs i (by omega))
  have HC := Lib.hid (show ∀ i q k, ats[q]? = some k → cntM (ats.take (q + 1)) i = cntM (ats.take q) i + (if k = (i : Int) then 1 else 0) from fun i q k h => cntM_next ats i q k h)
  have HCle := Lib.hid (show ∀ i q, cntM (ats.take q) i ≤ cntM ats i from fun i q => cntM_take ats i q)
  have HCn := Lib.hid (show ∀ i, cntM (ats.take n1) i = cntM ats i from fun i => by rw [List.take_of_length_le (by omega)])
  have HX := Lib.hid (show ∀ i, i < n → ∃ o f, os[i]? = some ((o : Nat) : Int) ∧ o < K ∧ gs[o]? = some f ∧ fs[i]? = some f from fun i h => by
    refine ⟨(preM (cntM ats) m 0 (xs.take i)).length + cntM ats i, fs[i]'(by omega), by rw [← hos]; exact ownI_at ats m xs i (by omega), ?_, ?_, List.getElem?_eq_getElem _⟩
    · have e := marks_own kJ (cntM ats) m hm xs i (by omega)
      rw [hww, hgs, hfs, List.getElem?_eq_getElem (show i < fs.length by omega)] at e
      have := (List.getElem?_eq_some_iff.1 e).1
      omega
    · have e := marks_own kJ (cntM ats) m hm xs i (by omega)
      rw [hww, hgs, hfs] at e
      rw [e, List.getElem?_eq_getElem (show i < fs.length by omega)])
  have HM := Lib.hid (show ∀ i x, ww[i]? = some x → x = m → gs[i]? = some (0 : Int) from fun i x h e => by rw [← hgs]; exact marks_mark kJ m hm ww i x h e)
  have HWW := Lib.hid hwp
  have HT := Lib.hid (show preM (cntM ats) m 0 (xs.take 0) = [] ∧ os.take 0 = [] ∧ os.take n = os ∧ formsJ 0 (xs.map kJ) = fs ∧ formsJ 0 (ww.map kJ) = gs from ⟨by rw [List.take_zero]; rfl, List.take_zero .., List.take_of_length_le (by omega), hfs, hgs⟩)
  have hm' := Lib.hid hm
  have hKb : K ≤ 2097152 := by omega
  have HLN := Lib.hid (show xs.length = n ∧ ats.length = n1 ∧ fs.length = n ∧ os.length = n ∧ gs.length = K ∧ ww.length = K from ⟨hl, hl1, hfl, hol, hgl, hK⟩)
  clear hm hfs hww hos hgs hwp hl hl1 hfl hol hgl hK hwl
  go_enter Try.func7, Try.ntmps7
  go_wp2_with fail
  refine (HW.out _).mono ?_
  rintro _ V1 ⟨rfl, b1⟩
  have HB1 := Lib.hid (H0.out.on b1)
  clear b1 H0 HW
  go_wp2_with fail
  refine (HK.out _).mono ?_
  rintro _ V2 ⟨rfl, b2⟩
  have HB2 := Lib.hid (HB1.out.on b2)
  clear b2 HB1 HK
  go_wp2_with fail
  refine (HF.out _ _ _ _ _ (HR.out _ HB2.out).1 (by omega)).mono ?_
  rw [HT.out.2.2.2.1]
  rintro _ W0 ⟨Q0, A0, c0, hQ0, rfl, o0, b0⟩
  rw [HLN.out.2.2.1] at o0 ⊢
  have HB3 := Lib.hid (HB2.out.on b0)
  obtain ⟨Q, hQ⟩ : ∃ Q, W0.heap.size = Q := ⟨_, rfl⟩
  have HP := Lib.hid (show ∀ W, Below Q W0 W → RdJ W A n xs ∧ RdN W A1 n1 ats ∧ RdF W A0 n fs ∧ Below B w W from fun W h => by
    have h0 := HR.out _ HB3.out
    rw [← hQ] at h
    exact ⟨h0.1.below h, h0.2.below h, (RdF.own o0).below h, (HB3.out.on h).1⟩)
  have HI0 := Lib.hid (show TwoJ Q (.slice none 0 0) 0 (i32j (preM (cntM ats) m 0 (xs.take 0))) (.slice none 0 0) 0 (i64j (os.take 0)) W0 W0 from by
    rw [HT.out.1, HT.out.2.1]
    exact ⟨World.ownsRow_nil _ _ _ _, World.ownsRow_nil _ _ _ _, fun g e => (by cases e), Below.refl _ _, by omega⟩)
  have HQ := Lib.hid hQ
  clear o0 b0 hQ0 HB2 hQ HB3 HR
  go_wp2_with fail
  go_loopw [8, 9, 10] (fun y z x wr => ∃ (i q k cw co : Nat) (Aw Ao : Option Addr) (W : World), W = wr ∧ y = .slice Aw k cw ∧ z = .slice Ao q co ∧ x = .int .i64 (i : Int) ∧
    (i ≤ n ∧ q = i ∧ k = (preM (cntM ats) m 0 (xs.take i)).length ∧ Hid (TwoJ Q (.slice Aw k cw) k (i32j (preM (cntM ats) m 0 (xs.take i))) (.slice Ao q co) q (i64j (os.take i)) W0 W) ∨
     i = n + 1 ∧ q = n ∧ k = K ∧ Hid (TwoJ Q (.slice Aw k cw) k (i32j ww) (.slice Ao q co) q (i64j os) W0 W))) (fun _ _ x _ => n + 1 - (RowKit.intOf x).toNat)
  case atStart => exact ⟨0, 0, 0, 0, 0, none, none, _, rfl, rfl, rfl, rfl, .inl ⟨Nat.zero_le _, rfl, by rw [HT.out.1]; rfl, HI0⟩⟩
  case round =>
    clear HI0
    obtain ⟨i, q, k, cw, co, Aw, Ao, W, hW, rfl, rfl, rfl, hcase⟩ := hrel
    subst hW
    rcases hcase with ⟨hin, hqi, hkk, HI⟩ | ⟨hin, hqn, hkK, HI⟩
    · subst hqi
      have hini : (q : Int) ≤ (n : Int) := by omega
      have hLq := HL.out q hin
      obtain ⟨P0, hP0⟩ : ∃ P0, preM (cntM ats) m 0 (xs.take q) = P0 := ⟨_, rfl⟩
      rw [hP0] at hkk hLq HI
      have hnext : IntKind.i64.wrap ((q : Int) + 1) = (q : Int) + 1 := IntWalk.i64_in _ (by omega)
      have HI1 := Lib.hid (show TwoJ Q (.slice Aw k cw) k (i32j (P0 ++ List.replicate (cntM (ats.take 0) q) m)) (.slice Ao q co) q (i64j (os.take q)) W0 W from by
        rw [List.take_zero]; simpa [cntM] using HI.out)
      have HP0 := Lib.hid hP0
      have Hkk := Lib.hid hkk
      clear HI hP0 hkk
      go_wp2_with fail
      go_loopw [8, 31] (fun y x wr => ∃ (p k cw : Nat) (Aw : Option Addr) (W : World), W = wr ∧ y = .slice Aw k cw ∧ x = .int .i64 (p : Int) ∧ p ≤ n1 ∧ k = P0.length + cntM (ats.take p) q ∧
        Hid (TwoJ Q (.slice Aw k cw) k (i32j (P0 ++ List.replicate (cntM (ats.take p) q) m)) (.slice Ao q co) q (i64j (os.take q)) W0 W)) (fun _ x _ => n1 - (RowKit.intOf x).toNat)
      case atStart => exact ⟨0, k, cw, Aw, _, rfl, rfl, rfl, Nat.zero_le _, by rw [List.take_zero, Hkk.out]; simp [cntM], HI1⟩
      case round =>
        clear HI1
        obtain ⟨p, k2, cw2, Aw2, W, hW, rfl, rfl, hpn, hk2, HI⟩ := hrel
        subst hW
        have hcl := HCle.out q p
        rcases Nat.lt_or_ge p n1 with hlt | hge
        · obtain ⟨r, hri⟩ : ∃ r, ats[p]? = some r := ⟨_, List.getElem?_eq_getElem (by rw [HLN.out.2.1]; omega)⟩
          obtain ⟨ar, hA1, _, _, hcr⟩ := (HP.out W HI.out.be).2.1.at hri
          subst hA1
          have hpp : (p : Int) < (n1 : Int) := by omega
          have hpnext : IntKind.i64.wrap ((p : Int) + 1) = (p : Int) + 1 := IntWalk.i64_in _ (by omega)
          have hcn := HC.out q p r hri
          have hcl2 := HCle.out q (p + 1)
          obtain ⟨cc, hcc⟩ : ∃ cc, cntM (ats.take p) q = cc := ⟨_, rfl⟩
          rw [hcc] at hcn hk2 hcl HI
          by_cases hrq : r = (q : Int)
          · have heq : (r == (q : Int)) = true := by simp [hrq]
            rw [if_pos hrq] at hcn
            have HE := Lib.hid hcn
            have HAp := Lib.hid (show i32j (P0 ++ List.replicate cc m) ++ [.int .i32 m] = i32j (P0 ++ List.replicate (cntM (ats.take (p + 1)) q) m) from by rw [hcn, List.replicate_succ']; simp [i32j])
            obtain ⟨X, hX⟩ : ∃ X, i32j (P0 ++ List.replicate cc m) = X := ⟨_, rfl⟩
            rw [hX] at HAp HI
            have Hk2 := Lib.hid hk2
            have hkm : k2 + 1 ≤ 3145728 := by omega
            clear hri hrq hX hcc hcn hk2
            go_wp2_with (at_builtin; refine wpList_append_own_at _ rfl _ _ 22 rfl Q 21 i0 _ 1 4 Try.underlying22 hi hz0 hz1 hz2 rfl (by decide) _ _ _ rfl (HI.out.ow.alloc _) ⟨W.heap.size, 0, none⟩ 1 1 [.int .i32 m] rfl rfl ?d1 ?d2 ?d3 ?d4 ?d5 ?_)
            try (case d1 => exact new_cells W [.int .i32 m] 21)
            case d2 => simp [Value.oneCell']
            case d3 => unfold maxLen; omega
            case d4 => omega
            case d5 => have := HI.out.sz; first | omega | (rw [World.size_alloc]; omega)
            intro v2 w2 o2 g2 _ e2
            have H2 := Lib.hid (HI.out.left _ o2 g2 e2)
            clear o2 g2 e2 HI
            obtain ⟨A2, c2, hv2, _, _⟩ := own_shape H2.out.ow
            subst hv2
            rw [HAp.out] at H2
            go_wp2_with fail
            go_roundw
            case rel => exact ⟨p + 1, k2 + 1, c2, A2, _, rfl, rfl, by first | rfl | go_num, hlt, by rw [HE.out, Hk2.out]; omega, H2⟩
            case measure => simp [RowKit.intOf]; omega
          · have heq : (r == (q : Int)) = false := by simpa using hrq
            have hcn' : cntM (ats.take (p + 1)) q = cc := by simpa [hrq] using hcn
            rw [← hcn'] at HI hk2
            have Hk2 := Lib.hid hk2
            clear hcn hcn' hk2
            clear hri hrq hcc
            go_wp2_with fail
            go_roundw
            case rel => exact ⟨p + 1, k2, cw2, Aw2, W, rfl, rfl, by first | rfl | go_num, hlt, Hk2.out, HI⟩
            case measure => simp [RowKit.intOf]; omega
        · obtain rfl : p = n1 := by omega
          have hpp : ¬ (p : Int) < (p : Int) := by omega
          rw [HCn.out] at HI hk2
          have hkm : k2 + 2 ≤ 3145728 := by omega
          have Hk2 := Lib.hid hk2
          clear hge hpn hcl hk2
          rcases Nat.lt_or_ge q n with hlt | hge
          · obtain ⟨r, hri⟩ : ∃ r, xs[q]? = some r := ⟨_, List.getElem?_eq_getElem (by rw [HLN.out.1]; omega)⟩
            obtain ⟨ar, hA, _, hab, _⟩ := (HP.out W HI.out.be).1.at hri
            subst hA
            have hqq : (q : Int) < (n : Int) := by omega
            have HO1 := Lib.hid (show i64j (os.take q) ++ [.int .i64 (k2 : Int)] = i64j (os.take (q + 1)) from by rw [HO.out q hlt, HP0.out, ← Hk2.out]; simp [i64j])
            have HN1 := Lib.hid (show i32j (P0 ++ List.replicate (cntM ats q) m) ++ [.int .i32 r] = i32j (preM (cntM ats) m 0 (xs.take (q + 1))) ∧ (preM (cntM ats) m 0 (xs.take (q + 1))).length = k2 + 1 from by
              rw [HN.out q r hri, HP0.out]
              exact ⟨by simp [i32j], by rw [List.length_append, List.length_append, List.length_replicate, ← Hk2.out]; rfl⟩)
            have HRd := Lib.hid (show ∀ W', Below Q W0 W' → W'.cell? (ar.add q) = some (.int .i32 r) from fun W' h => by
              obtain ⟨a, e, _, _, hc⟩ := (HP.out W' h).1.at hri
              injection e with e; subst e; exact hc)
            obtain ⟨X, hX⟩ : ∃ X, i32j (P0 ++ List.replicate (cntM ats q) m) = X := ⟨_, rfl⟩
            obtain ⟨Y, hY⟩ : ∃ Y, i64j (os.take q) = Y := ⟨_, rfl⟩
            rw [hX] at HN1 HI
            rw [hY] at HO1 HI
            clear hri hX hY hab
            go_wp2_with (at_builtin; refine wpList_append_own_at _ rfl _ _ 37 rfl Q 3 j0 _ 1 8 Try.underlying37 hj hy0 hy1 hy2 rfl (by decide) _ _ _ rfl (HI.out.oo.alloc _) ⟨W.heap.size, 0, none⟩ 1 1 [.int .i64 (k2 : Int)] rfl rfl ?d1 ?d2 ?d3 ?d4 ?d5 ?_)
            try (case d1 => exact new_cells W [.int .i64 (k2 : Int)] 3)
            case d2 => simp [Value.oneCell']
            case d3 => unfold maxLen; omega
            case d4 => omega
            case d5 => have := HI.out.sz; first | omega | (rw [World.size_alloc]; omega)
            intro v2 w2 o2 g2 _ e2
            have H2 := Lib.hid (HI.out.right _ o2 g2 e2)
            clear o2 g2 e2 HI
            obtain ⟨A2, c2, hv2, _, _⟩ := own_shape H2.out.oo
            subst hv2
            rw [HO1.out] at H2
            have hcr := HRd.out w2 H2.out.be
            go_wp2_with (at_builtin; refine wpList_append_own_at _ rfl _ _ 22 rfl Q 21 i0 _ 1 4 Try.underlying22 hi hz0 hz1 hz2 rfl (by decide) _ _ _ rfl (H2.out.ow.alloc _) ⟨w2.heap.size, 0, none⟩ 1 1 [.int .i32 r] rfl rfl ?e1 ?e2 ?e3 ?e4 ?e5 ?_)
            try (case e1 => exact new_cells w2 [.int .i32 r] 21)
            case e2 => simp [Value.oneCell']
            case e3 => unfold maxLen; omega
            case e4 => omega
            case e5 => have := H2.out.sz; first | omega | (rw [World.size_alloc]; omega)
            intro v3 w3 o3 g3 _ e3
            have H3 := Lib.hid (H2.out.left _ o3 g3 e3)
            clear o3 g3 e3 H2 hcr
            obtain ⟨A3, c3, hv3, _, _⟩ := own_shape H3.out.ow
            subst hv3
            rw [HN1.out.1] at H3
            go_wp2_with fail
            go_roundw
            case rel => exact ⟨q + 1, q + 1, k2 + 1, c3, c2, A3, A2, _, rfl, rfl, rfl, by first | rfl | go_num, .inl ⟨hlt, rfl, HN1.out.2.symm, H3⟩⟩
            case measure => simp [RowKit.intOf]; omega
          · obtain rfl : q = n := by omega
            have hqq : ¬ (q : Int) < (q : Int) := by omega
            have HE := Lib.hid (show k2 = K ∧ TwoJ Q (.slice Aw2 k2 cw2) k2 (i32j ww) (.slice Ao q co) q (i64j os) W0 W from by
              have e := HWW.out
              rw [HP0.out] at e
              have h := HI.out
              rw [← e, HT.out.2.2.1] at h
              exact ⟨by rw [← HKK.out, e, List.length_append, List.length_replicate]; exact Hk2.out, h⟩)
            clear HI hge
            go_wp2_with fail
            go_roundw
            case rel => exact ⟨q + 1, q, k2, cw2, co, Aw2, Ao, W, rfl, rfl, rfl, by first | rfl | go_num, .inr ⟨rfl, rfl, HE.out.1, Lib.hid HE.out.2⟩⟩
            case measure => simp [RowKit.intOf]
    · subst hin
      subst hqn
      subst hkK
      have hini : ¬ (((q + 1 : Nat) : Int) ≤ (q : Int)) := by omega
      have HA := Lib.hid HI.out
      clear HI
      go_wp2_with fail
      refine (HF.out Aw k cw ww _ (RdJ.own HA.out.ow) (by omega)).mono ?_
      rw [HT.out.2.2.2.2]
      rintro _ W2 ⟨Q2, A2, c2, hQ2, rfl, o2, b2⟩
      rw [HLN.out.2.2.2.2.1] at o2 ⊢
      have HZ := Lib.hid (show ∀ W', Below W2.heap.size W2 W' → RdJ W' Aw k ww ∧ RdN W' Ao q os ∧ RdF W' A2 k gs ∧ RdF W' A0 q fs ∧ Below B w W' from fun W' h => by
        have hb := b2.trans (h.mono b2.size)
        have hq := HP.out W' (HA.out.be.trans (hb.mono HA.out.sz))
        exact ⟨(RdJ.own HA.out.ow).below hb, (RdN.own HA.out.oo).below hb, (RdF.own o2).below h, hq.2.2.1, hq.2.2.2⟩)
      have hkk : ((k : Int) != (k : Int)) = false := by simp
      have hqq : ((q : Int) != (q : Int)) = false := by simp
      have HD0 := Lib.hid (Below.refl W2.heap.size W2)
      obtain ⟨M, hM⟩ : ∃ M, W2.heap.size = M := ⟨_, rfl⟩
      rw [hM] at HZ HD0
      clear o2 b2 hQ2 HA hM
      go_wp2_with fail
      go_loopw [75] (fun x wr => ∃ (i : Nat) (W : World), W = wr ∧ x = .int .i64 (i : Int) ∧ i ≤ q ∧ Hid (Below M W2 W)) (fun x _ => q - (RowKit.intOf x).toNat)
      case atStart => exact ⟨0, _, rfl, rfl, Nat.zero_le _, HD0⟩
      case round =>
        clear HD0
        obtain ⟨i, W, hW, rfl, hiq, HD⟩ := hrel
        subst hW
        rcases Nat.lt_or_ge i q with hlt | hge
        · obtain ⟨o, f, h1, h2, h3, h4⟩ := HX.out i hlt
          have hz := HZ.out W.drew (below_DJ HD.out)
          obtain ⟨ao, hAo, _, _, d1⟩ := hz.2.1.at h1
          obtain ⟨ag, hAg, _, _, d2⟩ := hz.2.2.1.at h3
          obtain ⟨af, hAf, _, _, d3⟩ := hz.2.2.2.1.at h4
          subst hAo
          subst hAg
          subst hAf
          have hii : (i : Int) < (q : Int) := by omega
          have hoo : (o : Int) < (k : Int) := by omega
          have hnx : IntKind.i64.wrap ((i : Int) + 1) = (i : Int) + 1 := IntWalk.i64_in _ (by omega)
          have hff : (f != f) = false := by simp
          have HD1 := Lib.hid (below_DJ HD.out)
          clear h1 h3 h4 hz HD
          go_wp2_with fail
          go_region
          go_wp2_with fail
          go_roundw
          case rel => exact ⟨i + 1, _, rfl, by first | rfl | go_num, hlt, HD1⟩
          case measure => simp [RowKit.intOf]; omega
        · obtain rfl : i = q := by omega
          have hii : ¬ (i : Int) < (i : Int) := by omega
          clear hge hiq
          go_wp2_with fail
          go_loopw [93] (fun x wr => ∃ (j : Nat) (W : World), W = wr ∧ x = .int .i64 (j : Int) ∧ j ≤ k ∧ Hid (Below M W2 W)) (fun x _ => k - (RowKit.intOf x).toNat)
          case atStart => exact ⟨0, _, rfl, rfl, Nat.zero_le _, HD⟩
          case round =>
            clear HD
            obtain ⟨j, W, hW, rfl, hjk, HD⟩ := hrel
            subst hW
            rcases Nat.lt_or_ge j k with hlt | hge
            · obtain ⟨x, h1⟩ : ∃ x, ww[j]? = some x := ⟨_, List.getElem?_eq_getElem (by rw [HLN.out.2.2.2.2.2]; omega)⟩
              have hz := HZ.out W HD.out
              obtain ⟨aw, hAw, _, _, d1⟩ := hz.1.at h1
              subst hAw
              have hjj : (j : Int) < (k : Int) := by omega
              have hnx : IntKind.i64.wrap ((j : Int) + 1) = (j : Int) + 1 := IntWalk.i64_in _ (by omega)
              by_cases hxm : x = m
              · obtain ⟨ag, hAg, _, _, d2⟩ := hz.2.2.1.at (HM.out j x h1 hxm)
                subst hAg
                have hx : (x == m) = true := by simp [hxm]
                clear h1 hz hxm
                go_wp2_with fail
                go_roundw
                case rel => exact ⟨j + 1, _, rfl, by first | rfl | go_num, hlt, HD⟩
                case measure => simp [RowKit.intOf]; omega
              · have hx : (x == m) = false := by simpa using hxm
                clear h1 hz hxm
                go_wp2_with fail
                go_roundw
                case rel => exact ⟨j + 1, _, rfl, by first | rfl | go_num, hlt, HD⟩
                case measure => simp [RowKit.intOf]; omega
            · obtain rfl : j = k := by omega
              have hjj : ¬ (j : Int) < (j : Int) := by omega
              have HE := Lib.hid (HZ.out W HD.out).2.2.2.2
              clear hge hjk HD
              go_wp2_with fail
              go_ret
              exact ⟨rfl, HE.out⟩
set_option maxRecDepth 100000 in
set_option maxHeartbeats 8000000 in
theorem joinMarks_twoJ {N : Nat} (H : JoinP N) (A A1 : Option Addr) (n c n1 c1 : Nat) (xs ats : List Int) (m0 : Int) (hm0 : kJ m0 ≠ 4) (m : Int) (hmm : m = 1611) (w : World) (hr : RdJ w A n xs) (hr1 : RdN w A1 n1 ats) (hn : n ≤ 1048576) (hn1 : n1 ≤ 1048576) :
    Calls Try.prog 7 #[.slice A n c, .slice A1 n1 c1, .int .i32 m0] w fun e w' => e = .returned (.bool true) ∧ Below w.heap.size w w' := by
  have hm : kJ m = 4 := by subst hmm; decide +kernel
  obtain ⟨i0, hi, hz0, hz1, hz2⟩ := info_parts i32_infoJ
  obtain ⟨j0, hj, hy0, hy1, hy2⟩ := info_parts int_infoJ
  have hl := hr.len
  have hl1 := hr1.len
  obtain ⟨B, hB⟩ : ∃ B, w.heap.size = B := ⟨_, rfl⟩
  have H0 := Lib.hid (show OnJ B w w from ⟨Below.refl _ _, by omega⟩)
  have HR := Lib.hid (show ∀ W, OnJ B w W → RdJ W A n xs ∧ RdN W A1 n1 ats from fun W h => ⟨hr.below (by rw [hB]; exact h.1), hr1.below (by rw [hB]; exact h.1)⟩)
  rw [hB]
  clear hB hr hr1
  have HW := Lib.hid (fun W => works_anyJ H W)
  obtain ⟨k0, hk0⟩ : ∃ k0, kJ m0 = k0 := ⟨_, rfl⟩
  rw [hk0] at hm0
  have HK := Lib.hid (fun W => show Calls Try.prog 26 #[.int .i32 m0] W (fun e w' => e = .returned (.int .i8 k0) ∧ Below W.heap.size W w') from by have h : Calls Try.prog 26 #[.int .i32 m0] W (fun e w' => e = .returned (.int .i8 (kJ m0)) ∧ Below W.heap.size W w') := Join_any m0 W; rwa [hk0] at h)
  have hk4 : (k0 != 4) = true := by simpa using hm0
  clear hk0 hm0
  have HF := Lib.hid (fun A n c xs W h (h2 : n ≤ 4194304) => H.forms A n c xs W h (Nat.le_trans h2 H.big))
  obtain ⟨fs, hfs⟩ : ∃ fs, formsJ 0 (xs.map kJ) = fs := ⟨_, rfl⟩
  have hfl : fs.length = n := by rw [← hfs, formsJ_len, List.length_map, hl]
  obtain ⟨ww, hww⟩ : ∃ ww, withJ (cntM ats) m 0 xs = ww := ⟨_, rfl⟩
  obtain ⟨os, hos⟩ : ∃ os, ownI ats xs = os := ⟨_, rfl⟩
  have hol : os.length = n := by rw [← hos, ownI_len, hl]
  obtain ⟨gs, hgs⟩ : ∃ gs, formsJ 0 (ww.map kJ) = gs := ⟨_, rfl⟩
  have hwp : ww = preM (cntM ats) m 0 (xs.take n) ++ List.replicate (cntM ats n) m := by
    rw [← hww, withJ_pre, Nat.zero_add, hl, List.take_of_length_le (by omega)]
  have HL := Lib.hid (show ∀ i, i ≤ n → (preM (cntM ats) m 0 (xs.take i)).length + cntM ats i ≤ i + n1 from fun i h => by
    have h1 := preM_le ats m (xs.take i)
    rw [List.length_take, Nat.min_eq_left (by omega), hl1] at h1
    exact h1)
  have hwl : ww.length ≤ 2097152 := by
    have h1 := HL.out n (Nat.le_refl _)
    rw [hwp, List.length_append, List.length_replicate]
    omega
  obtain ⟨K, hK⟩ : ∃ K, ww.length = K := ⟨_, rfl⟩
  have HKK := Lib.hid hK
  have hgl : gs.length = K := by rw [← hgs, formsJ_len, List.length_map, hK]
  have HN := Lib.hid (show ∀ i x, xs[i]? = some x → preM (cntM ats) m 0 (xs.take (i + 1)) = preM (cntM ats) m 0 (xs.take i) ++ List.replicate (cntM ats i) m ++ [x] from fun i x h => preM_next _ m xs i x h)
  have HO := Lib.hid (show ∀ i, i < n → os.take (i + 1) = os.take i ++ [(((preM (cntM ats) m 0 (xs.take i)).length + cntM ats i : Nat) : Int)] from fun i h => by rw [← hos]; exact ownI_next ats m xs i (by omega))
  have HC := Lib.hid (show ∀ i q k, ats[q]? = some k → cntM (ats.take (q + 1)) i = cntM (ats.take q) i + (if k = (i : Int) then 1 else 0) from fun i q k h => cntM_next ats i q k h)
  have HCle := Lib.hid (show ∀ i q, cntM (ats.take q) i ≤ cntM ats i from fun i q => cntM_take ats i q)
  have HCn := Lib.hid (show ∀ i, cntM (ats.take n1) i = cntM ats i from fun i => by rw [List.take_of_length_le (by omega)])
  have HX := Lib.hid (show ∀ i, i < n → ∃ o f, os[i]? = some ((o : Nat) : Int) ∧ o < K ∧ gs[o]? = some f ∧ fs[i]? = some f from fun i h => by
    refine ⟨(preM (cntM ats) m 0 (xs.take i)).length + cntM ats i, fs[i]'(by omega), by rw [← hos]; exact ownI_at ats m xs i (by omega), ?_, ?_, List.getElem?_eq_getElem _⟩
    · have e := marks_own kJ (cntM ats) m hm xs i (by omega)
      rw [hww, hgs, hfs, List.getElem?_eq_getElem (show i < fs.length by omega)] at e
      have := (List.getElem?_eq_some_iff.1 e).1
      omega
    · have e := marks_own kJ (cntM ats) m hm xs i (by omega)
      rw [hww, hgs, hfs] at e
      rw [e, List.getElem?_eq_getElem (show i < fs.length by omega)])
  have HM := Lib.hid (show ∀ i x, ww[i]? = some x → x = m → gs[i]? = some (0 : Int) from fun i x h e => by rw [← hgs]; exact marks_mark kJ m hm ww i x h e)
  have HWW := Lib.hid hwp
  have HT := Lib.hid (show preM (cntM ats) m 0 (xs.take 0) = [] ∧ os.take 0 = [] ∧ os.take n = os ∧ formsJ 0 (xs.map kJ) = fs ∧ formsJ 0 (ww.map kJ) = gs from ⟨by rw [List.take_zero]; rfl, List.take_zero .., List.take_of_length_le (by omega), hfs, hgs⟩)
  have hm' := Lib.hid hm
  have hKb : K ≤ 2097152 := by omega
  have HLN := Lib.hid (show xs.length = n ∧ ats.length = n1 ∧ fs.length = n ∧ os.length = n ∧ gs.length = K ∧ ww.length = K from ⟨hl, hl1, hfl, hol, hgl, hK⟩)
  clear hm hfs hww hos hgs hwp hl hl1 hfl hol hgl hK hwl
  subst hmm
  go_enter Try.func7, Try.ntmps7
  go_wp2_with fail
  refine (HW.out _).mono ?_
  rintro _ V1 ⟨rfl, b1⟩
  have HB1 := Lib.hid (H0.out.on b1)
  clear b1 H0 HW
  go_wp2_with fail
  refine (HK.out _).mono ?_
  rintro _ V2 ⟨rfl, b2⟩
  have HB2 := Lib.hid (HB1.out.on b2)
  clear b2 HB1 HK
  go_wp2_with fail
  refine (HF.out _ _ _ _ _ (HR.out _ HB2.out).1 (by omega)).mono ?_
  rw [HT.out.2.2.2.1]
  rintro _ W0 ⟨Q0, A0, c0, hQ0, rfl, o0, b0⟩
  rw [HLN.out.2.2.1] at o0 ⊢
  have HB3 := Lib.hid (HB2.out.on b0)
  obtain ⟨Q, hQ⟩ : ∃ Q, W0.heap.size = Q := ⟨_, rfl⟩
  have HP := Lib.hid (show ∀ W, Below Q W0 W → RdJ W A n xs ∧ RdN W A1 n1 ats ∧ RdF W A0 n fs ∧ Below B w W from fun W h => by
    have h0 := HR.out _ HB3.out
    rw [← hQ] at h
    exact ⟨h0.1.below h, h0.2.below h, (RdF.own o0).below h, (HB3.out.on h).1⟩)
  have HI0 := Lib.hid (show TwoJ Q (.slice none 0 0) 0 (i32j (preM (cntM ats) 1611 0 (xs.take 0))) (.slice none 0 0) 0 (i64j (os.take 0)) W0 W0 from by
    rw [HT.out.1, HT.out.2.1]
    exact ⟨World.ownsRow_nil _ _ _ _, World.ownsRow_nil _ _ _ _, fun g e => (by cases e), Below.refl _ _, by omega⟩)
  have HQ := Lib.hid hQ
  clear o0 b0 hQ0 HB2 hQ HB3 HR
  go_wp2_with fail
  go_loopw [8, 9, 10] (fun y z x wr => ∃ (i q k cw co : Nat) (Aw Ao : Option Addr) (W : World), W = wr ∧ y = .slice Aw k cw ∧ z = .slice Ao q co ∧ x = .int .i64 (i : Int) ∧
    (i ≤ n ∧ q = i ∧ k = (preM (cntM ats) 1611 0 (xs.take i)).length ∧ Hid (TwoJ Q (.slice Aw k cw) k (i32j (preM (cntM ats) 1611 0 (xs.take i))) (.slice Ao q co) q (i64j (os.take i)) W0 W) ∨
     i = n + 1 ∧ q = n ∧ k = K ∧ Hid (TwoJ Q (.slice Aw k cw) k (i32j ww) (.slice Ao q co) q (i64j os) W0 W))) (fun _ _ x _ => n + 1 - (RowKit.intOf x).toNat)
  case atStart => exact ⟨0, 0, 0, 0, 0, none, none, _, rfl, rfl, rfl, rfl, .inl ⟨Nat.zero_le _, rfl, by rw [HT.out.1]; rfl, HI0⟩⟩
  case round =>
    clear HI0
    obtain ⟨i, q, k, cw, co, Aw, Ao, W, hW, rfl, rfl, rfl, hcase⟩ := hrel
    subst hW
    rcases hcase with ⟨hin, hqi, hkk, HI⟩ | ⟨hin, hqn, hkK, HI⟩
    · subst hqi
      have hini : (q : Int) ≤ (n : Int) := by omega
      have hLq := HL.out q hin
      obtain ⟨P0, hP0⟩ : ∃ P0, preM (cntM ats) 1611 0 (xs.take q) = P0 := ⟨_, rfl⟩
      rw [hP0] at hkk hLq HI
      have hnext : IntKind.i64.wrap ((q : Int) + 1) = (q : Int) + 1 := IntWalk.i64_in _ (by omega)
      have HI1 := Lib.hid (show TwoJ Q (.slice Aw k cw) k (i32j (P0 ++ List.replicate (cntM (ats.take 0) q) 1611)) (.slice Ao q co) q (i64j (os.take q)) W0 W from by
        rw [List.take_zero]; simpa [cntM] using HI.out)
      have HP0 := Lib.hid hP0
      have Hkk := Lib.hid hkk
      clear HI hP0 hkk
      go_wp2_with fail
      go_loopw [8, 31] (fun y x wr => ∃ (p k cw : Nat) (Aw : Option Addr) (W : World), W = wr ∧ y = .slice Aw k cw ∧ x = .int .i64 (p : Int) ∧ p ≤ n1 ∧ k = P0.length + cntM (ats.take p) q ∧
        Hid (TwoJ Q (.slice Aw k cw) k (i32j (P0 ++ List.replicate (cntM (ats.take p) q) 1611)) (.slice Ao q co) q (i64j (os.take q)) W0 W)) (fun _ x _ => n1 - (RowKit.intOf x).toNat)
      case atStart => exact ⟨0, k, cw, Aw, _, rfl, rfl, rfl, Nat.zero_le _, by rw [List.take_zero, Hkk.out]; simp [cntM], HI1⟩
      case round =>
        clear HI1
        obtain ⟨p, k2, cw2, Aw2, W, hW, rfl, rfl, hpn, hk2, HI⟩ := hrel
        subst hW
        have hcl := HCle.out q p
        rcases Nat.lt_or_ge p n1 with hlt | hge
        · obtain ⟨r, hri⟩ : ∃ r, ats[p]? = some r := ⟨_, List.getElem?_eq_getElem (by rw [HLN.out.2.1]; omega)⟩
          obtain ⟨ar, hA1, _, _, hcr⟩ := (HP.out W HI.out.be).2.1.at hri
          subst hA1
          have hpp : (p : Int) < (n1 : Int) := by omega
          have hpnext : IntKind.i64.wrap ((p : Int) + 1) = (p : Int) + 1 := IntWalk.i64_in _ (by omega)
          have hcn := HC.out q p r hri
          have hcl2 := HCle.out q (p + 1)
          obtain ⟨cc, hcc⟩ : ∃ cc, cntM (ats.take p) q = cc := ⟨_, rfl⟩
          rw [hcc] at hcn hk2 hcl HI
          by_cases hrq : r = (q : Int)
          · have heq : (r == (q : Int)) = true := by simp [hrq]
            rw [if_pos hrq] at hcn
            have HE := Lib.hid hcn
            have HAp := Lib.hid (show i32j (P0 ++ List.replicate cc 1611) ++ [.int .i32 1611] = i32j (P0 ++ List.replicate (cntM (ats.take (p + 1)) q) 1611) from by rw [hcn, List.replicate_succ']; simp [i32j])
            obtain ⟨X, hX⟩ : ∃ X, i32j (P0 ++ List.replicate cc 1611) = X := ⟨_, rfl⟩
            rw [hX] at HAp HI
            have Hk2 := Lib.hid hk2
            have hkm : k2 + 1 ≤ 3145728 := by omega
            clear hri hrq hX hcc hcn hk2
            go_wp2_with (at_builtin; refine wpList_append_own_at _ rfl _ _ 22 rfl Q 21 i0 _ 1 4 Try.underlying22 hi hz0 hz1 hz2 rfl (by decide) _ _ _ rfl (HI.out.ow.alloc _) ⟨W.heap.size, 0, none⟩ 1 1 [.int .i32 1611] rfl rfl ?d1 ?d2 ?d3 ?d4 ?d5 ?_)
            try (case d1 => exact new_cells W [.int .i32 1611] 21)
            case d2 => simp [Value.oneCell']
            case d3 => unfold maxLen; omega
            case d4 => omega
            case d5 => have := HI.out.sz; first | omega | (rw [World.size_alloc]; omega)
            intro v2 w2 o2 g2 _ e2
            have H2 := Lib.hid (HI.out.left _ o2 g2 e2)
            clear o2 g2 e2 HI
            obtain ⟨A2, c2, hv2, _, _⟩ := own_shape H2.out.ow
            subst hv2
            rw [HAp.out] at H2
            go_wp2_with fail
            go_roundw
            case rel => exact ⟨p + 1, k2 + 1, c2, A2, _, rfl, rfl, by first | rfl | go_num, hlt, by rw [HE.out, Hk2.out]; omega, H2⟩
            case measure => simp [RowKit.intOf]; omega
          · have heq : (r == (q : Int)) = false := by simpa using hrq
            have hcn' : cntM (ats.take (p + 1)) q = cc := by simpa [hrq] using hcn
            rw [← hcn'] at HI hk2
            have Hk2 := Lib.hid hk2
            clear hcn hcn' hk2
            clear hri hrq hcc
            go_wp2_with fail
            go_roundw
            case rel => exact ⟨p + 1, k2, cw2, Aw2, W, rfl, rfl, by first | rfl | go_num, hlt, Hk2.out, HI⟩
            case measure => simp [RowKit.intOf]; omega
        · obtain rfl : p = n1 := by omega
          have hpp : ¬ (p : Int) < (p : Int) := by omega
          rw [HCn.out] at HI hk2
          have hkm : k2 + 2 ≤ 3145728 := by omega
          have Hk2 := Lib.hid hk2
          clear hge hpn hcl hk2
          rcases Nat.lt_or_ge q n with hlt | hge
          · obtain ⟨r, hri⟩ : ∃ r, xs[q]? = some r := ⟨_, List.getElem?_eq_getElem (by rw [HLN.out.1]; omega)⟩
            obtain ⟨ar, hA, _, hab, _⟩ := (HP.out W HI.out.be).1.at hri
            subst hA
            have hqq : (q : Int) < (n : Int) := by omega
            have HO1 := Lib.hid (show i64j (os.take q) ++ [.int .i64 (k2 : Int)] = i64j (os.take (q + 1)) from by rw [HO.out q hlt, HP0.out, ← Hk2.out]; simp [i64j])
            have HN1 := Lib.hid (show i32j (P0 ++ List.replicate (cntM ats q) 1611) ++ [.int .i32 r] = i32j (preM (cntM ats) 1611 0 (xs.take (q + 1))) ∧ (preM (cntM ats) 1611 0 (xs.take (q + 1))).length = k2 + 1 from by
              rw [HN.out q r hri, HP0.out]
              exact ⟨by simp [i32j], by rw [List.length_append, List.length_append, List.length_replicate, ← Hk2.out]; rfl⟩)
            have HRd := Lib.hid (show ∀ W', Below Q W0 W' → W'.cell? (ar.add q) = some (.int .i32 r) from fun W' h => by
              obtain ⟨a, e, _, _, hc⟩ := (HP.out W' h).1.at hri
              injection e with e; subst e; exact hc)
            obtain ⟨X, hX⟩ : ∃ X, i32j (P0 ++ List.replicate (cntM ats q) 1611) = X := ⟨_, rfl⟩
            obtain ⟨Y, hY⟩ : ∃ Y, i64j (os.take q) = Y := ⟨_, rfl⟩
            rw [hX] at HN1 HI
            rw [hY] at HO1 HI
            clear hri hX hY hab
            go_wp2_with (at_builtin; refine wpList_append_own_at _ rfl _ _ 37 rfl Q 3 j0 _ 1 8 Try.underlying37 hj hy0 hy1 hy2 rfl (by decide) _ _ _ rfl (HI.out.oo.alloc _) ⟨W.heap.size, 0, none⟩ 1 1 [.int .i64 (k2 : Int)] rfl rfl ?d1 ?d2 ?d3 ?d4 ?d5 ?_)
            try (case d1 => exact new_cells W [.int .i64 (k2 : Int)] 3)
            case d2 => simp [Value.oneCell']
            case d3 => unfold maxLen; omega
            case d4 => omega
            case d5 => have := HI.out.sz; first | omega | (rw [World.size_alloc]; omega)
            intro v2 w2 o2 g2 _ e2
            have H2 := Lib.hid (HI.out.right _ o2 g2 e2)
            clear o2 g2 e2 HI
            obtain ⟨A2, c2, hv2, _, _⟩ := own_shape H2.out.oo
            subst hv2
            rw [HO1.out] at H2
            have hcr := HRd.out w2 H2.out.be
            go_wp2_with (at_builtin; refine wpList_append_own_at _ rfl _ _ 22 rfl Q 21 i0 _ 1 4 Try.underlying22 hi hz0 hz1 hz2 rfl (by decide) _ _ _ rfl (H2.out.ow.alloc _) ⟨w2.heap.size, 0, none⟩ 1 1 [.int .i32 r] rfl rfl ?e1 ?e2 ?e3 ?e4 ?e5 ?_)
            try (case e1 => exact new_cells w2 [.int .i32 r] 21)
            case e2 => simp [Value.oneCell']
            case e3 => unfold maxLen; omega
            case e4 => omega
            case e5 => have := H2.out.sz; first | omega | (rw [World.size_alloc]; omega)
            intro v3 w3 o3 g3 _ e3
            have H3 := Lib.hid (H2.out.left _ o3 g3 e3)
            clear o3 g3 e3 H2 hcr
            obtain ⟨A3, c3, hv3, _, _⟩ := own_shape H3.out.ow
            subst hv3
            rw [HN1.out.1] at H3
            go_wp2_with fail
            go_roundw
            case rel => exact ⟨q + 1, q + 1, k2 + 1, c3, c2, A3, A2, _, rfl, rfl, rfl, by first | rfl | go_num, .inl ⟨hlt, rfl, HN1.out.2.symm, H3⟩⟩
            case measure => simp [RowKit.intOf]; omega
          · obtain rfl : q = n := by omega
            have hqq : ¬ (q : Int) < (q : Int) := by omega
            have HE := Lib.hid (show k2 = K ∧ TwoJ Q (.slice Aw2 k2 cw2) k2 (i32j ww) (.slice Ao q co) q (i64j os) W0 W from by
              have e := HWW.out
              rw [HP0.out] at e
              have h := HI.out
              rw [← e, HT.out.2.2.1] at h
              exact ⟨by rw [← HKK.out, e, List.length_append, List.length_replicate]; exact Hk2.out, h⟩)
            clear HI hge
            go_wp2_with fail
            go_roundw
            case rel => exact ⟨q + 1, q, k2, cw2, co, Aw2, Ao, W, rfl, rfl, rfl, by first | rfl | go_num, .inr ⟨rfl, rfl, HE.out.1, Lib.hid HE.out.2⟩⟩
            case measure => simp [RowKit.intOf]
    · subst hin
      subst hqn
      subst hkK
      have hini : ¬ (((q + 1 : Nat) : Int) ≤ (q : Int)) := by omega
      have HA := Lib.hid HI.out
      clear HI
      go_wp2_with fail
      refine (HF.out Aw k cw ww _ (RdJ.own HA.out.ow) (by omega)).mono ?_
      rw [HT.out.2.2.2.2]
      rintro _ W2 ⟨Q2, A2, c2, hQ2, rfl, o2, b2⟩
      rw [HLN.out.2.2.2.2.1] at o2 ⊢
      have HZ := Lib.hid (show ∀ W', Below W2.heap.size W2 W' → RdJ W' Aw k ww ∧ RdN W' Ao q os ∧ RdF W' A2 k gs ∧ RdF W' A0 q fs ∧ Below B w W' from fun W' h => by
        have hb := b2.trans (h.mono b2.size)
        have hq := HP.out W' (HA.out.be.trans (hb.mono HA.out.sz))
        exact ⟨(RdJ.own HA.out.ow).below hb, (RdN.own HA.out.oo).below hb, (RdF.own o2).below h, hq.2.2.1, hq.2.2.2⟩)
      have hkk : ((k : Int) != (k : Int)) = false := by simp
      have hqq : ((q : Int) != (q : Int)) = false := by simp
      have HD0 := Lib.hid (Below.refl W2.heap.size W2)
      obtain ⟨M, hM⟩ : ∃ M, W2.heap.size = M := ⟨_, rfl⟩
      rw [hM] at HZ HD0
      clear o2 b2 hQ2 HA hM
      go_wp2_with fail
      go_loopw [75] (fun x wr => ∃ (i : Nat) (W : World), W = wr ∧ x = .int .i64 (i : Int) ∧ i ≤ q ∧ Hid (Below M W2 W)) (fun x _ => q - (RowKit.intOf x).toNat)
      case atStart => exact ⟨0, _, rfl, rfl, Nat.zero_le _, HD0⟩
      case round =>
        clear HD0
        obtain ⟨i, W, hW, rfl, hiq, HD⟩ := hrel
        subst hW
        rcases Nat.lt_or_ge i q with hlt | hge
        · obtain ⟨o, f, h1, h2, h3, h4⟩ := HX.out i hlt
          have hz := HZ.out W.drew (below_DJ HD.out)
          obtain ⟨ao, hAo, _, _, d1⟩ := hz.2.1.at h1
          obtain ⟨ag, hAg, _, _, d2⟩ := hz.2.2.1.at h3
          obtain ⟨af, hAf, _, _, d3⟩ := hz.2.2.2.1.at h4
          subst hAo
          subst hAg
          subst hAf
          have hii : (i : Int) < (q : Int) := by omega
          have hoo : (o : Int) < (k : Int) := by omega
          have hnx : IntKind.i64.wrap ((i : Int) + 1) = (i : Int) + 1 := IntWalk.i64_in _ (by omega)
          have hff : (f != f) = false := by simp
          have HD1 := Lib.hid (below_DJ HD.out)
          clear h1 h3 h4 hz HD
          go_wp2_with fail
          go_region
          go_wp2_with fail
          go_roundw
          case rel => exact ⟨i + 1, _, rfl, by first | rfl | go_num, hlt, HD1⟩
          case measure => simp [RowKit.intOf]; omega
        · obtain rfl : i = q := by omega
          have hii : ¬ (i : Int) < (i : Int) := by omega
          clear hge hiq
          go_wp2_with fail
          go_loopw [93] (fun x wr => ∃ (j : Nat) (W : World), W = wr ∧ x = .int .i64 (j : Int) ∧ j ≤ k ∧ Hid (Below M W2 W)) (fun x _ => k - (RowKit.intOf x).toNat)
          case atStart => exact ⟨0, _, rfl, rfl, Nat.zero_le _, HD⟩
          case round =>
            clear HD
            obtain ⟨j, W, hW, rfl, hjk, HD⟩ := hrel
            subst hW
            rcases Nat.lt_or_ge j k with hlt | hge
            · obtain ⟨x, h1⟩ : ∃ x, ww[j]? = some x := ⟨_, List.getElem?_eq_getElem (by rw [HLN.out.2.2.2.2.2]; omega)⟩
              have hz := HZ.out W HD.out
              obtain ⟨aw, hAw, _, _, d1⟩ := hz.1.at h1
              subst hAw
              have hjj : (j : Int) < (k : Int) := by omega
              have hnx : IntKind.i64.wrap ((j : Int) + 1) = (j : Int) + 1 := IntWalk.i64_in _ (by omega)
              by_cases hxm : x = 1611
              · obtain ⟨ag, hAg, _, _, d2⟩ := hz.2.2.1.at (HM.out j x h1 hxm)
                subst hAg
                have hx : (x == 1611) = true := by simp [hxm]
                clear h1 hz hxm
                go_wp2_with fail
                go_roundw
                case rel => exact ⟨j + 1, _, rfl, by first | rfl | go_num, hlt, HD⟩
                case measure => simp [RowKit.intOf]; omega
              · have hx : (x == 1611) = false := by simpa using hxm
                clear h1 hz hxm
                go_wp2_with fail
                go_roundw
                case rel => exact ⟨j + 1, _, rfl, by first | rfl | go_num, hlt, HD⟩
                case measure => simp [RowKit.intOf]; omega
            · obtain rfl : j = k := by omega
              have hjj : ¬ (j : Int) < (j : Int) := by omega
              have HE := Lib.hid (HZ.out W HD.out).2.2.2.2
              clear hge hjk HD
              go_wp2_with fail
              go_ret
              exact ⟨rfl, HE.out⟩
theorem joinMarks_anyJ {N : Nat} (H : JoinP N) (A A1 : Option Addr) (n c n1 c1 : Nat) (xs ats : List Int) (m : Int) (w : World) (hr : RdJ w A n xs) (hr1 : RdN w A1 n1 ats) (hn : n ≤ 1048576) (hn1 : n1 ≤ 1048576) :
    Calls Try.prog 7 #[.slice A n c, .slice A1 n1 c1, .int .i32 m] w fun e w' => e = .returned (.bool true) ∧ Below w.heap.size w w' := by
  by_cases h : kJ m = 4
  · exact joinMarks_oneJ H A A1 n c n1 c1 xs ats m h w hr hr1 hn hn1
  · exact joinMarks_twoJ H A A1 n c n1 c1 xs ats m h 1611 rfl w hr hr1 hn hn1
end Go.Proofs.Ytjecbchnckknkaa
