/- Layer 9, the program: lastClosedBy, Brackets. -/
import Derived.Test.YtkcckophnamajaaBrk9
import Derived.Test.YtkcckophnamajaaSort9
import Derived.Test.YtkcckophnamajaaInst9
import Derived.Test.YtkcckophnamajaaScope
import Derived.Lib.JoinLaws
set_option linter.unusedSimpArgs false
set_option linter.unusedVariables false
namespace Go.Proofs.Ytkcckophnamajaa
open Go.RowKit Go.Lib

/-- what is open lies in an array of its own -/
def RoomAt (V : World) (R : Nat) (stk : Stk) : Prop := ∃ cur, V.heap[R]? = some (.cells cur 42 (0, 0)) ∧ cur.size = 126 ∧ cur.toList.take (stk.length * 2) = stC stk.reverse
theorem RoomAt.at_ {V V' : World} {R : Nat} {stk : Stk} (h : RoomAt V R stk) (he : V'.heap[R]? = V.heap[R]?) : RoomAt V' R stk := by
  obtain ⟨cur, h1, h2⟩ := h
  exact ⟨cur, he.trans h1, h2⟩
theorem RoomAt.lt {V : World} {R : Nat} {stk : Stk} (h : RoomAt V R stk) : R < V.heap.size := by
  obtain ⟨cur, h1, _⟩ := h
  exact (Array.getElem?_eq_some_iff.1 h1).1
theorem RoomAt.cell {V : World} {R : Nat} {stk : Stk} (h : RoomAt V R stk) {j : Nat} {u : Value} (hu : (stC stk.reverse)[j]? = some u) : V.cell? ⟨R, j, none⟩ = some u := by
  obtain ⟨cur, h1, h2, h3⟩ := h
  rw [cell_of_row V R j cur _ (0, 0) h1]
  rw [← h3, List.getElem?_take] at hu
  split at hu
  · rw [Array.getElem?_toList] at hu; exact hu
  · cases hu
theorem RoomAt.some_ {V : World} {R : Nat} {stk : Stk} (h : RoomAt V R stk) {j : Nat} (hj : j < 126) : (V.cell? ⟨R, j, none⟩).isSome = true := by
  obtain ⟨cur, h1, h2, h3⟩ := h
  rw [cell_of_row V R j cur _ (0, 0) h1, Array.getElem?_eq_getElem (by omega)]
  rfl
theorem RoomAt.ice {V : World} {R : Nat} {stk : Stk} (h : RoomAt V R stk) (j : Nat) : V.frozen? ⟨R, j, none⟩ = false := by
  obtain ⟨cur, h1, _⟩ := h
  exact frozen_of_row V R j cur _ h1
theorem RoomAt.off {V : World} {R : Nat} {u v : Stk} (h : RoomAt V R (u ++ v)) : RoomAt V R v := by
  obtain ⟨cur, h1, h2, h3⟩ := h
  refine ⟨cur, h1, h2, ?_⟩
  have h4 := congrArg (List.take (v.length * 2)) h3
  rw [List.take_take, List.length_append, Nat.min_eq_left (by omega), List.reverse_append, stC_append] at h4
  rw [h4, show v.length * 2 = (stC v.reverse).length by rw [stC_len, List.length_reverse], List.take_left]
theorem RoomAt.push {V : World} {R : Nat} {stk : Stk} (h : RoomAt V R stk) (a : Nat) (o : Int) (hm : stk.length < 63) : RoomAt (V.setCells R (0 + stk.length * 2) [.int .i64 (a : Int), .int .i32 o]) R ((a, o) :: stk) := by
  obtain ⟨cur, h1, h2, h3⟩ := h
  rw [Nat.zero_add]
  have e1 := heap_setCell_same V R (stk.length * 2) cur _ (.int .i64 (a : Int)) h1
  have e2 := heap_setCell_same _ R (stk.length * 2 + 1) _ _ (.int .i32 o) e1
  refine ⟨_, e2, by simpa using h2, ?_⟩
  rw [Array.toList_setIfInBounds, Array.toList_setIfInBounds, List.length_cons, List.reverse_cons, stC_append, ← h3]
  have hl : cur.toList.length = 126 := by simpa using h2
  refine List.ext_getElem? fun j => ?_
  have ht : (cur.toList.take (stk.length * 2)).length = stk.length * 2 := by rw [List.length_take]; omega
  rw [List.getElem?_take, List.getElem?_set, List.getElem?_set]
  rcases Nat.lt_or_ge j (stk.length * 2) with hj | hj
  · rw [if_pos (by omega), if_neg (by omega), if_neg (by omega), List.getElem?_append_left (by omega), List.getElem?_take, if_pos hj]
  · rw [List.getElem?_append_right (by omega), ht]
    rcases Nat.eq_or_lt_of_le hj with h5 | h5
    · rw [if_pos (by omega), if_neg (by omega), if_pos h5]
      subst h5
      simp only [List.length_set, hl]
      rw [if_pos (by omega), Nat.sub_self]
      rfl
    · rcases Nat.eq_or_lt_of_le h5 with h6 | h6
      · rw [if_pos (by omega), if_pos (by omega)]
        simp only [List.length_set, hl]
        rw [if_pos (by omega), show j - stk.length * 2 = 1 by omega]
        rfl
      · rw [if_neg (by omega)]
        obtain ⟨q, hq⟩ : ∃ q, j - stk.length * 2 = q + 2 := ⟨j - stk.length * 2 - 2, by omega⟩
        rw [hq]
        rfl
/-- the number of the one that is closed -/
def fnI (r : Int) (stk : Stk) : Int := match fndZ r stk with
  | none => -1
  | some (_, t) => (t.length : Int)
theorem fnI_none {r : Int} {stk : Stk} (h : fndZ r stk = none) : fnI r stk = -1 := by unfold fnI; rw [h]
theorem fnI_some {r : Int} {stk : Stk} {a : Nat} {t : Stk} (h : fndZ r stk = some (a, t)) : fnI r stk = (t.length : Int) := by unfold fnI; rw [h]
set_option maxRecDepth 100000 in
set_option maxHeartbeats 2000000 in
theorem lastClosed_any9 (R m : Nat) (r : Int) (stk : Stk) (w : World) (h : RoomAt w R stk) (hm : stk.length = m) (hm63 : m ≤ 63) :
    Calls Try.prog 19 #[.slice (some ⟨R, 0, none⟩) m 63, .int .i32 r] w fun e w' => e = .returned (.int .i64 (fnI r stk)) ∧ w' = w := by
  obtain ⟨F, hF⟩ : ∃ F, fnI r stk = F := ⟨_, rfl⟩
  rw [hF]
  have HF := Lib.hid hF
  have H := Lib.hid h
  have Hm := Lib.hid hm
  clear hF h hm
  have hm0 : IntKind.i64.wrap ((m : Int) - 1) = (m : Int) - 1 := IntWalk.i64_in _ (by omega)
  go_enter Try.func19, Try.ntmps19
  go_wp2_with fail
  go_loopw [5] (fun x wr => wr = w ∧ ∃ (u v : Stk), x = .int .i64 ((v.length : Int) - 1) ∧ v.length ≤ m ∧ Hid (stk = u ++ v ∧ fndZ r stk = fndZ r v)) (fun x _ => ((RowKit.intOf x) + 1).toNat)
  case atStart => exact ⟨rfl, [], stk, by rw [Hm.out], by rw [Hm.out]; exact Nat.le_refl _, Lib.hid ⟨rfl, rfl⟩⟩
  case round =>
    obtain ⟨hWW, u, v, rfl, hvm, Huv⟩ := hrel
    subst hWW
    rcases v with _ | ⟨⟨a, oo⟩, v⟩
    · obtain ⟨z, hz⟩ : ∃ z, ((([] : Stk).length : Nat) : Int) - 1 = z := ⟨_, rfl⟩
      have hz0' : ¬ (0 : Int) ≤ z := by simp at hz; omega
      rw [hz]
      have HE := Lib.hid (show F = -1 by rw [← HF.out]; exact fnI_none (by rw [Huv.out.2]; rfl))
      clear hz hvm Huv
      go_wp2_with fail
      go_ret
      exact ⟨by rw [HE.out]; rfl, rfl⟩
    · have hvl : v.length + 1 ≤ m := by simpa using hvm
      obtain ⟨j, hj⟩ : ∃ j, v.length = j := ⟨_, rfl⟩
      have hz : (((((a, oo) :: v) : Stk).length : Nat) : Int) - 1 = (j : Int) := by simp [hj]
      rw [hz]
      have hj0 : (0 : Int) ≤ (j : Int) := by omega
      have hat : stk.reverse = v.reverse ++ (a, oo) :: u.reverse := by rw [Huv.out.1]; simp
      have hcells := stC_at v.reverse u.reverse (a, oo)
      rw [← hat, List.length_reverse, hj] at hcells
      have hs1 := H.out.cell hcells.2
      have hjm : (j : Int) < (m : Int) := by omega
      have hwj : IntKind.i64.wrap ((j : Int) - 1) = (j : Int) - 1 := IntWalk.i64_in _ (by omega)
      have Hj := Lib.hid hj
      by_cases hor : oo = r
      · have hob : (oo == r) = true := by simp [hor]
        have HE := Lib.hid (show F = (j : Int) by
          rw [← HF.out, ← Hj.out]
          exact fnI_some (a := a) (by rw [Huv.out.2, fndZ, if_pos hor]))
        clear hcells hat hj hz hvm hvl hor
        go_wp2_with fail
        go_ret
        exact ⟨by rw [HE.out]; rfl, rfl⟩
      · have hob : (oo == r) = false := by simp [hor]
        have Huv2 := Lib.hid (show stk = (u ++ [(a, oo)]) ++ v ∧ fndZ r stk = fndZ r v from by
          obtain ⟨h1, h2⟩ := Huv.out
          refine ⟨by rw [h1]; simp, by rw [h2, fndZ, if_neg hor]⟩)
        clear hcells hat hj hz hvm hor Huv
        go_wp2_with fail
        go_roundw
        case rel => exact ⟨trivial, u ++ [(a, oo)], v, by rw [Hj.out], by have := Hj.out; omega, Huv2⟩
        case measure => first | (simp [RowKit.intOf]; done) | (simp [RowKit.intOf]; omega)
theorem room_info : (Try.prog.info? 41).map (fun i => (i.zero, i.size, i.bytes)) = some (some (.agg #[.int .i64 0, .int .i32 0]), 2, 16) := by kernel_rfl
theorem room_new (w : World) {R : Nat} (hR : w.heap.size = R) : RoomAt (w.alloc (.cells Try.zeroCells42 42)) R [] :=
  ⟨_, by rw [← hR]; exact heap_alloc_new w _, by kernel_rfl, rfl⟩
/-- what holds between two characters -/
structure BrT (rs ks : List Int) (F : Prs) (w : World) (R i m o co : Nat) (Ao : Option Addr) (stk : Stk) (out : Prs) (W : World) : Prop where
  m_ : stk.length = m
  mle : m ≤ 63
  o_ : out.length = o
  oi : o ≤ i
  rm : RoomAt W R stk
  ou : W.ownsRow (R + 1) 29 2 (.slice Ao o co) o (prC out)
  be : Below R w W
  br : brkY pairOf i ((rs.zip ks).drop i) stk out = F
theorem BrT.below {rs ks : List Int} {F : Prs} {w : World} {R i m o co : Nat} {Ao : Option Addr} {stk : Stk} {out : Prs} {W W' : World} (h : BrT rs ks F w R i m o co Ao stk out W) (hb : Below W.heap.size W W') : BrT rs ks F w R i m o co Ao stk out W' :=
  ⟨h.m_, h.mle, h.o_, h.oi, h.rm.at_ (hb.block R h.rm.lt), own_below h.ou hb, h.be.trans (hb.mono (Nat.le_of_lt h.rm.lt)), h.br⟩
theorem BrT.step {rs ks : List Int} {F : Prs} {w : World} {R i m o co : Nat} {Ao : Option Addr} {stk : Stk} {out : Prs} {W : World} (h : BrT rs ks F w R i m o co Ao stk out W) (hb : brkY pairOf (i + 1) ((rs.zip ks).drop (i + 1)) stk out = F) : BrT rs ks F w R (i + 1) m o co Ao stk out W :=
  ⟨h.m_, h.mle, h.o_, by have := h.oi; omega, h.rm, h.ou, h.be, hb⟩
set_option maxRecDepth 100000 in
set_option maxHeartbeats 8000000 in
theorem pbrackets_any9 (Ar A : Option Addr) (nr cr n c : Nat) (rs ks : List Int) (w : World) (hr : RdR w Ar nr rs) (hk : RdK w A n ks) (hn : min nr n ≤ 1048576) (hcr : nr ≤ cr) :
    Calls Try.prog 9 #[.slice Ar nr cr, .slice A n c] w (NewPr (brZ pairOf rs ks) w) := by
  obtain ⟨i0, hi, _, hz1, _⟩ := info_parts room_info
  obtain ⟨i1, hi1, hy0, hy1, hy2⟩ := info_parts pr_info
  obtain ⟨G, hG⟩ : ∃ G, brZ pairOf rs ks = G := ⟨_, rfl⟩
  obtain ⟨F, hF⟩ : ∃ F, brY pairOf rs ks = F := ⟨_, rfl⟩
  have hup : Up G := by
    obtain ⟨_, _, h⟩ := brZ_holds (rs := rs) (ks := ks) pair_back
    rw [hG] at h
    exact h.up
  have hper : F.Perm G := by rw [← hF, ← hG]; exact brkY_perm pairOf _ 0 [] [] [] (List.Perm.refl _)
  rw [hG]
  obtain ⟨R, hR⟩ : ∃ R, w.heap.size = R := ⟨_, rfl⟩
  obtain ⟨N, hN⟩ : ∃ N, min nr n = N := ⟨_, rfl⟩
  have hminI : min (nr : Int) (n : Int) = (N : Int) := by omega
  have hmaxI : max (N : Int) 0 = (N : Int) := by omega
  have hNr : N ≤ nr ∧ N ≤ n := by omega
  have hNcr : N ≤ cr := by omega
  rw [hN] at hn
  obtain ⟨W0, hW0⟩ : ∃ W0, w.alloc (.cells Try.zeroCells42 42) = W0 := ⟨_, rfl⟩
  have hb0 : Below R w W0 := by rw [← hW0, ← hR]; exact (Below.refl _ w).alloc (Nat.le_refl _) _
  have H0 := Lib.hid (show BrT rs ks F w R 0 0 0 0 none [] [] W0 from ⟨rfl, by omega, rfl, Nat.le_refl _, by rw [← hW0]; exact room_new w hR, World.ownsRow_nil _ _ _ _, hb0, hF⟩)
  have Hzl := Lib.hid (show (rs.zip ks).length = N by rw [List.length_zip, hr.len, hk.len, hN])
  have Hr := Lib.hid (show ∀ W, Below R w W → RdR W Ar nr rs from fun W hb => hr.below (by rw [hR]; exact hb))
  have Hk := Lib.hid (show ∀ W, Below R w W → RdK W A n ks from fun W hb => hk.below (by rw [hR]; exact hb))
  have HPr := Lib.hid Pair_any
  have HLC := Lib.hid lastClosed_any9
  have HSo := Lib.hid (fun (Ao : Option Addr) (o co : Nat) (out : Prs) (W : World) (hown : W.ownsRow (R + 1) 29 2 (.slice Ao o co) o (prC out)) (he : F = out) (ho : o ≤ 1048576) => sort_any9 (R + 1) o co Ao out G W hown (by rw [← he]; exact hper) hup ho)
  have HGl := Lib.hid (show F.length = G.length from hper.length_eq)
  have HWw := Lib.hid hW0
  have HRr := Lib.hid hR
  unfold NewPr
  rw [hR]
  clear hR hN hr hk hW0 hb0 hup hper hF hG
  go_enter Try.func9, Try.ntmps9
  go_wp2_with fail
  refine scope_found (fun _ _ _ => False) (fun _ _ _ => 0) (fun _ _ _ h => h.elim) ?first (fun _ _ _ _ h _ => h.elim)
  case first =>
  go_wp2_with fail
  rw [HWw.out, HRr.out]
  go_step3
  go_wp2_with fail
  go_loopw [5, 7, 23] (fun z y x wr => ∃ (i m o co : Nat) (Ao : Option Addr) (stk : Stk) (out : Prs) (W : World), W = wr ∧ z = .slice Ao o co ∧ y = .slice (some ⟨R, 0, none⟩) m 63 ∧ x = .int .i64 (i : Int) ∧ i ≤ N ∧ Hid (BrT rs ks F w R i m o co Ao stk out W)) (fun _ _ x _ => N - (RowKit.intOf x).toNat)
  case atStart => exact ⟨0, 0, 0, 0, none, [], [], _, rfl, rfl, rfl, rfl, Nat.zero_le _, H0⟩
  case round =>
    obtain ⟨i, m, o, co, Ao, stk, out, W, hW, rfl, rfl, rfl, hiN, HI⟩ := hrel
    subst hW
    rcases Nat.lt_or_ge i N with hlt | hge
    · have hzi : i < (rs.zip ks).length := by rw [Hzl.out]; exact hlt
      obtain ⟨r, k, hrk⟩ : ∃ r k, (rs.zip ks)[i] = (r, k) := ⟨_, _, rfl⟩
      have hget : (rs.zip ks)[i]? = some (r, k) := by rw [List.getElem?_eq_getElem hzi, hrk]
      have hz := List.getElem?_zip_eq_some.1 hget
      have hdr : (rs.zip ks).drop i = (r, k) :: (rs.zip ks).drop (i + 1) := by rw [List.drop_eq_getElem_cons hzi, hrk]
      obtain ⟨ar, hAr, hir, harb, hcr'⟩ := (Hr.out W HI.out.be).at hz.1
      obtain ⟨ak, hAk, hik, hakb, hck⟩ := (Hk.out W HI.out.be).get hz.2
      subst hAr
      subst hAk
      have hiri : (i : Int) < (nr : Int) := by omega
      have hiki : (i : Int) < (n : Int) := by omega
      have hiNi : (i : Int) < (N : Int) := by omega
      have hnext : IntKind.i64.wrap ((i : Int) + 1) = (i : Int) + 1 := IntWalk.i64_in _ (by omega)
      have hbr := HI.out.br
      rw [hdr, brkY] at hbr
      have Hbr := Lib.hid hbr
      have Hnx := Lib.hid (show i + 1 ≤ N from hlt)
      have hm63 := HI.out.mle
      have hmn : m ≤ 63 := hm63
      clear hget hz hrk hzi hdr hbr hakb harb
      by_cases h13 : k = 13
      · have e13 : (k != 13) = false := by simp [h13]
        obtain ⟨ot, hot⟩ : ∃ ot, (pairOf r).1 = ot := ⟨_, rfl⟩
        obtain ⟨op, hop⟩ : ∃ op, (pairOf r).2.1 = op := ⟨_, rfl⟩
        obtain ⟨ok, hok⟩ : ∃ ok, (pairOf r).2.2 = ok := ⟨_, rfl⟩
        rw [hot, hop, hok] at Hbr
        have HPk := Lib.hid (show ∀ W', Calls Try.prog 18 #[.int .i32 r] W' fun e w' => e = .returned (.tuple #[.int .i32 ot, .bool op, .bool ok]) ∧ Below W'.heap.size W' w' from fun W' => by have := HPr.out r W'; rw [hot, hop, hok] at this; exact this)
        clear hot hop hok
        rcases ok with _ | _
        · have hbn : brkY pairOf (i + 1) ((rs.zip ks).drop (i + 1)) stk out = F := by
            have h2 := Hbr.out
            rwa [if_pos (.inl rfl)] at h2
          have HIn := Lib.hid (fun W' (hb : Below W.heap.size W W') => (HI.out.below hb).step hbn)
          clear Hbr HI hbn
          go_wp2_with fail
          refine (HPk.out _).mono ?_
          rintro _ w9 ⟨rfl, h9⟩
          have HN := Lib.hid (HIn.out w9 h9)
          clear h9 HIn
          go_wp2_with fail
          go_roundw
          case rel => exact ⟨i + 1, m, o, co, Ao, stk, out, _, rfl, rfl, rfl, by first | rfl | go_num, Hnx.out, HN⟩
          case measure => simp [RowKit.intOf]; omega
        · have Hb2 := Lib.hid (show (if op = true then (if stk.length = 63 then out else brkY pairOf (i + 1) ((rs.zip ks).drop (i + 1)) ((i, ot) :: stk) out) else match fndZ r stk with
              | none => brkY pairOf (i + 1) ((rs.zip ks).drop (i + 1)) stk out
              | some (a, t') => brkY pairOf (i + 1) ((rs.zip ks).drop (i + 1)) t' (out ++ [(a, i)])) = F from by
            have h2 := Hbr.out
            rwa [if_neg (by rw [h13]; decide)] at h2)
          have HIb := Lib.hid (fun W' (hb : Below W.heap.size W W') => HI.out.below hb)
          clear Hbr HI
          rcases op with _ | _
          · go_wp2_with fail
            refine (HPk.out _).mono ?_
            rintro _ w9 ⟨rfl, h9⟩
            have HI9 := Lib.hid (HIb.out w9 h9)
            have HLr := Lib.hid (HLC.out R m r stk w9 HI9.out.rm HI9.out.m_ HI9.out.mle)
            clear h9 HIb
            rcases hfn : fndZ r stk with _ | ⟨a, t'⟩
            · have HN := Lib.hid (show BrT rs ks F w R (i + 1) m o co Ao stk out w9 from HI9.out.step (by
                have h2 := Hb2.out
                rw [if_neg (by decide), hfn] at h2
                exact h2))
              have HLs := Lib.hid (show Calls Try.prog 19 #[.slice (some ⟨R, 0, none⟩) m 63, .int .i32 r] w9 fun e w' => e = .returned (.int .i64 (-1)) ∧ w' = w9 from by have := HLr.out; rw [fnI_none hfn] at this; exact this)
              clear HI9 HLr Hb2 hfn
              go_wp2_with fail
              refine (HLs.out).mono ?_
              rintro _ w8 ⟨rfl, h8⟩
              obtain rfl := h8.symm
              go_wp2_with fail
              go_roundw
              case rel => exact ⟨i + 1, m, o, co, Ao, stk, out, _, rfl, rfl, rfl, by first | rfl | go_num, Hnx.out, HN⟩
              case measure => simp [RowKit.intOf]; omega
            · obtain ⟨u, hu⟩ := fndZ_some hfn
              obtain ⟨j, hj⟩ : ∃ j, t'.length = j := ⟨_, rfl⟩
              have hat : stk.reverse = t'.reverse ++ (a, r) :: u.reverse := by rw [hu]; simp
              have hcells := stC_at t'.reverse u.reverse (a, r)
              rw [← hat, List.length_reverse, hj] at hcells
              have hs0 := HI9.out.rm.cell hcells.1
              have hjm : j < m := by
                have := HI9.out.m_
                rw [hu] at this
                simp at this
                omega
              have HLs := Lib.hid (show Calls Try.prog 19 #[.slice (some ⟨R, 0, none⟩) m 63, .int .i32 r] w9 fun e w' => e = .returned (.int .i64 (j : Int)) ∧ w' = w9 from by have := HLr.out; rw [fnI_some hfn, hj] at this; exact this)
              have Hbn := Lib.hid (show brkY pairOf (i + 1) ((rs.zip ks).drop (i + 1)) t' (out ++ [(a, i)]) = F from by
                have h2 := Hb2.out
                rw [if_neg (by decide), hfn] at h2
                exact h2)
              have Hrt := Lib.hid (show RoomAt w9 R t' from by
                have h := HI9.out.rm
                rw [hu, show u ++ (a, r) :: t' = (u ++ [(a, r)]) ++ t' by simp] at h
                exact h.off)
              have Hj := Lib.hid hj
              have hj0 : (0 : Int) ≤ (j : Int) := by omega
              have hjmi : (j : Int) < (m : Int) := by omega
              have hj63 : (j : Int) ≤ 63 := by omega
              have hj63n : j ≤ 63 := by omega
              have ho20 := HI9.out.oi
              clear HLr Hb2 hfn hu hat hcells hj
              go_wp2_with fail
              refine (HLs.out).mono ?_
              rintro _ w8 ⟨rfl, h8⟩
              obtain rfl := h8.symm
              go_wp2_with (at_builtin; refine wpList_append_own_at _ rfl _ _ 26 rfl (R + 1) 29 i1 _ 2 16 Try.underlying26 hi1 hy0 hy1 hy2 rfl (by decide) _ _ _ rfl (HI9.out.ou.alloc _) ⟨w9.heap.size, 0, none⟩ 1 1 [.int .i64 (a : Int), .int .i64 (i : Int)] rfl rfl ?d1 ?d2 ?d3 ?d4 ?d5 ?_)
              try (case d1 => exact new_cells w9 [.int .i64 (a : Int), .int .i64 (i : Int)] 29)
              case d2 => simp [Value.oneCell']
              case d3 => unfold maxLen; omega
              case d4 => omega
              case d5 => rw [World.size_alloc]; have := HI9.out.rm.lt; omega
              intro v2 w2 o2 g2 _ _
              obtain ⟨Ao2, co2, hv2, _, _⟩ := own_shape o2
              subst hv2
              have HN := Lib.hid (show BrT rs ks F w R (i + 1) j (o + 1) co2 Ao2 t' (out ++ [(a, i)]) w2 from by
                have h := HI9.out
                have hR9 := h.rm.lt
                have hg2 : ∀ q, q < R + 1 → w2.heap[q]? = w9.heap[q]? := fun q hq => by
                  rw [g2.block q (by rw [World.size_alloc]; omega) (fun e => by have := (h.ou.lt q e.symm).1; omega), heap_alloc_old w9 _ (by omega)]
                refine ⟨Hj.out, by omega, by simp [h.o_], by have := h.oi; omega, Hrt.out.at_ (hg2 R (by omega)), ?_, (h.be.alloc (by omega) _).grown g2 (by rw [World.size_alloc]; omega) (fun q hq => by have := (h.ou.lt q hq).1; omega), Hbn.out⟩
                rw [prC_append]
                exact o2)
              clear o2 g2 HI9 Hrt Hbn
              go_wp2_with fail
              go_roundw
              case rel => exact ⟨i + 1, j, o + 1, co2, Ao2, t', out ++ [(a, i)], _, rfl, rfl, rfl, by first | rfl | go_num, Hnx.out, HN⟩
              case measure => simp [RowKit.intOf]; omega
          · by_cases hm : m = 63
            · have hmi : ((m : Int) == 63) = true := by rw [hm]; rfl
              subst hm
              go_wp2_with fail
              refine (HPk.out _).mono ?_
              rintro _ w9 ⟨rfl, h9⟩
              have HI9 := Lib.hid (HIb.out w9 h9)
              have HE := Lib.hid (show F = out by
                have h2 := Hb2.out
                rw [if_pos (by trivial), if_pos HI9.out.m_] at h2
                exact h2.symm)
              have HSt := Lib.hid (HSo.out Ao o co out w9 HI9.out.ou HE.out (by have := HI9.out.oi; omega))
              clear h9 HIb Hb2
              go_wp2_with fail
              refine (HSt.out).mono ?_
              rintro _ w8 ⟨rfl, o8, b8⟩
              have HD := Lib.hid (show ∃ A c, Value.slice Ao o co = .slice A G.length c ∧ w8.ownsRow R 29 2 (.slice A G.length c) G.length (prC G) ∧ Below R w w8 from by
                have hog : o = G.length := by rw [← HGl.out, HE.out, HI9.out.o_]
                subst hog
                exact ⟨Ao, co, rfl, own_base o8 (by omega), HI9.out.be.trans (b8.mono (by omega))⟩)
              clear o8 b8 HI9 HSt
              go_wp2_with fail
              rw [toLabel_ret]; go_ret
              obtain ⟨A9, c9, e9, h9⟩ := HD.out
              exact ⟨A9, c9, congrArg _ e9, h9⟩
            · have hmi : ((m : Int) == 63) = false := by simp; omega
              have Hbn := Lib.hid (show brkY pairOf (i + 1) ((rs.zip ks).drop (i + 1)) ((i, ot) :: stk) out = F from by
                have h2 := Hb2.out
                rwa [if_pos (by trivial), if_neg (by rw [(HIb.out W (Below.refl _ _)).m_]; exact hm)] at h2)
              clear Hb2
              go_wp2_with fail
              refine (HPk.out _).mono ?_
              rintro _ w9 ⟨rfl, h9⟩
              have HI9 := Lib.hid (HIb.out w9 h9)
              have hR9 := HI9.out.rm.lt
              have Hrm := Lib.hid (show RoomAt (w9.alloc (.cells #[.int .i64 (i : Int), .int .i32 ot] 41)) R stk from HI9.out.rm.at_ (heap_alloc_old w9 _ hR9))
              clear h9 HIb
              go_wp2_with (at_builtin; refine wpList_append_room_src _ rfl _ _ 43 43 rfl 41 i0 Try.underlying43 hi R 0 m 63 rfl _ rfl 1 [.int .i64 (i : Int), .int .i32 ot] ?s1 ?s2 ?s3 ?s4 ?_)
              case s1 =>
                rw [hz1]
                exact Src.ofSlice _ Try.underlying43 ⟨w9.heap.size, 0, none⟩ 1 1 [.int .i64 (i : Int), .int .i32 ot] rfl (new_cells w9 [.int .i64 (i : Int), .int .i32 ot] 41) (by simp [Value.oneCell'])
              case s2 => omega
              case s3 =>
                intro q hq
                rw [hz1]
                have : q < 2 := by simpa using hq
                exact Hrm.out.some_ (by omega)
              case s4 =>
                intro q _
                exact Hrm.out.ice _
              have HN := Lib.hid (show BrT rs ks F w R (i + 1) (m + 1) o co Ao ((i, ot) :: stk) out ((w9.alloc (.cells #[.int .i64 (i : Int), .int .i32 ot] 41)).setCells R (0 + m * i0.size) [.int .i64 (i : Int), .int .i32 ot]) from by
                have h := HI9.out
                have hp := Hrm.out.push i ot (by rw [h.m_]; omega)
                rw [h.m_] at hp
                rw [hz1]
                have hbp : Below R w9 ((w9.alloc (.cells #[.int .i64 (i : Int), .int .i32 ot] 41)).setCells R (0 + m * 2) [.int .i64 (i : Int), .int .i32 ot]) :=
                  (((Below.refl R w9).alloc (by omega) _).setCell (p := ⟨R, 0 + m * 2, none⟩) (Nat.le_refl _) _).setCell (p := ⟨R, 0 + m * 2 + 1, none⟩) (Nat.le_refl _) _
                have hoth : ∀ q, q < w9.heap.size → q ≠ R → ((w9.alloc (.cells #[.int .i64 (i : Int), .int .i32 ot] 41)).setCells R (0 + m * 2) [.int .i64 (i : Int), .int .i32 ot]).heap[q]? = w9.heap[q]? := fun q hq hne => by
                  show (((w9.alloc _).setCell ⟨R, 0 + m * 2, none⟩ _).setCell ⟨R, 0 + m * 2 + 1, none⟩ _).heap[q]? = _
                  rw [heap_setCell_other _ ⟨R, 0 + m * 2 + 1, none⟩ q _ (fun e => hne e), heap_setCell_other _ ⟨R, 0 + m * 2, none⟩ q _ (fun e => hne e), heap_alloc_old w9 _ hq]
                refine ⟨by simp [h.m_], by omega, h.o_, by have := h.oi; omega, hp, ?_, h.be.trans hbp, Hbn.out⟩
                refine ⟨h.ou.1, ?_⟩
                rcases h.ou.2 with h0 | ⟨q, cap, cur, hv, hg, hh, hrest⟩
                · exact .inl h0
                · exact .inr ⟨q, cap, cur, hv, hg, (hoth q (Array.getElem?_eq_some_iff.1 hh).1 (by omega)).trans hh, hrest⟩)
              have HN := Lib.hid (by have h := HN.out; rw [hz1, Nat.zero_add] at h; exact h)
              clear HI9 Hrm Hbn hR9
              go_wp2_with fail
              go_roundw
              case rel => exact ⟨i + 1, m + 1, o, co, Ao, (i, ot) :: stk, out, _, rfl, rfl, rfl, by first | rfl | go_num, Hnx.out, HN⟩
              case measure => simp [RowKit.intOf]; omega
      · have e13 : (k != 13) = true := by simp [h13]
        have HN := Lib.hid (HI.out.step (by
          have h2 := Hbr.out
          rwa [if_pos (.inr h13)] at h2))
        clear Hbr HI h13
        go_wp2_with fail
        go_roundw
        case rel => exact ⟨i + 1, m, o, co, Ao, stk, out, _, rfl, rfl, rfl, by first | rfl | go_num, Hnx.out, HN⟩
        case measure => simp [RowKit.intOf]; omega
    · obtain rfl : i = N := by omega
      have hnn : ¬ (i : Int) < (i : Int) := by omega
      have HE := Lib.hid (show F = out by
        have h := HI.out.br
        rw [List.drop_of_length_le (by rw [Hzl.out]; exact Nat.le_refl _)] at h
        exact h.symm)
      have HSt := Lib.hid (HSo.out Ao o co out W HI.out.ou HE.out (by have := HI.out.oi; omega))
      clear hiN hge
      go_wp2_with fail
      refine (HSt.out).mono ?_
      rintro _ w8 ⟨rfl, o8, b8⟩
      have HD := Lib.hid (show ∃ A c, Value.slice Ao o co = .slice A G.length c ∧ w8.ownsRow R 29 2 (.slice A G.length c) G.length (prC G) ∧ Below R w w8 from by
        have hog : o = G.length := by rw [← HGl.out, HE.out, HI.out.o_]
        subst hog
        exact ⟨Ao, co, rfl, own_base o8 (by omega), HI.out.be.trans (b8.mono (by omega))⟩)
      clear o8 b8 HI HSt
      go_wp2_with fail
      rw [toLabel_ret]; go_ret
      obtain ⟨A9, c9, e9, h9⟩ := HD.out
      exact ⟨A9, c9, congrArg _ e9, h9⟩
end Go.Proofs.Ytkcckophnamajaa
