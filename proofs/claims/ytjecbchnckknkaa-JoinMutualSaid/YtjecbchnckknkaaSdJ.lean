/- Layer 11, the document: Shaped. -/
import Derived.Test.YtjecbchnckknkaaFmJ
import Derived.Test.YtjecbchnckknkaaPlJ
import Derived.Deep.RegionHeld3
set_option linter.unusedSimpArgs false
set_option linter.unusedVariables false
namespace Go.Proofs.Ytjecbchnckknkaa
open Go.RowKit Go.Lib

theorem step_append_ownJ {P : Program} {ops : Array Oper} {o : Oper} {a : Act} {w : World} {K : Act → World → Prop} {Q : Exit → Act → World → Prop} {E : Prop} (hgd : o.guard = none) (s x : Operand) (t : TypeId)
    (ho : o.op = .call { callee := .builtin .append, args := #[s, x], argTypes := #[t, t] })
    (base : Nat) (e : TypeId) (i : TypeInfo) (z : Value) (size bytes : Nat) (ht : P.underlying t = some (.slice e)) (hi : P.info? e = some i) (hz : i.zero = some z)
    (hsize : i.size = size) (hby : i.bytes = bytes) (hzs : z.cells.size = size) (hsz : 0 < size)
    (v : Value) (n : Nat) (xs : List Value) (hs : a.eval s = v) (hown : w.ownsRow base e size v n xs)
    (ad : Addr) (m c : Nat) (news : List Value) (hx : a.eval x = .slice (some ad) m c) (hl : news.length = m * size) (hnews : ∀ j u, news[j]? = some u → w.cell? (ad.add j) = some u) (h1 : ∀ u ∈ news, u.oneCell' = true)
    (h63 : n + m ≤ maxLen) (hbytes : (n + m) * bytes ≤ 140737488355328) (hbase : base ≤ w.heap.size)
    (h : ∀ v' w', w'.ownsRow base e size v' (n + m) (xs ++ news) → w.grownBy w' v.ownBlock → K (a.put o.dst v') w') : if Region.wanted o (yielded ops a.tmps) = true then Oper.wp P o a w K Q else E := by
  have hw : Region.wanted o (yielded ops a.tmps) = true := by simp [Region.wanted, hgd]
  rw [if_pos hw]
  exact wp_append_own w s x t ho base e i z size bytes ht hi hz hsize hby hzs hsz v n xs hs hown ad m c news hx hl hnews h1 h63 hbytes hbase fun v' w' h2 h3 _ => h v' w' h2 h3

theorem add_blockJ (a : Addr) (j : Nat) : (a.add j).block = a.block := by unfold Addr.add; split <;> rfl
theorem below_DJ {B : Nat} {a w : World} (h : Below B a w) : Below B a w.drew := ⟨h.os, h.tape, h.output, h.size, h.block⟩
/-- the forms that are read -/
def RdF (w : World) (A : Option Addr) (n : Nat) (xs : List Int) : Prop := Rd w w.heap.size 1 A n (i8s xs)
theorem RdF.below {w w' : World} {A : Option Addr} {n : Nat} {xs : List Int} (h : RdF w A n xs) (hb : Below w.heap.size w w') : RdF w' A n xs := (Rd.below h hb).more hb.size
theorem RdF.own {w : World} {B n c : Nat} {A : Option Addr} {xs : List Int} (h : w.ownsRow B 27 1 (.slice A n c) n (i8s xs)) : RdF w A n xs := Rd.own h
theorem RdF.at {w : World} {n : Nat} {A : Option Addr} {xs : List Int} (h : RdF w A n xs) {i : Nat} {r : Int} (hr : xs[i]? = some r) : ∃ a, A = some a ∧ i < n ∧ a.block < w.heap.size ∧ w.cell? (a.add i) = some (.int .i8 r) := by
  have hl : xs.length = n := by have := h.1; simpa using this
  have hi := (List.getElem?_eq_some_iff.1 hr).1
  obtain ⟨a, e, hb, hc⟩ := Rd.addr h (by omega)
  exact ⟨a, e, by omega, hb, hc i _ (by rw [List.getElem?_map, hr]; rfl)⟩
theorem shapedJ_next (xs : List Int) (i : Nat) (r f : Int) (h : xs[i]? = some r) (hf : (formsJ 0 (xs.map kJ))[i]? = some f) : (shapedJ xs).take (i + 1) = (shapedJ xs).take i ++ [shapeJ r f] := by
  rw [List.take_add_one]
  have : (shapedJ xs)[i]? = some (shapeJ r f) := by unfold shapedJ; rw [List.getElem?_zipWith, h, hf]
  rw [this]; rfl
/-- what holds between two runes -/
structure SdS (W0 : World) (Q : Nat) (xs : List Int) (i c : Nat) (A : Option Addr) (W : World) : Prop where
  ow : W.ownsRow Q 21 1 (.slice A i c) i (i32j ((shapedJ xs).take i))
  be : Below Q W0 W
set_option maxRecDepth 100000 in
set_option maxHeartbeats 4000000 in
theorem rshaped_any (A : Option Addr) (n c : Nat) (xs : List Int) (w : World) (hr : RdJ w A n xs) (hn : n ≤ 35184372087808) :
    Calls Try.prog 17 #[.slice A n c] w (PlR w (shapedJ xs)) := by
  obtain ⟨i0, hi, hz0, hz1, hz2⟩ := info_parts i32_infoJ
  have hl := hr.len
  have HF := Lib.hid (rforms_any A n c xs w hr hn)
  have HSh := Lib.hid rshape_any
  obtain ⟨fs, hfs⟩ : ∃ fs, formsJ 0 (xs.map kJ) = fs := ⟨_, rfl⟩
  have hfl : fs.length = n := by rw [← hfs, formsJ_len, List.length_map, hl]
  have HX := Lib.hid (show ∀ i r f, xs[i]? = some r → fs[i]? = some f → (shapedJ xs).take (i + 1) = (shapedJ xs).take i ++ [shapeJ r f] from fun i r f h h2 => shapedJ_next xs i r f h (by rw [hfs]; exact h2))
  have HE := Lib.hid (show (shapedJ xs).length = n ∧ (shapedJ xs).take n = shapedJ xs from ⟨by rw [shapedJ_len, hl], List.take_of_length_le (by rw [shapedJ_len, hl]; exact Nat.le_refl _)⟩)
  rw [hfs] at HF
  have Hr0 := Lib.hid hr
  clear hr hfs
  go_enter Try.func17, Try.ntmps17
  go_wp2_with fail
  refine HF.out.mono ?_
  rintro _ W0 ⟨A1, c1, rfl, of, bf⟩
  obtain ⟨Q, hQ⟩ : ∃ Q, W0.heap.size = Q := ⟨_, rfl⟩
  have Hr := Lib.hid (show ∀ W, Below Q W0 W → RdJ W A n xs from fun W hb => (Hr0.out.below bf).below (by rw [hQ]; exact hb))
  have Hf := Lib.hid (show ∀ W, Below Q W0 W → RdF W A1 n fs from fun W hb => (RdF.own of).below (by rw [hQ]; exact hb))
  have H0 := Lib.hid (show SdS W0 Q xs 0 0 none W0 from ⟨World.ownsRow_nil _ _ _ _, Below.refl _ _⟩)
  have HB := Lib.hid (show w.heap.size ≤ Q ∧ Below w.heap.size w W0 from ⟨by rw [← hQ]; exact bf.size, bf⟩)
  have HQ := Lib.hid hQ
  clear of bf hQ HF Hr0
  go_wp2_with fail
  go_loopw [3, 5] (fun y x wr => ∃ (i c' : Nat) (A' : Option Addr) (W : World), W = wr ∧ y = .slice A' i c' ∧ x = .int .i64 (i : Int) ∧ i ≤ n ∧ Hid (SdS W0 Q xs i c' A' W)) (fun _ x _ => n - (RowKit.intOf x).toNat)
  case atStart => exact ⟨0, 0, none, _, rfl, rfl, rfl, Nat.zero_le _, H0⟩
  case round =>
    obtain ⟨i, c', A', W, hW, rfl, rfl, hin, HI⟩ := hrel
    subst hW
    rcases Nat.lt_or_ge i n with hlt | hge
    · obtain ⟨r, hri⟩ : ∃ r, xs[i]? = some r := ⟨_, List.getElem?_eq_getElem (by omega)⟩
      obtain ⟨f, hfi⟩ : ∃ f, fs[i]? = some f := ⟨_, List.getElem?_eq_getElem (by omega)⟩
      obtain ⟨ar, hA, _, harb, d1⟩ := (Hr.out W.drew (below_DJ HI.out.be)).at hri
      obtain ⟨af, hA1, _, hafb, d2⟩ := (Hf.out W.drew (below_DJ HI.out.be)).at hfi
      subst hA
      subst hA1
      have hini : (i : Int) < (n : Int) := by omega
      have hi0 : (0 : Int) ≤ (i : Int) := by omega
      have hitn : (i : Int).toNat = i := by omega
      have hnext : IntKind.i64.wrap ((i : Int) + 1) = (i : Int) + 1 := IntWalk.i64_in _ (by omega)
      obtain ⟨s, hs⟩ : ∃ s, shapeJ r f = s := ⟨_, rfl⟩
      have HT := Lib.hid (show i32j ((shapedJ xs).take i) ++ [.int .i32 s] = i32j ((shapedJ xs).take (i + 1)) by rw [HX.out i r f hri hfi, hs]; simp [i32j])
      have HC := Lib.hid (show ∀ W', Calls Try.prog 24 #[.int .i32 r, .int .i8 f] W' fun e w' => e = .returned (.int .i32 s) ∧ Below W'.heap.size W' w' from fun W' => by have := HSh.out r f W'; rw [hs] at this; exact this)
      have hQW : Q ≤ W.heap.size := by have := HI.out.be.size; have := HQ.out; omega
      obtain ⟨X, hX⟩ : ∃ X, i32j ((shapedJ xs).take i) = X := ⟨_, rfl⟩
      rw [hX] at HT
      have HO := Lib.hid (show W.drew.ownsRow Q 21 1 (.slice A' i c') i X ∧ Below Q W0 W.drew ∧ Q ≤ W.drew.heap.size from ⟨by rw [← hX]; exact HI.out.ow, below_DJ HI.out.be, hQW⟩)
      have harq : ar.block < Q := by
        obtain ⟨a, e, _, h, _⟩ := (Hr.out W0 (Below.refl _ _)).at hri
        injection e with e; subst e; have := HQ.out; omega
      have hafq : af.block < Q := by
        obtain ⟨a, e, _, h, _⟩ := (Hf.out W0 (Below.refl _ _)).at hfi
        injection e with e; subst e; have := HQ.out; omega
      clear hri hfi hs hX HI H0 harb hafb
      go_wp2_with fail
      have harq : (ar.add i).block < Q := by rw [add_blockJ]; exact harq
      have hafq : (af.add i).block < Q := by rw [add_blockJ]; exact hafq
      have harb : (ar.add i).block < W.drew.heap.size := Nat.lt_of_lt_of_le harq HO.out.2.2
      have hafb : (af.add i).block < W.drew.heap.size := Nat.lt_of_lt_of_le hafq HO.out.2.2
      have hone : ∀ u ∈ [Value.int .i32 s], u.oneCell' = true := by simp [Value.oneCell']
      have hmx : i + 1 ≤ maxLen := by unfold maxLen; omega
      have hby : (i + 1) * 4 ≤ 140737488355328 := by omega
      go_region_held3 (fun W' => W'.cell? (ar.add i) = some (.int .i32 r) ∧ W'.cell? (af.add i) = some (.int .i8 f))
        (first | exact ⟨d1, d2⟩ | exact ⟨e1, e2⟩ | exact ⟨(b4.cell (p := ar.add i) harb).trans d1, (b4.cell (p := af.add i) hafb).trans d2⟩ | exact ⟨cell_alloc_sl _ ((b4.cell (p := ar.add i) harb).trans d1), cell_alloc_sl _ ((b4.cell (p := af.add i) hafb).trans d2)⟩)
        (first
          | (go_simp; go_at_call 24; refine (HC.out _).mono ?_; rintro e4 w4 ⟨rfl, b4⟩)
          | (refine step_append_ownJ rfl (.tmp 14) (.tmp 24) 22 rfl Q 21 i0 _ 1 4 Try.underlying22 hi hz0 hz1 hz2 rfl (by decide) _ i X rfl ((own_below HO.out.1 b4).alloc _) ⟨w4.heap.size, 0, none⟩ 1 1 [.int .i32 s] rfl rfl (new_cells w4 [.int .i32 s] 21) hone hmx hby (Nat.le_trans HO.out.2.2 (Nat.le_trans b4.size (by simp))) ?_; intro v3 w3 own3 g3; have B3 := ((b4.mono HO.out.2.2).alloc (Nat.le_trans HO.out.2.2 b4.size) (.cells #[.int .i32 s] 21)).grown g3 (Nat.le_trans HO.out.2.2 (Nat.le_trans b4.size (by simp))) (fun k hk => (HO.out.1.lt k hk).1); have e1 := (B3.cell (p := ar.add i) harq).trans d1; have e2 := (B3.cell (p := af.add i) hafq).trans d2; have Own3 := Lib.hid own3; have B3' := Lib.hid B3; clear own3 g3 B3))
      obtain ⟨A2, c2, hv2, _, _⟩ := own_shape Own3.out
      subst hv2
      have HN := Lib.hid (show SdS W0 Q xs (i + 1) c2 A2 w3 from ⟨by rw [← HT.out]; exact Own3.out, HO.out.2.1.trans B3'.out⟩)
      clear Own3 B3' HO HT
      go_wp2_with fail
      go_roundw
      case rel => exact ⟨i + 1, c2, A2, _, rfl, rfl, by first | rfl | go_num, hlt, HN⟩
      case measure => simp [RowKit.intOf]; omega
    · obtain rfl : i = n := by omega
      have hnn : ¬ (i : Int) < (i : Int) := by omega
      have HR := Lib.hid (show PlR w (shapedJ xs) (.returned (.slice A' i c')) W from by
        have h := HI.out
        have h1 := h.ow
        rw [HE.out.2] at h1
        refine ⟨Q, A', c', HB.out.1, by rw [HE.out.1], ?_, HB.out.2.trans (h.be.mono HB.out.1)⟩
        rw [HE.out.1]; exact h1)
      clear hin hge HI
      go_wp2_with fail
      go_ret
      exact HR.out
end Go.Proofs.Ytjecbchnckknkaa
