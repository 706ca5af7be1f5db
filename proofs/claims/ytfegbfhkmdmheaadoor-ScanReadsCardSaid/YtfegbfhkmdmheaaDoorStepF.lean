/- step: a Feed on both readers. -/
import Derived.Test.YtfegbfhkmdmheaaDoorStep
set_option linter.unusedSimpArgs false
set_option linter.unusedVariables false
namespace Go.Proofs.YtfegbfhkmdmheaaDoor
open Go.RowKit Go.Lib

theorem wpList_append_rd {P : Program} {w : World} {ops : Array Oper} {rest : List Oper} {o : Oper} {a : Act} {Q : Exit → Act → World → Prop} (hgd : o.guard = none) (s x : Operand) (t : TypeId)
    (ho : o.op = .call { callee := .builtin .append, args := #[s, x], argTypes := #[t, t] })
    (base : Nat) (e : TypeId) (i : TypeInfo) (z : Value) (bytes : Nat) (ht : P.underlying t = some (.slice e)) (hi : P.info? e = some i) (hz : i.zero = some z)
    (hsize : i.size = 1) (hby : i.bytes = bytes) (hzs : z.cells.size = 1)
    (v : Value) (n : Nat) (xs : List Value) (hs : a.eval s = v) (hown : w.ownsRow base e 1 v n xs)
    (B : Nat) (A : Option Addr) (m c : Nat) (news : List Value) (hx : a.eval x = .slice A m c) (hrd : Rd w B 1 A m news) (hnil : A = none → m = 0 ∧ c = 0) (h1 : ∀ u ∈ news, u.oneCell' = true)
    (h63 : n + m ≤ maxLen) (hbytes : (n + m) * bytes ≤ 140737488355328) (hbase : base ≤ w.heap.size)
    (h : ∀ v' w', w'.ownsRow base e 1 v' (n + m) (xs ++ news) → w.grownBy w' v.ownBlock → (v'.ownBlock = v.ownBlock ∨ v'.ownBlock = some w.heap.size) → wpList P ops Q rest (a.put o.dst v') w') :
    wpList P ops Q (o :: rest) a w := by
  have hl := hrd.1
  rcases A with _ | ad
  · obtain ⟨rfl, rfl⟩ := hnil rfl
    have hn : news = [] := List.eq_nil_of_length_eq_zero (by omega)
    subst hn
    refine wpList_append_own_none hgd s x t ho base e i 1 ht hi v n xs hs hown hx ?_
    exact h v w (by simpa using hown) ⟨rfl, rfl, rfl, Nat.le_refl _, fun _ _ _ => rfl⟩ (.inl rfl)
  · exact wpList_append_own_at w hgd s x t ho base e i z 1 bytes ht hi hz hsize hby hzs (by omega) v n xs hs hown ad m c news hx hl hrd.cells_of h1 h63 hbytes hbase (fun v' w' a b _ c => h v' w' a b c)
theorem ones_bytes (l : List UInt8) : ∀ u ∈ byteCells' l, u.oneCell' = true := by
  intro u hu
  obtain ⟨z, _, rfl⟩ := List.mem_map.1 hu
  rfl

/-- the box of what was handed in, the readers, what was handed in: while rows of one's own from M on are made and written -/
structure At (w0 : World) (g h N B : Nat) (R : ByteArray) (A : Option Addr) (n c : Nat) (bs : List UInt8) (w : World) : Prop where
  pair : Pair g h R w
  two : Two N g h w0 w
  box : w.cell? ⟨N, 1, none⟩ = some (.slice A n c)
  rd : Rd w B 1 A n (byteCells' bs)
  big : N < w.heap.size
theorem At.grow {w0 w w' : World} {g h N B : Nat} {R : ByteArray} {A : Option Addr} {n c : Nat} {bs : List UInt8} (a : At w0 g h N B R A n c bs w) {row : Option Nat} (x : w.grownBy w' row) (hB : B ≤ N) (hg : g < N) (hh : h < N) (hr : ∀ k, row = some k → N < k) :
    At w0 g h N B R A n c bs w' := by
  have hN : some N ≠ row := fun e => by have := hr N e.symm; omega
  refine ⟨a.pair.other x (fun e => by have := hr g e; omega) (fun e => by have := hr h e; omega), a.two.trans (Two.grow x (by have := a.big; omega) (fun k e => .inr (.inr (by have := hr k e; omega)))),
    (World.cell?_of_block (a := ⟨N, 1, none⟩) (x.block N a.big hN)).trans a.box, a.rd.keep fun p hp => World.cell?_of_block (x.block p.block (by have := a.big; omega) (fun e => by have := hr p.block e.symm; omega)), Nat.lt_of_lt_of_le a.big x.size⟩

theorem ba_ext {a b : ByteArray} (h : a.data.toList = b.data.toList) : b = a := by
  cases a; cases b
  simp only [ByteArray.mk.injEq]
  exact (Array.toList_inj.1 h).symm
theorem rd_front {w : World} {base : Nat} {e : TypeId} {r n cap : Nat} {bs : List UInt8} (h : w.ownsRow base e 1 (.slice (some ⟨r, 0, none⟩) (n + 2) cap) (n + 2) (byteCells' bs ++ [.int .u8 165, .int .u8 165])) (hl : bs.length = n) :
    Rd w w.heap.size 1 (some ⟨r, 0, none⟩) n (byteCells' bs) := by
  refine ⟨by simp [byteCells', hl], .inr ⟨_, rfl, (h.lt r rfl).2, fun j u hu => h.cells (g := r) rfl j u ?_⟩⟩
  rw [List.getElem?_append_left (List.getElem?_eq_some_iff.1 hu).1]
  exact hu
theorem room_cap {w : World} {base : Nat} {e : TypeId} {A : Option Addr} {n cap : Nat} {xs : List Value} (h : w.ownsRow base e 1 (.slice A (n + 2) cap) (n + 2) xs) : (n : Int) + 2 ≤ (cap : Int) := by
  obtain ⟨A', c', e, h1, _⟩ := own_shape h
  injection e with _ _ e3
  omega

/-- .. and the two rows that are written over -/
structure Bun (w0 : World) (g h N B : Nat) (R : ByteArray) (A : Option Addr) (n c : Nat) (bs : List UInt8) (r cap M : Nat) (AG : Option Addr) (k cG : Nat) (w : World) : Prop where
  at_ : At w0 g h N B R A n c bs w
  room : ∃ xs, w.ownsRow (N + 1) 5 1 (.slice (some ⟨r, 0, none⟩) (n + 2) cap) (n + 2) xs
  got : ∃ ys, w.ownsRow M 21 1 (.slice AG k cG) k ys
  apart : r < M
section
variable {w0 w : World} {g h N B : Nat} {R : ByteArray} {A : Option Addr} {n c : Nat} {bs : List UInt8} {r cap M : Nat} {AG : Option Addr} {k cG : Nat}
theorem Bun.putRoom (b : Bun w0 g h N B R A n c bs r cap M AG k cG w) (hB : B ≤ N) (hg : g < N) (hh : h < N) : (∀ j, w.frozen? ⟨r, j, none⟩ = false) ∧ (∀ j, j < n + 2 → ∃ x, w.cell? ⟨r, j, none⟩ = some x) ∧ ∀ j u, Bun w0 g h N B R A n c bs r cap M AG k cG (w.setCell ⟨r, j, none⟩ u) := by
  obtain ⟨xs, hx⟩ := b.room
  obtain ⟨ys, hy⟩ := b.got
  refine ⟨hx.frozenAt, fun j hj => ⟨xs[j]'(by rw [hx.1]; omega), by rw [hx.cellAt j (by omega)]; exact List.getElem?_eq_getElem _⟩, fun j u => ?_⟩
  have hr := (hx.lt r rfl).1
  exact ⟨b.at_.grow (hx.stored j u).2 hB hg hh (fun k e => by cases e; omega), ⟨_, (hx.stored j u).1⟩, ⟨ys, hy.kept (hx.stored j u).2 (.inr fun e => by have := (hy.lt r e).1; have := b.apart; omega)⟩, b.apart⟩
theorem Bun.putGot (b : Bun w0 g h N B R A n c bs r cap M AG k cG w) (hB : B ≤ N) (hg : g < N) (hh : h < N) (hM : N < M) (hk : 0 < k) : ∃ q, AG = some ⟨q, 0, none⟩ ∧ (∀ j, w.frozen? ⟨q, j, none⟩ = false) ∧ (∀ j, j < k → ∃ x, w.cell? ⟨q, j, none⟩ = some x) ∧
    ∀ j u, Bun w0 g h N B R A n c bs r cap M AG k cG (w.setCell ⟨q, j, none⟩ u) := by
  obtain ⟨xs, hx⟩ := b.room
  obtain ⟨ys, hy⟩ := b.got
  obtain ⟨q, cap', e, hq, _⟩ := hy.form hk
  injection e with e1 _ e3
  subst e1
  refine ⟨q, rfl, hy.frozenAt, fun j hj => ⟨ys[j]'(by rw [hy.1]; omega), by rw [hy.cellAt j (by omega)]; exact List.getElem?_eq_getElem _⟩, fun j u => ?_⟩
  exact ⟨b.at_.grow (hy.stored j u).2 hB hg hh (fun k e => by cases e; omega), ⟨xs, hx.kept (hy.stored j u).2 (.inr fun e => by have := b.apart; have : r = q := (by simpa [Value.ownBlock] using e); omega)⟩, ⟨_, (hy.stored j u).1⟩, b.apart⟩
end

set_option maxRecDepth 100000 in
set_option maxHeartbeats 4000000 in
theorem step_feed (w : World) (g y n c B : Nat) (A : Option Addr) (bs : List UInt8) (R : ByteArray) (P : Pair g y R w) (hR : HeldR R) (hA : Rd w B 1 A n (byteCells' bs)) (hB : B ≤ w.heap.size) (hBg : B ≤ g) (hBh : B ≤ y)
    (hnil : A = none → n = 0 ∧ c = 0) (hn : n ≤ 16777216) (hT : ∀ W : World, (∀ p : Addr, p.block < B → W.cell? p = w.cell? p) → U8 W) :
    Calls Tryd.prog 8 #[.pointer (some ⟨g, 0, none⟩), .pointer (some ⟨y, 0, none⟩), .agg #[.int .i64 0, .slice A n c]] w (StepAt w g y) := by
  obtain ⟨i0, hi, hz0, hz1, hz2⟩ := info_parts byte_info
  have hbl : bs.length = n := by have := hA.1; simpa [byteCells'] using this
  have hs := hR.small.1
  have hg := P.lg
  have hh := P.lh
  unfold StepAt
  obtain ⟨w1, hw1⟩ : ∃ w1, w.alloc (.cells #[.int .i64 0, .slice A n c] 32) = w1 := ⟨_, rfl⟩
  have gr1 : w.grownBy w1 none := hw1 ▸ World.grownBy_alloc w _ none
  have hs1 : w1.heap.size = w.heap.size + 1 := by rw [← hw1]; simp
  have a1 : At w g y w.heap.size B R A n c bs w1 := by
    refine ⟨P.other gr1 (by simp) (by simp), Two.grow gr1 (Nat.le_refl _) (fun k e => by cases e), ?_, hA.keep fun p hp => World.cell?_of_block (gr1.block p.block (by omega) (by simp)), by omega⟩
    have := new_cells w [.int .i64 0, .slice A n c] 32 1 _ rfl
    rw [← hw1]; exact this
  have hcell := hw1 ▸ a1.box
  obtain ⟨w2, hw2⟩ : ∃ w2, w1.alloc (.cells #[] 5) = w2 := ⟨_, rfl⟩
  have own2 : w2.ownsRow (w.heap.size + 1) 5 1 (.slice (some ⟨w.heap.size + 1, 0, none⟩) 0 0) 0 [] := by
    have := World.ownsRow_made (base := w.heap.size + 1) (e := 5) (size := 1) w1 #[] 0 (by omega) (Nat.zero_le _) rfl
    rw [hw2, hs1] at this
    exact this
  have a2 : At w g y w.heap.size B R A n c bs w2 := a1.grow (hw2 ▸ World.grownBy_alloc w1 _ none) hB hg hh (fun k e => by cases e)
  have hs2 : w.heap.size + 1 ≤ w2.heap.size := by rw [← hw2]; simp; omega
  rw [← hw1] at hw2
  have Hw2 := Lib.hid hw2
  have Own2 := Lib.hid own2
  have A2 := Lib.hid a2
  have Hbl := Lib.hid hbl
  have HR := Lib.hid hR
  have HT := Lib.hid hT
  have Hgg := Lib.hid hg
  have Hhh := Lib.hid hh
  have K1 : Hid (0 + n ≤ maxLen) := by unfold Hid maxLen; omega
  have K2 : Hid ((0 + n) * 1 ≤ 140737488355328) := by unfold Hid; omega
  have K4 : Hid (n + 2 ≤ maxLen) := by unfold Hid maxLen; omega
  have K5 : Hid ((n + 2) * 1 ≤ 140737488355328) := by unfold Hid; omega
  have K3 := Lib.hid hs2
  have tokA : True := trivial
  have tokB : True := trivial
  clear hw1 gr1 hs1 a1 own2 a2 hbl hR P hA hT hs2 hw2
  go_enter Tryd.func8, Tryd.ntmps8
  go_wp2_with (at_builtin; first
    | (have _t := tokA; clear tokA; rw [Hw2.out]; refine wpList_append_rd rfl (.tmp 20) (.tmp 22) 30 rfl (w.heap.size + 1) 5 i0 _ 1 Tryd.underlying30 hi hz0 hz1 hz2 rfl (.slice (some ⟨w.heap.size + 1, 0, none⟩) 0 0) 0 [] rfl Own2.out B A n c (byteCells' bs) rfl A2.out.rd hnil (ones_bytes _) K1.out K2.out K3.out ?_; intro v3 w3 own3 gr3 _; rw [Nat.zero_add, List.nil_append] at own3; have A3 := Lib.hid (A2.out.grow gr3 hB Hgg.out Hhh.out (fun k e => by have := (Own2.out.lt k e).1; omega)); have Own3 := Lib.hid own3; have K6 : Hid (w.heap.size + 1 ≤ (w3.alloc (.cells #[.int .u8 165, .int .u8 165] 5)).heap.size) := (by have := A3.out.big; unfold Hid; simp; omega); clear own3 gr3)
    | (have _t := tokB; clear tokB; refine wpList_append_own _ rfl (.tmp 23) (.tmp 24) 30 rfl (w.heap.size + 1) 5 i0 _ 1 1 Tryd.underlying30 hi hz0 hz1 hz2 rfl (by decide) _ n (byteCells' bs) rfl (Own3.out.alloc _) ⟨w3.heap.size, 0, none⟩ 2 2 [.int .u8 165, .int .u8 165] rfl rfl (new_cells w3 [.int .u8 165, .int .u8 165] 5) (by simp [Value.oneCell']) K4.out K5.out K6.out ?_; intro v4 w4 own4 gr4 _; have A4 := Lib.hid ((A3.out.grow (World.grownBy_alloc w3 (.cells #[.int .u8 165, .int .u8 165] 5) none) hB Hgg.out Hhh.out (fun k e => by cases e)).grow gr4 hB Hgg.out Hhh.out (fun k e => by have := (Own3.out.lt k e).1; omega)); obtain ⟨r, cap, rfl, hrB, hrl⟩ := own4.form (by omega); have Own4 := Lib.hid own4; have hbox := A4.out.box; have hcap := room_cap own4; clear own4 gr4))
  refine (refFeed_any w4 y B n c A R bs A4.out.pair.ch A4.out.pair.fh A4.out.pair.lh A4.out.rd (by have := Hbl.out; omega)).mono ?_
  rintro e w5 ⟨v5, t, R1, fed5, rfl, own5, hc5, hf5, gr5⟩
  have hy5 := grown_cell gr5 A4.out.pair.lg A4.out.pair.ne
  have hN5 : w.heap.size < w5.heap.size := Nat.lt_of_lt_of_le A4.out.big gr5.size
  have T5 := A4.out.two.trans (Two.grow (N := w.heap.size) (g := g) (h := y) gr5 (Nat.le_of_lt A4.out.big) (fun k e => by cases e; exact .inr (.inl rfl)))
  have hT5 := HT.out w5 (fun p hp => World.cell?_of_block (T5.block p.block (by omega) (by omega) (by omega)))
  have Own4' := Own4.out.kept gr5 (.inr fun e => by have := (Own4.out.lt y e).1; have := Hhh.out; omega)
  have hrl5 : r < w5.heap.size := Nat.lt_of_lt_of_le hrl gr5.size
  have box5 := (World.cell?_of_block (a := ⟨w.heap.size, 1, none⟩) (gr5.block w.heap.size A4.out.big (fun e => by injection e with e; have := Hhh.out; omega))).trans A4.out.box
  have rd5 := A4.out.rd.keep (w' := w5) fun p hp => World.cell?_of_block (gr5.block p.block (by have := A4.out.big; omega) (fun e => by injection e with e; omega))
  have F := feed_any w5 g w5.heap.size n cap (some ⟨r, 0, none⟩) R bs (hy5.1.trans A4.out.pair.cg) (hy5.2.trans A4.out.pair.fg) (Nat.lt_of_lt_of_le A4.out.pair.lg gr5.size) (rd_front Own4' Hbl.out) (by have := Hbl.out; omega) hT5
  have HF := Lib.hid F
  have Own5 := Lib.hid own5
  have Fed5 := Lib.hid fed5
  have T5' := Lib.hid T5
  have Own4b := Lib.hid Own4'
  have HC5 := Lib.hid hc5
  have HF5 := Lib.hid hf5
  have Rd5 := Lib.hid rd5
  have Box5 := Lib.hid box5
  have G5 := Lib.hid gr5
  have hbox := box5
  clear F own5 fed5 T5 hT5 Own4' hc5 hf5 hy5 rd5 box5 gr5
  go_wp2_with fail
  refine HF.out.mono ?_
  rintro e w6 ⟨v6, t', R2, fed6, rfl, own6, hc6, hf6, gr6⟩
  obtain ⟨rfl, hRR⟩ := fed_det Fed5.out fed6
  obtain rfl := ba_ext hRR
  have hl5 : y < w5.heap.size := Nat.lt_of_lt_of_le A4.out.pair.lh G5.out.size
  have hh6 := grown_cell gr6 hl5 (Ne.symm A4.out.pair.ne)
  have A6 : At w g y w.heap.size B R1 A n c bs w6 := by
    refine ⟨⟨hc6, hf6, hh6.1.trans HC5.out, hh6.2.trans HF5.out, Nat.lt_of_lt_of_le A4.out.pair.lg (Nat.le_trans G5.out.size gr6.size), Nat.lt_of_lt_of_le hl5 gr6.size, A4.out.pair.ne⟩, T5'.out.trans (Two.grow gr6 (by omega) (fun k e => by cases e; exact .inl rfl)), ?_, ?_, Nat.lt_of_lt_of_le hN5 gr6.size⟩
    · exact (World.cell?_of_block (a := ⟨w.heap.size, 1, none⟩) (gr6.block w.heap.size hN5 (fun e => by injection e with e; have := Hgg.out; omega))).trans Box5.out
    · exact Rd5.out.keep fun p hp => World.cell?_of_block (gr6.block p.block (by omega) (fun e => by injection e with e; omega))
  have HA6 := Lib.hid A6
  have Room6 := Lib.hid (Own4b.out.kept gr6 (.inr fun e => by have := (Own4b.out.lt g e).1; have := Hgg.out; omega))
  have Want6 := Lib.hid (Own5.out.kept gr6 (.inr fun e => by have := (Own5.out.lt g e).1; have := A4.out.pair.lg; omega))
  have Got6 := Lib.hid own6
  have Held6 := Lib.hid (fed_rest fed6)
  have hl6 := fed_len fed6
  simp only [List.length_append, size_list, Hbl.out] at hl6
  obtain ⟨AW, cW, rfl, _, _⟩ := own_shape Own5.out
  obtain ⟨AG, cG, rfl, _, _⟩ := own_shape own6
  clear hbox fed6 own6 hc6 hf6 gr6 hh6 A6 hRR HF Own5 Own4b A4 Rd5 Box5 HC5 HF5 T5' Fed5
  have hbox := HA6.out.box
  go_wp2_with fail
  refine (nums_same w6 _ _ _ _ t'.length _ _ t' (Rd.own Got6.out) (Rd.own Want6.out) (by unfold maxLen; omega)).mono ?_
  rintro e w7 ⟨rfl, b7⟩
  have gr7 := grown_of_below b7
  have A7 := Lib.hid (HA6.out.grow gr7 hB Hgg.out Hhh.out (fun k e => by cases e))
  have Room7 := Lib.hid (own_below Room6.out b7)
  have Got7 := Lib.hid (own_below Got6.out b7)
  clear hbox b7 gr7
  have hbox := A7.out.box
  have hcv1 := bytes_string w7 B n c A bs A7.out.rd
  have hcv2 := bytes_string w7 _ n cap (some ⟨r, 0, none⟩) bs (rd_front Room7.out Hbl.out)
  have hr1 : w7.cell? ⟨r, n, none⟩ = some (.int .u8 165) := by
    rw [Room7.out.cellAt n (by omega), List.getElem?_append_right (by simp [byteCells', Hbl.out])]
    simp [byteCells', Hbl.out]
  have hr2 : w7.cell? ⟨r, n + 1, none⟩ = some (.int .u8 165) := by
    rw [Room7.out.cellAt (n + 1) (by omega), List.getElem?_append_right (by simp [byteCells', Hbl.out])]
    simp [byteCells', Hbl.out]
  have B7 : Hid (Bun w g y w.heap.size B R1 A n c bs r cap w5.heap.size AG t'.length cG w7) := ⟨A7.out, ⟨_, Room7.out⟩, ⟨_, own_base Got7.out (Nat.le_refl _)⟩, hrl5⟩
  clear HA6 Room6 Want6 Got6 A7 Room7 Got7
  go_wp2_with fail
  clear hbox hcv1 hcv2 hr1 hr2
  go_loopw [12] (fun i wr => ∃ k : Nat, k ≤ n + 2 ∧ i = .int .i64 k ∧ Bun w g y w.heap.size B R1 A n c bs r cap w5.heap.size AG t'.length cG wr) (fun i _ => n + 2 - (RowKit.intOf i).toNat)
  case atStart => exact ⟨0, Nat.zero_le _, rfl, B7.out⟩
  case round =>
    rename_i i wr
    obtain ⟨k, hk, rfl, hS⟩ := hrel
    by_cases hkm : k < n + 2
    · obtain ⟨hfz, hce, hst⟩ := hS.putRoom hB Hgg.out Hhh.out
      obtain ⟨x, hx⟩ := hce k hkm
      have hf := hfz k
      have Hs1 := Lib.hid (hst k (.int .u8 122))
      have hkm2 : (k : Int) < (n : Int) + 2 := by omega
      clear hfz hce hst hS B7
      go_wp2_with fail
      exact ⟨⟨k + 1, by omega, by go_num, Hs1.out⟩, by simp [RowKit.intOf]; omega⟩
    · have HS := Lib.hid hS
      have hkm2 : ¬ ((k : Int) < (n : Int) + 2) := by omega
      clear hS B7
      go_wp2_with fail
      go_loopw [13] (fun i wq => ∃ k : Nat, k ≤ t'.length ∧ i = .int .i64 k ∧ Bun w g y w.heap.size B R1 A n c bs r cap w5.heap.size AG t'.length cG wq) (fun i _ => t'.length - (RowKit.intOf i).toNat)
      case atStart => exact ⟨0, Nat.zero_le _, rfl, HS.out⟩
      case round =>
        rename_i i wq
        obtain ⟨k, hk, rfl, hS⟩ := hrel
        by_cases hkm : k < t'.length
        · obtain ⟨q, rfl, hfz, hce, hst⟩ := hS.putGot hB Hgg.out Hhh.out hN5 (by omega)
          obtain ⟨x, hx⟩ := hce k hkm
          have hf := hfz k
          have Hs1 := Lib.hid (hst k (.int .i32 1))
          clear hfz hce hst hS HS
          go_wp2_with fail
          exact ⟨⟨k + 1, by omega, by go_num, Hs1.out⟩, by simp [RowKit.intOf]; omega⟩
        · have HS2 := Lib.hid hS
          clear hS HS
          go_wp2_with fail
          go_ret
          exact ⟨R1, rfl, HS2.out.at_.pair, Held6.out, HS2.out.at_.two⟩
end Go.Proofs.YtfegbfhkmdmheaaDoor
