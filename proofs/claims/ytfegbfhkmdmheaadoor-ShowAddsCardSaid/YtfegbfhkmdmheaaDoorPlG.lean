/- strings.Builder's copyCheck, as this translation has it. -/
import Derived.Test.YtfegbfhkmdmheaaDoorMem
import Derived.Test.YtfegbfhkmdmheaaDoorShelf
import Derived.Lib.Builder
import Derived.Lib.AppendStr
import Derived.Test.YtfegbfhkmdmheaaDoorShKG
import Derived.Test.YtfegbfhkmdmheaaDoorRowG
set_option linter.unusedSimpArgs false
set_option linter.unusedVariables false
namespace Go.Proofs.YtfegbfhkmdmheaaDoor
open Go.RowKit Go.Lib

theorem bsize6 : (Tryd.prog.info? 116).map (·.size) = some 2 := by kernel_rfl
theorem blies6 : liesAt Tryd.prog Tryd.prog.depth 116 (2 / Tryd.prog.cellsOf 116) 0 116 1 = true := by kernel_rfl
theorem bcell_info6 : (Tryd.prog.info? 5).map (fun i => (i.zero, i.size, i.bytes)) = some (some (.int .u8 0), 1, 1) := by kernel_rfl

set_option maxHeartbeats 1000000 in
set_option maxRecDepth 100000 in
theorem bcheck_used6 (b : Nat) (w : World) (h0 : w.cell? ⟨b, 0, none⟩ = some (.pointer (some ⟨b, 0, none⟩))) :
    Calls Tryd.prog 109 #[.pointer (some ⟨b, 0, none⟩)] w fun e w' => e = .returned (.tuple #[]) ∧ w' = w := by
  obtain ⟨j, hj, _⟩ := Option.map_eq_some_iff.1 bsize6
  have hnil : ∀ W, (binOp .eql 114 (.pointer (some ⟨b, 0, none⟩)) (.pointer none)).run Tryd.prog W = .ok (.bool false) W := fun W => by first | rfl | kernel_rfl
  go_enter Tryd.func109, Tryd.ntmps109
  go_wp2
  rw [Lib.run_neq_ptr_same w _ Tryd.underlying114 hj]
  go_wp2
  exact ⟨rfl, _, results_none rfl _ _ _, rfl, rfl⟩
set_option maxHeartbeats 1000000 in
set_option maxRecDepth 100000 in
theorem bcheck_fresh6 (b : Nat) (w : World) (h0 : w.cell? ⟨b, 0, none⟩ = some (.pointer none)) (hsh : w.shape? b = some (116, 2)) (hfz : w.frozen? ⟨b, 0, none⟩ = false) :
    Calls Tryd.prog 109 #[.pointer (some ⟨b, 0, none⟩)] w fun e w' => e = .returned (.tuple #[]) ∧ w' = w.setCell ⟨b, 0, none⟩ (.pointer (some ⟨b, 0, none⟩)) := by
  obtain ⟨j, hj, hjs⟩ := Option.map_eq_some_iff.1 bsize6
  go_enter Tryd.func109, Tryd.ntmps109
  go_wp2
  rw [Lib.run_to_unsafe w ⟨b, 0, none⟩ Tryd.underlying114 Tryd.underlying160 hj (by rw [hjs]; decide) hsh (Nat.zero_lt_succ 1)]
  simp only [Result.andThen]
  rw [Oper.upon_value]
  go_wp2
  rw [run_callFunc_extern Tryd.func128 (by kernel_rfl) (by kernel_rfl) (by kernel_rfl) (e := Extern.AbiNoEscape.same) (by kernel_rfl)]
  rw [Lib.run_noEscape]
  simp only [Result.andThen]
  rw [Oper.upon_value]
  go_wp2
  rw [Lib.run_from_unsafe w ⟨b, 0, none⟩ Tryd.underlying160 Tryd.underlying114 hj hsh blies6]
  simp only [Result.andThen]
  rw [Oper.upon_value]
  go_wp2
  exact ⟨rfl, _, results_none rfl _ _ _, rfl, rfl⟩
end Go.Proofs.YtfegbfhkmdmheaaDoor

/- strings.Builder's WriteString, and just what it changes: the builder's own block and its row, old or new. -/
namespace Go.Proofs.YtfegbfhkmdmheaaDoor
open Go.RowKit Go.Lib

section
variable {P : Program} {w : World}
theorem append_str_block6 (base : Nat) (t u ty e : TypeId) (i : TypeInfo) (ht : P.underlying t = some (.slice e)) (hu : P.underlying u = some .string) (hi : P.info? e = some i) (hz : i.zero = some (.int .u8 0))
    (hsize : i.size = 1) (hby : i.bytes = 1) (v : Value) (n : Nat) (xs : List Value) (hown : w.ownsRow base e 1 v n xs) (s : ByteArray) (h63 : n + s.size ≤ maxLen) (hbytes : n + s.size ≤ 140737488355328)
    (v' : Value) (w' : World) (hr : (Builtin.append_ #[t, u] ty #[v, .string s]).run P w = .ok v' w') (hnil : v' = .slice none 0 0 ↔ v = .slice none 0 0 ∧ s.size = 0) :
    v'.ownBlock = v.ownBlock ∨ v'.ownBlock = some w.heap.size := by
  have hsmall : n + s.size ≤ 9223372036854775807 := by simp only [maxLen] at h63; omega
  have hxl : xs.length = n := by simpa using hown.1
  rcases hown.2 with ⟨rfl, rfl⟩ | ⟨g, cap, cur, rfl, hbg, hg, hnc, hcm, hcs, htake⟩
  · by_cases hm : s.size = 0
    · left
      rw [hnil.2 ⟨rfl, hm⟩]
    · right
      have h2 := run_append_nil_string (P := P) w t u ty e i (.int .u8 0) ht hu hi hz s (by omega) (by omega) (by rw [hby]; omega)
      rw [hr] at h2
      injection h2 with e1 _
      rw [e1]
      rfl
  · by_cases hroom : n + s.size ≤ cap
    · left
      have hcs' : cur.size = cap := by simpa using hcs
      have h2 := run_append_room_string (P := P) w t u ty e i ht hu hi hsize g n cap cur hg s hroom (by omega)
      rw [hr] at h2
      injection h2 with e1 _
      rw [e1]
      rfl
    · right
      have holds : ∀ j u, xs[j]? = some u → w.cell? ((⟨g, 0, none⟩ : Addr).add j) = some u := hown.cells (g := g) rfl
      have h2 := run_append_grow_string (P := P) w t u ty e i (.int .u8 0) ht hu hi hz ⟨g, 0, none⟩ n cap xs (by rw [hsize]; simpa using hxl) holds s (by omega) (by omega) (by rw [hby]; exact growslice_fits (by omega) (by omega))
      rw [hr] at h2
      injection h2 with e1 _
      rw [e1]
      rfl
theorem wpList_append_str6 {ops : Array Oper} {rest : List Oper} {o : Oper} {a : Act} {Q : Exit → Act → World → Prop} (hgd : o.guard = none) (sl x : Operand) (t u : TypeId)
    (ho : o.op = .call { callee := .builtin .append, args := #[sl, x], argTypes := #[t, u] })
    (base : Nat) (e : TypeId) (i : TypeInfo) (ht : P.underlying t = some (.slice e)) (hu : P.underlying u = some .string) (hi : P.info? e = some i) (hz : i.zero = some (.int .u8 0))
    (hsize : i.size = 1) (hby : i.bytes = 1)
    (v : Value) (n : Nat) (xs : List Value) (hs : a.eval sl = v) (hown : w.ownsRow base e 1 v n xs) (s : ByteArray) (hx : a.eval x = .string s)
    (h63 : n + s.size ≤ maxLen) (hbytes : n + s.size ≤ 140737488355328) (hbase : base ≤ w.heap.size)
    (h : ∀ v' w', w'.ownsRow base e 1 v' (n + s.size) (xs ++ strCells s) → w.grownBy w' v.ownBlock → (v'.ownBlock = v.ownBlock ∨ v'.ownBlock = some w.heap.size) → wpList P ops Q rest (a.put o.dst v') w') : wpList P ops Q (o :: rest) a w := by
  refine wpList_plain hgd fun K hK => ?_
  obtain ⟨v', w', hr, h2, h3, h4⟩ := run_append_own_string (P := P) w base t u o.type e i ht hu hi hz hsize hby v n xs hown s h63 hbytes hbase
  have h5 := append_str_block6 base t u o.type e i ht hu hi hz hsize hby v n xs hown s h63 hbytes v' w' hr h4
  unfold Oper.wp execOp
  simp only [ho, resolve, invoke, builtin, Sem.run_bind, Sem.run_pure, Result.andThen_ok, List.map_toArray, List.map_cons, List.map_nil, hs, hx, hr]
  exact hK _ _ (h v' w' h2 h3 h5)
end

/-- a builder at block b that holds acc in the row v -/
structure BRow (W : World) (base b : Nat) (acc : List UInt8) (v : Value) : Prop where
  box : ∃ p, (p = .pointer none ∨ p = .pointer (some ⟨b, 0, none⟩)) ∧ W.heap[b]? = some (.cells #[p, v] 116 (0, 0))
  own : W.ownsRow base 5 1 v acc.length (Lib.byteCells acc)
  ne : v.ownBlock ≠ some b
theorem BRow.below {W W' : World} {base b : Nat} {acc : List UInt8} {v : Value} (h : BRow W base b acc v) (hb : Below W.heap.size W W') : BRow W' base b acc v := by
  obtain ⟨p, hp, hh⟩ := h.box
  exact ⟨⟨p, hp, (hb.block b (Array.getElem?_eq_some_iff.1 hh).1).trans hh⟩, own_below h.own hb, h.ne⟩
theorem BRow.lt {W : World} {base b : Nat} {acc : List UInt8} {v : Value} (h : BRow W base b acc v) : b < W.heap.size := by
  obtain ⟨p, hp, hh⟩ := h.box
  exact (Array.getElem?_eq_some_iff.1 hh).1
theorem BRow.is {W : World} {base b : Nat} {acc : List UInt8} {v : Value} (h : BRow W base b acc v) (B : Nat) (hB : B ≤ base) (hb : B ≤ b) : Lib.IsBuilder 116 5 B b (Lib.byteCells acc) W := by
  obtain ⟨p, hp, hh⟩ := h.box
  have ho := own_base h.own hB
  rw [← Lib.byteCells_length] at ho
  rcases hp with rfl | rfl
  · exact .inl ⟨hb, v, hh, ho, h.ne⟩
  · exact .inr ⟨hb, v, hh, ho, h.ne⟩
/-- nothing changes but block b and the row r -/
structure Only6 (b : Nat) (r : Option Nat) (w w' : World) : Prop where
  os : w'.os = w.os
  tape : w'.tape = w.tape
  output : w'.output = w.output
  size : w.heap.size ≤ w'.heap.size
  block : ∀ k, k < w.heap.size → k ≠ b → r ≠ some k → w'.heap[k]? = w.heap[k]?
set_option maxHeartbeats 1000000 in
theorem bcheck_g (base b : Nat) (acc : List UInt8) (v : Value) (w : World) (h : BRow w base b acc v) :
    Calls Tryd.prog 109 #[.pointer (some ⟨b, 0, none⟩)] w fun e w' => e = .returned (.tuple #[]) ∧ w'.heap[b]? = some (.cells #[.pointer (some ⟨b, 0, none⟩), v] 116 (0, 0)) ∧ w'.ownsRow base 5 1 v acc.length (Lib.byteCells acc) ∧ w'.heap.size = w.heap.size ∧ Only6 b none w w' := by
  obtain ⟨p, hp, hh⟩ := h.box
  have hib := h.is 0 (Nat.zero_le _) (Nat.zero_le _)
  rcases hp with rfl | rfl
  · rcases hib with hb | hb
    · refine (bcheck_fresh6 b w hb.cell0 hb.shape hb.frozen0).mono ?_
      rintro e w' ⟨rfl, rfl⟩
      refine ⟨rfl, ?_, h.own.kept (w := w) (row := some b) ⟨rfl, rfl, rfl, by simp, fun k _ hk => Below.heap_setCell _ _ _ k (fun e => hk (by rw [e]))⟩ (.inr h.ne), by simp, ⟨rfl, rfl, rfl, by simp, fun k _ hk _ => Below.heap_setCell _ _ _ k hk⟩⟩
      have := heap_setCell_same w b 0 #[.pointer none, v] 116 (.pointer (some ⟨b, 0, none⟩)) hh
      simpa using this
    · exfalso
      have := hb.cell0
      rw [Lib.cell_of_heap hh] at this
      cases this
  · refine (bcheck_used6 b w (by rw [Lib.cell_of_heap hh]; rfl)).mono ?_
    rintro e w' ⟨rfl, rfl⟩
    exact ⟨rfl, hh, h.own, rfl, ⟨rfl, rfl, rfl, Nat.le_refl _, fun _ _ _ _ => rfl⟩⟩

set_option maxHeartbeats 2000000 in
set_option maxRecDepth 100000 in
theorem bstring_g (base b : Nat) (acc : List UInt8) (s : ByteArray) (v : Value) (w : World) (h : BRow w base b acc v) (hlen : acc.length + s.size ≤ 140737488355328) (hbw : base ≤ w.heap.size) (hbb : b < base) :
    Calls Tryd.prog 80 #[.pointer (some ⟨b, 0, none⟩), .string s] w fun e w' => (∃ x, e = .returned x) ∧ ∃ v', BRow w' base b (acc ++ s.data.toList) v' ∧ (v'.ownBlock = v.ownBlock ∨ v'.ownBlock = some w.heap.size) ∧ Only6 b v.ownBlock w w' := by
  obtain ⟨i0, hi, hz0, hz1, hz2⟩ := info_parts bcell_info6
  have HC := Lib.hid (bcheck_g base b acc v w h)
  have hvs := own_shape h.own
  have hlt := h.lt
  have hne := h.ne
  have Hlt := Lib.hid h.own.lt
  clear h
  obtain ⟨A, c, hv, _, _⟩ := hvs
  subst hv
  go_enter Tryd.func80, Tryd.ntmps80
  go_wp2_with fail
  refine HC.out.mono ?_
  rintro _ w1 ⟨rfl, hbk, hown, hs1, h1⟩
  have c0 : w1.cell? ⟨b, 0, none⟩ = some (.pointer (some ⟨b, 0, none⟩)) := by rw [Lib.cell_of_heap hbk]; rfl
  have c1 : w1.cell? ⟨b, 1, none⟩ = some (.slice A acc.length c) := by rw [Lib.cell_of_heap hbk]; rfl
  have Hown := Lib.hid hown
  have H1 := Lib.hid h1
  have c3 : acc.length + s.size ≤ maxLen := by unfold maxLen; omega
  have c4 : acc.length + s.size ≤ 140737488355328 := by omega
  have c5 : base ≤ w1.heap.size := by omega
  clear hown h1
  go_wp2_with (at_builtin; refine Hid.out ?_)
  refine Lib.hid ?_
  refine wpList_append_str6 rfl _ _ 30 9 rfl base 5 i0 Tryd.underlying30 Tryd.underlying9 hi hz0 hz1 hz2 _ _ _ rfl Hown.out s rfl c3 c4 c5 ?_
  intro v' w2 hown' hgrow hblk
  have hlt1 : b < w1.heap.size := (Array.getElem?_eq_some_iff.1 hbk).1
  have hb2 : w2.heap[b]? = some (.cells #[.pointer (some ⟨b, 0, none⟩), .slice A acc.length c] 116 (0, 0)) := by
    rw [hgrow.block b hlt1 (fun e => hne e.symm)]
    exact hbk
  have d0 : w2.cell? ⟨b, 0, none⟩ = some (.pointer (some ⟨b, 0, none⟩)) := by rw [Lib.cell_of_heap hb2]; rfl
  have d1 : w2.cell? ⟨b, 1, none⟩ = some (.slice A acc.length c) := by rw [Lib.cell_of_heap hb2]; rfl
  have f1 : w2.frozen? ⟨b, 1, none⟩ = false := Lib.frozen_of_heap hb2 1
  have hne' : v'.ownBlock ≠ some b := by
    rcases hblk with h | h
    · rw [h]; exact hne
    · rw [h, hs1]; intro e; injection e with e; omega
  have hblk' : v'.ownBlock = (Value.slice A acc.length c).ownBlock ∨ v'.ownBlock = some w.heap.size := by rw [← hs1]; exact hblk
  obtain ⟨A', c', hv', _, _⟩ := own_shape hown'
  subst hv'
  have hown3 := hown'.kept (w' := w2.setCell ⟨b, 1, none⟩ (.slice A' (acc.length + s.size) c')) (row := some b) ⟨rfl, rfl, rfl, by simp, fun k _ hk => Below.heap_setCell _ _ _ k (fun e => hk (by rw [e]))⟩ (.inr hne')
  have hb3 := heap_setCell_same w2 b 1 #[.pointer (some ⟨b, 0, none⟩), .slice A acc.length c] 116 (.slice A' (acc.length + s.size) c') hb2
  have hcells : Lib.byteCells acc ++ Lib.strCells s = Lib.byteCells (acc ++ s.data.toList) := by unfold Lib.byteCells Lib.strCells; rw [List.map_append]
  rw [hcells] at hown3
  have hln : acc.length + s.size = (acc ++ s.data.toList).length := by rw [List.length_append]; rfl
  have Hfin := Lib.hid (show BRow (w2.setCell ⟨b, 1, none⟩ (.slice A' (acc.length + s.size) c')) base b (acc ++ s.data.toList) (.slice A' (acc.length + s.size) c') from
    ⟨⟨_, .inr rfl, by simpa using hb3⟩, by rw [hln] at hown3 ⊢; exact hown3, hne'⟩)
  have Honly := Lib.hid (show Only6 b (Value.slice A acc.length c).ownBlock w (w2.setCell ⟨b, 1, none⟩ (.slice A' (acc.length + s.size) c')) from
    ⟨hgrow.os.trans H1.out.os, hgrow.tape.trans H1.out.tape, hgrow.output.trans H1.out.output, by have := hgrow.size; simp; omega, fun k hk hkb hkr => (Below.heap_setCell _ _ _ k hkb).trans ((hgrow.block k (by omega) (fun e => hkr e.symm)).trans (H1.out.block k hk hkb (by simp)))⟩)
  have Hblk := Lib.hid hblk'
  clear hown' hgrow hblk hblk' hown3 hb3 hcells hln hne'
  go_wp2
  go_ret2
  exact ⟨⟨_, rfl⟩, _, Hfin.out, Hblk.out, Honly.out⟩
end Go.Proofs.YtfegbfhkmdmheaaDoor

/- What a message shows of a text: show.Plain, walked. -/
namespace Go.Proofs.YtfegbfhkmdmheaaDoor
open Go.RowKit Go.Shelf Go.Lib
attribute [local go_sem] Oper.semAt_some

/-- between the rounds: what is written lies in a row that is nobody else's -/
def Plain6 (B : Nat) (Wa : World) (T : Bl) (W : World) (acc : List UInt8) : Prop := ∃ v, BRow W (B + 2) B acc v ∧ (∀ k, T k → v.ownBlock ≠ some k) ∧ Below B Wa W
theorem Plain6.later {B : Nat} {Wa : World} {T : Bl} {W W' : World} {acc : List UInt8} (h : Plain6 B Wa T W acc) (hb : Below W.heap.size W W') (hB : B ≤ W.heap.size) : Plain6 B Wa T W' acc := by
  obtain ⟨v, h1, h2, h3⟩ := h
  exact ⟨v, h1.below hb, h2, h3.trans (hb.mono hB)⟩
theorem plain_write6 (B : Nat) (Wa : World) (T : Bl) (W : World) (acc : List UInt8) (s : ByteArray) (h : Plain6 B Wa T W acc) (hT : InT (B + 2) T W) (hB : B + 2 ≤ W.heap.size) (hlen : acc.length + s.size ≤ 140737488355328) :
    Calls Tryd.prog 80 #[.pointer (some ⟨B, 0, none⟩), .string s] W fun e W' => (∃ x, e = .returned x) ∧ Plain6 B Wa T W' (acc ++ s.data.toList) ∧ KeepN (fun k => k < B + 2 ∧ k ≠ B) T W W' ∧ W.heap.size ≤ W'.heap.size := by
  obtain ⟨v, h1, h2, h3⟩ := h
  have hlt := h1.own.lt
  refine (bstring_g (B + 2) B acc s v W h1 hlen hB (by omega)).mono ?_
  rintro e W' ⟨hx, v', hr, hblk, ho⟩
  have hkeep : ∀ k, k < W.heap.size → (k < B + 2 ∧ k ≠ B) ∨ T k → W'.heap[k]? = W.heap[k]? := by
    intro k hk hor
    refine ho.block k hk ?_ ?_
    · rcases hor with h | h
      · exact h.2
      · have := (hT k h).1; omega
    · rcases hor with h | h
      · intro e; have := (hlt k e).1; omega
      · exact h2 k h
  refine ⟨hx, ⟨v', hr, ?_, ?_⟩, ⟨ho.size, hkeep⟩, ho.size⟩
  · intro k hk
    rcases hblk with e | e
    · rw [e]; exact h2 k hk
    · rw [e]; intro e2; injection e2 with e2; have := (hT k hk).2; omega
  · exact h3.trans ⟨ho.os, ho.tape, ho.output, ho.size, fun k hk => hkeep k (by omega) (.inl ⟨by omega, by omega⟩)⟩
/-- what is written of clusters -/
theorem plain_snoc (L : List (Nat × ByteArray)) (x : Nat × ByteArray) : (kB (L ++ [x])).flatMap plain1 = (kB L).flatMap plain1 ++ plain1 x.2.data.toList := by rw [kB_snoc, List.flatMap_append]; simp
theorem flat_le : ∀ (L : List (Nat × ByteArray)) (m : Nat), (∀ x ∈ L, x.2.size ≤ m) → ((kB L).flatMap plain1).length ≤ L.length * (m + 128)
  | [], _, _ => by simp
  | x :: L, m, h => by
    have ih := flat_le L m (fun y hy => h y (List.mem_cons_of_mem _ hy))
    have h1 := plain1_len x.2.data.toList
    have h2 := h x List.mem_cons_self
    have e : (kB (x :: L)).flatMap plain1 = plain1 x.2.data.toList ++ (kB L).flatMap plain1 := rfl
    rw [size_list] at h1
    rw [e, List.length_append, List.length_cons, Nat.succ_mul]
    omega
theorem segs_four6 : ∀ l : List UInt8, ∀ d ∈ segs l, d.2 ≤ 4 := walk_ind (p := fun l => ∀ d ∈ segs l, d.2 ≤ 4) (fun d hd => by rw [segs_nil] at hd; simp at hd) fun l hl ih d hd => by
  rw [segs_cons l hl] at hd
  rcases List.mem_cons.1 hd with rfl | hd
  · exact (dec_facts l hl).2.1
  · exact ih d hd
theorem total_four6 : ∀ L : List (Nat × Nat), (∀ d ∈ L, d.2 ≤ 4) → total L ≤ 4 * L.length
  | [], _ => by simp [total]
  | d :: L, h => by
    have ih := total_four6 L (fun e he => h e (List.mem_cons_of_mem _ he))
    have h1 := h d List.mem_cons_self
    have e : total (d :: L) = d.2 + total L := by simp [total]
    rw [e, List.length_cons]
    omega
theorem clu_size6 {k : List UInt8} (h : Clu k) : k.length ≤ 128 := by
  have h1 := total_four6 (segs k) (segs_four6 k)
  rw [total_segs] at h1
  have := h.2.2
  omega
theorem caret9 (W : World) : Calls Tryd.prog 81 #[.int .i32 9] W fun e w' => e = .returned (.string ⟨#[94, 73]⟩) ∧ Below W.heap.size W w' := caret_any 9 (by decide) W
theorem caret10 (W : World) : Calls Tryd.prog 81 #[.int .i32 10] W fun e w' => e = .returned (.string ⟨#[94, 74]⟩) ∧ Below W.heap.size W w' := caret_any 10 (by decide) W
theorem caret13 (W : World) : Calls Tryd.prog 81 #[.int .i32 13] W fun e w' => e = .returned (.string ⟨#[94, 77]⟩) ∧ Below W.heap.size W w' := caret_any 13 (by decide) W
theorem plain_cl (c : ByteArray) (W : World) (hs : c.size ≤ 1073741824) (hT : Utf8Tabs 0 1 W) (h9 : c.data.toList ≠ [9]) (h10 : c.data.toList ≠ [10]) (h13 : c.data.toList ≠ [13, 10]) :
    ∃ n : Nat, Calls Tryd.prog 45 #[.string c, .int .i64 0, .agg #[.int .i64 0, .bool false, .int .i8 0, .bool false, .bool true]] W fun e w' => e = .returned (.tuple #[.string ⟨(plain1 c.data.toList).toArray⟩, .int .i64 (n : Int)]) ∧ Below W.heap.size W w' := by
  refine ⟨(oneZ (circP c.data.toList) true false (stopZ (tabN 0) (0 : Int).toNat) c.data.toList).2, ?_⟩
  have h := ofCl_any c 0 0 false 0 false true W hs (by omega) (by omega) hT
  unfold plain1
  rw [if_neg h9, if_neg h13, if_neg h10]
  exact h
set_option maxRecDepth 100000 in
set_option maxHeartbeats 4000000 in
theorem pplain_any (s : ByteArray) (w : World) (hs : s.size ≤ 1073741824) (hT : Utf8Tabs 0 1 w) :
    Calls Tryd.prog 50 #[.string s] w fun e w' => e = .returned (.string ⟨(plainZ s).toArray⟩) ∧ Below w.heap.size w w' := by
  obtain ⟨B, hB⟩ : ∃ B, w.heap.size = B := ⟨_, rfl⟩
  have h2 : 2 ≤ w.heap.size := tabs_size hT
  have hpl := pcs_len s
  have Hst := Lib.hid (fun B b l w h1 h2 => Tryd.Builder_String_any_k B b l w h1 h2)
  have hP : plainZ s = (kB (pcs s)).flatMap plain1 := rfl
  obtain ⟨R, hR⟩ : ∃ R, plainZ s = R := ⟨_, rfl⟩
  rw [hR] at hP ⊢
  have HP := Lib.hid hP
  have Hmk := Lib.hid (fun W => cl_mk s W)
  have HT := Lib.hid hT
  have H9 := Lib.hid caret9
  have H10 := Lib.hid caret10
  have H13 := Lib.hid caret13
  rw [hB] at h2 ⊢
  clear hT hP hR
  refine (callsIn_wide (n := 9)).1 ?_
  refine callsIn_of_wp_marks Tryd.func50 rfl trivial ?_ rfl
  refine wpIn_wide.2 ?_
  simp only [Tryd.ntmps50, List.size_toArray, List.length_cons, List.length_nil, Nat.reduceAdd, Nat.reduceSub, Array.replicate_succ, Array.replicate_zero, List.push_toArray, List.append_toArray, List.nil_append, List.cons_append]
  go_wp2_with fail
  refine (Hmk.out _).mono ?_
  rintro _ w2 ⟨rfl, rfl⟩
  obtain ⟨Wa, hWa⟩ : ∃ Wa, (w.alloc (.cells #[.pointer none, .slice none 0 0] 116)).alloc (.cells #[.string s] 9) = Wa := ⟨_, rfl⟩
  have hsz : Wa.heap.size = B + 2 := by rw [← hWa]; simp [hB]
  have x0 : Wa.heap[B]? = some (.cells #[.pointer none, .slice none 0 0] 116 (0, 0)) := by rw [← hWa]; simp only [alloc_get, World.size_alloc, hB]; rw [if_neg (by omega)]; simp
  have x1 : Boxed Wa (B + 1) 9 (.string s) := by rw [← hWa]; simp only [Boxed, alloc_get, World.size_alloc, hB]; simp
  have hBa : Below B w Wa := by rw [← hWa]; exact ((Below.refl B w).alloc (by omega) _).alloc (by simp; omega) _
  have hTa : Utf8Tabs 0 1 Wa := Utf8Tabs_below HT.out (by rw [hB]; exact hBa)
  have HTa := Lib.hid hTa
  have hstart : Plain6 B Wa (fun _ => False) Wa [] := ⟨.slice none 0 0, ⟨⟨_, .inl rfl, x0⟩, World.ownsRow_nil _ _ _ _, by simp [Value.ownBlock]⟩, fun k hk => hk.elim, Below.refl _ _⟩
  go_wp2_with fail
  clear hWa
  refine (wpIn_wide (n := 9)).1 ?_
  refine range_N1 rfl (by omega) (gf := 46) (lb := #[.pointer (some ⟨B + 1, 0, none⟩)]) rfl trivial (enters_of Tryd.func46 (by kernel_rfl) rfl)
    (seqCl 8 (by omega) (B + 1) (fun k => k < B + 2 ∧ k ≠ B) s Wa (by omega) (by omega) (by omega) x1.cell (by omega) hTa) (fun k hk => by omega) (fun _ => rfl)
    (fun pre T W => Plain6 B Wa T W ((kB pre).flatMap plain1))
    (fun _ _ _ _ => False)
    ?hI (fun _ _ _ _ _ _ h _ _ _ => h)
    hstart
    ?a1 ?assign ?body ?done ?stop
  case assign =>
    intro l x W K hK
    gi_wp2
    exact hK
  case stop =>
    rintro D c pre T W _ _ _ h _
    exact h.elim
  case hI =>
    rintro pre T T' W1 W2 ⟨v, h1, h2, hb⟩ hT hm hg
    rw [hsz] at hT
    have hnB : ¬ T B := fun e => by have := (hT _ e).1; omega
    obtain ⟨p, hp, hh⟩ := h1.box
    refine ⟨v, ⟨⟨p, hp, (hm.block B (Array.getElem?_eq_some_iff.1 hh).1 hnB).trans hh⟩, ?_, h1.ne⟩, ?_, hb.trans ⟨hm.os, hm.tape, hm.output, hm.size, fun k hk => hm.block k (by have := hb.size; omega) (fun e => by have := (hT _ e).1; omega)⟩⟩
    · exact row_same h1.own (fun k hk => hm.block k (h1.own.lt k hk).2 (fun e => h2 k e hk))
    · intro k hk e
      rcases hg.2 k hk with h | h
      · exact h2 k h e
      · have := (h1.own.lt k e).2; omega
  case body =>
    rintro l pre x T W hl hT hr0 h1 hlen hsp
    rw [hsz] at hT
    have hget := prefix_get hsp
    have hmem := List.mem_of_getElem? hget
    have hxs := pcsF_size s _ _ x hmem
    have hfl := flat_le pre 128 (fun y hy => by
      have hy2 : y ∈ pcs s := hsp.subset (List.mem_append_left _ hy)
      have := clu_size6 (pcs_clu s hy2)
      rwa [size_list] at this)
    have hx128 := clu_size6 (pcs_clu s hmem)
    rw [size_list] at hx128
    have hsn := plain_snoc pre x
    have hp1 := plain1_len x.2.data.toList
    rw [size_list] at hp1
    obtain ⟨acc, hacc⟩ : ∃ acc, (kB pre).flatMap plain1 = acc := ⟨_, rfl⟩
    rw [hacc] at h1 hfl hsn
    have hBW : B + 2 ≤ W.heap.size := by obtain ⟨_, _, _, hb⟩ := h1; have := hb.size; omega
    have hTW : Utf8Tabs 0 1 W := by obtain ⟨_, _, _, hb⟩ := h1; exact tabs_low6 HTa.out hb (by omega) (by omega)
    have H1 := Lib.hid h1
    have Hsn := Lib.hid hsn
    have Hw := Lib.hid (fun W2 acc2 t h hT h2 h3 => plain_write6 B Wa T W2 acc2 t h hT h2 h3)
    have hcl := fun h9 h10 h13 => plain_cl x.2 W (by omega) hTW h9 h10 h13
    have Hcl := Lib.hid hcl
    obtain ⟨xa, c⟩ := x
    simp only at hxs hx128 hp1
    have hal : acc.length ≤ 274877906944 := by omega
    clear h1 hsn hcl hTW hget hmem hsp hacc
    by_cases h9 : c.data.toList = [9]
    · have hc := ba_list6 c _ h9
      subst hc
      gi_wp2_with fail
      refine ⟨trivial, (CallsIn.inRound l (callsIn_wide.2 (H9.out W))).mono ?_⟩
      rintro _ w3 ⟨rfl, b3⟩
      have hs3 := b3.size
      have h3 := H1.out.later b3 (by omega)
      have hw := Lib.hid (Hw.out w3 acc ⟨#[94, 73]⟩ h3 (hT.more hs3) (by omega) (by show acc.length + 2 ≤ _; omega))
      have Hk3 := Lib.hid (KeepN.of_below (fun k => k < B + 2 ∧ k ≠ B) T b3)
      clear b3 h3
      gi_wp2_with fail
      refine ⟨trivial, (CallsIn.inRound l (callsIn_wide.2 hw.out)).mono ?_⟩
      rintro _ w4 ⟨⟨v4, rfl⟩, h4, hk4, hs4⟩
      have Hf := Lib.hid (show _ ∧ _ from ⟨Hk3.out.trans hk4, h4⟩)
      clear h4 hk4
      gi_wp2_with fail
      refine ⟨Hf.out.1, ?_⟩
      dsimp only
      rw [Hsn.out]
      exact Hf.out.2
    · by_cases h13 : c.data.toList = [13, 10]
      · have hc := ba_list6 c _ h13
        subst hc
        gi_wp2_with fail
        refine ⟨trivial, (CallsIn.inRound l (callsIn_wide.2 (H13.out W))).mono ?_⟩
        rintro _ w3 ⟨rfl, b3⟩
        have hs3 := b3.size
        have h3 := H1.out.later b3 (by omega)
        have hw := Lib.hid (Hw.out w3 acc ⟨#[94, 77]⟩ h3 (hT.more hs3) (by omega) (by show acc.length + 2 ≤ _; omega))
        have Hk3 := Lib.hid (KeepN.of_below (fun k => k < B + 2 ∧ k ≠ B) T b3)
        clear b3 h3
        gi_wp2_with fail
        refine ⟨trivial, (CallsIn.inRound l (callsIn_wide.2 hw.out)).mono ?_⟩
        rintro _ w4 ⟨⟨v4, rfl⟩, h4, hk4, hs4⟩
        have Hk4 := Lib.hid (Hk3.out.trans hk4)
        have H4 := Lib.hid h4
        clear h4 hk4
        gi_wp2_with fail
        refine ⟨trivial, (CallsIn.inRound l (callsIn_wide.2 (H10.out w4))).mono ?_⟩
        rintro _ w5 ⟨rfl, b5⟩
        have hs5 := b5.size
        have h5 := H4.out.later b5 (by omega)
        have hw2 := Lib.hid (Hw.out w5 _ ⟨#[94, 74]⟩ h5 ((hT.more hs3).more (by omega)) (by omega) (by rw [List.length_append]; show acc.length + 2 + 2 ≤ _; omega))
        have Hk5 := Lib.hid (Hk4.out.trans (KeepN.of_below (fun k => k < B + 2 ∧ k ≠ B) T b5))
        clear b5 h5
        gi_wp2_with fail
        refine ⟨trivial, (CallsIn.inRound l (callsIn_wide.2 hw2.out)).mono ?_⟩
        rintro _ w6 ⟨⟨v6, rfl⟩, h6, hk6, hs6⟩
        have Hf := Lib.hid (show _ ∧ _ from ⟨Hk5.out.trans hk6, h6⟩)
        clear h6 hk6
        gi_wp2_with fail
        refine ⟨Hf.out.1, ?_⟩
        dsimp only
        rw [Hsn.out]
        have := Hf.out.2
        rw [List.append_assoc] at this
        exact this
      · by_cases h10 : c.data.toList = [10]
        · have hc := ba_list6 c _ h10
          subst hc
          gi_wp2_with fail
          refine ⟨trivial, (CallsIn.inRound l (callsIn_wide.2 (H10.out W))).mono ?_⟩
          rintro _ w3 ⟨rfl, b3⟩
          have hs3 := b3.size
          have h3 := H1.out.later b3 (by omega)
          have hw := Lib.hid (Hw.out w3 acc ⟨#[94, 74]⟩ h3 (hT.more hs3) (by omega) (by show acc.length + 2 ≤ _; omega))
          have Hk3 := Lib.hid (KeepN.of_below (fun k => k < B + 2 ∧ k ≠ B) T b3)
          clear b3 h3
          gi_wp2_with fail
          refine ⟨trivial, (CallsIn.inRound l (callsIn_wide.2 hw.out)).mono ?_⟩
          rintro _ w4 ⟨⟨v4, rfl⟩, h4, hk4, hs4⟩
          have Hf := Lib.hid (show _ ∧ _ from ⟨Hk3.out.trans hk4, h4⟩)
          clear h4 hk4
          gi_wp2_with fail
          refine ⟨Hf.out.1, ?_⟩
          dsimp only
          rw [Hsn.out]
          exact Hf.out.2
        · have k9 : (c.toList == [9]) = false := by rw [toList_data, beq_eq_false_iff_ne]; exact h9
          have k10 : (c.toList == [10]) = false := by rw [toList_data, beq_eq_false_iff_ne]; exact h10
          have k13 : (c.toList == [13, 10]) = false := by rw [toList_data, beq_eq_false_iff_ne]; exact h13
          obtain ⟨n, hn⟩ := Hcl.out h9 h10 h13
          simp only at hn
          obtain ⟨P1, hP1⟩ : ∃ P1, plain1 c.data.toList = P1 := ⟨_, rfl⟩
          have hsn2 := Hsn.out
          simp only at hsn2
          rw [hP1] at hn hp1 hsn2
          have Hn := Lib.hid hn
          have Hsn2 := Lib.hid hsn2
          clear hn hsn2 h9 h10 h13 hP1 Hsn Hcl
          gi_wp2_with fail
          refine ⟨trivial, (CallsIn.inRound l (callsIn_wide.2 Hn.out)).mono ?_⟩
          rintro _ w3 ⟨rfl, b3⟩
          have hs3 := b3.size
          have h3 := H1.out.later b3 (by omega)
          have hw := Lib.hid (Hw.out w3 acc ⟨P1.toArray⟩ h3 (hT.more hs3) (by omega) (by show acc.length + P1.length ≤ _; omega))
          have Hk3 := Lib.hid (KeepN.of_below (fun k => k < B + 2 ∧ k ≠ B) T b3)
          clear b3 h3
          gi_wp2_with fail
          refine ⟨trivial, (CallsIn.inRound l (callsIn_wide.2 hw.out)).mono ?_⟩
          rintro _ w4 ⟨⟨v4, rfl⟩, h4, hk4, hs4⟩
          have Hf := Lib.hid (show _ ∧ _ from ⟨Hk3.out.trans hk4, h4⟩)
          clear h4 hk4
          gi_wp2_with fail
          refine ⟨Hf.out.1, ?_⟩
          dsimp only
          rw [Hsn2.out]
          exact Hf.out.2
  case done =>
    rintro D ys T W hD hT rfl h1 hK
    have hBW : B + 2 ≤ W.heap.size := by obtain ⟨_, _, _, hb⟩ := h1; have := hb.size; omega
    obtain ⟨v, hr, hv, hb⟩ := h1
    rw [← HP.out] at hr
    have HS := Lib.hid (Hst.out B B R W (Lib.IsBuilderF.of (hr.is B (by omega) (Nat.le_refl _))) (by omega))
    have HK := Lib.hid hK
    have Hb := Lib.hid hb
    clear hr hv hK hb
    go_wp2_with fail
    refine HS.out.mono ?_
    rintro _ w5 ⟨rfl, _, b5, k5⟩
    have hne : D ≠ B := fun e => by have := (hT D hD).1; omega
    have HK5 := Lib.hid (k5 D _ HK.out (fun e => hne (by injection e)) (fun c fz e => by cases e))
    have Hb5 := Lib.hid (Hb.out.trans b5)
    clear b5 k5
    go_wp2
    have hD1 := hT D hD
    refine ⟨by simp, .inl ⟨_, _, rfl, run_takeDeferred HK5.out, ?_⟩⟩
    exact ⟨_, results_tmp rfl _ _ _, rfl, (hBa.trans Hb5.out).trans (belowK_b (w := w) (by omega) _ D _ (.deferred none) (by omega) HK5.out rfl rfl)⟩
end Go.Proofs.YtfegbfhkmdmheaaDoor
