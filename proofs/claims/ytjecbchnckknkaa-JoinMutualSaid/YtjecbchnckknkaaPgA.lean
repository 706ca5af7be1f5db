/- Layer 11, the program: isLetter, reachesBehind, reachesAhead, joinedBehind, firstShapes, offset, Shape. -/
import Derived.Test.YtjecbchnckknkaaPgP
import Derived.Test.YtjecbchnckknkaaRdJ
import Derived.Test.YtjecbchnckknkaaLit
import Derived.Laws.EntriesVeiled
import Derived.Deep.WholeRow
set_option linter.unusedSimpArgs false
set_option linter.unusedVariables false
namespace Go.Proofs.Ytjecbchnckknkaa
open Go.RowKit Go.Lib Go.Great

set_option maxRecDepth 100000 in
theorem isLetter_anyJ (k : Int) (w : World) : Calls Try.prog 30 #[.int .i8 k] w fun e w' => e = .returned (.bool ((k == 1) || (k == 2))) ∧ w' = w := by
  by_cases h1 : k = 1
  · subst h1
    go_enter Try.func30, Try.ntmps30
    go_wp2_with fail
    go_ret
    exact ⟨rfl, rfl⟩
  · have b1 : (k == 1) = false := by simpa using h1
    rw [b1]
    obtain ⟨b, hb⟩ : ∃ b, (k == 2) = b := ⟨_, rfl⟩
    rw [hb]
    go_enter Try.func30, Try.ntmps30
    go_wp2_with fail
    go_ret
    exact ⟨by simp, rfl⟩
set_option maxRecDepth 100000 in
theorem reachesBehind_anyJ (k : Int) (w : World) : Calls Try.prog 31 #[.int .i8 k] w fun e w' => e = .returned (.bool ((k == 2) || (k == 3))) ∧ w' = w := by
  by_cases h1 : k = 2
  · subst h1
    go_enter Try.func31, Try.ntmps31
    go_wp2_with fail
    go_ret
    exact ⟨rfl, rfl⟩
  · have b1 : (k == 2) = false := by simpa using h1
    rw [b1]
    obtain ⟨b, hb⟩ : ∃ b, (k == 3) = b := ⟨_, rfl⟩
    rw [hb]
    go_enter Try.func31, Try.ntmps31
    go_wp2_with fail
    go_ret
    exact ⟨by simp, rfl⟩
set_option maxRecDepth 100000 in
theorem reachesAhead_anyJ (k : Int) (w : World) : Calls Try.prog 32 #[.int .i8 k] w fun e w' => e = .returned (.bool (((k == 1) || (k == 2)) || (k == 3))) ∧ w' = w := by
  have HL := Lib.hid (isLetter_anyJ k w)
  obtain ⟨b, hb⟩ : ∃ b, ((k == 1) || (k == 2)) = b := ⟨_, rfl⟩
  rw [hb] at HL ⊢
  clear hb
  obtain ⟨d, hd⟩ : ∃ d, (k == 3) = d := ⟨_, rfl⟩
  rw [hd]
  rcases b with _ | _
  · go_enter Try.func32, Try.ntmps32
    go_wp2_with fail
    refine HL.out.mono ?_
    rintro _ w9 ⟨rfl, h9⟩
    obtain rfl := h9.symm
    go_wp2_with fail
    go_ret
    exact ⟨by simp, rfl⟩
  · clear hd
    go_enter Try.func32, Try.ntmps32
    go_wp2_with fail
    refine HL.out.mono ?_
    rintro _ w9 ⟨rfl, h9⟩
    obtain rfl := h9.symm
    go_wp2_with fail
    go_ret
    exact ⟨by simp, rfl⟩
set_option maxRecDepth 100000 in
theorem joinedBehind_anyJ (x : Int) (w : World) : Calls Try.prog 33 #[.int .i8 x] w fun e w' => e = .returned (.int .i8 (if x = 3 then 2 else 1)) ∧ w' = w := by
  by_cases h1 : x = 3
  · subst h1
    go_enter Try.func33, Try.ntmps33
    go_wp2_with fail
    go_ret
    exact ⟨rfl, rfl⟩
  · have b1 : (x == 3) = false := by simpa using h1
    rw [if_neg h1]
    go_enter Try.func33, Try.ntmps33
    go_wp2_with fail
    go_ret
    exact ⟨rfl, rfl⟩
/-- the array of the first shapes -/
def firstV : Value := .agg (firstL.map (Value.int .i32)).toArray
theorem idx_firstJ (kd : IntKind) (i : Nat) (hi : i < 42) (W : World) : (Instr.index 48 firstV (.int kd (i : Int))).run Try.prog W = .ok (.int .i32 (firstL.getD i 0)) W := by
  have hn : 0 ≤ (i : Int) ∧ (i : Int) < ((42 : Nat) : Int) := by omega
  have hl : i < firstL.length := hi
  have hx : (firstL.map (Value.int .i32)).toArray[i * 1]? = some (.int .i32 (firstL.getD i 0)) := by
    rw [Nat.mul_one, List.getElem?_toArray, List.getElem?_map, List.getElem?_eq_getElem hl]
    simp [List.getD, hl]
  have hs : (sizeOf 21).run Try.prog W = .ok 1 W := by rfl
  have hp := run_part_plain (P := Try.prog) (e := 21) W (by kernel_rfl) hx
  have hu : Try.prog.underlying 48 = some (.array 42 21) := Try.underlying48
  unfold firstV
  rw [Nat.mul_one] at hx
  obtain ⟨cs, hcs⟩ : ∃ cs, (firstL.map (Value.int .i32)).toArray = cs := ⟨_, rfl⟩
  obtain ⟨v, hv⟩ : ∃ v, Value.int .i32 (firstL.getD i 0) = v := ⟨_, rfl⟩
  rw [hcs, hv] at hx
  rw [hcs, hv]
  clear hcs hv hl hp
  simp [Instr.index, run_underlying hu, asIntOf, hi, go_sem, hs, part, hx]
theorem first_info : ((Try.prog.info? 48).bind (·.zero)).map (·.cells.size) = some 42 ∧ (Try.prog.info? 48).map (·.size) = some 42 := ⟨by kernel_rfl, by kernel_rfl⟩
set_option maxRecDepth 100000 in
set_option maxHeartbeats 4000000 in
theorem firstShapes_anyJ (w : World) : Calls Try.prog 36 #[] w fun e w' => e = .returned firstV ∧ Below w.heap.size w w' := by
  obtain ⟨hz1, hz2⟩ := first_info
  obtain ⟨it, hit⟩ : ∃ it, Try.prog.info? 48 = some it := by
    cases hi : Try.prog.info? 48 with
    | none => simp [hi] at hz2
    | some it => exact ⟨it, rfl⟩
  obtain ⟨z, hz⟩ : ∃ z, it.zero = some z := by
    cases hi : it.zero with
    | none => simp [hit, hi] at hz1
    | some z => exact ⟨z, rfl⟩
  have hzs : z.cells.size = 42 := by simpa [hit, hz] using hz1
  have hits : it.size = 42 := by simpa [hit] using hz2
  clear hz1 hz2
  refine calls_of_wp Try.func36 rfl ?_
  obtain ⟨a, ha⟩ : ∃ a : Act, a = { tmps := #[] ++ Array.replicate (Try.f36.ntmps - (#[] : Array Value).size) undef, defers := [] } := ⟨_, rfl⟩
  have hsa : a.tmps.size = 2 := by rw [ha]; rfl
  have hda : a.defers = [] := by rw [ha]
  rw [← ha]
  clear ha
  have hg : (w.alloc (.cells z.cells 48)).heap[w.heap.size]? = some (.cells z.cells 48 (0, 0)) := (MapKept.heap_alloc w _).1
  have hcs : ((firstL.map (Value.int .i32)).toArray).size = 42 := rfl
  refine wp_seq (wp_region_list ?_)
  refine wpList_runTo rfl (some 0) rfl (.pointer (some ⟨w.heap.size, 0, none⟩)) (w.alloc (.cells z.cells 48)) (run_alloc rfl hit hz) ?_
  refine wp_seq (wp_region_list ?_)
  refine wpList_buildTo rfl 48 _ rfl (some 1) rfl (firstL.map (Value.int .i32)).toArray (by kernel_rfl) ?_
  refine wpList_store_rowTo rfl 48 _ _ rfl rfl w.heap.size (firstL.map (Value.int .i32)).toArray (by rw [Act.eval_put_ne _ _ _ _ (by omega)]; exact Act.eval_put_same _ _ _ (by omega)) (Act.eval_put_same _ _ _ (by simp only [Act.size_put, hsa]; omega))
    48 z.cells hg (by rw [hit, hcs]; simp [hits]) (by rw [hzs, hcs]) ?_ ?_
  · rw [Array.all_eq_true_iff_forall_mem]
    intro v hv
    simp only [List.mem_toArray, List.mem_map] at hv
    obtain ⟨e, _, rfl⟩ := hv
    rfl
  have hW1 : Below w.heap.size w ((w.alloc (.cells z.cells 48)).setRow w.heap.size (firstL.map (Value.int .i32)).toArray) :=
    ⟨rfl, rfl, rfl, by simp, fun k hk => (setRow_other _ _ _ _ (by omega)).trans (((Below.refl w.heap.size w).alloc (Nat.le_refl _) _).block k hk)⟩
  have hg1 : ((w.alloc (.cells z.cells 48)).setRow w.heap.size (firstL.map (Value.int .i32)).toArray).heap[w.heap.size]? = some (.cells (firstL.map (Value.int .i32)).toArray 48 (0, 0)) := setRow_heap _ _ _ _ _ _ hg
  refine wp_ret (bodyPost_ret (results_cell_row rfl _ _ _ _ _ _ _ ?hp hg1 Try.underlying48 rfl (by rw [hit, hcs]; simp [hits])) (by simp only [Act.defers_put', hda]) ⟨rfl, hW1⟩)
  refine Eq.trans (show _ = Act.eval ((a.put (some 0) (.pointer (some ⟨w.heap.size, 0, none⟩))).put (some 1) (.agg (firstL.map (Value.int .i32)).toArray)) (.tmp 0) from rfl) ?_
  rw [Act.eval_put_ne _ _ _ _ (by omega)]
  exact Act.eval_put_same _ _ _ (by omega)
set_option maxRecDepth 100000 in
set_option maxHeartbeats 4000000 in
theorem offset_anyJ (k form : Int) (w : World) : Calls Try.prog 37 #[.int .i8 k, .int .i8 form] w fun e w' => e = .returned (.int .i32 (offJ k form)) ∧ w' = w := by
  have HL := Lib.hid (isLetter_anyJ k w)
  obtain ⟨R, hR⟩ : ∃ R, offJ k form = R := ⟨_, rfl⟩
  rw [hR]
  by_cases k2 : k = 2
  · subst k2
    by_cases f2 : form = 2
    · subst f2
      obtain rfl : 3 = R := by rw [← hR]; rfl
      clear hR HL
      go_enter Try.func37, Try.ntmps37
      go_wp2_with fail
      go_ret
      exact ⟨rfl, rfl⟩
    · have b2 : (form == 2) = false := by simpa using f2
      by_cases f1 : form = 1
      · subst f1
        obtain rfl : 2 = R := by rw [← hR]; rfl
        clear hR HL
        go_enter Try.func37, Try.ntmps37
        go_wp2_with fail
        go_ret
        exact ⟨rfl, rfl⟩
      · have b1 : (form == 1) = false := by simpa using f1
        by_cases f3 : form = 3
        · subst f3
          obtain rfl : 1 = R := by rw [← hR]; rfl
          clear hR
          go_enter Try.func37, Try.ntmps37
          go_wp2_with fail
          refine HL.out.mono ?_
          rintro _ w9 ⟨rfl, h9⟩
          obtain rfl := h9.symm
          go_wp2_with fail
          go_ret
          exact ⟨rfl, rfl⟩
        · have b3 : (form == 3) = false := by simpa using f3
          obtain rfl : 0 = R := by rw [← hR]; simp [offJ, f1, f2, f3]
          clear hR
          go_enter Try.func37, Try.ntmps37
          go_wp2_with fail
          refine HL.out.mono ?_
          rintro _ w9 ⟨rfl, h9⟩
          obtain rfl := h9.symm
          go_wp2_with fail
          go_ret
          exact ⟨rfl, rfl⟩
  · have c2 : (k == 2) = false := by simpa using k2
    by_cases k1 : k = 1
    · subst k1
      by_cases f2 : form = 2
      · subst f2
        obtain rfl : 1 = R := by rw [← hR]; rfl
        clear hR
        go_enter Try.func37, Try.ntmps37
        go_wp2_with fail
        refine HL.out.mono ?_
        rintro _ w9 ⟨rfl, h9⟩
        obtain rfl := h9.symm
        go_wp2_with fail
        go_ret
        exact ⟨rfl, rfl⟩
      · have b2 : (form == 2) = false := by simpa using f2
        by_cases f3 : form = 3
        · subst f3
          obtain rfl : 1 = R := by rw [← hR]; rfl
          clear hR
          go_enter Try.func37, Try.ntmps37
          go_wp2_with fail
          refine HL.out.mono ?_
          rintro _ w9 ⟨rfl, h9⟩
          obtain rfl := h9.symm
          go_wp2_with fail
          go_ret
          exact ⟨rfl, rfl⟩
        · have b3 : (form == 3) = false := by simpa using f3
          obtain rfl : 0 = R := by rw [← hR]; simp [offJ, f2, f3]
          clear hR
          go_enter Try.func37, Try.ntmps37
          go_wp2_with fail
          refine HL.out.mono ?_
          rintro _ w9 ⟨rfl, h9⟩
          obtain rfl := h9.symm
          go_wp2_with fail
          go_ret
          exact ⟨rfl, rfl⟩
    · have c1 : (k == 1) = false := by simpa using k1
      obtain rfl : 0 = R := by rw [← hR]; simp [offJ, k1, k2]
      rw [c1, c2] at HL
      clear hR
      go_enter Try.func37, Try.ntmps37
      go_wp2_with fail
      refine HL.out.mono ?_
      rintro _ w9 ⟨rfl, h9⟩
      obtain rfl := h9.symm
      go_wp2_with fail
      go_ret
      exact ⟨rfl, rfl⟩
set_option maxRecDepth 100000 in
set_option maxHeartbeats 4000000 in
theorem shape_anyJ (r form : Int) (w : World) : Calls Try.prog 23 #[.int .i32 r, .int .i8 form] w fun e w' => e = .returned (.int .i32 (shapeJ r form)) ∧ Below w.heap.size w w' := by
  obtain ⟨R, hR⟩ : ∃ R, shapeJ r form = R := ⟨_, rfl⟩
  rw [hR]
  by_cases hlo : r < 1569
  · obtain rfl : r = R := by rw [← hR, shapeJ_out r form (.inl hlo)]
    clear hR
    go_enter Try.func23, Try.ntmps23
    go_wp2_with fail
    go_ret
    exact ⟨rfl, Below.refl _ _⟩
  by_cases hhi : 1610 < r
  · obtain rfl : r = R := by rw [← hR, shapeJ_out r form (.inr hhi)]
    clear hR
    go_enter Try.func23, Try.ntmps23
    go_wp2_with fail
    go_ret
    exact ⟨rfl, Below.refl _ _⟩
  obtain ⟨i, hi, rfl⟩ : ∃ i : Nat, i < 42 ∧ 0x621 + (i : Int) = r := ⟨(r - 0x621).toNat, by omega, by omega⟩
  have hs := shapeJ_in i form hi
  rw [hR] at hs
  have hf := firstL_at i hi
  have ho := offJ_small (kJ (0x621 + (i : Int))) form
  have HI := Lib.hid (fun W => idx_firstJ .i32 i hi W)
  have HF := Lib.hid (fun W => firstShapes_anyJ W)
  have HJ := Lib.hid (fun W => show Calls Try.prog 26 #[.int .i32 (0x621 + (i : Int))] W fun e w' => e = .returned (.int .i8 (kJ (0x621 + (i : Int)))) ∧ Below W.heap.size W w' from Join_any _ W)
  have HO := Lib.hid (fun W => offset_anyJ (kJ (0x621 + (i : Int))) form W)
  obtain ⟨f, hfd⟩ : ∃ f, firstL.getD i 0 = f := ⟨_, rfl⟩
  obtain ⟨k, hk⟩ : ∃ k, kJ (0x621 + (i : Int)) = k := ⟨_, rfl⟩
  obtain ⟨o, hod⟩ : ∃ o, offJ k form = o := ⟨_, rfl⟩
  rw [hfd] at hs hf HI
  rw [hk] at hs ho HJ HO
  rw [hod] at hs ho HO
  have hsub : IntKind.i32.wrap (0x621 + (i : Int) - 1569) = (i : Int) := by rw [IntWalk.i32_in _ (by omega)]; omega
  have hadd : IntKind.i32.wrap (f + o) = f + o := IntWalk.i32_in _ (by omega)
  have Hs := Lib.hid hs
  obtain ⟨r, hr⟩ : ∃ r, 0x621 + (i : Int) = r := ⟨_, rfl⟩
  rw [hr] at HJ hsub hlo hhi Hs ⊢
  obtain ⟨V, hV⟩ : ∃ V, firstV = V := ⟨_, rfl⟩
  rw [hV] at HI HF
  clear hR hfd hk hod hf ho hr hs hV
  go_enter Try.func23, Try.ntmps23
  go_wp2_with fail
  refine (HF.out _).mono ?_
  rintro _ w1 ⟨rfl, hb1⟩
  have Hb1 := Lib.hid hb1
  have hidx := HI.out w1
  clear hb1
  by_cases hz : f = 0
  · subst hz
    have he := Hs.out
    rw [if_pos rfl] at he
    subst he
    clear HI Hs
    go_wp2_with fail
    go_ret
    exact ⟨rfl, Hb1.out⟩
  · have bz : (f == 0) = false := by simpa using hz
    have he := Hs.out
    rw [if_neg hz] at he
    subst he
    clear HI Hs hz
    go_wp2_with fail
    refine (HJ.out _).mono ?_
    rintro _ w2 ⟨rfl, hb2⟩
    have Hb2 := Lib.hid (Hb1.out.trans (hb2.mono Hb1.out.size))
    clear hb2 Hb1
    go_wp2_with fail
    refine (HO.out _).mono ?_
    rintro _ w9 ⟨rfl, h9⟩
    obtain rfl := h9.symm
    go_wp2_with fail
    go_ret
    exact ⟨rfl, Hb2.out⟩
end Go.Proofs.Ytjecbchnckknkaa
