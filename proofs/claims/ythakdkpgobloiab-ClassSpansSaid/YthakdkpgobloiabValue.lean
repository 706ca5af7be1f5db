/- The document's Value and Borders, walked. -/
import Derived.Test.YthakdkpgobloiabTells
import Derived.Test.YthakdkpgobloiabRefSp
namespace Go.Proofs.Ythakdkpgobloiab
open Go.RowKit Go.Lib

def bordCode : Code :=
  (Code.region 0 #[{ dst := some 0, op := .assign (.const (.slice none 0 0)), type := 27, pos := "ref.go:326", after := #[], guard := none }] false).seq
    ((Code.region 1 #[{ dst := some 1, op := .buildSlice 27 458 (((bordL.map fun (n : Nat) => (n : Int)).zipIdx 0).map fun x => (x.2, Operand.const (Value.int .i32 x.1))).toArray, type := 27, pos := "ref.go:327", after := #[], guard := none },
        { dst := some 0, op := .assign (.tmp 1), type := 27, pos := "ref.go:327", after := #[⟨0, .data⟩, ⟨0, .phase⟩], guard := none }] false).seq .ret)
set_option maxRecDepth 100000 in
theorem bord_body : Try.f36.body = some bordCode := by kernel_rfl
set_option maxRecDepth 100000 in
theorem borders_any (w : World) : Calls Try.prog 36 #[] w fun e w' => e = .returned (.slice (some ⟨w.heap.size, 0, none⟩) 458 458) ∧ w' = w.alloc (.cells ((bordL.map fun (n : Nat) => (n : Int)).map (Value.int .i32)).toArray 21) := by
  refine calls_of_wp Try.func36 bord_body ?_
  rw [Try.ntmps36]
  unfold bordCode
  refine wp_seq (wp_region_list ?_)
  refine Great.wpList_readTo rfl (some 0) rfl _ (run_assign rfl rfl) ?_
  refine wp_seq (wp_region_list ?_)
  refine wpList_buildFlatAt rfl 27 21 458 _ rfl .i32 (bordL.map fun (n : Nat) => (n : Int)) w.heap.size rfl (some 1) rfl Try.underlying27 (by kernel_rfl) (by kernel_rfl) (by decide +kernel) (by decide) (by decide) (by simp) ?_
  refine Great.wpList_readTo rfl (some 0) rfl (.slice (some ⟨w.heap.size, 0, none⟩) 458 458) (run_assign rfl (Act.eval_put_same _ _ _ (by simp [Act.put]))) ?_
  refine wp_ret (bodyPost_ret (results_tmp rfl _ _ _) (by simp only [Act.defers_put']) ⟨?_, rfl⟩)
  rfl
theorem value_0 (x : Int) (w : World) : Calls Try.prog 37 #[.int .i8 0, .int .i32 x] w fun e w' => e = .returned (.tuple #[.int .i64 (cls kindsL (char x) : Nat), .bool true]) ∧ w' = w := by
  have hk := refKind_is x w
  have hl := cls_lt (m := 256) kindsL (char x) (by decide) (by decide +kernel)
  revert hk hl
  generalize cls kindsL (char x) = c
  intro hk hl
  have hw : IntKind.i64.wrap (c : Int) = (c : Int) := IntWalk.i64_in _ (by omega)
  have HK := Lib.hid hk
  clear hk
  go_enter Try.func37, Try.ntmps37
  go_wp2_with fail
  refine HK.out.mono ?_
  rintro _ w' ⟨rfl, rfl⟩
  go_wp2_with fail
  go_ret2
  exact ⟨rfl, rfl⟩
theorem value_1 (x : Int) (w : World) : Calls Try.prog 37 #[.int .i8 1, .int .i32 x] w fun e w' => e = .returned (.tuple #[.int .i64 (cls dirsL (char x) : Nat), .bool true]) ∧ w' = w := by
  have hk := refDir_is x w
  have hl := cls_lt (m := 256) dirsL (char x) (by decide) (by decide +kernel)
  revert hk hl
  generalize cls dirsL (char x) = c
  intro hk hl
  have hw : IntKind.i64.wrap (c : Int) = (c : Int) := IntWalk.i64_in _ (by omega)
  have HK := Lib.hid hk
  clear hk
  go_enter Try.func37, Try.ntmps37
  go_wp2_with fail
  refine HK.out.mono ?_
  rintro _ w' ⟨rfl, rfl⟩
  go_wp2_with fail
  go_ret2
  exact ⟨rfl, rfl⟩
theorem value_2 (x : Int) (w : World) : Calls Try.prog 37 #[.int .i8 2, .int .i32 x] w fun e w' => e = .returned (.tuple #[.int .i64 (cls widthsL (char x) : Nat), .bool true]) ∧ w' = w := by
  have hk := refColumns_is x w
  have hl := cls_lt (m := 256) widthsL (char x) (by decide) (by decide +kernel)
  revert hk hl
  generalize cls widthsL (char x) = c
  intro hk hl
  have hw : IntKind.i64.wrap (c : Int) = (c : Int) := IntWalk.i64_in _ (by omega)
  have HK := Lib.hid hk
  clear hk
  go_enter Try.func37, Try.ntmps37
  go_wp2_with fail
  refine HK.out.mono ?_
  rintro _ w' ⟨rfl, rfl⟩
  go_wp2_with fail
  go_ret2
  exact ⟨rfl, rfl⟩
theorem value_3 (x : Int) (w : World) : Calls Try.prog 37 #[.int .i8 3, .int .i32 x] w fun e w' => e = .returned (.tuple #[.int .i64 (cls marksL (char x) : Nat), .bool true]) ∧ w' = w := by
  have hk := refMark_is x w
  have hl := cls_lt (m := 256) marksL (char x) (by decide) (by decide +kernel)
  revert hk hl
  generalize cls marksL (char x) = c
  intro hk hl
  have hw : IntKind.i64.wrap (c : Int) = (c : Int) := IntWalk.i64_in _ (by omega)
  have HK := Lib.hid hk
  clear hk
  go_enter Try.func37, Try.ntmps37
  go_wp2_with fail
  refine HK.out.mono ?_
  rintro _ w' ⟨rfl, rfl⟩
  go_wp2_with fail
  go_ret2
  exact ⟨rfl, rfl⟩
theorem value_4 (x : Int) (w : World) : Calls Try.prog 37 #[.int .i8 4, .int .i32 x] w fun e w' => e = .returned (.tuple #[.int .i64 (cls joinsL (char x) : Nat), .bool true]) ∧ w' = w := by
  have hk := refJoin_is x w
  have hl := cls_lt (m := 256) joinsL (char x) (by decide) (by decide +kernel)
  revert hk hl
  generalize cls joinsL (char x) = c
  intro hk hl
  have hw : IntKind.i64.wrap (c : Int) = (c : Int) := IntWalk.i64_in _ (by omega)
  have HK := Lib.hid hk
  clear hk
  go_enter Try.func37, Try.ntmps37
  go_wp2_with fail
  refine HK.out.mono ?_
  rintro _ w' ⟨rfl, rfl⟩
  go_wp2_with fail
  go_ret2
  exact ⟨rfl, rfl⟩
theorem value_5 (x : Int) (w : World) : Calls Try.prog 37 #[.int .i8 5, .int .i32 x] w fun e w' => e = .returned (.tuple #[.int .i64 (cls breaksL (char x) : Nat), .bool true]) ∧ w' = w := by
  have hk := refBreak_is x w
  have hl := cls_lt (m := 256) breaksL (char x) (by decide) (by decide +kernel)
  revert hk hl
  generalize cls breaksL (char x) = c
  intro hk hl
  have hw : IntKind.i64.wrap (c : Int) = (c : Int) := IntWalk.i64_in _ (by omega)
  have HK := Lib.hid hk
  clear hk
  go_enter Try.func37, Try.ntmps37
  go_wp2_with fail
  refine HK.out.mono ?_
  rintro _ w' ⟨rfl, rfl⟩
  go_wp2_with fail
  go_ret2
  exact ⟨rfl, rfl⟩
theorem value_any (t x : Int) (h : 0 ≤ t ∧ t ≤ 5) (w : World) : Calls Try.prog 37 #[.int .i8 t, .int .i32 x] w fun e w' => e = .returned (.tuple #[.int .i64 (cls (tabAt t) (char x) : Nat), .bool true]) ∧ w' = w := by
  have h' : t = 0 ∨ t = 1 ∨ t = 2 ∨ t = 3 ∨ t = 4 ∨ t = 5 := by omega
  rcases h' with rfl | rfl | rfl | rfl | rfl | rfl
  · exact value_0 x w
  · exact value_1 x w
  · exact value_2 x w
  · exact value_3 x w
  · exact value_4 x w
  · exact value_5 x w
theorem value_no (t x : Int) (h : t < 0 ∨ 5 < t) (w : World) : Calls Try.prog 37 #[.int .i8 t, .int .i32 x] w fun e w' => e = .returned (.tuple #[.int .i64 0, .bool false]) ∧ w' = w := by
  have h0 : (t == 0) = false := by simp; omega
  have h1 : (t == 1) = false := by simp; omega
  have h2 : (t == 2) = false := by simp; omega
  have h3 : (t == 3) = false := by simp; omega
  have h4 : (t == 4) = false := by simp; omega
  have h5 : (t == 5) = false := by simp; omega
  clear h
  go_enter Try.func37, Try.ntmps37
  go_wp2_with fail
  go_ret2
  exact ⟨rfl, rfl⟩
/-- what the borders are with their classes, for a table's number -/
def zipAt (t : Int) : List (Nat × Nat × Nat) := if t = 0 then kindsZ else if t = 1 then dirsZ else if t = 2 then widthsZ else if t = 3 then marksZ else if t = 4 then joinsZ else if t = 5 then breaksZ else []
theorem zipAt_ok (t : Int) (h : 0 ≤ t ∧ t ≤ 5) : zipOk (tabAt t) bordL (zipAt t) = true ∧ (zipAt t).length = 457 ∧ ∀ v, refFold (zipAt t) v [] = spansFrom (tabAt t) v := by
  have h' : t = 0 ∨ t = 1 ∨ t = 2 ∨ t = 3 ∨ t = 4 ∨ t = 5 := by omega
  rcases h' with rfl | rfl | rfl | rfl | rfl | rfl
  · exact ⟨zip_kinds, by decide +kernel, ref_kinds⟩
  · exact ⟨zip_dirs, by decide +kernel, ref_dirs⟩
  · exact ⟨zip_widths, by decide +kernel, ref_widths⟩
  · exact ⟨zip_marks, by decide +kernel, ref_marks⟩
  · exact ⟨zip_joins, by decide +kernel, ref_joins⟩
  · exact ⟨zip_breaks, by decide +kernel, ref_breaks⟩
end Go.Proofs.Ythakdkpgobloiab
