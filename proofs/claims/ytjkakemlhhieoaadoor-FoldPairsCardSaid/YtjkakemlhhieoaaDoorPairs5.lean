/- FoldPairs, walked. (Made by tools/mkpairs5.py.) -/
import Derived.Test.YtjkakemlhhieoaaDoorWalkGF
namespace Go.Proofs.YtjkakemlhhieoaaDoor
open Go.RowKit Go.Lib

set_option maxRecDepth 100000 in
set_option maxHeartbeats 2000000 in
theorem pairs_ia (x : Int) (w0 : World) (hE : Env5 w0) (hs : ∀ w, PairV w → Calls Tryd.prog 10 #[.int .i32 x] w fun e w' => e = .returned (.int .i32 x) ∧ Below w.heap.size w w') (hg : ∀ w, PairV w → Calls Tryd.prog 12 #[.int .i32 x] w fun e w' => e = .returned (.int .i32 x) ∧ Below w.heap.size w w') (k0 : ¬ (0 ≤ x)) :
    Calls Tryd.prog 8 #[.int .i32 x] w0 fun e w' => e = .returned (.bool true) ∧ Below w0.heap.size w0 w' := by
  have HE0 := Lib.hid hE
  have Hb0 := Lib.hid (Below.refl w0.heap.size w0)
  clear hE
  have HS := Lib.hid hs
  have HG := Lib.hid hg
  clear hs hg
  have dk0 : decide (0 ≤ x) = false := decide_eq_false k0
  go_enter Tryd.func8, Tryd.ntmps8
  go_wp2_with fail
  refine (works5_any w0 HE0.out).mono ?_
  rintro _ w1 ⟨rfl, b0⟩
  have HE1 := Lib.hid (HE0.out.below b0)
  have Hb1 := Lib.hid (Hb0.out.trans (b0.mono Hb0.out.size))
  clear b0
  go_wp2_with fail
  refine (HS.out w1 HE1.out.2).mono ?_
  rintro _ w2 ⟨rfl, b1⟩
  have HE2 := Lib.hid (HE1.out.below b1)
  have Hb2 := Lib.hid (Hb1.out.trans (b1.mono Hb1.out.size))
  clear b1
  go_wp2_with fail
  refine (HG.out w2 HE2.out.2).mono ?_
  rintro _ w3 ⟨rfl, b2⟩
  have HE3 := Lib.hid (HE2.out.below b2)
  have Hb3 := Lib.hid (Hb2.out.trans (b2.mono Hb2.out.size))
  clear b2
  go_wp2_with fail
  refine (HS.out w3 HE3.out.2).mono ?_
  rintro _ w4 ⟨rfl, b3⟩
  have HE4 := Lib.hid (HE3.out.below b3)
  have Hb4 := Lib.hid (Hb3.out.trans (b3.mono Hb3.out.size))
  clear b3
  go_wp2_with fail
  refine (HG.out w4 HE4.out.2).mono ?_
  rintro _ w5 ⟨rfl, b4⟩
  have HE5 := Lib.hid (HE4.out.below b4)
  have Hb5 := Lib.hid (Hb4.out.trans (b4.mono Hb4.out.size))
  clear b4
  go_wp2_with fail
  go_ret
  exact ⟨rfl, Hb5.out⟩
set_option maxRecDepth 100000 in
set_option maxHeartbeats 2000000 in
theorem pairs_ib (x : Int) (w0 : World) (hE : Env5 w0) (hs : ∀ w, PairV w → Calls Tryd.prog 10 #[.int .i32 x] w fun e w' => e = .returned (.int .i32 x) ∧ Below w.heap.size w w') (hg : ∀ w, PairV w → Calls Tryd.prog 12 #[.int .i32 x] w fun e w' => e = .returned (.int .i32 x) ∧ Below w.heap.size w w') (k0 : 0 ≤ x) (k1 : ¬ (x ≤ 1114111)) :
    Calls Tryd.prog 8 #[.int .i32 x] w0 fun e w' => e = .returned (.bool true) ∧ Below w0.heap.size w0 w' := by
  have HE0 := Lib.hid hE
  have Hb0 := Lib.hid (Below.refl w0.heap.size w0)
  clear hE
  have HS := Lib.hid hs
  have HG := Lib.hid hg
  clear hs hg
  have dk0 : decide (0 ≤ x) = true := decide_eq_true k0
  have dk1 : decide (x ≤ 1114111) = false := decide_eq_false k1
  go_enter Tryd.func8, Tryd.ntmps8
  go_wp2_with fail
  refine (works5_any w0 HE0.out).mono ?_
  rintro _ w1 ⟨rfl, b0⟩
  have HE1 := Lib.hid (HE0.out.below b0)
  have Hb1 := Lib.hid (Hb0.out.trans (b0.mono Hb0.out.size))
  clear b0
  go_wp2_with fail
  refine (HS.out w1 HE1.out.2).mono ?_
  rintro _ w2 ⟨rfl, b1⟩
  have HE2 := Lib.hid (HE1.out.below b1)
  have Hb2 := Lib.hid (Hb1.out.trans (b1.mono Hb1.out.size))
  clear b1
  go_wp2_with fail
  refine (HG.out w2 HE2.out.2).mono ?_
  rintro _ w3 ⟨rfl, b2⟩
  have HE3 := Lib.hid (HE2.out.below b2)
  have Hb3 := Lib.hid (Hb2.out.trans (b2.mono Hb2.out.size))
  clear b2
  go_wp2_with fail
  refine (HS.out w3 HE3.out.2).mono ?_
  rintro _ w4 ⟨rfl, b3⟩
  have HE4 := Lib.hid (HE3.out.below b3)
  have Hb4 := Lib.hid (Hb3.out.trans (b3.mono Hb3.out.size))
  clear b3
  go_wp2_with fail
  refine (HG.out w4 HE4.out.2).mono ?_
  rintro _ w5 ⟨rfl, b4⟩
  have HE5 := Lib.hid (HE4.out.below b4)
  have Hb5 := Lib.hid (Hb4.out.trans (b4.mono Hb4.out.size))
  clear b4
  go_wp2_with fail
  go_ret
  exact ⟨rfl, Hb5.out⟩
set_option maxRecDepth 100000 in
set_option maxHeartbeats 2000000 in
theorem pairs_ic (x : Int) (w0 : World) (hE : Env5 w0) (hs : ∀ w, PairV w → Calls Tryd.prog 10 #[.int .i32 x] w fun e w' => e = .returned (.int .i32 x) ∧ Below w.heap.size w w') (hg : ∀ w, PairV w → Calls Tryd.prog 12 #[.int .i32 x] w fun e w' => e = .returned (.int .i32 x) ∧ Below w.heap.size w w') (k0 : 0 ≤ x) (k1 : x ≤ 1114111) (k2 : x < 55296) :
    Calls Tryd.prog 8 #[.int .i32 x] w0 fun e w' => e = .returned (.bool true) ∧ Below w0.heap.size w0 w' := by
  have HE0 := Lib.hid hE
  have Hb0 := Lib.hid (Below.refl w0.heap.size w0)
  clear hE
  have HS := Lib.hid hs
  have HG := Lib.hid hg
  clear hs hg
  have dk0 : decide (0 ≤ x) = true := decide_eq_true k0
  have dk1 : decide (x ≤ 1114111) = true := decide_eq_true k1
  have dk2 : decide (x < 55296) = true := decide_eq_true k2
  go_enter Tryd.func8, Tryd.ntmps8
  go_wp2_with fail
  refine (works5_any w0 HE0.out).mono ?_
  rintro _ w1 ⟨rfl, b0⟩
  have HE1 := Lib.hid (HE0.out.below b0)
  have Hb1 := Lib.hid (Hb0.out.trans (b0.mono Hb0.out.size))
  clear b0
  go_wp2_with fail
  refine (HS.out w1 HE1.out.2).mono ?_
  rintro _ w2 ⟨rfl, b1⟩
  have HE2 := Lib.hid (HE1.out.below b1)
  have Hb2 := Lib.hid (Hb1.out.trans (b1.mono Hb1.out.size))
  clear b1
  go_wp2_with fail
  refine (HG.out w2 HE2.out.2).mono ?_
  rintro _ w3 ⟨rfl, b2⟩
  have HE3 := Lib.hid (HE2.out.below b2)
  have Hb3 := Lib.hid (Hb2.out.trans (b2.mono Hb2.out.size))
  clear b2
  go_wp2_with fail
  refine (HS.out w3 HE3.out.2).mono ?_
  rintro _ w4 ⟨rfl, b3⟩
  have HE4 := Lib.hid (HE3.out.below b3)
  have Hb4 := Lib.hid (Hb3.out.trans (b3.mono Hb3.out.size))
  clear b3
  go_wp2_with fail
  refine (HG.out w4 HE4.out.2).mono ?_
  rintro _ w5 ⟨rfl, b4⟩
  have HE5 := Lib.hid (HE4.out.below b4)
  have Hb5 := Lib.hid (Hb4.out.trans (b4.mono Hb4.out.size))
  clear b4
  go_wp2_with fail
  go_ret
  exact ⟨rfl, Hb5.out⟩
set_option maxRecDepth 100000 in
set_option maxHeartbeats 2000000 in
theorem pairs_id (x : Int) (w0 : World) (hE : Env5 w0) (hs : ∀ w, PairV w → Calls Tryd.prog 10 #[.int .i32 x] w fun e w' => e = .returned (.int .i32 x) ∧ Below w.heap.size w w') (hg : ∀ w, PairV w → Calls Tryd.prog 12 #[.int .i32 x] w fun e w' => e = .returned (.int .i32 x) ∧ Below w.heap.size w w') (k0 : 0 ≤ x) (k1 : x ≤ 1114111) (k2 : ¬ (x < 55296)) (k3 : 57343 < x) :
    Calls Tryd.prog 8 #[.int .i32 x] w0 fun e w' => e = .returned (.bool true) ∧ Below w0.heap.size w0 w' := by
  have HE0 := Lib.hid hE
  have Hb0 := Lib.hid (Below.refl w0.heap.size w0)
  clear hE
  have HS := Lib.hid hs
  have HG := Lib.hid hg
  clear hs hg
  have dk0 : decide (0 ≤ x) = true := decide_eq_true k0
  have dk1 : decide (x ≤ 1114111) = true := decide_eq_true k1
  have dk2 : decide (x < 55296) = false := decide_eq_false k2
  have dk3 : decide (57343 < x) = true := decide_eq_true k3
  go_enter Tryd.func8, Tryd.ntmps8
  go_wp2_with fail
  refine (works5_any w0 HE0.out).mono ?_
  rintro _ w1 ⟨rfl, b0⟩
  have HE1 := Lib.hid (HE0.out.below b0)
  have Hb1 := Lib.hid (Hb0.out.trans (b0.mono Hb0.out.size))
  clear b0
  go_wp2_with fail
  refine (HS.out w1 HE1.out.2).mono ?_
  rintro _ w2 ⟨rfl, b1⟩
  have HE2 := Lib.hid (HE1.out.below b1)
  have Hb2 := Lib.hid (Hb1.out.trans (b1.mono Hb1.out.size))
  clear b1
  go_wp2_with fail
  refine (HG.out w2 HE2.out.2).mono ?_
  rintro _ w3 ⟨rfl, b2⟩
  have HE3 := Lib.hid (HE2.out.below b2)
  have Hb3 := Lib.hid (Hb2.out.trans (b2.mono Hb2.out.size))
  clear b2
  go_wp2_with fail
  refine (HS.out w3 HE3.out.2).mono ?_
  rintro _ w4 ⟨rfl, b3⟩
  have HE4 := Lib.hid (HE3.out.below b3)
  have Hb4 := Lib.hid (Hb3.out.trans (b3.mono Hb3.out.size))
  clear b3
  go_wp2_with fail
  refine (HG.out w4 HE4.out.2).mono ?_
  rintro _ w5 ⟨rfl, b4⟩
  have HE5 := Lib.hid (HE4.out.below b4)
  have Hb5 := Lib.hid (Hb4.out.trans (b4.mono Hb4.out.size))
  clear b4
  go_wp2_with fail
  go_ret
  exact ⟨rfl, Hb5.out⟩
set_option maxRecDepth 100000 in
set_option maxHeartbeats 2000000 in
theorem pairs_ie (x : Int) (w0 : World) (hE : Env5 w0) (hs : ∀ w, PairV w → Calls Tryd.prog 10 #[.int .i32 x] w fun e w' => e = .returned (.int .i32 x) ∧ Below w.heap.size w w') (hg : ∀ w, PairV w → Calls Tryd.prog 12 #[.int .i32 x] w fun e w' => e = .returned (.int .i32 x) ∧ Below w.heap.size w w') (k0 : 0 ≤ x) (k1 : x ≤ 1114111) (k2 : ¬ (x < 55296)) (k3 : ¬ (57343 < x)) :
    Calls Tryd.prog 8 #[.int .i32 x] w0 fun e w' => e = .returned (.bool true) ∧ Below w0.heap.size w0 w' := by
  have HE0 := Lib.hid hE
  have Hb0 := Lib.hid (Below.refl w0.heap.size w0)
  clear hE
  have HS := Lib.hid hs
  have HG := Lib.hid hg
  clear hs hg
  have dk0 : decide (0 ≤ x) = true := decide_eq_true k0
  have dk1 : decide (x ≤ 1114111) = true := decide_eq_true k1
  have dk2 : decide (x < 55296) = false := decide_eq_false k2
  have dk3 : decide (57343 < x) = false := decide_eq_false k3
  go_enter Tryd.func8, Tryd.ntmps8
  go_wp2_with fail
  refine (works5_any w0 HE0.out).mono ?_
  rintro _ w1 ⟨rfl, b0⟩
  have HE1 := Lib.hid (HE0.out.below b0)
  have Hb1 := Lib.hid (Hb0.out.trans (b0.mono Hb0.out.size))
  clear b0
  go_wp2_with fail
  refine (HS.out w1 HE1.out.2).mono ?_
  rintro _ w2 ⟨rfl, b1⟩
  have HE2 := Lib.hid (HE1.out.below b1)
  have Hb2 := Lib.hid (Hb1.out.trans (b1.mono Hb1.out.size))
  clear b1
  go_wp2_with fail
  refine (HG.out w2 HE2.out.2).mono ?_
  rintro _ w3 ⟨rfl, b2⟩
  have HE3 := Lib.hid (HE2.out.below b2)
  have Hb3 := Lib.hid (Hb2.out.trans (b2.mono Hb2.out.size))
  clear b2
  go_wp2_with fail
  refine (HS.out w3 HE3.out.2).mono ?_
  rintro _ w4 ⟨rfl, b3⟩
  have HE4 := Lib.hid (HE3.out.below b3)
  have Hb4 := Lib.hid (Hb3.out.trans (b3.mono Hb3.out.size))
  clear b3
  go_wp2_with fail
  refine (HG.out w4 HE4.out.2).mono ?_
  rintro _ w5 ⟨rfl, b4⟩
  have HE5 := Lib.hid (HE4.out.below b4)
  have Hb5 := Lib.hid (Hb4.out.trans (b4.mono Hb4.out.size))
  clear b4
  go_wp2_with fail
  go_ret
  exact ⟨rfl, Hb5.out⟩
set_option maxRecDepth 100000 in
set_option maxHeartbeats 2000000 in
theorem pairs_iic (x s : Int) (w0 : World) (hE : Env5 w0) (hs : ∀ w, PairV w → Calls Tryd.prog 10 #[.int .i32 x] w fun e w' => e = .returned (.int .i32 s) ∧ Below w.heap.size w w') (hg : ∀ w, PairV w → Calls Tryd.prog 12 #[.int .i32 x] w fun e w' => e = .returned (.int .i32 x) ∧ Below w.heap.size w w') (hss : ∀ w, PairV w → Calls Tryd.prog 10 #[.int .i32 s] w fun e w' => e = .returned (.int .i32 s) ∧ Below w.heap.size w w') (hgs : ∀ w, PairV w → Calls Tryd.prog 12 #[.int .i32 s] w fun e w' => e = .returned (.int .i32 x) ∧ Below w.heap.size w w') (n1 : (s != x) = true) (k0 : 0 ≤ x) (k1 : x ≤ 1114111) (k2 : x < 55296) :
    Calls Tryd.prog 8 #[.int .i32 x] w0 fun e w' => e = .returned (.bool true) ∧ Below w0.heap.size w0 w' := by
  have HE0 := Lib.hid hE
  have Hb0 := Lib.hid (Below.refl w0.heap.size w0)
  clear hE
  have HS := Lib.hid hs
  have HG := Lib.hid hg
  have HSS := Lib.hid hss
  have HGS := Lib.hid hgs
  clear hs hg hss hgs
  have dk0 : decide (0 ≤ x) = true := decide_eq_true k0
  have dk1 : decide (x ≤ 1114111) = true := decide_eq_true k1
  have dk2 : decide (x < 55296) = true := decide_eq_true k2
  go_enter Tryd.func8, Tryd.ntmps8
  go_wp2_with fail
  refine (works5_any w0 HE0.out).mono ?_
  rintro _ w1 ⟨rfl, b0⟩
  have HE1 := Lib.hid (HE0.out.below b0)
  have Hb1 := Lib.hid (Hb0.out.trans (b0.mono Hb0.out.size))
  clear b0
  go_wp2_with fail
  refine (HS.out w1 HE1.out.2).mono ?_
  rintro _ w2 ⟨rfl, b1⟩
  have HE2 := Lib.hid (HE1.out.below b1)
  have Hb2 := Lib.hid (Hb1.out.trans (b1.mono Hb1.out.size))
  clear b1
  go_wp2_with fail
  refine (HG.out w2 HE2.out.2).mono ?_
  rintro _ w3 ⟨rfl, b2⟩
  have HE3 := Lib.hid (HE2.out.below b2)
  have Hb3 := Lib.hid (Hb2.out.trans (b2.mono Hb2.out.size))
  clear b2
  go_wp2_with fail
  refine (HSS.out w3 HE3.out.2).mono ?_
  rintro _ w4 ⟨rfl, b3⟩
  have HE4 := Lib.hid (HE3.out.below b3)
  have Hb4 := Lib.hid (Hb3.out.trans (b3.mono Hb3.out.size))
  clear b3
  go_wp2_with fail
  refine (HG.out w4 HE4.out.2).mono ?_
  rintro _ w5 ⟨rfl, b4⟩
  have HE5 := Lib.hid (HE4.out.below b4)
  have Hb5 := Lib.hid (Hb4.out.trans (b4.mono Hb4.out.size))
  clear b4
  go_wp2_with fail
  refine (HGS.out w5 HE5.out.2).mono ?_
  rintro _ w6 ⟨rfl, b5⟩
  have HE6 := Lib.hid (HE5.out.below b5)
  have Hb6 := Lib.hid (Hb5.out.trans (b5.mono Hb5.out.size))
  clear b5
  go_wp2_with fail
  go_ret
  exact ⟨rfl, Hb6.out⟩
set_option maxRecDepth 100000 in
set_option maxHeartbeats 2000000 in
theorem pairs_iiic (x g : Int) (w0 : World) (hE : Env5 w0) (hs : ∀ w, PairV w → Calls Tryd.prog 10 #[.int .i32 x] w fun e w' => e = .returned (.int .i32 x) ∧ Below w.heap.size w w') (hg : ∀ w, PairV w → Calls Tryd.prog 12 #[.int .i32 x] w fun e w' => e = .returned (.int .i32 g) ∧ Below w.heap.size w w') (hgg : ∀ w, PairV w → Calls Tryd.prog 12 #[.int .i32 g] w fun e w' => e = .returned (.int .i32 g) ∧ Below w.heap.size w w') (hsg : ∀ w, PairV w → Calls Tryd.prog 10 #[.int .i32 g] w fun e w' => e = .returned (.int .i32 x) ∧ Below w.heap.size w w') (n1 : (g != x) = true) (k0 : 0 ≤ x) (k1 : x ≤ 1114111) (k2 : x < 55296) :
    Calls Tryd.prog 8 #[.int .i32 x] w0 fun e w' => e = .returned (.bool true) ∧ Below w0.heap.size w0 w' := by
  have HE0 := Lib.hid hE
  have Hb0 := Lib.hid (Below.refl w0.heap.size w0)
  clear hE
  have HS := Lib.hid hs
  have HG := Lib.hid hg
  have HGG := Lib.hid hgg
  have HSG := Lib.hid hsg
  clear hs hg hgg hsg
  have dk0 : decide (0 ≤ x) = true := decide_eq_true k0
  have dk1 : decide (x ≤ 1114111) = true := decide_eq_true k1
  have dk2 : decide (x < 55296) = true := decide_eq_true k2
  go_enter Tryd.func8, Tryd.ntmps8
  go_wp2_with fail
  refine (works5_any w0 HE0.out).mono ?_
  rintro _ w1 ⟨rfl, b0⟩
  have HE1 := Lib.hid (HE0.out.below b0)
  have Hb1 := Lib.hid (Hb0.out.trans (b0.mono Hb0.out.size))
  clear b0
  go_wp2_with fail
  refine (HS.out w1 HE1.out.2).mono ?_
  rintro _ w2 ⟨rfl, b1⟩
  have HE2 := Lib.hid (HE1.out.below b1)
  have Hb2 := Lib.hid (Hb1.out.trans (b1.mono Hb1.out.size))
  clear b1
  go_wp2_with fail
  refine (HG.out w2 HE2.out.2).mono ?_
  rintro _ w3 ⟨rfl, b2⟩
  have HE3 := Lib.hid (HE2.out.below b2)
  have Hb3 := Lib.hid (Hb2.out.trans (b2.mono Hb2.out.size))
  clear b2
  go_wp2_with fail
  refine (HS.out w3 HE3.out.2).mono ?_
  rintro _ w4 ⟨rfl, b3⟩
  have HE4 := Lib.hid (HE3.out.below b3)
  have Hb4 := Lib.hid (Hb3.out.trans (b3.mono Hb3.out.size))
  clear b3
  go_wp2_with fail
  refine (HGG.out w4 HE4.out.2).mono ?_
  rintro _ w5 ⟨rfl, b4⟩
  have HE5 := Lib.hid (HE4.out.below b4)
  have Hb5 := Lib.hid (Hb4.out.trans (b4.mono Hb4.out.size))
  clear b4
  go_wp2_with fail
  refine (HSG.out w5 HE5.out.2).mono ?_
  rintro _ w6 ⟨rfl, b5⟩
  have HE6 := Lib.hid (HE5.out.below b5)
  have Hb6 := Lib.hid (Hb5.out.trans (b5.mono Hb5.out.size))
  clear b5
  go_wp2_with fail
  go_ret
  exact ⟨rfl, Hb6.out⟩
set_option maxRecDepth 100000 in
set_option maxHeartbeats 2000000 in
theorem pairs_iid (x s : Int) (w0 : World) (hE : Env5 w0) (hs : ∀ w, PairV w → Calls Tryd.prog 10 #[.int .i32 x] w fun e w' => e = .returned (.int .i32 s) ∧ Below w.heap.size w w') (hg : ∀ w, PairV w → Calls Tryd.prog 12 #[.int .i32 x] w fun e w' => e = .returned (.int .i32 x) ∧ Below w.heap.size w w') (hss : ∀ w, PairV w → Calls Tryd.prog 10 #[.int .i32 s] w fun e w' => e = .returned (.int .i32 s) ∧ Below w.heap.size w w') (hgs : ∀ w, PairV w → Calls Tryd.prog 12 #[.int .i32 s] w fun e w' => e = .returned (.int .i32 x) ∧ Below w.heap.size w w') (n1 : (s != x) = true) (k0 : 0 ≤ x) (k1 : x ≤ 1114111) (k2 : ¬ (x < 55296)) (k3 : 57343 < x) :
    Calls Tryd.prog 8 #[.int .i32 x] w0 fun e w' => e = .returned (.bool true) ∧ Below w0.heap.size w0 w' := by
  have HE0 := Lib.hid hE
  have Hb0 := Lib.hid (Below.refl w0.heap.size w0)
  clear hE
  have HS := Lib.hid hs
  have HG := Lib.hid hg
  have HSS := Lib.hid hss
  have HGS := Lib.hid hgs
  clear hs hg hss hgs
  have dk0 : decide (0 ≤ x) = true := decide_eq_true k0
  have dk1 : decide (x ≤ 1114111) = true := decide_eq_true k1
  have dk2 : decide (x < 55296) = false := decide_eq_false k2
  have dk3 : decide (57343 < x) = true := decide_eq_true k3
  go_enter Tryd.func8, Tryd.ntmps8
  go_wp2_with fail
  refine (works5_any w0 HE0.out).mono ?_
  rintro _ w1 ⟨rfl, b0⟩
  have HE1 := Lib.hid (HE0.out.below b0)
  have Hb1 := Lib.hid (Hb0.out.trans (b0.mono Hb0.out.size))
  clear b0
  go_wp2_with fail
  refine (HS.out w1 HE1.out.2).mono ?_
  rintro _ w2 ⟨rfl, b1⟩
  have HE2 := Lib.hid (HE1.out.below b1)
  have Hb2 := Lib.hid (Hb1.out.trans (b1.mono Hb1.out.size))
  clear b1
  go_wp2_with fail
  refine (HG.out w2 HE2.out.2).mono ?_
  rintro _ w3 ⟨rfl, b2⟩
  have HE3 := Lib.hid (HE2.out.below b2)
  have Hb3 := Lib.hid (Hb2.out.trans (b2.mono Hb2.out.size))
  clear b2
  go_wp2_with fail
  refine (HSS.out w3 HE3.out.2).mono ?_
  rintro _ w4 ⟨rfl, b3⟩
  have HE4 := Lib.hid (HE3.out.below b3)
  have Hb4 := Lib.hid (Hb3.out.trans (b3.mono Hb3.out.size))
  clear b3
  go_wp2_with fail
  refine (HG.out w4 HE4.out.2).mono ?_
  rintro _ w5 ⟨rfl, b4⟩
  have HE5 := Lib.hid (HE4.out.below b4)
  have Hb5 := Lib.hid (Hb4.out.trans (b4.mono Hb4.out.size))
  clear b4
  go_wp2_with fail
  refine (HGS.out w5 HE5.out.2).mono ?_
  rintro _ w6 ⟨rfl, b5⟩
  have HE6 := Lib.hid (HE5.out.below b5)
  have Hb6 := Lib.hid (Hb5.out.trans (b5.mono Hb5.out.size))
  clear b5
  go_wp2_with fail
  go_ret
  exact ⟨rfl, Hb6.out⟩
set_option maxRecDepth 100000 in
set_option maxHeartbeats 2000000 in
theorem pairs_iiid (x g : Int) (w0 : World) (hE : Env5 w0) (hs : ∀ w, PairV w → Calls Tryd.prog 10 #[.int .i32 x] w fun e w' => e = .returned (.int .i32 x) ∧ Below w.heap.size w w') (hg : ∀ w, PairV w → Calls Tryd.prog 12 #[.int .i32 x] w fun e w' => e = .returned (.int .i32 g) ∧ Below w.heap.size w w') (hgg : ∀ w, PairV w → Calls Tryd.prog 12 #[.int .i32 g] w fun e w' => e = .returned (.int .i32 g) ∧ Below w.heap.size w w') (hsg : ∀ w, PairV w → Calls Tryd.prog 10 #[.int .i32 g] w fun e w' => e = .returned (.int .i32 x) ∧ Below w.heap.size w w') (n1 : (g != x) = true) (k0 : 0 ≤ x) (k1 : x ≤ 1114111) (k2 : ¬ (x < 55296)) (k3 : 57343 < x) :
    Calls Tryd.prog 8 #[.int .i32 x] w0 fun e w' => e = .returned (.bool true) ∧ Below w0.heap.size w0 w' := by
  have HE0 := Lib.hid hE
  have Hb0 := Lib.hid (Below.refl w0.heap.size w0)
  clear hE
  have HS := Lib.hid hs
  have HG := Lib.hid hg
  have HGG := Lib.hid hgg
  have HSG := Lib.hid hsg
  clear hs hg hgg hsg
  have dk0 : decide (0 ≤ x) = true := decide_eq_true k0
  have dk1 : decide (x ≤ 1114111) = true := decide_eq_true k1
  have dk2 : decide (x < 55296) = false := decide_eq_false k2
  have dk3 : decide (57343 < x) = true := decide_eq_true k3
  go_enter Tryd.func8, Tryd.ntmps8
  go_wp2_with fail
  refine (works5_any w0 HE0.out).mono ?_
  rintro _ w1 ⟨rfl, b0⟩
  have HE1 := Lib.hid (HE0.out.below b0)
  have Hb1 := Lib.hid (Hb0.out.trans (b0.mono Hb0.out.size))
  clear b0
  go_wp2_with fail
  refine (HS.out w1 HE1.out.2).mono ?_
  rintro _ w2 ⟨rfl, b1⟩
  have HE2 := Lib.hid (HE1.out.below b1)
  have Hb2 := Lib.hid (Hb1.out.trans (b1.mono Hb1.out.size))
  clear b1
  go_wp2_with fail
  refine (HG.out w2 HE2.out.2).mono ?_
  rintro _ w3 ⟨rfl, b2⟩
  have HE3 := Lib.hid (HE2.out.below b2)
  have Hb3 := Lib.hid (Hb2.out.trans (b2.mono Hb2.out.size))
  clear b2
  go_wp2_with fail
  refine (HS.out w3 HE3.out.2).mono ?_
  rintro _ w4 ⟨rfl, b3⟩
  have HE4 := Lib.hid (HE3.out.below b3)
  have Hb4 := Lib.hid (Hb3.out.trans (b3.mono Hb3.out.size))
  clear b3
  go_wp2_with fail
  refine (HGG.out w4 HE4.out.2).mono ?_
  rintro _ w5 ⟨rfl, b4⟩
  have HE5 := Lib.hid (HE4.out.below b4)
  have Hb5 := Lib.hid (Hb4.out.trans (b4.mono Hb4.out.size))
  clear b4
  go_wp2_with fail
  refine (HSG.out w5 HE5.out.2).mono ?_
  rintro _ w6 ⟨rfl, b5⟩
  have HE6 := Lib.hid (HE5.out.below b5)
  have Hb6 := Lib.hid (Hb5.out.trans (b5.mono Hb5.out.size))
  clear b5
  go_wp2_with fail
  go_ret
  exact ⟨rfl, Hb6.out⟩
set_option maxRecDepth 100000 in
set_option maxHeartbeats 2000000 in
theorem pairs_iv  (w0 : World) (hE : Env5 w0) (hs : ∀ w, PairV w → Calls Tryd.prog 10 #[.int .i32 962] w fun e w' => e = .returned (.int .i32 962) ∧ Below w.heap.size w w') (hg : ∀ w, PairV w → Calls Tryd.prog 12 #[.int .i32 962] w fun e w' => e = .returned (.int .i32 931) ∧ Below w.heap.size w w') (hgg : ∀ w, PairV w → Calls Tryd.prog 12 #[.int .i32 931] w fun e w' => e = .returned (.int .i32 931) ∧ Below w.heap.size w w') (hsg : ∀ w, PairV w → Calls Tryd.prog 10 #[.int .i32 931] w fun e w' => e = .returned (.int .i32 963) ∧ Below w.heap.size w w') :
    Calls Tryd.prog 8 #[.int .i32 962] w0 fun e w' => e = .returned (.bool true) ∧ Below w0.heap.size w0 w' := by
  have HE0 := Lib.hid hE
  have Hb0 := Lib.hid (Below.refl w0.heap.size w0)
  clear hE
  have HS := Lib.hid hs
  have HG := Lib.hid hg
  have HGG := Lib.hid hgg
  have HSG := Lib.hid hsg
  clear hs hg hgg hsg
  go_enter Tryd.func8, Tryd.ntmps8
  go_wp2_with fail
  refine (works5_any w0 HE0.out).mono ?_
  rintro _ w1 ⟨rfl, b0⟩
  have HE1 := Lib.hid (HE0.out.below b0)
  have Hb1 := Lib.hid (Hb0.out.trans (b0.mono Hb0.out.size))
  clear b0
  go_wp2_with fail
  refine (HS.out w1 HE1.out.2).mono ?_
  rintro _ w2 ⟨rfl, b1⟩
  have HE2 := Lib.hid (HE1.out.below b1)
  have Hb2 := Lib.hid (Hb1.out.trans (b1.mono Hb1.out.size))
  clear b1
  go_wp2_with fail
  refine (HG.out w2 HE2.out.2).mono ?_
  rintro _ w3 ⟨rfl, b2⟩
  have HE3 := Lib.hid (HE2.out.below b2)
  have Hb3 := Lib.hid (Hb2.out.trans (b2.mono Hb2.out.size))
  clear b2
  go_wp2_with fail
  refine (HS.out w3 HE3.out.2).mono ?_
  rintro _ w4 ⟨rfl, b3⟩
  have HE4 := Lib.hid (HE3.out.below b3)
  have Hb4 := Lib.hid (Hb3.out.trans (b3.mono Hb3.out.size))
  clear b3
  go_wp2_with fail
  refine (HGG.out w4 HE4.out.2).mono ?_
  rintro _ w5 ⟨rfl, b4⟩
  have HE5 := Lib.hid (HE4.out.below b4)
  have Hb5 := Lib.hid (Hb4.out.trans (b4.mono Hb4.out.size))
  clear b4
  go_wp2_with fail
  refine (HSG.out w5 HE5.out.2).mono ?_
  rintro _ w6 ⟨rfl, b5⟩
  have HE6 := Lib.hid (HE5.out.below b5)
  have Hb6 := Lib.hid (Hb5.out.trans (b5.mono Hb5.out.size))
  clear b5
  go_wp2_with fail
  go_ret
  exact ⟨rfl, Hb6.out⟩

theorem pairs5_walk (x : Int) (h0 : -2147483648 ≤ x) (h1 : x ≤ 2147483647) (w : World) (hE : Env5 w) :
    Calls Tryd.prog 8 #[.int .i32 x] w fun e w' => e = .returned (.bool true) ∧ Below w.heap.size w w' := by
  have hS := fun (y : Int) (a : -2147483648 ≤ y) (b : y ≤ 2147483647) w hP => Small_any y a b w hP
  have hG := fun (y : Int) (a : -2147483648 ≤ y) (b : y ≤ 2147483647) w hP => Great_any y a b w hP
  by_cases h9 : x = 962
  · subst h9
    have e1 := hS 962 (by decide) (by decide)
    have e2 := hG 962 (by decide) (by decide)
    have e3 := hG 931 (by decide) (by decide)
    have e4 := hS 931 (by decide) (by decide)
    rw [show smallF 962 = 962 by decide +kernel] at e1
    rw [show greatF 962 = 931 by decide +kernel] at e2
    rw [show greatF 931 = 931 by decide +kernel] at e3
    rw [show smallF 931 = 963 by decide +kernel] at e4
    exact pairs_iv w hE e1 e2 e3 e4
  · have e1 := hS x h0 h1
    have e2 := hG x h0 h1
    by_cases hs : smallF x = x
    · rw [hs] at e1
      by_cases hg : greatF x = x
      · rw [hg] at e2
        by_cases k0 : 0 ≤ x
        · by_cases k1 : x ≤ 1114111
          · by_cases k2 : x < 55296
            · exact pairs_ic x w hE e1 e2 k0 k1 k2
            · by_cases k3 : 57343 < x
              · exact pairs_id x w hE e1 e2 k0 k1 k2 k3
              · exact pairs_ie x w hE e1 e2 k0 k1 k2 k3
          · exact pairs_ib x w hE e1 e2 k0 k1
        · exact pairs_ia x w hE e1 e2 k0
      · rcases great_cases x with ⟨h, _⟩ | ⟨_, _, e⟩ | ⟨_, h⟩
        · exact absurd h h9
        · exact absurd e hg
        · have p := pr_ok h
          have e3 := hG (greatF x) (by have := p.lo; omega) (by have := p.hi; omega)
          have e4 := hS (greatF x) (by have := p.lo; omega) (by have := p.hi; omega)
          rw [great_great] at e3
          rw [p.small] at e4
          have n1 : (greatF x != x) = true := by simp [hg]
          by_cases k2 : x < 55296
          · exact pairs_iiic x (greatF x) w hE e1 e2 e3 e4 n1 (by have := p.lo'; omega) (by have := p.hi'; omega) k2
          · exact pairs_iiid x (greatF x) w hE e1 e2 e3 e4 n1 (by have := p.lo'; omega) (by have := p.hi'; omega) k2 (by have := p.mid'; omega)
    · rcases small_cases x with ⟨_, e⟩ | h
      · exact absurd e hs
      · have p := pr_ok h
        have e3 := hS (smallF x) (by have := p.lo'; omega) (by have := p.hi'; omega)
        have e4 := hG (smallF x) (by have := p.lo'; omega) (by have := p.hi'; omega)
        rw [small_small] at e3
        rw [p.great] at e4
        rw [p.stay] at e2
        have n1 : (smallF x != x) = true := by simp [hs]
        by_cases k2 : x < 55296
        · exact pairs_iic x (smallF x) w hE e1 e2 e3 e4 n1 (by have := p.lo; omega) (by have := p.hi; omega) k2
        · exact pairs_iid x (smallF x) w hE e1 e2 e3 e4 n1 (by have := p.lo; omega) (by have := p.hi; omega) k2 (by have := p.mid; omega)
end Go.Proofs.YtjkakemlhhieoaaDoor
