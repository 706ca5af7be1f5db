/- The document's Order, walked. -/
import Derived.Test.YtakfgeonjamjeaaDoorTextRG
namespace Go.Proofs.YtakfgeonjamjeaaDoor
open Go.RowKit Go.Lib

section
variable {α β : Type} (num : β → Nat) (f : α → β)
theorem conc_map (xs : List α) : ∀ k, conc num (xs.map f) k = (conc (fun x => num (f x)) xs k).map f
  | 0 => rfl
  | k + 1 => by
    unfold conc
    rw [conc_map xs k, List.map_append]
    congr 1
    unfold pile
    rw [List.filter_map]
    rfl
theorem bucket_map (xs : List α) : bucket num (xs.map f) = (bucket (fun x => num (f x)) xs).map f := by
  unfold bucket
  exact conc_map num f xs 256
theorem ordR_map : ∀ (xs row : List α), ordR num (row.map f) (xs.map f) = (ordR (fun x => num (f x)) row xs).map f
  | [], row => by
    rw [List.map_nil, ordR_nil, ordR_nil, bucket_map]
  | x :: t, row => by
    rw [List.map_cons]
    by_cases h : num (f x) = 0
    · rw [ordR_zero num _ _ h, ordR_zero (fun x => num (f x)) _ _ h, List.map_append, List.map_cons]
      have h1 := ordR_map t []
      rw [List.map_nil] at h1
      rw [h1, bucket_map]
    · rw [ordR_more num _ _ h, ordR_more (fun x => num (f x)) _ _ h, ← ordR_map t (row ++ [x]), List.map_append]
      rfl
end
theorem ord_numPs (xs : List Int) : ordZ numP (numPs xs) = numPs (ordZ markZ xs) := by
  unfold numPs ordZ
  exact ordR_map numP (fun q => (q, markZ q, 0)) xs []
theorem numPs_it (xs : List Int) : ∀ p ∈ numPs xs, ItP p := by
  intro p hp
  obtain ⟨q, _, rfl⟩ := List.mem_map.1 hp
  exact ⟨by show (0 : Nat) < 256; decide, .inl ⟨rfl, rfl⟩⟩
theorem numPs_snoc {xs : List Int} {k : Nat} {x : Int} (h : xs[k]? = some x) : numPs (xs.take (k + 1)) = numPs (xs.take k) ++ [(x, markZ x, 0)] := by
  obtain ⟨hk, rfl⟩ := List.getElem?_eq_some_iff.1 h
  unfold numPs
  rw [List.take_succ_eq_append_getElem hk, List.map_append]
  rfl
theorem numPs_len (xs : List Int) : (numPs xs).length = xs.length := by simp [numPs]

set_option maxRecDepth 100000 in
set_option maxHeartbeats 4000000 in
theorem rOrder_any (xs : List Int) (A : Option Addr) (n c : Nat) (w : World) (hrd : Rd w w.heap.size 1 A n (runes xs)) (hn : n ≤ 134217728) :
    Calls Tryd.prog 18 #[.slice A n c] w fun e w' => ∃ v, e = .returned v ∧ w'.ownsRow w.heap.size 21 1 v n (runes (ordZ markZ xs)) ∧ Below w.heap.size w w' := by
  obtain ⟨i0, hi, hz0, hz1, hz2⟩ := info_parts item_info
  obtain ⟨i1, ji, jz0, jz1, jz2⟩ := info_parts runeN_info
  have hxl : xs.length = n := by have := hrd.1; simpa using this
  have hord := fun A c w h2 h3 h4 h6 => rordered_any (numPs xs) A n c w (by rw [numPs_len]; exact hxl) h2 h3 h4 (by omega) (numPs_it xs) h6
  rw [ord_numPs] at hord
  have hyl : (ordZ markZ xs).length = n := by
    have := ordR_len markZ xs [] (fun _ h => by cases h) (fun x _ => markZ_lt x)
    unfold ordZ
    rw [this, hxl]
    simp
  obtain ⟨ys, hys⟩ : ∃ ys, ordZ markZ xs = ys := ⟨_, rfl⟩
  rw [hys] at hord hyl ⊢
  obtain ⟨B, hB⟩ : ∃ B, w.heap.size = B := ⟨_, rfl⟩
  have Hrd := Lib.hid (fun (W : World) (hb : Below B w W) => (show Rd W B 1 A n (runes xs) from by rw [← hB] at hb ⊢; exact hrd.below hb))
  have Hord := Lib.hid hord
  have Hxl := Lib.hid hxl
  have Hyl := Lib.hid hyl
  have HB := Lib.hid hB
  have Hb0 := Lib.hid (Below.refl B w)
  rw [hB]
  clear hrd hord hxl hyl hB hys
  go_enter Tryd.func18, Tryd.ntmps18
  go_wp2_with fail
  go_loopw [3, 4] (fun v i wr => ∃ (k : Nat) (W : World), W = wr ∧ k ≤ n ∧ i = .int .i64 (k : Int) ∧ Hid (W.ownsRow B 56 3 v k (flat encI (numPs (xs.take k)))) ∧ Hid (Below B w W)) (fun _ i _ => n - (RowKit.intOf i).toNat)
  case atStart => exact ⟨0, _, rfl, Nat.zero_le _, rfl, Lib.hid (by simp [numPs, flat]; exact World.ownsRow_nil _ _ _ _), Hb0⟩
  case round =>
    obtain ⟨k, W, hW, hk, rfl, Hown, HbW⟩ := hrel
    subst hW
    have SW : B ≤ W.heap.size := by have := HbW.out.size; have := HB.out; omega
    by_cases hkn : k < n
    · have hki : (k : Int) < (n : Int) := by omega
      obtain ⟨x, hx⟩ : ∃ x, xs[k]? = some x := ⟨_, List.getElem?_eq_getElem (by rw [Hxl.out]; exact hkn)⟩
      obtain ⟨a, rfl, _, hc⟩ := Rd_cell4 (Hrd.out W HbW.out) hx
      have Hnx := Lib.hid (numPs_snoc hx)
      clear hx
      go_wp2_with (at_builtin; refine wpList_append_own _ rfl _ _ 54 rfl B 56 i0 _ 3 8 Tryd.underlying54 hi hz0 hz1 hz2 rfl (by decide) _ _ _ rfl (Hown.out.alloc _) ⟨W.heap.size, 0, none⟩ 1 1 [.int .i32 x, .bool false, .int .u8 0] rfl rfl (new_cells W [.int .i32 x, .bool false, .int .u8 0] 56) (by simp [Value.oneCell']) (by unfold maxLen; omega) (by omega) (by simp; omega) ?_)
      intro v5 w5 own5 g5 _
      have Hb5 := Lib.hid ((HbW.out.alloc SW (.cells #[.int .i32 x, .bool false, .int .u8 0] 56)).grown g5 (by simp; omega) (fun g hg => (Hown.out.lt g hg).1))
      have Own5 := Lib.hid own5
      clear own5 g5
      go_wp2
      go_roundw
      case rel =>
        refine ⟨k + 1, _, rfl, by omega, by go_num, Lib.hid ?_, Hb5⟩
        rw [Hnx.out, flat_append]
        exact Own5.out
      case measure => simp [RowKit.intOf]; omega
    · obtain rfl : k = n := by omega
      have ht : xs.take k = xs := List.take_of_length_le (by rw [Hxl.out]; exact Nat.le_refl _)
      rw [ht] at Hown
      obtain ⟨A2, c2, hv2, h2n, h2m⟩ := own_shape Hown.out
      subst hv2
      have HO := Lib.hid (Hord.out A2 c2 W h2n h2m (fun e => own_nil9 Hown.out e) (Rd.own Hown.out))
      clear Hown ht
      go_wp2_with fail
      refine HO.out.mono ?_
      rintro _ w3 ⟨v3, rfl, own3, b3⟩
      obtain ⟨A3, c3, rfl, _, _⟩ := own_shape own3
      have R3 := Lib.hid (Rd.own own3)
      have Hb3 := Lib.hid (HbW.out.trans (b3.mono SW))
      have S3 : B ≤ w3.heap.size := by have := b3.size; omega
      clear own3 b3
      go_wp2_with fail
      go_loopw [5, 6] (fun v i wr => ∃ (q : Nat) (V : World), V = wr ∧ q ≤ k ∧ i = .int .i64 (q : Int) ∧ Hid (V.ownsRow w3.heap.size 21 1 v q ((runes ys).take q)) ∧ Hid (Below w3.heap.size w3 V)) (fun _ i _ => k - (RowKit.intOf i).toNat)
      case atStart => exact ⟨0, _, rfl, Nat.zero_le _, rfl, Lib.hid (by simp [runes]; exact World.ownsRow_nil _ _ _ _), Lib.hid (Below.refl _ _)⟩
      case round =>
        obtain ⟨q, V, hV, hq, rfl, HownV, HbV⟩ := hrel
        subst hV
        have SV : w3.heap.size ≤ V.heap.size := HbV.out.size
        by_cases hqk : q < k
        · have hqi : (q : Int) < (k : Int) := by omega
          obtain ⟨y, hy⟩ : ∃ y, ys[q]? = some y := ⟨_, List.getElem?_eq_getElem (by rw [Hyl.out]; exact hqk)⟩
          obtain ⟨a3, rfl, _, hc3⟩ := (R3.out.below HbV.out).addr (by omega)
          have hp : (numPs ys)[q]? = some (y, markZ y, 0) := by unfold numPs; rw [List.getElem?_map, hy]; rfl
          have hcy : V.cell? (a3.add (q * 3)) = some (.int .i32 y) := by
            have h := hc3 _ _ (flat_at encI_len (numPs ys) q _ hp 0 (.int .i32 y) rfl)
            simpa using h
          have Hnx : Hid ((runes ys).take (q + 1) = (runes ys).take q ++ [.int .i32 y]) := by
            unfold Hid
            obtain ⟨h, rfl⟩ := List.getElem?_eq_some_iff.1 hy
            rw [List.take_succ_eq_append_getElem (by simpa using h)]
            simp
          clear hy hp hc3
          go_wp2_with (at_builtin; refine wpList_append_own _ rfl _ _ 22 rfl w3.heap.size 21 i1 _ 1 4 Tryd.underlying22 ji jz0 jz1 jz2 rfl (by decide) _ _ _ rfl (HownV.out.alloc _) ⟨V.heap.size, 0, none⟩ 1 1 [.int .i32 y] rfl rfl (new_cells V [.int .i32 y] 21) (by simp [Value.oneCell']) (by unfold maxLen; omega) (by omega) (by simp; omega) ?_)
          intro v5 w5 own5 g5 _
          have Hb5 := Lib.hid ((HbV.out.alloc SV (.cells #[.int .i32 y] 21)).grown g5 (by simp; omega) (fun g hg => (HownV.out.lt g hg).1))
          have Own5 := Lib.hid own5
          clear own5 g5
          go_wp2
          go_roundw
          case rel =>
            refine ⟨q + 1, _, rfl, by omega, by go_num, Lib.hid ?_, Hb5⟩
            rw [Hnx.out]
            exact Own5.out
          case measure => simp [RowKit.intOf]; omega
        · obtain rfl : q = k := by omega
          have ht : (runes ys).take q = runes ys := List.take_of_length_le (by rw [List.length_map, Hyl.out]; exact Nat.le_refl _)
          rw [ht] at HownV
          clear ht
          go_wp2_with fail
          go_ret
          exact ⟨_, rfl, own_base HownV.out S3, Hb3.out.trans (HbV.out.mono S3)⟩
end Go.Proofs.YtakfgeonjamjeaaDoor
