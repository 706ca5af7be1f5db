/- The document's side of show: One, whole; Text: walked. -/
import Derived.Test.YthejfbanehnmjaaDoorRfABG
import Derived.Test.YthejfbanehnmjaaDoorDocG
import Derived.Test.YthejfbanehnmjaaDoorShKG
import Derived.Test.YthejfbanehnmjaaDoorPlG
import Derived.Lib.AppendStr
import Derived.Deep.RegionHeld3
set_option linter.unusedSimpArgs false
set_option linter.unusedVariables false
namespace Go.Proofs.YthejfbanehnmjaaDoor
open Go.RowKit Go.Shelf Go.Lib

/-- the document's One on a cluster -/
theorem rone_any (k : ByteArray) (A : Option Addr) (c B : Nat) (col tb : Int) (wd : Bool) (wt : Int) (jn rz : Bool) (w : World) (hB : B ≤ w.heap.size) (hR : RdS w B A 0 (segs k.data.toList)) (hclu : Clu k.data.toList) (hs : k.size ≤ 1073741824)
    (h0 : -9223372036854775808 ≤ col) (h1 : col ≤ 9223372036854775807) :
    OneSays k A c col tb wd wt jn rz w (oneZ (circP k.data.toList) rz wd (stopZ (tabN tb) col.toNat) k.data.toList).1 (oneZ (circP k.data.toList) rz wd (stopZ (tabN tb) col.toNat) k.data.toList).2 := by
  have hne := hclu.1
  rw [← doc_clu hclu]
  obtain ⟨x, hx1⟩ : ∃ x, (dec k.data.toList).1 = x := ⟨_, rfl⟩
  obtain ⟨z, hz1⟩ : ∃ z, (dec k.data.toList).2 = z := ⟨_, rfl⟩
  have hx : dec k.data.toList = (x, z) := Prod.ext hx1 hz1
  have hxm : x ≤ 1114111 := by rw [← hx1]; exact dec_rune k.data.toList
  obtain ⟨p1, p2, p3, p4, p5, p6, p7⟩ := k_points
  unfold oneY
  dsimp only
  rw [if_neg hne, hx1, hz1]
  by_cases hb : x = 65533 ∧ z = 1
  · rw [if_pos hb]
    exact r1_bad k A c col tb wd wt jn rz w B x z hB hR hne hx (by unfold badD; simp [hb])
  rw [if_neg hb]
  have hnb : badD (x, z) = false := by
    unfold badD
    rw [Bool.eq_false_iff]
    intro h
    have := Bool.and_eq_true_iff.1 h
    exact hb ⟨by simpa using this.1, by simpa using this.2⟩
  by_cases h9 : x = 9
  · rw [if_pos h9]
    exact r1_tab k A c col tb wd wt jn rz w B x z hB hR hne hx hnb h9 h0 h1
  rw [if_neg h9]
  by_cases hn1 : k.data.toList = [10]
  · rw [if_pos (.inl hn1)]
    exact r1_nl k A c col tb wd wt jn rz w B x z hB hR hne hx hnb hn1 h9
  by_cases hn2 : k.data.toList = [13, 10]
  · rw [if_pos (.inr hn2)]
    exact r1_crnl k A c col tb wd wt jn rz w B x z hB hR hne hx hnb hn2 h9
  rw [if_neg (fun h => h.elim hn1 hn2)]
  by_cases h32 : x < 32
  · rw [if_pos h32]
    exact r1_low k A c col tb wd wt jn rz w B x z hB hR hne hx hnb hn1 hn2 h9 h32
  rw [if_neg h32]
  by_cases h127 : x = 127
  · rw [if_pos h127]
    exact r1_del k A c col tb wd wt jn rz w B x z hB hR hne hx hnb hn1 hn2 h127
  rw [if_neg h127]
  have h32' : 32 ≤ x := by omega
  by_cases hsg : (128 ≤ x ∧ x ≤ 159) ∨ x = 8232 ∨ x = 8233 ∨ (kN x = 1 ∧ joinN x = false)
  · rw [if_pos hsg]
    cases hrz : rz with
    | false =>
      rw [show sgnZ false x = ([], 0) from rfl, ← hrz]
      by_cases a1 : 128 ≤ x ∧ x ≤ 159
      · exact r1_sgA0 k A c col tb wd wt jn rz w B x z hB hR hne hx hnb hn1 hn2 a1 h32' h127 hrz
      by_cases a2 : x = 8232
      · exact r1_sgB0 k A c col tb wd wt jn rz w B x z hB hR hne hx hnb hn1 hn2 a2 h32' h127 hrz
      by_cases a3 : x = 8233
      · exact r1_sgC0 k A c col tb wd wt jn rz w B x z hB hR hne hx hnb hn1 hn2 a3 h32' h127 hrz
      have a4 : kN x = 1 ∧ joinN x = false := hsg.elim (fun h => absurd h a1) (fun h => h.elim (fun h => absurd h a2) (fun h => h.elim (fun h => absurd h a3) id))
      by_cases a5 : 128 ≤ x
      · exact r1_sgE0 k A c col tb wd wt jn rz w B x z hB hR hne hx hnb hn1 hn2 ⟨a5, fun h => a1 ⟨a5, h⟩⟩ a2 a3 a4.1 a4.2 h32' h127 hrz
      · exact r1_sgD0 k A c col tb wd wt jn rz w B x z hB hR hne hx hnb hn1 hn2 a5 a2 a3 a4.1 a4.2 h32' h127 hrz
    | true =>
      rw [show sgnZ true x = (angZ x 4, (angZ x 4).length) from rfl, ← hrz]
      by_cases a1 : 128 ≤ x ∧ x ≤ 159
      · exact r1_sgA1 k A c col tb wd wt jn rz w B x z hB hR hne hx hnb hn1 hn2 a1 h32' h127 hrz (by omega)
      by_cases a2 : x = 8232
      · exact r1_sgB1 k A c col tb wd wt jn rz w B x z hB hR hne hx hnb hn1 hn2 a2 h32' h127 hrz (by omega)
      by_cases a3 : x = 8233
      · exact r1_sgC1 k A c col tb wd wt jn rz w B x z hB hR hne hx hnb hn1 hn2 a3 h32' h127 hrz (by omega)
      have a4 : kN x = 1 ∧ joinN x = false := hsg.elim (fun h => absurd h a1) (fun h => h.elim (fun h => absurd h a2) (fun h => h.elim (fun h => absurd h a3) id))
      by_cases a5 : 128 ≤ x
      · exact r1_sgE1 k A c col tb wd wt jn rz w B x z hB hR hne hx hnb hn1 hn2 ⟨a5, fun h => a1 ⟨a5, h⟩⟩ a2 a3 a4.1 a4.2 h32' h127 hrz (by omega)
      · exact r1_sgD1 k A c col tb wd wt jn rz w B x z hB hR hne hx hnb hn1 hn2 a5 a2 a3 a4.1 a4.2 h32' h127 hrz (by omega)
  rw [if_neg hsg]
  have a1 : ¬ (128 ≤ x ∧ x ≤ 159) := fun h => hsg (.inl h)
  have a2 : x ≠ 8232 := fun h => hsg (.inr (.inl h))
  have a3 : x ≠ 8233 := fun h => hsg (.inr (.inr (.inl h)))
  have a4 : ¬ (kN x = 1 ∧ joinN x = false) := fun h => hsg (.inr (.inr (.inr h)))
  have hway : (¬ 128 ≤ x) ∨ (128 ≤ x ∧ ¬ x ≤ 159) := by omega
  by_cases hk2 : kN x = 2
  · rw [if_pos (.inl hk2)]
    by_cases hl : (segs k.data.toList).length = 32
    · rcases hway with a5 | a5
      · exact r1_mk2af k A c col tb wd wt jn rz w B x z hB hR hne hx hnb hn1 hn2 a5 a2 a3 hk2 h32' h127 hs hl
      · exact r1_mk2bf k A c col tb wd wt jn rz w B x z hB hR hne hx hnb hn1 hn2 a5 a2 a3 hk2 h32' h127 hs hl
    · rcases hway with a5 | a5
      · exact r1_mk2as k A c col tb wd wt jn rz w B x z hB hR hne hx hnb hn1 hn2 a5 a2 a3 hk2 h32' h127 hs hl
      · exact r1_mk2bs k A c col tb wd wt jn rz w B x z hB hR hne hx hnb hn1 hn2 a5 a2 a3 hk2 h32' h127 hs hl
  by_cases hj : joinN x = true
  · rw [if_pos (.inr hj)]
    have hxj : x = 8204 ∨ x = 8205 := by
      unfold joinN at hj
      simpa using hj
    have hk1 : kN x = 1 := by rcases hxj with rfl | rfl; exact p3; exact p4
    by_cases hl : (segs k.data.toList).length = 32
    · exact r1_mkjf k A c col tb wd wt jn rz w B x z hB hR hne hx hnb hn1 hn2 (by omega) a2 a3 hk1 hj h32' h127 hs hl
    · exact r1_mkjs k A c col tb wd wt jn rz w B x z hB hR hne hx hnb hn1 hn2 (by omega) a2 a3 hk1 hj h32' h127 hs hl
  rw [if_neg (fun h => h.elim hk2 hj)]
  have hjf : joinN x = false := by simpa using hj
  have hk1 : kN x ≠ 1 := fun h => a4 ⟨h, hjf⟩
  by_cases hrr : 1 < (segs k.data.toList).length ∧ regN x = true ∧ regN (secZ k.data.toList) = true
  · rw [if_pos hrr]
    rcases hway with a5 | a5
    · exact r1_rega k A c col tb wd wt jn rz w B x z hB hR hne hx hnb hn1 hn2 h32' h127 a2 a3 hk1 hk2 hjf a5 hrr.1 hrr.2.1 hrr.2.2
    · exact r1_regb k A c col tb wd wt jn rz w B x z hB hR hne hx hnb hn1 hn2 h32' h127 a2 a3 hk1 hk2 hjf a5 hrr.1 hrr.2.1 hrr.2.2
  rw [if_neg hrr]
  have hwide : ∀ v : Nat, (if v = 0 then (([] : List UInt8), 0) else (k.data.toList, v)) = ((if v = 0 then [] else k.data.toList), v) := by
    intro v
    split
    · rename_i h
      rw [h]
    · rfl
  by_cases hm1 : 1 < (segs k.data.toList).length
  · have hreg : (regN x = false) ∨ (regN x = true ∧ regN (secZ k.data.toList) = false) := by
      cases e1 : regN x with
      | false => exact .inl rfl
      | true =>
        right
        refine ⟨rfl, ?_⟩
        cases e2 : regN (secZ k.data.toList) with
        | false => rfl
        | true => exact absurd ⟨hm1, e1, e2⟩ hrr
    by_cases hw : kN x = 7 ∧ wideOf (cls widthsL (char (x : Int))) wd = 1 ∧ 1 < (segs k.data.toList).length ∧ secZ k.data.toList = 65039
    · rw [if_pos hw]
      obtain ⟨w1, w2, _, w4⟩ := hw
      rcases hreg with e1 | ⟨e1, e2⟩ <;> rcases hway with a5 | a5
      · exact r1_twoxa k A c col tb wd wt jn rz w B x z hB hR hne hx hnb hn1 hn2 h32' h127 a2 a3 hk1 hk2 hjf a5 hm1 e1 w1 w2 w4
      · exact r1_twoxb k A c col tb wd wt jn rz w B x z hB hR hne hx hnb hn1 hn2 h32' h127 a2 a3 hk1 hk2 hjf a5 hm1 e1 w1 w2 w4
      · exact r1_twoya k A c col tb wd wt jn rz w B x z hB hR hne hx hnb hn1 hn2 h32' h127 a2 a3 hk1 hk2 hjf a5 hm1 e1 e2 w1 w2 w4
      · exact r1_twoyb k A c col tb wd wt jn rz w B x z hB hR hne hx hnb hn1 hn2 h32' h127 a2 a3 hk1 hk2 hjf a5 hm1 e1 e2 w1 w2 w4
    · rw [if_neg hw, hwide]
      have hnw : ¬ (kN x = 7 ∧ wideOf (cls widthsL (char (x : Int))) wd = 1 ∧ secZ k.data.toList = 65039) := fun h => hw ⟨h.1, h.2.1, hm1, h.2.2⟩
      rcases hreg with e1 | ⟨e1, e2⟩ <;> rcases hway with a5 | a5
      · exact r1_widxa k A c col tb wd wt jn rz w B x z hB hR hne hx hnb hn1 hn2 h32' h127 a2 a3 hk1 hk2 hjf a5 hm1 e1 hnw
      · exact r1_widxb k A c col tb wd wt jn rz w B x z hB hR hne hx hnb hn1 hn2 h32' h127 a2 a3 hk1 hk2 hjf a5 hm1 e1 hnw
      · exact r1_widya k A c col tb wd wt jn rz w B x z hB hR hne hx hnb hn1 hn2 h32' h127 a2 a3 hk1 hk2 hjf a5 hm1 e1 e2 hnw
      · exact r1_widyb k A c col tb wd wt jn rz w B x z hB hR hne hx hnb hn1 hn2 h32' h127 a2 a3 hk1 hk2 hjf a5 hm1 e1 e2 hnw
  · rw [if_neg (fun h => hm1 h.2.2.1), hwide]
    rcases hway with a5 | a5
    · exact r1_onea k A c col tb wd wt jn rz w B x z hB hR hne hx hnb hn1 hn2 h32' h127 a2 a3 hk1 hk2 hjf a5 hm1
    · exact r1_oneb k A c col tb wd wt jn rz w B x z hB hR hne hx hnb hn1 hn2 h32' h127 a2 a3 hk1 hk2 hjf a5 hm1
set_option maxRecDepth 100000 in
set_option maxHeartbeats 1000000 in
/-- the document's Text -/
theorem rtext6_any (s : ByteArray) (col tb : Int) (wd : Bool) (wt : Int) (jn rz : Bool) (w : World) (hs : s.size ≤ 1073741824) (h0 : -9223372036854775808 ≤ col) (h1 : col ≤ 9223372036854775807) :
    Calls Tryd.prog 11 #[.string s, .int .i64 col, lookV tb wd wt jn rz] w fun e w' =>
      e = .returned (.tuple #[.string ⟨(textZ rz wd tb col.toNat s.data.toList).1.toArray⟩, .int .i64 (((textZ rz wd tb col.toNat s.data.toList).2 : Nat) : Int)]) ∧ Below w.heap.size w w' := by
  obtain ⟨B, hB⟩ : ∃ B, w.heap.size = B := ⟨_, rfl⟩
  have HN := Lib.hid (fun W => rnext_any s W hs)
  have hfe := first_ext s
  have hle := placeAt_le s (clEnd s 0)
  obtain ⟨E, hE⟩ : ∃ E, placeAt s (clEnd s 0) = E := ⟨_, rfl⟩
  rw [hE] at HN hfe hle
  obtain ⟨K, hK⟩ : ∃ K, s.extract 0 E = K := ⟨_, rfl⟩
  rw [hK] at hfe
  have hKs : K.size ≤ 1073741824 := by rw [← hK]; simp; omega
  unfold textZ
  rw [← hfe]
  have hclu : s.data.toList ≠ [] → Clu K.data.toList := fun h => by rw [hfe]; exact first_clu h
  have hnil : s.data.toList = [] → K.data.toList = [] := fun h => by rw [hfe, h]; exact first_nil
  have hL := LookAt.new w 24 tb wd wt jn rz
  have hb : Below w.heap.size w (w.alloc (.cells #[.int .i64 tb, .bool wd, .int .i8 wt, .bool jn, .bool rz] 24)) := (Below.refl _ w).alloc (Nat.le_refl _) _
  obtain ⟨W, hW⟩ : ∃ W, w.alloc (.cells #[.int .i64 tb, .bool wd, .int .i8 wt, .bool jn, .bool rz] 24) = W := ⟨_, rfl⟩
  have hsz : w.heap.size < W.heap.size := by rw [← hW]; simp
  rw [hW] at hL hb
  rw [hB] at hL hb hsz ⊢
  have hei : (E : Int) ≤ (s.size : Int) := by omega
  have HL := Lib.hid hL
  have Hb := Lib.hid hb
  clear hL hb hfe hE
  by_cases hne : s.data.toList = []
  · have hk := hnil hne
    rw [hk]
    have hke : K.toList.isEmpty = true := by rw [toList_data, hk]; rfl
    clear hclu hnil hne
    go_enter Tryd.func11, Tryd.ntmps11
    go_wp2_with fail
    try rw [hW]
    clear hW
    refine (HN.out _).mono ?_
    rintro _ w1 ⟨rfl, b1⟩
    have Hb1 := Lib.hid (Hb.out.trans (b1.mono (by omega)))
    clear b1
    go_wp2
    go_ret2
    exact ⟨rfl, Hb1.out⟩
  · have hk := hclu hne
    have hke : K.toList.isEmpty = false := by
      rw [toList_data]
      cases e : K.data.toList with
      | nil => exact absurd e hk.1
      | cons a t => rfl
    have HS := Lib.hid (fun W => signs_any K W hKs)
    have HO := Lib.hid (fun A c B W hB hR => rone_any K A c B col tb wd wt jn rz W hB hR hk hKs h0 h1)
    unfold OneSays at HO
    obtain ⟨X, hX⟩ : ∃ X, oneZ (circP K.data.toList) rz wd (stopZ (tabN tb) col.toNat) K.data.toList = X := ⟨_, rfl⟩
    rw [hX] at HO ⊢
    obtain ⟨X1, X2⟩ := X
    have hch : chars K = (segs K.data.toList).length := rfl
    rw [hch] at HS
    obtain ⟨m, hm⟩ : ∃ m, (segs K.data.toList).length = m := ⟨_, rfl⟩
    rw [hm] at HS HO
    have Hm := Lib.hid hm
    clear hclu hnil hne hk hX hch hm
    go_enter Tryd.func11, Tryd.ntmps11
    go_wp2_with fail
    try rw [hW]
    clear hW
    refine (HN.out _).mono ?_
    rintro _ w1 ⟨rfl, b1⟩
    have Hb1 := Lib.hid (Hb.out.trans (b1.mono (by omega)))
    have hlt : B < w1.drew.heap.size := by have := b1.size; show B < w1.heap.size; omega
    have HLd : Hid (LookAt w1.drew B tb wd wt jn rz) := Lib.hid (by have h := HL.out.below b1 hsz; exact ⟨h.c0, h.c1, h.c2, h.c3, h.c4⟩)
    clear b1
    go_wp2_with fail
    go_region_held3 (fun w' => w'.cell? ⟨B, 0, none⟩ = some (.int .i64 tb) ∧ w'.cell? ⟨B, 1, none⟩ = some (.bool wd) ∧ w'.cell? ⟨B, 2, none⟩ = some (.int .i8 wt) ∧ w'.cell? ⟨B, 3, none⟩ = some (.bool jn) ∧ w'.cell? ⟨B, 4, none⟩ = some (.bool rz))
      (first
        | exact ⟨HLd.out.c0, HLd.out.c1, HLd.out.c2, HLd.out.c3, HLd.out.c4⟩
        | exact ⟨(HLd.out.below b2 hlt).c0, (HLd.out.below b2 hlt).c1, (HLd.out.below b2 hlt).c2, (HLd.out.below b2 hlt).c3, (HLd.out.below b2 hlt).c4⟩
        | exact ⟨((HLd.out.below b2 hlt).below b3 (by have := b2.size; omega)).c0, ((HLd.out.below b2 hlt).below b3 (by have := b2.size; omega)).c1, ((HLd.out.below b2 hlt).below b3 (by have := b2.size; omega)).c2, ((HLd.out.below b2 hlt).below b3 (by have := b2.size; omega)).c3, ((HLd.out.below b2 hlt).below b3 (by have := b2.size; omega)).c4⟩)
      (first
        | (go_at_call 26; refine (HS.out _).mono ?_; rintro e w2 ⟨A2, c2, rfl, own2, b2⟩)
        | (go_at_call 25; refine (HO.out A2 c2 w2.heap.size w2 (Nat.le_refl _) (by unfold RdS; rw [Hm.out]; exact Rd.own own2)).mono ?_; rintro e w3 ⟨rfl, b3⟩))
    have hfin : Below B w w3 := (Hb1.out.drew.trans (b2.mono (by omega))).trans (b3.mono (by have := b2.size; omega))
    go_wp2
    go_ret2
    exact ⟨rfl, hfin⟩
end Go.Proofs.YthejfbanehnmjaaDoor

/- The document's side of show: Wide, Cut, Plain: walked. MADE: tools/mkrfd6.py (drawn regions out of the seat's own text). -/
namespace Go.Proofs.YthejfbanehnmjaaDoor
open Go.RowKit Go.Shelf Go.Lib

theorem text_clu6 (rz wd : Bool) (tb : Int) (col : Nat) {k : List UInt8} (h : Clu k) : textZ rz wd tb col k = oneZ (circP k) rz wd (stopZ (tabN tb) col) k := by
  unfold textZ
  rw [first_self h]
theorem kB_take6 (s : ByteArray) (k : Nat) (x : Nat × ByteArray) (h : (pcs s)[k]? = some x) (rz wd : Bool) (T c : Nat) :
    sumW rz wd T ((clsB s).take (k + 1)) c = sumW rz wd T ((clsB s).take k) c + wOf rz wd (stopZ T (c + sumW rz wd T ((clsB s).take k) c)) x.2.data.toList := by
  rw [clsB_take, clsB_take, take_snoc _ _ _ h, kB_snoc, sumW_snoc]

set_option maxRecDepth 100000 in
set_option maxHeartbeats 2000000 in
theorem rwide6_any (s : ByteArray) (col tb : Int) (wd : Bool) (wt : Int) (jn rz : Bool) (w : World) (hs : s.size ≤ 1073741824) (h0 : -9223372036854775808 ≤ col) (h1 : col ≤ 9223372036854775807) :
    Calls Tryd.prog 14 #[.string s, .int .i64 col, lookV tb wd wt jn rz] w fun e w' => e = .returned (.int .i64 ((wideZ rz wd tb s col.toNat : Nat) : Int)) ∧ Below w.heap.size w w' := by
  obtain ⟨B, hB⟩ : ∃ B, w.heap.size = B := ⟨_, rfl⟩
  have hpl := pcs_len s
  have htb := tabN_bounds tb
  have HAll := Lib.hid (fun W => rall_any s W hs)
  have HTx := Lib.hid (fun k c W hk h0 h1 => rtext6_any k c tb wd wt jn rz W hk h0 h1)
  have hsb := fun L c => sumW_bound rz wd tb L c
  have hL := LookAt.new w 24 tb wd wt jn rz
  have hb : Below w.heap.size w (w.alloc (.cells #[.int .i64 tb, .bool wd, .int .i8 wt, .bool jn, .bool rz] 24)) := (Below.refl _ w).alloc (Nat.le_refl _) _
  obtain ⟨W0, hW0⟩ : ∃ W, w.alloc (.cells #[.int .i64 tb, .bool wd, .int .i8 wt, .bool jn, .bool rz] 24) = W := ⟨_, rfl⟩
  have hsz0 : w.heap.size < W0.heap.size := by rw [← hW0]; simp
  rw [hW0] at hL hb
  rw [hB] at hL hb hsz0 ⊢
  have HL0 := Lib.hid hL
  have Hb0 := Lib.hid hb
  clear hL hb
  have hRt := fun c (hc : c ≤ 9223372036854775807) W => rrest_any c hc tb wd wt jn rz W
  obtain ⟨c, hc⟩ : ∃ c, col.toNat = c := ⟨_, rfl⟩
  have hcb : c ≤ 9223372036854775807 := by omega
  have hcol : (col < 0 ∧ c = 0) ∨ (¬ col < 0 ∧ col = (c : Int)) := by omega
  unfold wideZ
  rw [hc]
  clear hc
  obtain ⟨T, hT⟩ : ∃ T, tabN tb = T := ⟨_, rfl⟩
  rw [hT] at htb hsb hRt ⊢
  have HRt := Lib.hid hRt
  have HT := Lib.hid hT
  clear hRt hT
  have loop : ∀ (w1 : World) (A : Option Addr) (cp N : Nat) (HN : Hid ((pcs s).length = N)) (hpl : N ≤ s.size) (hs1 : B < w1.heap.size) (HL1 : Hid (LookAt w1 B tb wd wt jn rz)) (HR1 : Hid (RdP w1 w1.heap.size A (pcs s))), True := fun _ _ _ _ _ _ _ _ _ => trivial
  clear loop
  rcases hcol with ⟨hc1, hc2⟩ | ⟨hc1, hc2⟩
  · subst hc2
    go_enter Tryd.func14, Tryd.ntmps14
    go_wp2_with fail
    try rw [hW0]
    clear hW0
    refine (HAll.out _).mono ?_
    rintro _ w1 ⟨A, cp, rfl, own1, b1⟩
    have hs1 : B < w1.heap.size := by have := b1.size; omega
    have HL1 := Lib.hid (HL0.out.below b1 hsz0)
    have Hb1 := Lib.hid (Hb0.out.trans (b1.mono (by omega)))
    have HR1 : Hid (RdP w1 w1.heap.size A (pcs s)) := Lib.hid (by unfold RdP; exact Rd.own own1)
    clear b1 own1
    obtain ⟨N, hN⟩ : ∃ N, (pcs s).length = N := ⟨_, rfl⟩
    rw [hN] at hpl
    have HN := Lib.hid hN
    simp only [hN]
    clear hN
    go_wp2_with fail
    go_loopw [7, 9] (fun al i wr => ∃ k : Nat, i = .int .i64 (k : Int) ∧ k ≤ N ∧ al = .int .i64 ((sumW rz wd T ((clsB s).take k) 0 : Nat) : Int) ∧ Below w1.heap.size w1 wr) (fun _ i _ => N - (RowKit.intOf i).toNat)
    case atStart => exact ⟨0, rfl, Nat.zero_le _, rfl, Below.refl _ _⟩
    case round =>
      obtain ⟨k, rfl, hk, rfl, hbw⟩ := hrel
      by_cases hkn : k < N
      · skip
        obtain ⟨x, hx⟩ : ∃ x, (pcs s)[k]? = some x := ⟨_, List.getElem?_eq_getElem (by rw [HN.out]; exact hkn)⟩
        have hmem := List.mem_of_getElem? hx
        have hclu := pcs_clu s hmem
        have hxs := pcsF_size s _ _ x hmem
        obtain ⟨a, rfl, hab, e0, e1⟩ := HR1.out.at_ hx
        rw [add_next] at e1
        have hst := kB_take6 s k x hx rz wd T 0
        have hSl := hsb ((clsB s).take k) 0
        rw [List.length_take] at hSl
        obtain ⟨S, hS⟩ : ∃ S, sumW rz wd T ((clsB s).take k) 0 = S := ⟨_, rfl⟩
        rw [hS] at hst hSl ⊢
        have hSb : S ≤ 9223372036854775807 := by omega
        obtain ⟨q1, hq1⟩ : ∃ q, 0 % T = q := ⟨_, rfl⟩
        obtain ⟨q2, hq2⟩ : ∃ q, S % T = q := ⟨_, rfl⟩
        have hm1 : q1 < T := by rw [← hq1]; exact Nat.mod_lt _ (by omega)
        have hm2 : q2 < T := by rw [← hq2]; exact Nat.mod_lt _ (by omega)
        have hstop : stopZ T (q1 + q2) = stopZ T (0 + S) := by rw [← hq1, ← hq2]; exact stop_two T _ _
        have hv := text_clu6 rz wd tb (q1 + q2) hclu
        rw [HT.out, hstop] at hv
        have hv2 : (textZ rz wd tb (q1 + q2) x.2.data.toList).2 = wOf rz wd (stopZ T (0 + S)) x.2.data.toList := by rw [hv]; exact clu_answer _ _ _ _ _
        have htx := fun W => HTx.out x.2 ((q1 : Int) + (q2 : Int)) W (by omega) (by omega) (by omega)
        rw [show ((q1 : Int) + (q2 : Int)).toNat = q1 + q2 by omega] at htx
        obtain ⟨Y, hY⟩ : ∃ Y, textZ rz wd tb (q1 + q2) x.2.data.toList = Y := ⟨_, rfl⟩
        rw [hY] at htx hv2
        obtain ⟨Y1, v⟩ := Y
        simp only at hv2 htx
        rw [← hv2] at hst
        have hvb : v ≤ 16 := by rw [hv2]; exact wOf_le _ _ _ _ (by unfold stopZ; omega)
        have HRc := Lib.hid (HRt.out 0 hcb)
        rw [hq1] at HRc
        have HRs := Lib.hid (HRt.out S hSb)
        rw [hq2] at HRs
        have HTx2 := Lib.hid htx
        have hw1 : IntKind.i64.wrap ((q1 : Int) + (q2 : Int)) = (q1 : Int) + (q2 : Int) := IntWalk.i64_in _ (by omega)
        have hw2 : IntKind.i64.wrap ((S : Int) + (v : Int)) = ((S + v : Nat) : Int) := by rw [IntWalk.i64_in _ (by omega)]; omega
        have hw3 : IntKind.i64.wrap ((k : Int) + 1) = (k : Int) + 1 := IntWalk.i64_in _ (by omega)
        have hki : (k : Int) < (N : Int) := by omega
        have hwrs : w1.heap.size ≤ wr.heap.size := hbw.size
        have HS : Hid (∀ W, Below wr.heap.size wr W → (fun W => (W.cell? (a.add (k * 2)) = some (.int .i64 (x.1 : Int)) ∧ W.cell? ⟨(a.add (k * 2)).block, (a.add (k * 2)).off + 1, none⟩ = some (.string x.2)) ∧ (W.cell? ⟨B, 0, none⟩ = some (.int .i64 tb) ∧ W.cell? ⟨B, 1, none⟩ = some (.bool wd) ∧ W.cell? ⟨B, 2, none⟩ = some (.int .i8 wt) ∧ W.cell? ⟨B, 3, none⟩ = some (.bool jn) ∧ W.cell? ⟨B, 4, none⟩ = some (.bool rz))) W) := Lib.hid (fun W hb => by
          have hbB : Below w1.heap.size w1 W := hbw.trans (hb.mono hwrs)
          have q := HL1.out.below hbB hs1
          exact ⟨⟨(hbB.cell (by rw [add_block]; exact hab)).trans e0, (hbB.cell (p := ⟨(a.add (k * 2)).block, (a.add (k * 2)).off + 1, none⟩) (by show (a.add (k * 2)).block < _; rw [add_block]; exact hab)).trans e1⟩, ⟨q.c0, q.c1, q.c2, q.c3, q.c4⟩⟩)
        have Hv0 := Lib.hid ((Below.refl wr.heap.size wr).drew)
        have Hbw := Lib.hid hbw
        have Hst := Lib.hid hst
        clear hst hv hv2 hY htx hclu hmem hx e0 e1 hbw hS hq1 hq2 hstop
        go_wp2_with fail
        refine wp_region_noPanic ?_
        refine wp_region_held_drew (S := (fun W => (W.cell? (a.add (k * 2)) = some (.int .i64 (x.1 : Int)) ∧ W.cell? ⟨(a.add (k * 2)).block, (a.add (k * 2)).off + 1, none⟩ = some (.string x.2)) ∧ (W.cell? ⟨B, 0, none⟩ = some (.int .i64 tb) ∧ W.cell? ⟨B, 1, none⟩ = some (.bool wd) ∧ W.cell? ⟨B, 2, none⟩ = some (.int .i8 wt) ∧ W.cell? ⟨B, 3, none⟩ = some (.bool jn) ∧ W.cell? ⟨B, 4, none⟩ = some (.bool rz)))) (by kernel_rfl) (HS.out _ Hv0.out) (fun hHeld => ?_)
        refine wpAnyH_take (i := 0) (oi := ({ dst := some 23, op := Op.move (Operand.tmp 8), type := 45, pos := "ref.go:107", after := #[], guard := none } : Oper)) (v := ?_) rfl (by kernel_rfl) (by kernel_rfl) (by kernel_rfl) (fun _ _ _ h => h) (Or.inl ⟨by rfl, ?_⟩) (by assumption) ?_
        rotate_left
        · (intro w hSw; (try dsimp only at hSw); go_simp; all_goals (with_reducible rfl))
        try simp only [Act.put, List.setIfInBounds_toArray, List.set_cons_zero, List.set_cons_succ]
        refine wpAnyH_take (i := 1) (oi := ({ dst := some 24, op := Op.move (Operand.tmp 9), type := 3, pos := "ref.go:107", after := #[], guard := none } : Oper)) (v := ?_) rfl (by kernel_rfl) (by kernel_rfl) (by kernel_rfl) (fun _ _ _ h => h) (Or.inl ⟨by rfl, ?_⟩) (by assumption) ?_
        rotate_left
        · (intro w hSw; (try dsimp only at hSw); go_simp; all_goals (with_reducible rfl))
        try simp only [Act.put, List.setIfInBounds_toArray, List.set_cons_zero, List.set_cons_succ]
        refine wpAnyH_take (i := 2) (oi := ({ dst := some 25, op := Op.indexAddr 45 (Operand.tmp 23) (Operand.tmp 24), type := 0, pos := "ref.go:107", after := #[{ on := 0, ground := Ground.data }, { on := 1, ground := Ground.data }], guard := none } : Oper)) (v := ?_) rfl (by kernel_rfl) (by kernel_rfl) (by kernel_rfl) (fun _ _ _ h => h) (Or.inl ⟨by rfl, ?_⟩) (by assumption) ?_
        rotate_left
        · (intro w hSw; (try dsimp only at hSw); go_simp; all_goals (with_reducible rfl))
        try simp only [Act.put, List.setIfInBounds_toArray, List.set_cons_zero, List.set_cons_succ]
        refine wpAnyH_take (i := 3) (oi := ({ dst := some 26, op := Op.fieldAddr 48 (Operand.tmp 25) 1, type := 0, pos := "ref.go:107", after := #[{ on := 2, ground := Ground.data }], guard := none } : Oper)) (v := ?_) rfl (by kernel_rfl) (by kernel_rfl) (by kernel_rfl) (fun _ _ _ h => h) (Or.inl ⟨by rfl, ?_⟩) (by assumption) ?_
        rotate_left
        · (intro w hSw; (try dsimp only at hSw); go_simp; all_goals (with_reducible rfl))
        try simp only [Act.put, List.setIfInBounds_toArray, List.set_cons_zero, List.set_cons_succ]
        refine wpAnyH_take (i := 4) (oi := ({ dst := some 27, op := Op.load 9 (Operand.tmp 26), type := 9, pos := "ref.go:107", after := #[{ on := 3, ground := Ground.data }], guard := none } : Oper)) (v := ?_) rfl (by kernel_rfl) (by kernel_rfl) (by kernel_rfl) (fun _ _ _ h => h) (Or.inl ⟨by rfl, ?_⟩) (by assumption) ?_
        rotate_left
        · (intro w hSw; (try dsimp only at hSw); go_simp; all_goals (with_reducible rfl))
        try simp only [Act.put, List.setIfInBounds_toArray, List.set_cons_zero, List.set_cons_succ]
        refine wpAnyH_take (i := 5) (oi := ({ dst := some 28, op := Op.move (Operand.tmp 1), type := 3, pos := "ref.go:107", after := #[], guard := none } : Oper)) (v := ?_) rfl (by kernel_rfl) (by kernel_rfl) (by kernel_rfl) (fun _ _ _ h => h) (Or.inl ⟨by rfl, ?_⟩) (by assumption) ?_
        rotate_left
        · (intro w hSw; (try dsimp only at hSw); go_simp; all_goals (with_reducible rfl))
        try simp only [Act.put, List.setIfInBounds_toArray, List.set_cons_zero, List.set_cons_succ]
        refine wpAnyH_take (i := 6) (oi := ({ dst := some 29, op := Op.load 24 (Operand.tmp 5), type := 24, pos := "ref.go:107", after := #[], guard := none } : Oper)) (v := ?_) rfl (by kernel_rfl) (by kernel_rfl) (by kernel_rfl) (fun _ _ _ h => h) (Or.inl ⟨by rfl, ?_⟩) (by assumption) ?_
        rotate_left
        · (intro w hSw; (try dsimp only at hSw); go_simp; all_goals (with_reducible rfl))
        try simp only [Act.put, List.setIfInBounds_toArray, List.set_cons_zero, List.set_cons_succ]
        refine wpAnyH_take (i := 8) (oi := ({ dst := some 31, op := Op.move (Operand.tmp 7), type := 3, pos := "ref.go:107", after := #[], guard := none } : Oper)) (v := ?_) rfl (by kernel_rfl) (by kernel_rfl) (by kernel_rfl) (fun _ _ _ h => h) (Or.inl ⟨by rfl, ?_⟩) (by assumption) ?_
        rotate_left
        · (intro w hSw; (try dsimp only at hSw); go_simp; all_goals (with_reducible rfl))
        try simp only [Act.put, List.setIfInBounds_toArray, List.set_cons_zero, List.set_cons_succ]
        refine wpAnyH_take (i := 9) (oi := ({ dst := some 32, op := Op.load 24 (Operand.tmp 5), type := 24, pos := "ref.go:107", after := #[], guard := none } : Oper)) (v := ?_) rfl (by kernel_rfl) (by kernel_rfl) (by kernel_rfl) (fun _ _ _ h => h) (Or.inl ⟨by rfl, ?_⟩) (by assumption) ?_
        rotate_left
        · (intro w hSw; (try dsimp only at hSw); go_simp; all_goals (with_reducible rfl))
        try simp only [Act.put, List.setIfInBounds_toArray, List.set_cons_zero, List.set_cons_succ]
        refine wpAnyH_take (i := 12) (oi := ({ dst := some 35, op := Op.load 24 (Operand.tmp 5), type := 24, pos := "ref.go:107", after := #[], guard := none } : Oper)) (v := ?_) rfl (by kernel_rfl) (by kernel_rfl) (by kernel_rfl) (fun _ _ _ h => h) (Or.inl ⟨by rfl, ?_⟩) (by assumption) ?_
        rotate_left
        · (intro w hSw; (try dsimp only at hSw); go_simp; all_goals (with_reducible rfl))
        try simp only [Act.put, List.setIfInBounds_toArray, List.set_cons_zero, List.set_cons_succ]
        refine wpAnyH_ready (rs := [7]) (by kernel_rfl) (by simp) ?_
        refine AllReadyH.cons (o := ({ dst := some 30, op := Op.call { callee := Callee.value (Operand.func 29), args := #[Operand.tmp 28, Operand.tmp 29], argTypes := #[3, 24] }, type := 3, pos := "ref.go:107", after := #[{ on := 5, ground := Ground.data }, { on := 6, ground := Ground.data }], guard := none } : Oper)) rfl (fun K hK => ?_) AllReadyH.nil
        (go_simp; go_at_call 29; refine (HRc.out _).mono ?_; rintro _ v1 ⟨rfl, bb1⟩; have Hv1 := Lib.hid (Hv0.out.trans (bb1.mono Hv0.out.size)); clear bb1; (try dsimp only))
        refine hK.out _ _ (HS.out _ Hv1.out) (fun hHeld => ?_)
        clear hK K
        try simp only [Act.put, List.setIfInBounds_toArray, List.set_cons_zero, List.set_cons_succ]
        refine wpAnyH_ready (rs := [10]) (by kernel_rfl) (by simp) ?_
        refine AllReadyH.cons (o := ({ dst := some 33, op := Op.call { callee := Callee.value (Operand.func 29), args := #[Operand.tmp 31, Operand.tmp 32], argTypes := #[3, 24] }, type := 3, pos := "ref.go:107", after := #[{ on := 8, ground := Ground.data }, { on := 9, ground := Ground.data }, { on := 7, ground := Ground.chain }], guard := none } : Oper)) rfl (fun K hK => ?_) AllReadyH.nil
        (go_simp; go_at_call 29; refine (HRs.out _).mono ?_; rintro _ v2 ⟨rfl, bb2⟩; have Hv2 := Lib.hid (Hv1.out.trans (bb2.mono Hv1.out.size)); clear bb2; (try dsimp only))
        refine hK.out _ _ (HS.out _ Hv2.out) (fun hHeld => ?_)
        clear hK K
        try simp only [Act.put, List.setIfInBounds_toArray, List.set_cons_zero, List.set_cons_succ]
        refine wpAnyH_take (i := 11) (oi := ({ dst := some 34, op := Op.binOp BinOp.add 3 (Operand.tmp 30) (Operand.tmp 33) 3, type := 3, pos := "ref.go:107", after := #[{ on := 7, ground := Ground.data }, { on := 10, ground := Ground.data }], guard := none } : Oper)) (v := ?_) rfl (by kernel_rfl) (by kernel_rfl) (by kernel_rfl) (fun _ _ _ h => h) (Or.inl ⟨by rfl, ?_⟩) (by assumption) ?_
        rotate_left
        · (intro w hSw; (try dsimp only at hSw); go_simp; all_goals (with_reducible rfl))
        try simp only [Act.put, List.setIfInBounds_toArray, List.set_cons_zero, List.set_cons_succ]
        refine wpAnyH_ready (rs := [13]) (by kernel_rfl) (by simp) ?_
        refine AllReadyH.cons (o := ({ dst := some 36, op := Op.call { callee := Callee.value (Operand.func 11), args := #[Operand.tmp 27, Operand.tmp 34, Operand.tmp 35], argTypes := #[9, 3, 24] }, type := 25, pos := "ref.go:107", after := #[{ on := 4, ground := Ground.data }, { on := 11, ground := Ground.data }, { on := 12, ground := Ground.data }, { on := 10, ground := Ground.chain }], guard := none } : Oper)) rfl (fun K hK => ?_) AllReadyH.nil
        (go_simp; go_at_call 11; refine (HTx2.out _).mono ?_; rintro _ v3 ⟨rfl, bb3⟩; have Hv3 := Lib.hid (Hv2.out.trans (bb3.mono Hv2.out.size)); clear bb3; (try dsimp only))
        refine hK.out _ _ (HS.out _ Hv3.out) (fun hHeld => ?_)
        clear hK K
        try simp only [Act.put, List.setIfInBounds_toArray, List.set_cons_zero, List.set_cons_succ]
        refine wpAnyH_take (i := 14) (oi := ({ dst := some 22, op := Op.move (Operand.tmp 36), type := 25, pos := "ref.go:107", after := #[{ on := 13, ground := Ground.data }], guard := none } : Oper)) (v := ?_) rfl (by kernel_rfl) (by kernel_rfl) (by kernel_rfl) (fun _ _ _ h => h) (Or.inl ⟨by rfl, ?_⟩) (by assumption) ?_
        rotate_left
        · (intro w hSw; (try dsimp only at hSw); go_simp; all_goals (with_reducible rfl))
        try simp only [Act.put, List.setIfInBounds_toArray, List.set_cons_zero, List.set_cons_succ]
        refine wpAnyH_take (i := 15) (oi := ({ dst := some 37, op := Op.extract (Operand.tmp 22) 0, type := 9, pos := "ref.go:107", after := #[{ on := 14, ground := Ground.data }], guard := none } : Oper)) (v := ?_) rfl (by kernel_rfl) (by kernel_rfl) (by kernel_rfl) (fun _ _ _ h => h) (Or.inl ⟨by rfl, ?_⟩) (by assumption) ?_
        rotate_left
        · (intro w hSw; (try dsimp only at hSw); go_simp; all_goals (with_reducible rfl))
        try simp only [Act.put, List.setIfInBounds_toArray, List.set_cons_zero, List.set_cons_succ]
        refine wpAnyH_take (i := 16) (oi := ({ dst := some 38, op := Op.extract (Operand.tmp 22) 1, type := 3, pos := "ref.go:107", after := #[{ on := 14, ground := Ground.data }, { on := 17, ground := Ground.gcOnly Departure.lateStores }], guard := none } : Oper)) (v := ?_) rfl (by kernel_rfl) (by kernel_rfl) (by kernel_rfl) (fun _ _ _ h => h) (Or.inl ⟨by rfl, ?_⟩) (by assumption) ?_
        rotate_left
        · (intro w hSw; (try dsimp only at hSw); go_simp; all_goals (with_reducible rfl))
        try simp only [Act.put, List.setIfInBounds_toArray, List.set_cons_zero, List.set_cons_succ]
        refine wpAnyH_take (i := 17) (oi := ({ dst := some 10, op := Op.assign (Operand.tmp 37), type := 9, pos := "ref.go:107", after := #[{ on := 15, ground := Ground.data }, { on := 13, ground := Ground.chain }, { on := 0, ground := Ground.phase }, { on := 1, ground := Ground.phase }, { on := 2, ground := Ground.phase }, { on := 3, ground := Ground.phase }, { on := 4, ground := Ground.phase }, { on := 5, ground := Ground.phase }, { on := 6, ground := Ground.phase }, { on := 7, ground := Ground.phase }, { on := 8, ground := Ground.phase }, { on := 9, ground := Ground.phase }, { on := 10, ground := Ground.phase }, { on := 11, ground := Ground.phase }, { on := 12, ground := Ground.phase }, { on := 13, ground := Ground.phase }, { on := 14, ground := Ground.phase }, { on := 15, ground := Ground.phase }, { on := 16, ground := Ground.textOnly Departure.lateStores }], guard := none } : Oper)) (v := ?_) rfl (by kernel_rfl) (by kernel_rfl) (by kernel_rfl) (fun _ _ _ h => h) (Or.inl ⟨by rfl, ?_⟩) (by assumption) ?_
        rotate_left
        · (intro w hSw; (try dsimp only at hSw); go_simp; all_goals (with_reducible rfl))
        try simp only [Act.put, List.setIfInBounds_toArray, List.set_cons_zero, List.set_cons_succ]
        refine wpAnyH_take (i := 18) (oi := ({ dst := some 11, op := Op.assign (Operand.tmp 38), type := 3, pos := "ref.go:107", after := #[{ on := 16, ground := Ground.data }, { on := 17, ground := Ground.chain }, { on := 0, ground := Ground.phase }, { on := 1, ground := Ground.phase }, { on := 2, ground := Ground.phase }, { on := 3, ground := Ground.phase }, { on := 4, ground := Ground.phase }, { on := 5, ground := Ground.phase }, { on := 6, ground := Ground.phase }, { on := 7, ground := Ground.phase }, { on := 8, ground := Ground.phase }, { on := 9, ground := Ground.phase }, { on := 10, ground := Ground.phase }, { on := 11, ground := Ground.phase }, { on := 12, ground := Ground.phase }, { on := 13, ground := Ground.phase }, { on := 14, ground := Ground.phase }, { on := 15, ground := Ground.phase }, { on := 16, ground := Ground.phase }, { on := 17, ground := Ground.phase }], guard := none } : Oper)) (v := ?_) rfl (by kernel_rfl) (by kernel_rfl) (by kernel_rfl) (fun _ _ _ h => h) (Or.inl ⟨by rfl, ?_⟩) (by assumption) ?_
        rotate_left
        · (intro w hSw; (try dsimp only at hSw); go_simp; all_goals (with_reducible rfl))
        try simp only [Act.put, List.setIfInBounds_toArray, List.set_cons_zero, List.set_cons_succ]
        refine wpAnyH_done (by kernel_rfl) ?_ _
        refine NoPanic.normal ?_
        go_wp2_with fail
        go_roundw
        case rel => exact ⟨k + 1, by go_num, hkn, by rw [Hst.out]; first | rfl | go_num | (congr 1; omega), Hbw.out.trans (Hv3.out.mono hwrs)⟩
        case measure => simp only [RowKit.intOf]; omega
      · obtain rfl : k = N := by omega
        have hfull : (clsB s).take k = clsB s := List.take_of_length_le (by rw [clsB_len, HN.out]; exact Nat.le_refl _)
        rw [hfull]
        have hki : ¬ (k : Int) < (k : Int) := by omega
        go_wp2
        go_ret
        exact ⟨rfl, Hb1.out.trans (hbw.mono (by omega))⟩
  · subst hc2
    go_enter Tryd.func14, Tryd.ntmps14
    go_wp2_with fail
    try rw [hW0]
    clear hW0
    refine (HAll.out _).mono ?_
    rintro _ w1 ⟨A, cp, rfl, own1, b1⟩
    have hs1 : B < w1.heap.size := by have := b1.size; omega
    have HL1 := Lib.hid (HL0.out.below b1 hsz0)
    have Hb1 := Lib.hid (Hb0.out.trans (b1.mono (by omega)))
    have HR1 : Hid (RdP w1 w1.heap.size A (pcs s)) := Lib.hid (by unfold RdP; exact Rd.own own1)
    clear b1 own1
    obtain ⟨N, hN⟩ : ∃ N, (pcs s).length = N := ⟨_, rfl⟩
    rw [hN] at hpl
    have HN := Lib.hid hN
    simp only [hN]
    clear hN
    go_wp2_with fail
    go_loopw [7, 9] (fun al i wr => ∃ k : Nat, i = .int .i64 (k : Int) ∧ k ≤ N ∧ al = .int .i64 ((sumW rz wd T ((clsB s).take k) c : Nat) : Int) ∧ Below w1.heap.size w1 wr) (fun _ i _ => N - (RowKit.intOf i).toNat)
    case atStart => exact ⟨0, rfl, Nat.zero_le _, rfl, Below.refl _ _⟩
    case round =>
      obtain ⟨k, rfl, hk, rfl, hbw⟩ := hrel
      by_cases hkn : k < N
      · skip
        obtain ⟨x, hx⟩ : ∃ x, (pcs s)[k]? = some x := ⟨_, List.getElem?_eq_getElem (by rw [HN.out]; exact hkn)⟩
        have hmem := List.mem_of_getElem? hx
        have hclu := pcs_clu s hmem
        have hxs := pcsF_size s _ _ x hmem
        obtain ⟨a, rfl, hab, e0, e1⟩ := HR1.out.at_ hx
        rw [add_next] at e1
        have hst := kB_take6 s k x hx rz wd T c
        have hSl := hsb ((clsB s).take k) c
        rw [List.length_take] at hSl
        obtain ⟨S, hS⟩ : ∃ S, sumW rz wd T ((clsB s).take k) c = S := ⟨_, rfl⟩
        rw [hS] at hst hSl ⊢
        have hSb : S ≤ 9223372036854775807 := by omega
        obtain ⟨q1, hq1⟩ : ∃ q, c % T = q := ⟨_, rfl⟩
        obtain ⟨q2, hq2⟩ : ∃ q, S % T = q := ⟨_, rfl⟩
        have hm1 : q1 < T := by rw [← hq1]; exact Nat.mod_lt _ (by omega)
        have hm2 : q2 < T := by rw [← hq2]; exact Nat.mod_lt _ (by omega)
        have hstop : stopZ T (q1 + q2) = stopZ T (c + S) := by rw [← hq1, ← hq2]; exact stop_two T _ _
        have hv := text_clu6 rz wd tb (q1 + q2) hclu
        rw [HT.out, hstop] at hv
        have hv2 : (textZ rz wd tb (q1 + q2) x.2.data.toList).2 = wOf rz wd (stopZ T (c + S)) x.2.data.toList := by rw [hv]; exact clu_answer _ _ _ _ _
        have htx := fun W => HTx.out x.2 ((q1 : Int) + (q2 : Int)) W (by omega) (by omega) (by omega)
        rw [show ((q1 : Int) + (q2 : Int)).toNat = q1 + q2 by omega] at htx
        obtain ⟨Y, hY⟩ : ∃ Y, textZ rz wd tb (q1 + q2) x.2.data.toList = Y := ⟨_, rfl⟩
        rw [hY] at htx hv2
        obtain ⟨Y1, v⟩ := Y
        simp only at hv2 htx
        rw [← hv2] at hst
        have hvb : v ≤ 16 := by rw [hv2]; exact wOf_le _ _ _ _ (by unfold stopZ; omega)
        have HRc := Lib.hid (HRt.out c hcb)
        rw [hq1] at HRc
        have HRs := Lib.hid (HRt.out S hSb)
        rw [hq2] at HRs
        have HTx2 := Lib.hid htx
        have hw1 : IntKind.i64.wrap ((q1 : Int) + (q2 : Int)) = (q1 : Int) + (q2 : Int) := IntWalk.i64_in _ (by omega)
        have hw2 : IntKind.i64.wrap ((S : Int) + (v : Int)) = ((S + v : Nat) : Int) := by rw [IntWalk.i64_in _ (by omega)]; omega
        have hw3 : IntKind.i64.wrap ((k : Int) + 1) = (k : Int) + 1 := IntWalk.i64_in _ (by omega)
        have hki : (k : Int) < (N : Int) := by omega
        have hwrs : w1.heap.size ≤ wr.heap.size := hbw.size
        have HS : Hid (∀ W, Below wr.heap.size wr W → (fun W => (W.cell? (a.add (k * 2)) = some (.int .i64 (x.1 : Int)) ∧ W.cell? ⟨(a.add (k * 2)).block, (a.add (k * 2)).off + 1, none⟩ = some (.string x.2)) ∧ (W.cell? ⟨B, 0, none⟩ = some (.int .i64 tb) ∧ W.cell? ⟨B, 1, none⟩ = some (.bool wd) ∧ W.cell? ⟨B, 2, none⟩ = some (.int .i8 wt) ∧ W.cell? ⟨B, 3, none⟩ = some (.bool jn) ∧ W.cell? ⟨B, 4, none⟩ = some (.bool rz))) W) := Lib.hid (fun W hb => by
          have hbB : Below w1.heap.size w1 W := hbw.trans (hb.mono hwrs)
          have q := HL1.out.below hbB hs1
          exact ⟨⟨(hbB.cell (by rw [add_block]; exact hab)).trans e0, (hbB.cell (p := ⟨(a.add (k * 2)).block, (a.add (k * 2)).off + 1, none⟩) (by show (a.add (k * 2)).block < _; rw [add_block]; exact hab)).trans e1⟩, ⟨q.c0, q.c1, q.c2, q.c3, q.c4⟩⟩)
        have Hv0 := Lib.hid ((Below.refl wr.heap.size wr).drew)
        have Hbw := Lib.hid hbw
        have Hst := Lib.hid hst
        clear hst hv hv2 hY htx hclu hmem hx e0 e1 hbw hS hq1 hq2 hstop
        go_wp2_with fail
        refine wp_region_noPanic ?_
        refine wp_region_held_drew (S := (fun W => (W.cell? (a.add (k * 2)) = some (.int .i64 (x.1 : Int)) ∧ W.cell? ⟨(a.add (k * 2)).block, (a.add (k * 2)).off + 1, none⟩ = some (.string x.2)) ∧ (W.cell? ⟨B, 0, none⟩ = some (.int .i64 tb) ∧ W.cell? ⟨B, 1, none⟩ = some (.bool wd) ∧ W.cell? ⟨B, 2, none⟩ = some (.int .i8 wt) ∧ W.cell? ⟨B, 3, none⟩ = some (.bool jn) ∧ W.cell? ⟨B, 4, none⟩ = some (.bool rz)))) (by kernel_rfl) (HS.out _ Hv0.out) (fun hHeld => ?_)
        refine wpAnyH_take (i := 0) (oi := ({ dst := some 23, op := Op.move (Operand.tmp 8), type := 45, pos := "ref.go:107", after := #[], guard := none } : Oper)) (v := ?_) rfl (by kernel_rfl) (by kernel_rfl) (by kernel_rfl) (fun _ _ _ h => h) (Or.inl ⟨by rfl, ?_⟩) (by assumption) ?_
        rotate_left
        · (intro w hSw; (try dsimp only at hSw); go_simp; all_goals (with_reducible rfl))
        try simp only [Act.put, List.setIfInBounds_toArray, List.set_cons_zero, List.set_cons_succ]
        refine wpAnyH_take (i := 1) (oi := ({ dst := some 24, op := Op.move (Operand.tmp 9), type := 3, pos := "ref.go:107", after := #[], guard := none } : Oper)) (v := ?_) rfl (by kernel_rfl) (by kernel_rfl) (by kernel_rfl) (fun _ _ _ h => h) (Or.inl ⟨by rfl, ?_⟩) (by assumption) ?_
        rotate_left
        · (intro w hSw; (try dsimp only at hSw); go_simp; all_goals (with_reducible rfl))
        try simp only [Act.put, List.setIfInBounds_toArray, List.set_cons_zero, List.set_cons_succ]
        refine wpAnyH_take (i := 2) (oi := ({ dst := some 25, op := Op.indexAddr 45 (Operand.tmp 23) (Operand.tmp 24), type := 0, pos := "ref.go:107", after := #[{ on := 0, ground := Ground.data }, { on := 1, ground := Ground.data }], guard := none } : Oper)) (v := ?_) rfl (by kernel_rfl) (by kernel_rfl) (by kernel_rfl) (fun _ _ _ h => h) (Or.inl ⟨by rfl, ?_⟩) (by assumption) ?_
        rotate_left
        · (intro w hSw; (try dsimp only at hSw); go_simp; all_goals (with_reducible rfl))
        try simp only [Act.put, List.setIfInBounds_toArray, List.set_cons_zero, List.set_cons_succ]
        refine wpAnyH_take (i := 3) (oi := ({ dst := some 26, op := Op.fieldAddr 48 (Operand.tmp 25) 1, type := 0, pos := "ref.go:107", after := #[{ on := 2, ground := Ground.data }], guard := none } : Oper)) (v := ?_) rfl (by kernel_rfl) (by kernel_rfl) (by kernel_rfl) (fun _ _ _ h => h) (Or.inl ⟨by rfl, ?_⟩) (by assumption) ?_
        rotate_left
        · (intro w hSw; (try dsimp only at hSw); go_simp; all_goals (with_reducible rfl))
        try simp only [Act.put, List.setIfInBounds_toArray, List.set_cons_zero, List.set_cons_succ]
        refine wpAnyH_take (i := 4) (oi := ({ dst := some 27, op := Op.load 9 (Operand.tmp 26), type := 9, pos := "ref.go:107", after := #[{ on := 3, ground := Ground.data }], guard := none } : Oper)) (v := ?_) rfl (by kernel_rfl) (by kernel_rfl) (by kernel_rfl) (fun _ _ _ h => h) (Or.inl ⟨by rfl, ?_⟩) (by assumption) ?_
        rotate_left
        · (intro w hSw; (try dsimp only at hSw); go_simp; all_goals (with_reducible rfl))
        try simp only [Act.put, List.setIfInBounds_toArray, List.set_cons_zero, List.set_cons_succ]
        refine wpAnyH_take (i := 5) (oi := ({ dst := some 28, op := Op.move (Operand.tmp 1), type := 3, pos := "ref.go:107", after := #[], guard := none } : Oper)) (v := ?_) rfl (by kernel_rfl) (by kernel_rfl) (by kernel_rfl) (fun _ _ _ h => h) (Or.inl ⟨by rfl, ?_⟩) (by assumption) ?_
        rotate_left
        · (intro w hSw; (try dsimp only at hSw); go_simp; all_goals (with_reducible rfl))
        try simp only [Act.put, List.setIfInBounds_toArray, List.set_cons_zero, List.set_cons_succ]
        refine wpAnyH_take (i := 6) (oi := ({ dst := some 29, op := Op.load 24 (Operand.tmp 5), type := 24, pos := "ref.go:107", after := #[], guard := none } : Oper)) (v := ?_) rfl (by kernel_rfl) (by kernel_rfl) (by kernel_rfl) (fun _ _ _ h => h) (Or.inl ⟨by rfl, ?_⟩) (by assumption) ?_
        rotate_left
        · (intro w hSw; (try dsimp only at hSw); go_simp; all_goals (with_reducible rfl))
        try simp only [Act.put, List.setIfInBounds_toArray, List.set_cons_zero, List.set_cons_succ]
        refine wpAnyH_take (i := 8) (oi := ({ dst := some 31, op := Op.move (Operand.tmp 7), type := 3, pos := "ref.go:107", after := #[], guard := none } : Oper)) (v := ?_) rfl (by kernel_rfl) (by kernel_rfl) (by kernel_rfl) (fun _ _ _ h => h) (Or.inl ⟨by rfl, ?_⟩) (by assumption) ?_
        rotate_left
        · (intro w hSw; (try dsimp only at hSw); go_simp; all_goals (with_reducible rfl))
        try simp only [Act.put, List.setIfInBounds_toArray, List.set_cons_zero, List.set_cons_succ]
        refine wpAnyH_take (i := 9) (oi := ({ dst := some 32, op := Op.load 24 (Operand.tmp 5), type := 24, pos := "ref.go:107", after := #[], guard := none } : Oper)) (v := ?_) rfl (by kernel_rfl) (by kernel_rfl) (by kernel_rfl) (fun _ _ _ h => h) (Or.inl ⟨by rfl, ?_⟩) (by assumption) ?_
        rotate_left
        · (intro w hSw; (try dsimp only at hSw); go_simp; all_goals (with_reducible rfl))
        try simp only [Act.put, List.setIfInBounds_toArray, List.set_cons_zero, List.set_cons_succ]
        refine wpAnyH_take (i := 12) (oi := ({ dst := some 35, op := Op.load 24 (Operand.tmp 5), type := 24, pos := "ref.go:107", after := #[], guard := none } : Oper)) (v := ?_) rfl (by kernel_rfl) (by kernel_rfl) (by kernel_rfl) (fun _ _ _ h => h) (Or.inl ⟨by rfl, ?_⟩) (by assumption) ?_
        rotate_left
        · (intro w hSw; (try dsimp only at hSw); go_simp; all_goals (with_reducible rfl))
        try simp only [Act.put, List.setIfInBounds_toArray, List.set_cons_zero, List.set_cons_succ]
        refine wpAnyH_ready (rs := [7]) (by kernel_rfl) (by simp) ?_
        refine AllReadyH.cons (o := ({ dst := some 30, op := Op.call { callee := Callee.value (Operand.func 29), args := #[Operand.tmp 28, Operand.tmp 29], argTypes := #[3, 24] }, type := 3, pos := "ref.go:107", after := #[{ on := 5, ground := Ground.data }, { on := 6, ground := Ground.data }], guard := none } : Oper)) rfl (fun K hK => ?_) AllReadyH.nil
        (go_simp; go_at_call 29; refine (HRc.out _).mono ?_; rintro _ v1 ⟨rfl, bb1⟩; have Hv1 := Lib.hid (Hv0.out.trans (bb1.mono Hv0.out.size)); clear bb1; (try dsimp only))
        refine hK.out _ _ (HS.out _ Hv1.out) (fun hHeld => ?_)
        clear hK K
        try simp only [Act.put, List.setIfInBounds_toArray, List.set_cons_zero, List.set_cons_succ]
        refine wpAnyH_ready (rs := [10]) (by kernel_rfl) (by simp) ?_
        refine AllReadyH.cons (o := ({ dst := some 33, op := Op.call { callee := Callee.value (Operand.func 29), args := #[Operand.tmp 31, Operand.tmp 32], argTypes := #[3, 24] }, type := 3, pos := "ref.go:107", after := #[{ on := 8, ground := Ground.data }, { on := 9, ground := Ground.data }, { on := 7, ground := Ground.chain }], guard := none } : Oper)) rfl (fun K hK => ?_) AllReadyH.nil
        (go_simp; go_at_call 29; refine (HRs.out _).mono ?_; rintro _ v2 ⟨rfl, bb2⟩; have Hv2 := Lib.hid (Hv1.out.trans (bb2.mono Hv1.out.size)); clear bb2; (try dsimp only))
        refine hK.out _ _ (HS.out _ Hv2.out) (fun hHeld => ?_)
        clear hK K
        try simp only [Act.put, List.setIfInBounds_toArray, List.set_cons_zero, List.set_cons_succ]
        refine wpAnyH_take (i := 11) (oi := ({ dst := some 34, op := Op.binOp BinOp.add 3 (Operand.tmp 30) (Operand.tmp 33) 3, type := 3, pos := "ref.go:107", after := #[{ on := 7, ground := Ground.data }, { on := 10, ground := Ground.data }], guard := none } : Oper)) (v := ?_) rfl (by kernel_rfl) (by kernel_rfl) (by kernel_rfl) (fun _ _ _ h => h) (Or.inl ⟨by rfl, ?_⟩) (by assumption) ?_
        rotate_left
        · (intro w hSw; (try dsimp only at hSw); go_simp; all_goals (with_reducible rfl))
        try simp only [Act.put, List.setIfInBounds_toArray, List.set_cons_zero, List.set_cons_succ]
        refine wpAnyH_ready (rs := [13]) (by kernel_rfl) (by simp) ?_
        refine AllReadyH.cons (o := ({ dst := some 36, op := Op.call { callee := Callee.value (Operand.func 11), args := #[Operand.tmp 27, Operand.tmp 34, Operand.tmp 35], argTypes := #[9, 3, 24] }, type := 25, pos := "ref.go:107", after := #[{ on := 4, ground := Ground.data }, { on := 11, ground := Ground.data }, { on := 12, ground := Ground.data }, { on := 10, ground := Ground.chain }], guard := none } : Oper)) rfl (fun K hK => ?_) AllReadyH.nil
        (go_simp; go_at_call 11; refine (HTx2.out _).mono ?_; rintro _ v3 ⟨rfl, bb3⟩; have Hv3 := Lib.hid (Hv2.out.trans (bb3.mono Hv2.out.size)); clear bb3; (try dsimp only))
        refine hK.out _ _ (HS.out _ Hv3.out) (fun hHeld => ?_)
        clear hK K
        try simp only [Act.put, List.setIfInBounds_toArray, List.set_cons_zero, List.set_cons_succ]
        refine wpAnyH_take (i := 14) (oi := ({ dst := some 22, op := Op.move (Operand.tmp 36), type := 25, pos := "ref.go:107", after := #[{ on := 13, ground := Ground.data }], guard := none } : Oper)) (v := ?_) rfl (by kernel_rfl) (by kernel_rfl) (by kernel_rfl) (fun _ _ _ h => h) (Or.inl ⟨by rfl, ?_⟩) (by assumption) ?_
        rotate_left
        · (intro w hSw; (try dsimp only at hSw); go_simp; all_goals (with_reducible rfl))
        try simp only [Act.put, List.setIfInBounds_toArray, List.set_cons_zero, List.set_cons_succ]
        refine wpAnyH_take (i := 15) (oi := ({ dst := some 37, op := Op.extract (Operand.tmp 22) 0, type := 9, pos := "ref.go:107", after := #[{ on := 14, ground := Ground.data }], guard := none } : Oper)) (v := ?_) rfl (by kernel_rfl) (by kernel_rfl) (by kernel_rfl) (fun _ _ _ h => h) (Or.inl ⟨by rfl, ?_⟩) (by assumption) ?_
        rotate_left
        · (intro w hSw; (try dsimp only at hSw); go_simp; all_goals (with_reducible rfl))
        try simp only [Act.put, List.setIfInBounds_toArray, List.set_cons_zero, List.set_cons_succ]
        refine wpAnyH_take (i := 16) (oi := ({ dst := some 38, op := Op.extract (Operand.tmp 22) 1, type := 3, pos := "ref.go:107", after := #[{ on := 14, ground := Ground.data }, { on := 17, ground := Ground.gcOnly Departure.lateStores }], guard := none } : Oper)) (v := ?_) rfl (by kernel_rfl) (by kernel_rfl) (by kernel_rfl) (fun _ _ _ h => h) (Or.inl ⟨by rfl, ?_⟩) (by assumption) ?_
        rotate_left
        · (intro w hSw; (try dsimp only at hSw); go_simp; all_goals (with_reducible rfl))
        try simp only [Act.put, List.setIfInBounds_toArray, List.set_cons_zero, List.set_cons_succ]
        refine wpAnyH_take (i := 17) (oi := ({ dst := some 10, op := Op.assign (Operand.tmp 37), type := 9, pos := "ref.go:107", after := #[{ on := 15, ground := Ground.data }, { on := 13, ground := Ground.chain }, { on := 0, ground := Ground.phase }, { on := 1, ground := Ground.phase }, { on := 2, ground := Ground.phase }, { on := 3, ground := Ground.phase }, { on := 4, ground := Ground.phase }, { on := 5, ground := Ground.phase }, { on := 6, ground := Ground.phase }, { on := 7, ground := Ground.phase }, { on := 8, ground := Ground.phase }, { on := 9, ground := Ground.phase }, { on := 10, ground := Ground.phase }, { on := 11, ground := Ground.phase }, { on := 12, ground := Ground.phase }, { on := 13, ground := Ground.phase }, { on := 14, ground := Ground.phase }, { on := 15, ground := Ground.phase }, { on := 16, ground := Ground.textOnly Departure.lateStores }], guard := none } : Oper)) (v := ?_) rfl (by kernel_rfl) (by kernel_rfl) (by kernel_rfl) (fun _ _ _ h => h) (Or.inl ⟨by rfl, ?_⟩) (by assumption) ?_
        rotate_left
        · (intro w hSw; (try dsimp only at hSw); go_simp; all_goals (with_reducible rfl))
        try simp only [Act.put, List.setIfInBounds_toArray, List.set_cons_zero, List.set_cons_succ]
        refine wpAnyH_take (i := 18) (oi := ({ dst := some 11, op := Op.assign (Operand.tmp 38), type := 3, pos := "ref.go:107", after := #[{ on := 16, ground := Ground.data }, { on := 17, ground := Ground.chain }, { on := 0, ground := Ground.phase }, { on := 1, ground := Ground.phase }, { on := 2, ground := Ground.phase }, { on := 3, ground := Ground.phase }, { on := 4, ground := Ground.phase }, { on := 5, ground := Ground.phase }, { on := 6, ground := Ground.phase }, { on := 7, ground := Ground.phase }, { on := 8, ground := Ground.phase }, { on := 9, ground := Ground.phase }, { on := 10, ground := Ground.phase }, { on := 11, ground := Ground.phase }, { on := 12, ground := Ground.phase }, { on := 13, ground := Ground.phase }, { on := 14, ground := Ground.phase }, { on := 15, ground := Ground.phase }, { on := 16, ground := Ground.phase }, { on := 17, ground := Ground.phase }], guard := none } : Oper)) (v := ?_) rfl (by kernel_rfl) (by kernel_rfl) (by kernel_rfl) (fun _ _ _ h => h) (Or.inl ⟨by rfl, ?_⟩) (by assumption) ?_
        rotate_left
        · (intro w hSw; (try dsimp only at hSw); go_simp; all_goals (with_reducible rfl))
        try simp only [Act.put, List.setIfInBounds_toArray, List.set_cons_zero, List.set_cons_succ]
        refine wpAnyH_done (by kernel_rfl) ?_ _
        refine NoPanic.normal ?_
        go_wp2_with fail
        go_roundw
        case rel => exact ⟨k + 1, by go_num, hkn, by rw [Hst.out]; first | rfl | go_num | (congr 1; omega), Hbw.out.trans (Hv3.out.mono hwrs)⟩
        case measure => simp only [RowKit.intOf]; omega
      · obtain rfl : k = N := by omega
        have hfull : (clsB s).take k = clsB s := List.take_of_length_le (by rw [clsB_len, HN.out]; exact Nat.le_refl _)
        rw [hfull]
        have hki : ¬ (k : Int) < (k : Int) := by omega
        go_wp2
        go_ret
        exact ⟨rfl, Hb1.out.trans (hbw.mono (by omega))⟩

set_option maxRecDepth 100000 in
set_option maxHeartbeats 2000000 in
theorem rcut6_any (s : ByteArray) (wl tb : Int) (wd : Bool) (wt : Int) (jn rz : Bool) (w : World) (hs : s.size ≤ 1073741824) :
    Calls Tryd.prog 16 #[.string s, .int .i64 wl, lookV tb wd wt jn rz] w fun e w' => e = .returned (.int .i64 ((cutZ rz wd tb s wl : Nat) : Int)) ∧ Below w.heap.size w w' := by
  obtain ⟨B, hB⟩ : ∃ B, w.heap.size = B := ⟨_, rfl⟩
  have hpl := pcs_len s
  have htb := tabN_bounds tb
  have HAll := Lib.hid (fun W => rall_any s W hs)
  have HTx := Lib.hid (fun k c W hk h0 h1 => rtext6_any k c tb wd wt jn rz W hk h0 h1)
  have hsb := fun L c => sumW_bound rz wd tb L c
  have hL := LookAt.new w 24 tb wd wt jn rz
  have hb : Below w.heap.size w (w.alloc (.cells #[.int .i64 tb, .bool wd, .int .i8 wt, .bool jn, .bool rz] 24)) := (Below.refl _ w).alloc (Nat.le_refl _) _
  obtain ⟨W0, hW0⟩ : ∃ W, w.alloc (.cells #[.int .i64 tb, .bool wd, .int .i8 wt, .bool jn, .bool rz] 24) = W := ⟨_, rfl⟩
  have hsz0 : w.heap.size < W0.heap.size := by rw [← hW0]; simp
  rw [hW0] at hL hb
  rw [hB] at hL hb hsz0 ⊢
  have HL0 := Lib.hid hL
  have Hb0 := Lib.hid hb
  clear hL hb
  have Hhere := Lib.hid (cut_here6 rz wd tb s wl)
  have Hon := Lib.hid (cut_on6 rz wd tb s wl)
  have Hend := Lib.hid (cut_end6 rz wd tb s wl)
  have hneg := fun h => fit_neg rz wd (tabN tb) wl h (clsB s) 0
  obtain ⟨C, hC⟩ : ∃ C, cutZ rz wd tb s wl = C := ⟨_, rfl⟩
  rw [hC] at Hhere Hend ⊢
  obtain ⟨T, hT⟩ : ∃ T, tabN tb = T := ⟨_, rfl⟩
  rw [hT] at htb hsb Hhere Hon Hend hneg
  obtain ⟨F, hF⟩ : ∃ F, fitN rz wd T wl (clsB s) 0 = F := ⟨_, rfl⟩
  rw [hF] at Hhere Hon Hend hneg
  have HT := Lib.hid hT
  have Hneg := Lib.hid hneg
  clear hT hC hF hneg
  go_enter Tryd.func16, Tryd.ntmps16
  go_wp2_with fail
  try rw [hW0]
  clear hW0
  refine (HAll.out _).mono ?_
  rintro _ w1 ⟨A, cp, rfl, own1, b1⟩
  have hs1 : B < w1.heap.size := by have := b1.size; omega
  have HL1 := Lib.hid (HL0.out.below b1 hsz0)
  have Hb1 := Lib.hid (Hb0.out.trans (b1.mono (by omega)))
  have HR1 : Hid (RdP w1 w1.heap.size A (pcs s)) := Lib.hid (by unfold RdP; exact Rd.own own1)
  clear b1 own1
  obtain ⟨N, hN⟩ : ∃ N, (pcs s).length = N := ⟨_, rfl⟩
  rw [hN] at hpl
  have HN := Lib.hid hN
  simp only [hN]
  clear hN
  go_wp2_with fail
  go_loopw [7, 9, 10] (fun al at_ i wr => ∃ k : Nat, i = .int .i64 (k : Int) ∧ k ≤ N ∧ al = .int .i64 ((sumW rz wd T ((clsB s).take k) 0 : Nat) : Int) ∧ at_ = .int .i64 ((sumB ((pcs s).take k) : Nat) : Int) ∧ k ≤ F ∧ Below w1.heap.size w1 wr) (fun _ _ i _ => N - (RowKit.intOf i).toNat)
  case atStart => exact ⟨0, rfl, Nat.zero_le _, rfl, rfl, Nat.zero_le _, Below.refl _ _⟩
  case round =>
    obtain ⟨k, rfl, hk, rfl, rfl, hkF, hbw⟩ := hrel
    by_cases hkn : k < N
    · skip
      obtain ⟨x, hx⟩ : ∃ x, (pcs s)[k]? = some x := ⟨_, List.getElem?_eq_getElem (by rw [HN.out]; exact hkn)⟩
      have hmem := List.mem_of_getElem? hx
      have hclu := pcs_clu s hmem
      have hxs := pcsF_size s _ _ x hmem
      obtain ⟨a, rfl, hab, e0, e1⟩ := HR1.out.at_ hx
      rw [add_next] at e1
      have hst := kB_take6 s k x hx rz wd T 0
      rw [Nat.zero_add] at hst
      have hSl := hsb ((clsB s).take k) 0
      rw [List.length_take] at hSl
      have hch := pcs_chain s k x hx
      have hsn : sumB ((pcs s).take (k + 1)) = sumB ((pcs s).take k) + x.2.size := by rw [take_snoc _ k x hx, sumB_snoc]
      have hhere := Hhere.out k x hx hkF
      have hon := Hon.out k (by rw [HN.out]; exact hkn)
      obtain ⟨S, hS⟩ : ∃ S, sumW rz wd T ((clsB s).take k) 0 = S := ⟨_, rfl⟩
      rw [hS] at hst hSl ⊢
      have hv := text_clu6 rz wd tb S hclu
      rw [HT.out] at hv
      have hv2 : (textZ rz wd tb S x.2.data.toList).2 = wOf rz wd (stopZ T S) x.2.data.toList := by rw [hv]; exact clu_answer _ _ _ _ _
      have htx := fun W => HTx.out x.2 (S : Int) W (by omega) (by omega) (by omega)
      rw [show ((S : Int)).toNat = S by omega] at htx
      obtain ⟨Y, hY⟩ : ∃ Y, textZ rz wd tb S x.2.data.toList = Y := ⟨_, rfl⟩
      rw [hY] at htx hv2
      obtain ⟨Y1, v⟩ := Y
      simp only at hv2 htx
      rw [← hv2] at hst
      have hvb : v ≤ 16 := by rw [hv2]; exact wOf_le _ _ _ _ (by unfold stopZ; omega)
      obtain ⟨S', hS'⟩ : ∃ S', S + v = S' := ⟨_, rfl⟩
      rw [hS'] at hst
      rw [hst] at hhere hon
      obtain ⟨Q, hQ⟩ : ∃ Q, sumB ((pcs s).take k) = Q := ⟨_, rfl⟩
      rw [hQ] at hsn hch ⊢
      have hQx : (x.1 : Int) = (Q : Int) := by omega
      rw [hQx] at e0
      have HTx2 := Lib.hid htx
      have hw2 : IntKind.i64.wrap ((S : Int) + (v : Int)) = (S' : Int) := by rw [IntWalk.i64_in _ (by omega)]; omega
      have hw3 : IntKind.i64.wrap ((k : Int) + 1) = (k : Int) + 1 := IntWalk.i64_in _ (by omega)
      have hw4 : IntKind.i64.wrap ((Q : Int) + (x.2.size : Int)) = ((Q + x.2.size : Nat) : Int) := by rw [IntWalk.i64_in _ (by omega)]; omega
      have hki : (k : Int) < (N : Int) := by omega
      have hwrs : w1.heap.size ≤ wr.heap.size := hbw.size
      have HS : Hid (∀ W, Below wr.heap.size wr W → (fun W => (W.cell? (a.add (k * 2)) = some (.int .i64 (Q : Int)) ∧ W.cell? ⟨(a.add (k * 2)).block, (a.add (k * 2)).off + 1, none⟩ = some (.string x.2)) ∧ (W.cell? ⟨B, 0, none⟩ = some (.int .i64 tb) ∧ W.cell? ⟨B, 1, none⟩ = some (.bool wd) ∧ W.cell? ⟨B, 2, none⟩ = some (.int .i8 wt) ∧ W.cell? ⟨B, 3, none⟩ = some (.bool jn) ∧ W.cell? ⟨B, 4, none⟩ = some (.bool rz))) W) := Lib.hid (fun W hb => by
        have hbB : Below w1.heap.size w1 W := hbw.trans (hb.mono hwrs)
        have q := HL1.out.below hbB hs1
        exact ⟨⟨(hbB.cell (by rw [add_block]; exact hab)).trans e0, (hbB.cell (p := ⟨(a.add (k * 2)).block, (a.add (k * 2)).off + 1, none⟩) (by show (a.add (k * 2)).block < _; rw [add_block]; exact hab)).trans e1⟩, ⟨q.c0, q.c1, q.c2, q.c3, q.c4⟩⟩)
      have HSB : Hid (∀ W, Below wr.heap.size wr W → (fun W => W.cell? (a.add (k * 2)) = some (.int .i64 (Q : Int)) ∧ W.cell? ⟨(a.add (k * 2)).block, (a.add (k * 2)).off + 1, none⟩ = some (.string x.2)) W) := Lib.hid (fun W hb => (HS.out W hb).1)
      have Hv0 := Lib.hid ((Below.refl wr.heap.size wr).drew)
      have Hbw := Lib.hid hbw
      have Hst := Lib.hid hst
      have Hsn := Lib.hid hsn
      have Hhere2 := Lib.hid hhere
      have Hon2 := Lib.hid hon
      have HQ := Lib.hid (show x.1 = Q by omega)
      clear hst hv hv2 hY htx hclu hmem hx e0 e1 hbw hS hS' hsn hhere hon hQ hch
      go_wp2_with fail
      refine wp_region_noPanic ?_
      refine wp_region_held_drew (S := (fun W => (W.cell? (a.add (k * 2)) = some (.int .i64 (Q : Int)) ∧ W.cell? ⟨(a.add (k * 2)).block, (a.add (k * 2)).off + 1, none⟩ = some (.string x.2)) ∧ (W.cell? ⟨B, 0, none⟩ = some (.int .i64 tb) ∧ W.cell? ⟨B, 1, none⟩ = some (.bool wd) ∧ W.cell? ⟨B, 2, none⟩ = some (.int .i8 wt) ∧ W.cell? ⟨B, 3, none⟩ = some (.bool jn) ∧ W.cell? ⟨B, 4, none⟩ = some (.bool rz)))) (by kernel_rfl) (HS.out _ Hv0.out) (fun hHeld => ?_)
      refine wpAnyH_take (i := 0) (oi := ({ dst := some 22, op := Op.move (Operand.tmp 8), type := 45, pos := "ref.go:125", after := #[], guard := none } : Oper)) (v := ?_) rfl (by kernel_rfl) (by kernel_rfl) (by kernel_rfl) (fun _ _ _ h => h) (Or.inl ⟨by rfl, ?_⟩) (by assumption) ?_
      rotate_left
      · (intro w hSw; (try dsimp only at hSw); go_simp; all_goals (with_reducible rfl))
      try simp only [Act.put, List.setIfInBounds_toArray, List.set_cons_zero, List.set_cons_succ]
      refine wpAnyH_take (i := 1) (oi := ({ dst := some 23, op := Op.move (Operand.tmp 10), type := 3, pos := "ref.go:125", after := #[], guard := none } : Oper)) (v := ?_) rfl (by kernel_rfl) (by kernel_rfl) (by kernel_rfl) (fun _ _ _ h => h) (Or.inl ⟨by rfl, ?_⟩) (by assumption) ?_
      rotate_left
      · (intro w hSw; (try dsimp only at hSw); go_simp; all_goals (with_reducible rfl))
      try simp only [Act.put, List.setIfInBounds_toArray, List.set_cons_zero, List.set_cons_succ]
      refine wpAnyH_take (i := 2) (oi := ({ dst := some 24, op := Op.indexAddr 45 (Operand.tmp 22) (Operand.tmp 23), type := 0, pos := "ref.go:125", after := #[{ on := 0, ground := Ground.data }, { on := 1, ground := Ground.data }], guard := none } : Oper)) (v := ?_) rfl (by kernel_rfl) (by kernel_rfl) (by kernel_rfl) (fun _ _ _ h => h) (Or.inl ⟨by rfl, ?_⟩) (by assumption) ?_
      rotate_left
      · (intro w hSw; (try dsimp only at hSw); go_simp; all_goals (with_reducible rfl))
      try simp only [Act.put, List.setIfInBounds_toArray, List.set_cons_zero, List.set_cons_succ]
      refine wpAnyH_take (i := 3) (oi := ({ dst := some 25, op := Op.fieldAddr 48 (Operand.tmp 24) 1, type := 0, pos := "ref.go:125", after := #[{ on := 2, ground := Ground.data }], guard := none } : Oper)) (v := ?_) rfl (by kernel_rfl) (by kernel_rfl) (by kernel_rfl) (fun _ _ _ h => h) (Or.inl ⟨by rfl, ?_⟩) (by assumption) ?_
      rotate_left
      · (intro w hSw; (try dsimp only at hSw); go_simp; all_goals (with_reducible rfl))
      try simp only [Act.put, List.setIfInBounds_toArray, List.set_cons_zero, List.set_cons_succ]
      refine wpAnyH_take (i := 4) (oi := ({ dst := some 26, op := Op.load 9 (Operand.tmp 25), type := 9, pos := "ref.go:125", after := #[{ on := 3, ground := Ground.data }], guard := none } : Oper)) (v := ?_) rfl (by kernel_rfl) (by kernel_rfl) (by kernel_rfl) (fun _ _ _ h => h) (Or.inl ⟨by rfl, ?_⟩) (by assumption) ?_
      rotate_left
      · (intro w hSw; (try dsimp only at hSw); go_simp; all_goals (with_reducible rfl))
      try simp only [Act.put, List.setIfInBounds_toArray, List.set_cons_zero, List.set_cons_succ]
      refine wpAnyH_take (i := 5) (oi := ({ dst := some 27, op := Op.move (Operand.tmp 7), type := 3, pos := "ref.go:125", after := #[], guard := none } : Oper)) (v := ?_) rfl (by kernel_rfl) (by kernel_rfl) (by kernel_rfl) (fun _ _ _ h => h) (Or.inl ⟨by rfl, ?_⟩) (by assumption) ?_
      rotate_left
      · (intro w hSw; (try dsimp only at hSw); go_simp; all_goals (with_reducible rfl))
      try simp only [Act.put, List.setIfInBounds_toArray, List.set_cons_zero, List.set_cons_succ]
      refine wpAnyH_take (i := 6) (oi := ({ dst := some 28, op := Op.load 24 (Operand.tmp 5), type := 24, pos := "ref.go:125", after := #[], guard := none } : Oper)) (v := ?_) rfl (by kernel_rfl) (by kernel_rfl) (by kernel_rfl) (fun _ _ _ h => h) (Or.inl ⟨by rfl, ?_⟩) (by assumption) ?_
      rotate_left
      · (intro w hSw; (try dsimp only at hSw); go_simp; all_goals (with_reducible rfl))
      try simp only [Act.put, List.setIfInBounds_toArray, List.set_cons_zero, List.set_cons_succ]
      refine wpAnyH_ready (rs := [7]) (by kernel_rfl) (by simp) ?_
      refine AllReadyH.cons (o := ({ dst := some 29, op := Op.call { callee := Callee.value (Operand.func 11), args := #[Operand.tmp 26, Operand.tmp 27, Operand.tmp 28], argTypes := #[9, 3, 24] }, type := 25, pos := "ref.go:125", after := #[{ on := 4, ground := Ground.data }, { on := 5, ground := Ground.data }, { on := 6, ground := Ground.data }], guard := none } : Oper)) rfl (fun K hK => ?_) AllReadyH.nil
      (go_simp; go_at_call 11; refine (HTx2.out _).mono ?_; rintro _ v1 ⟨rfl, bb1⟩; have Hv1 := Lib.hid (Hv0.out.trans (bb1.mono Hv0.out.size)); clear bb1; (try dsimp only))
      refine hK.out _ _ (HS.out _ Hv1.out) (fun hHeld => ?_)
      clear hK K
      try simp only [Act.put, List.setIfInBounds_toArray, List.set_cons_zero, List.set_cons_succ]
      refine wpAnyH_take (i := 8) (oi := ({ dst := some 21, op := Op.move (Operand.tmp 29), type := 25, pos := "ref.go:125", after := #[{ on := 7, ground := Ground.data }], guard := none } : Oper)) (v := ?_) rfl (by kernel_rfl) (by kernel_rfl) (by kernel_rfl) (fun _ _ _ h => h) (Or.inl ⟨by rfl, ?_⟩) (by assumption) ?_
      rotate_left
      · (intro w hSw; (try dsimp only at hSw); go_simp; all_goals (with_reducible rfl))
      try simp only [Act.put, List.setIfInBounds_toArray, List.set_cons_zero, List.set_cons_succ]
      refine wpAnyH_take (i := 9) (oi := ({ dst := some 30, op := Op.extract (Operand.tmp 21) 0, type := 9, pos := "ref.go:125", after := #[{ on := 8, ground := Ground.data }], guard := none } : Oper)) (v := ?_) rfl (by kernel_rfl) (by kernel_rfl) (by kernel_rfl) (fun _ _ _ h => h) (Or.inl ⟨by rfl, ?_⟩) (by assumption) ?_
      rotate_left
      · (intro w hSw; (try dsimp only at hSw); go_simp; all_goals (with_reducible rfl))
      try simp only [Act.put, List.setIfInBounds_toArray, List.set_cons_zero, List.set_cons_succ]
      refine wpAnyH_take (i := 10) (oi := ({ dst := some 31, op := Op.extract (Operand.tmp 21) 1, type := 3, pos := "ref.go:125", after := #[{ on := 8, ground := Ground.data }, { on := 11, ground := Ground.gcOnly Departure.lateStores }], guard := none } : Oper)) (v := ?_) rfl (by kernel_rfl) (by kernel_rfl) (by kernel_rfl) (fun _ _ _ h => h) (Or.inl ⟨by rfl, ?_⟩) (by assumption) ?_
      rotate_left
      · (intro w hSw; (try dsimp only at hSw); go_simp; all_goals (with_reducible rfl))
      try simp only [Act.put, List.setIfInBounds_toArray, List.set_cons_zero, List.set_cons_succ]
      refine wpAnyH_take (i := 11) (oi := ({ dst := some 11, op := Op.assign (Operand.tmp 30), type := 9, pos := "ref.go:125", after := #[{ on := 9, ground := Ground.data }, { on := 7, ground := Ground.chain }, { on := 0, ground := Ground.phase }, { on := 1, ground := Ground.phase }, { on := 2, ground := Ground.phase }, { on := 3, ground := Ground.phase }, { on := 4, ground := Ground.phase }, { on := 5, ground := Ground.phase }, { on := 6, ground := Ground.phase }, { on := 7, ground := Ground.phase }, { on := 8, ground := Ground.phase }, { on := 9, ground := Ground.phase }, { on := 10, ground := Ground.textOnly Departure.lateStores }], guard := none } : Oper)) (v := ?_) rfl (by kernel_rfl) (by kernel_rfl) (by kernel_rfl) (fun _ _ _ h => h) (Or.inl ⟨by rfl, ?_⟩) (by assumption) ?_
      rotate_left
      · (intro w hSw; (try dsimp only at hSw); go_simp; all_goals (with_reducible rfl))
      try simp only [Act.put, List.setIfInBounds_toArray, List.set_cons_zero, List.set_cons_succ]
      refine wpAnyH_take (i := 12) (oi := ({ dst := some 12, op := Op.assign (Operand.tmp 31), type := 3, pos := "ref.go:125", after := #[{ on := 10, ground := Ground.data }, { on := 11, ground := Ground.chain }, { on := 0, ground := Ground.phase }, { on := 1, ground := Ground.phase }, { on := 2, ground := Ground.phase }, { on := 3, ground := Ground.phase }, { on := 4, ground := Ground.phase }, { on := 5, ground := Ground.phase }, { on := 6, ground := Ground.phase }, { on := 7, ground := Ground.phase }, { on := 8, ground := Ground.phase }, { on := 9, ground := Ground.phase }, { on := 10, ground := Ground.phase }, { on := 11, ground := Ground.phase }], guard := none } : Oper)) (v := ?_) rfl (by kernel_rfl) (by kernel_rfl) (by kernel_rfl) (fun _ _ _ h => h) (Or.inl ⟨by rfl, ?_⟩) (by assumption) ?_
      rotate_left
      · (intro w hSw; (try dsimp only at hSw); go_simp; all_goals (with_reducible rfl))
      try simp only [Act.put, List.setIfInBounds_toArray, List.set_cons_zero, List.set_cons_succ]
      refine wpAnyH_done (by kernel_rfl) ?_ _
      refine NoPanic.normal ?_
      by_cases hgt : wl < (S' : Int)
      · have hC9 := Hhere2.out hgt
        rw [HQ.out] at hC9
        subst hC9
        go_wp2_with fail
        go_ret
        exact ⟨rfl, Hb1.out.trans ((Hbw.out.trans (Hv1.out.mono hwrs)).mono (by omega))⟩
      · have Hv2 := Lib.hid (Hv1.out.drew)
        go_wp2_with fail
        refine wp_region_noPanic ?_
        refine wp_region_held_drew (S := (fun W => W.cell? (a.add (k * 2)) = some (.int .i64 (Q : Int)) ∧ W.cell? ⟨(a.add (k * 2)).block, (a.add (k * 2)).off + 1, none⟩ = some (.string x.2))) (by kernel_rfl) (HSB.out _ Hv2.out) (fun hHeld => ?_)
        refine wpAnyH_take (i := 0) (oi := ({ dst := some 39, op := Op.move (Operand.tmp 8), type := 45, pos := "ref.go:130", after := #[], guard := none } : Oper)) (v := ?_) rfl (by kernel_rfl) (by kernel_rfl) (by kernel_rfl) (fun _ _ _ h => h) (Or.inl ⟨by rfl, ?_⟩) (by assumption) ?_
        rotate_left
        · (intro w hSw; (try dsimp only at hSw); go_simp; all_goals (with_reducible rfl))
        try simp only [Act.put, List.setIfInBounds_toArray, List.set_cons_zero, List.set_cons_succ]
        refine wpAnyH_take (i := 1) (oi := ({ dst := some 40, op := Op.move (Operand.tmp 10), type := 3, pos := "ref.go:130", after := #[], guard := none } : Oper)) (v := ?_) rfl (by kernel_rfl) (by kernel_rfl) (by kernel_rfl) (fun _ _ _ h => h) (Or.inl ⟨by rfl, ?_⟩) (by assumption) ?_
        rotate_left
        · (intro w hSw; (try dsimp only at hSw); go_simp; all_goals (with_reducible rfl))
        try simp only [Act.put, List.setIfInBounds_toArray, List.set_cons_zero, List.set_cons_succ]
        refine wpAnyH_take (i := 2) (oi := ({ dst := some 41, op := Op.indexAddr 45 (Operand.tmp 39) (Operand.tmp 40), type := 0, pos := "ref.go:130", after := #[{ on := 0, ground := Ground.data }, { on := 1, ground := Ground.data }], guard := none } : Oper)) (v := ?_) rfl (by kernel_rfl) (by kernel_rfl) (by kernel_rfl) (fun _ _ _ h => h) (Or.inl ⟨by rfl, ?_⟩) (by assumption) ?_
        rotate_left
        · (intro w hSw; (try dsimp only at hSw); go_simp; all_goals (with_reducible rfl))
        try simp only [Act.put, List.setIfInBounds_toArray, List.set_cons_zero, List.set_cons_succ]
        refine wpAnyH_take (i := 3) (oi := ({ dst := some 42, op := Op.fieldAddr 48 (Operand.tmp 41) 0, type := 0, pos := "ref.go:130", after := #[{ on := 2, ground := Ground.data }], guard := none } : Oper)) (v := ?_) rfl (by kernel_rfl) (by kernel_rfl) (by kernel_rfl) (fun _ _ _ h => h) (Or.inl ⟨by rfl, ?_⟩) (by assumption) ?_
        rotate_left
        · (intro w hSw; (try dsimp only at hSw); go_simp; all_goals (with_reducible rfl))
        try simp only [Act.put, List.setIfInBounds_toArray, List.set_cons_zero, List.set_cons_succ]
        refine wpAnyH_take (i := 4) (oi := ({ dst := some 43, op := Op.load 3 (Operand.tmp 42), type := 3, pos := "ref.go:130", after := #[{ on := 3, ground := Ground.data }], guard := none } : Oper)) (v := ?_) rfl (by kernel_rfl) (by kernel_rfl) (by kernel_rfl) (fun _ _ _ h => h) (Or.inl ⟨by rfl, ?_⟩) (by assumption) ?_
        rotate_left
        · (intro w hSw; (try dsimp only at hSw); go_simp; all_goals (with_reducible rfl))
        try simp only [Act.put, List.setIfInBounds_toArray, List.set_cons_zero, List.set_cons_succ]
        refine wpAnyH_take (i := 5) (oi := ({ dst := some 44, op := Op.move (Operand.tmp 8), type := 45, pos := "ref.go:130", after := #[], guard := none } : Oper)) (v := ?_) rfl (by kernel_rfl) (by kernel_rfl) (by kernel_rfl) (fun _ _ _ h => h) (Or.inl ⟨by rfl, ?_⟩) (by assumption) ?_
        rotate_left
        · (intro w hSw; (try dsimp only at hSw); go_simp; all_goals (with_reducible rfl))
        try simp only [Act.put, List.setIfInBounds_toArray, List.set_cons_zero, List.set_cons_succ]
        refine wpAnyH_take (i := 6) (oi := ({ dst := some 45, op := Op.move (Operand.tmp 10), type := 3, pos := "ref.go:130", after := #[], guard := none } : Oper)) (v := ?_) rfl (by kernel_rfl) (by kernel_rfl) (by kernel_rfl) (fun _ _ _ h => h) (Or.inl ⟨by rfl, ?_⟩) (by assumption) ?_
        rotate_left
        · (intro w hSw; (try dsimp only at hSw); go_simp; all_goals (with_reducible rfl))
        try simp only [Act.put, List.setIfInBounds_toArray, List.set_cons_zero, List.set_cons_succ]
        refine wpAnyH_take (i := 7) (oi := ({ dst := some 46, op := Op.indexAddr 45 (Operand.tmp 44) (Operand.tmp 45), type := 0, pos := "ref.go:130", after := #[{ on := 5, ground := Ground.data }, { on := 6, ground := Ground.data }], guard := none } : Oper)) (v := ?_) rfl (by kernel_rfl) (by kernel_rfl) (by kernel_rfl) (fun _ _ _ h => h) (Or.inl ⟨by rfl, ?_⟩) (by assumption) ?_
        rotate_left
        · (intro w hSw; (try dsimp only at hSw); go_simp; all_goals (with_reducible rfl))
        try simp only [Act.put, List.setIfInBounds_toArray, List.set_cons_zero, List.set_cons_succ]
        refine wpAnyH_take (i := 8) (oi := ({ dst := some 47, op := Op.fieldAddr 48 (Operand.tmp 46) 1, type := 0, pos := "ref.go:130", after := #[{ on := 7, ground := Ground.data }], guard := none } : Oper)) (v := ?_) rfl (by kernel_rfl) (by kernel_rfl) (by kernel_rfl) (fun _ _ _ h => h) (Or.inl ⟨by rfl, ?_⟩) (by assumption) ?_
        rotate_left
        · (intro w hSw; (try dsimp only at hSw); go_simp; all_goals (with_reducible rfl))
        try simp only [Act.put, List.setIfInBounds_toArray, List.set_cons_zero, List.set_cons_succ]
        refine wpAnyH_take (i := 9) (oi := ({ dst := some 48, op := Op.load 9 (Operand.tmp 47), type := 9, pos := "ref.go:130", after := #[{ on := 8, ground := Ground.data }], guard := none } : Oper)) (v := ?_) rfl (by kernel_rfl) (by kernel_rfl) (by kernel_rfl) (fun _ _ _ h => h) (Or.inl ⟨by rfl, ?_⟩) (by assumption) ?_
        rotate_left
        · (intro w hSw; (try dsimp only at hSw); go_simp; all_goals (with_reducible rfl))
        try simp only [Act.put, List.setIfInBounds_toArray, List.set_cons_zero, List.set_cons_succ]
        refine wpAnyH_take (i := 10) (oi := ({ dst := some 49, op := Op.call { callee := Callee.builtin Builtin.len, args := #[Operand.tmp 48], argTypes := #[9] }, type := 3, pos := "ref.go:130", after := #[{ on := 9, ground := Ground.data }], guard := none } : Oper)) (v := ?_) rfl (by kernel_rfl) (by kernel_rfl) (by kernel_rfl) (fun _ _ _ h => h) (Or.inl ⟨by rfl, ?_⟩) (by assumption) ?_
        rotate_left
        · (intro w hSw; (try dsimp only at hSw); go_simp; all_goals (with_reducible rfl))
        try simp only [Act.put, List.setIfInBounds_toArray, List.set_cons_zero, List.set_cons_succ]
        refine wpAnyH_take (i := 11) (oi := ({ dst := some 50, op := Op.binOp BinOp.add 3 (Operand.tmp 43) (Operand.tmp 49) 3, type := 3, pos := "ref.go:130", after := #[{ on := 4, ground := Ground.data }, { on := 10, ground := Ground.data }], guard := none } : Oper)) (v := ?_) rfl (by kernel_rfl) (by kernel_rfl) (by kernel_rfl) (fun _ _ _ h => h) (Or.inl ⟨by rfl, ?_⟩) (by assumption) ?_
        rotate_left
        · (intro w hSw; (try dsimp only at hSw); go_simp; all_goals (with_reducible rfl))
        try simp only [Act.put, List.setIfInBounds_toArray, List.set_cons_zero, List.set_cons_succ]
        refine wpAnyH_take (i := 12) (oi := ({ dst := some 9, op := Op.assign (Operand.tmp 50), type := 3, pos := "ref.go:130", after := #[{ on := 11, ground := Ground.data }, { on := 0, ground := Ground.phase }, { on := 1, ground := Ground.phase }, { on := 2, ground := Ground.phase }, { on := 3, ground := Ground.phase }, { on := 4, ground := Ground.phase }, { on := 5, ground := Ground.phase }, { on := 6, ground := Ground.phase }, { on := 7, ground := Ground.phase }, { on := 8, ground := Ground.phase }, { on := 9, ground := Ground.phase }, { on := 10, ground := Ground.phase }, { on := 11, ground := Ground.phase }], guard := none } : Oper)) (v := ?_) rfl (by kernel_rfl) (by kernel_rfl) (by kernel_rfl) (fun _ _ _ h => h) (Or.inl ⟨by rfl, ?_⟩) (by assumption) ?_
        rotate_left
        · (intro w hSw; (try dsimp only at hSw); go_simp; all_goals (with_reducible rfl))
        try simp only [Act.put, List.setIfInBounds_toArray, List.set_cons_zero, List.set_cons_succ]
        refine wpAnyH_done (by kernel_rfl) ?_ _
        refine NoPanic.normal ?_
        go_wp2_with fail
        go_roundw
        case rel => exact ⟨k + 1, by go_num, hkn, by rw [Hst.out], by rw [Hsn.out]; first | rfl | go_num, Hon2.out hgt, Hbw.out.trans (Hv2.out.mono hwrs)⟩
        case measure => simp only [RowKit.intOf]; omega
    · obtain rfl : k = N := by omega
      have hfull : (pcs s).take k = pcs s := List.take_of_length_le (by rw [HN.out]; exact Nat.le_refl _)
      rw [hfull, pcs_sum]
      have hki : ¬ (k : Int) < (k : Int) := by omega
      have hC9 := Hend.out (by rw [HN.out]; exact hkF)
      subst hC9
      by_cases hneg : wl < 0
      · have hF0 := Hneg.out hneg
        have hN0 : (pcs s).length = 0 := by rw [HN.out]; omega
        have hs0 : s.size = 0 := by rw [← pcs_sum, List.eq_nil_of_length_eq_zero hN0]; rfl
        rw [hs0]
        clear hkF hF0 hfull
        go_wp2
        go_ret
        exact ⟨rfl, Hb1.out.trans (hbw.mono (by omega))⟩
      · clear hkF hfull
        go_wp2
        go_ret
        exact ⟨rfl, Hb1.out.trans (hbw.mono (by omega))⟩

set_option maxRecDepth 100000 in
set_option maxHeartbeats 2000000 in
theorem rplain6_any (s : ByteArray) (w : World) (hs : s.size ≤ 1073741824) :
    Calls Tryd.prog 18 #[.string s] w fun e w' => e = .returned (.string ⟨(plainZ s).toArray⟩) ∧ Below w.heap.size w w' := by
  obtain ⟨i0, hi, hz0, hz1, hz2⟩ := info_parts byte_info6
  obtain ⟨B, hB⟩ : ∃ B, w.heap.size = B := ⟨_, rfl⟩
  have hpl := pcs_len s
  have HAll := Lib.hid (fun W => rall_any s W hs)
  have HTx := Lib.hid (fun k W hk => rtext6_any k 0 0 false 0 false true W hk (by omega) (by omega))
  have hP : plainZ s = (kB (pcs s)).flatMap plain1 := rfl
  obtain ⟨R, hR⟩ : ∃ R, plainZ s = R := ⟨_, rfl⟩
  rw [hR] at hP ⊢
  have HP := Lib.hid hP
  rw [hB]
  clear hR hP
  go_enter Tryd.func18, Tryd.ntmps18
  go_wp2_with fail
  refine (HAll.out _).mono ?_
  rintro _ w1 ⟨A, cp, rfl, own1, b1⟩
  have hs1 : B ≤ w1.heap.size := by have := b1.size; omega
  have Hb1 : Hid (Below B w w1) := Lib.hid (by rw [← hB]; exact b1)
  have HR1 : Hid (RdP w1 w1.heap.size A (pcs s)) := Lib.hid (by unfold RdP; exact Rd.own own1)
  clear b1 own1
  obtain ⟨N, hN⟩ : ∃ N, (pcs s).length = N := ⟨_, rfl⟩
  rw [hN] at hpl
  have HN := Lib.hid hN
  simp only [hN]
  clear hN
  go_wp2_with fail
  go_loopw [3, 5] (fun v i wr => ∃ k : Nat, i = .int .i64 (k : Int) ∧ k ≤ N ∧ wr.ownsRow w1.heap.size 5 1 v ((kB ((pcs s).take k)).flatMap plain1).length (Lib.byteCells ((kB ((pcs s).take k)).flatMap plain1)) ∧ Below w1.heap.size w1 wr) (fun _ i _ => N - (RowKit.intOf i).toNat)
  case atStart => exact ⟨0, rfl, Nat.zero_le _, World.ownsRow_nil _ _ _ _, Below.refl _ _⟩
  case round =>
    obtain ⟨k, rfl, hk, hown, hbw⟩ := hrel
    by_cases hkn : k < N
    · skip
      obtain ⟨x, hx⟩ : ∃ x, (pcs s)[k]? = some x := ⟨_, List.getElem?_eq_getElem (by rw [HN.out]; exact hkn)⟩
      have hmem := List.mem_of_getElem? hx
      have hclu := pcs_clu s hmem
      have hxs := pcsF_size s _ _ x hmem
      obtain ⟨a, rfl, hab, e0, e1⟩ := HR1.out.at_ hx
      rw [add_next] at e1
      have hsn : (kB ((pcs s).take (k + 1))).flatMap plain1 = (kB ((pcs s).take k)).flatMap plain1 ++ plain1 x.2.data.toList := by rw [take_snoc _ k x hx, plain_snoc]
      have hfl := flat_le ((pcs s).take k) 128 (fun y hy => by
        have := clu_size6 (pcs_clu s (List.mem_of_mem_take hy))
        rwa [size_list] at this)
      rw [List.length_take] at hfl
      have hp1 := plain1_len x.2.data.toList
      rw [size_list] at hp1
      obtain ⟨acc, hacc⟩ : ∃ acc, (kB ((pcs s).take k)).flatMap plain1 = acc := ⟨_, rfl⟩
      rw [hacc] at hown hfl hsn
      have htx := fun W => HTx.out x.2 W (by omega)
      have hv := text_clu6 true false 0 (0 : Int).toNat hclu
      have hpx : (x.2.data.toList ≠ [9]) → (x.2.data.toList ≠ [10]) → (x.2.data.toList ≠ [13, 10]) → (textZ true false 0 (0 : Int).toNat x.2.data.toList).1 = plain1 x.2.data.toList := by
        intro h9 h10 h13
        rw [hv]
        unfold plain1
        rw [if_neg h9, if_neg h13, if_neg h10]
        rfl
      obtain ⟨Y, hY⟩ : ∃ Y, textZ true false 0 (0 : Int).toNat x.2.data.toList = Y := ⟨_, rfl⟩
      rw [hY] at htx hpx
      obtain ⟨Y1, v9⟩ := Y
      simp only at hpx htx
      obtain ⟨xa, c⟩ := x
      simp only at hsn hp1 hxs hpx e0 e1 htx
      have hki : (k : Int) < (N : Int) := by omega
      have hwrs : w1.heap.size ≤ wr.heap.size := hbw.size
      have hw3 : IntKind.i64.wrap ((k : Int) + 1) = (k : Int) + 1 := IntWalk.i64_in _ (by omega)
      have hal : acc.length ≤ 274877906944 := by omega
      have hp9 : (plain1 c.data.toList).length ≤ 1073741952 := by omega
      have c1 : wr.cell? ⟨(a.add (k * 2)).block, (a.add (k * 2)).off + 1, none⟩ = some (.string c) := (hbw.cell (p := ⟨(a.add (k * 2)).block, (a.add (k * 2)).off + 1, none⟩) (by show (a.add (k * 2)).block < _; rw [add_block]; exact hab)).trans e1
      have hcase : (c = ⟨#[9]⟩ ∧ plain1 c.data.toList = [94, 73]) ∨ (c = ⟨#[10]⟩ ∧ plain1 c.data.toList = [94, 74]) ∨ (c = ⟨#[13, 10]⟩ ∧ plain1 c.data.toList = [94, 77, 94, 74]) ∨ ((c.toList == [9]) = false ∧ (c.toList == [10]) = false ∧ (c.toList == [13, 10]) = false ∧ Y1 = plain1 c.data.toList) := by
        by_cases h9 : c.data.toList = [9]
        · have := ba_list6 c _ h9
          subst this
          exact .inl ⟨rfl, rfl⟩
        by_cases h10 : c.data.toList = [10]
        · have := ba_list6 c _ h10
          subst this
          exact .inr (.inl ⟨rfl, rfl⟩)
        by_cases h13 : c.data.toList = [13, 10]
        · have := ba_list6 c _ h13
          subst this
          exact .inr (.inr (.inl ⟨rfl, rfl⟩))
        exact .inr (.inr (.inr ⟨by rw [toList_data, beq_eq_false_iff_ne]; exact h9, by rw [toList_data, beq_eq_false_iff_ne]; exact h10, by rw [toList_data, beq_eq_false_iff_ne]; exact h13, hpx h9 h10 h13⟩))
      obtain ⟨P1, hP1⟩ : ∃ P1, plain1 c.data.toList = P1 := ⟨_, rfl⟩
      rw [hP1] at hcase hsn hp9
      have Htx := Lib.hid htx
      have Hown := Lib.hid hown
      have Hbw := Lib.hid hbw
      have Hsn := Lib.hid hsn
      clear hown hbw hsn hacc hv hpx hY htx hclu hmem hx e0 e1 hP1 hp1 hfl
      rcases hcase with ⟨rfl, rfl⟩ | ⟨rfl, rfl⟩ | ⟨rfl, rfl⟩ | ⟨k9, k10, k13, rfl⟩
      all_goals
        go_wp2_with fail
        refine (Htx.out _).mono ?_
        rintro _ w2 ⟨rfl, b2⟩
        have hlt : (a.add (k * 2)).block < wr.heap.size := by rw [add_block]; omega
        have c2 := (b2.cell (p := ⟨(a.add (k * 2)).block, (a.add (k * 2)).off + 1, none⟩) hlt).trans c1
        have own2 := Lib.hid (own_below Hown.out b2)
        have Hb2 := Lib.hid (Hbw.out.trans (b2.mono hwrs))
        have hbs2 : w1.heap.size ≤ w2.heap.size := Hb2.out.size
        clear b2
      · have q3 : acc.length + (⟨#[94, 73]⟩ : ByteArray).size ≤ maxLen := by unfold maxLen; show acc.length + 2 ≤ _; omega
        have q4 : acc.length + (⟨#[94, 73]⟩ : ByteArray).size ≤ 140737488355328 := by show acc.length + 2 ≤ _; omega
        go_wp2_with (at_builtin; refine Hid.out ?_)
        refine Lib.hid ?_
        refine wpList_append_own_string _ rfl _ _ 38 9 rfl w1.heap.size 5 i0 Tryd.underlying38 Tryd.underlying9 hi hz0 hz1 hz2 _ _ _ rfl own2.out ⟨#[94, 73]⟩ rfl q3 q4 hbs2 ?_
        intro v' w3 own3 g3 _
        have Hb3 := Lib.hid (Hb2.out.grown g3 hbs2 (fun k hk => (own2.out.lt k hk).1))
        have Own3 := Lib.hid own3
        clear own3 g3
        go_wp2
        go_roundw
        case rel =>
          refine ⟨k + 1, by go_num, hkn, ?_, Hb3.out⟩
          have h9 := Own3.out
          rw [Hsn.out, List.length_append]
          unfold Lib.byteCells at h9 ⊢
          rw [List.map_append]
          exact h9
        case measure => simp only [RowKit.intOf]; omega
      · have q3 : acc.length + (⟨#[94, 74]⟩ : ByteArray).size ≤ maxLen := by unfold maxLen; show acc.length + 2 ≤ _; omega
        have q4 : acc.length + (⟨#[94, 74]⟩ : ByteArray).size ≤ 140737488355328 := by show acc.length + 2 ≤ _; omega
        go_wp2_with (at_builtin; refine Hid.out ?_)
        refine Lib.hid ?_
        refine wpList_append_own_string _ rfl _ _ 38 9 rfl w1.heap.size 5 i0 Tryd.underlying38 Tryd.underlying9 hi hz0 hz1 hz2 _ _ _ rfl own2.out ⟨#[94, 74]⟩ rfl q3 q4 hbs2 ?_
        intro v' w3 own3 g3 _
        have Hb3 := Lib.hid (Hb2.out.grown g3 hbs2 (fun k hk => (own2.out.lt k hk).1))
        have Own3 := Lib.hid own3
        clear own3 g3
        go_wp2
        go_roundw
        case rel =>
          refine ⟨k + 1, by go_num, hkn, ?_, Hb3.out⟩
          have h9 := Own3.out
          rw [Hsn.out, List.length_append]
          unfold Lib.byteCells at h9 ⊢
          rw [List.map_append]
          exact h9
        case measure => simp only [RowKit.intOf]; omega
      · have q3 : acc.length + (⟨#[94, 77, 94, 74]⟩ : ByteArray).size ≤ maxLen := by unfold maxLen; show acc.length + 4 ≤ _; omega
        have q4 : acc.length + (⟨#[94, 77, 94, 74]⟩ : ByteArray).size ≤ 140737488355328 := by show acc.length + 4 ≤ _; omega
        go_wp2_with (at_builtin; refine Hid.out ?_)
        refine Lib.hid ?_
        refine wpList_append_own_string _ rfl _ _ 38 9 rfl w1.heap.size 5 i0 Tryd.underlying38 Tryd.underlying9 hi hz0 hz1 hz2 _ _ _ rfl own2.out ⟨#[94, 77, 94, 74]⟩ rfl q3 q4 hbs2 ?_
        intro v' w3 own3 g3 _
        have Hb3 := Lib.hid (Hb2.out.grown g3 hbs2 (fun k hk => (own2.out.lt k hk).1))
        have Own3 := Lib.hid own3
        clear own3 g3
        go_wp2
        go_roundw
        case rel =>
          refine ⟨k + 1, by go_num, hkn, ?_, Hb3.out⟩
          have h9 := Own3.out
          rw [Hsn.out, List.length_append]
          unfold Lib.byteCells at h9 ⊢
          rw [List.map_append]
          exact h9
        case measure => simp only [RowKit.intOf]; omega
      · have q3 : acc.length + (⟨Y1.toArray⟩ : ByteArray).size ≤ maxLen := by unfold maxLen; show acc.length + Y1.length ≤ _; omega
        have q4 : acc.length + (⟨Y1.toArray⟩ : ByteArray).size ≤ 140737488355328 := by show acc.length + Y1.length ≤ _; omega
        go_wp2_with (at_builtin; refine Hid.out ?_)
        refine Lib.hid ?_
        refine wpList_append_own_string _ rfl _ _ 38 9 rfl w1.heap.size 5 i0 Tryd.underlying38 Tryd.underlying9 hi hz0 hz1 hz2 _ _ _ rfl own2.out ⟨Y1.toArray⟩ rfl q3 q4 hbs2 ?_
        intro v' w3 own3 g3 _
        have Hb3 := Lib.hid (Hb2.out.grown g3 hbs2 (fun k hk => (own2.out.lt k hk).1))
        have Own3 := Lib.hid own3
        clear own3 g3
        go_wp2
        go_roundw
        case rel =>
          refine ⟨k + 1, by go_num, hkn, ?_, Hb3.out⟩
          have h9 := Own3.out
          rw [Hsn.out, List.length_append]
          unfold Lib.byteCells at h9 ⊢
          rw [List.map_append]
          exact h9
        case measure => simp only [RowKit.intOf]; omega
    · obtain rfl : k = N := by omega
      have hfull : (pcs s).take k = pcs s := List.take_of_length_le (by rw [HN.out]; exact Nat.le_refl _)
      rw [hfull, ← HP.out] at hown
      obtain ⟨A2, c2, hv, _, _⟩ := own_shape hown
      subst hv
      have hcv := bytes_str6 wr _ _ c2 A2 _ (Rd.own hown)
      have hki : ¬ (k : Int) < (k : Int) := by omega
      clear hown hfull
      go_wp2
      go_ret
      exact ⟨rfl, Hb1.out.trans (hbw.mono (by omega))⟩

end Go.Proofs.YthejfbanehnmjaaDoor
