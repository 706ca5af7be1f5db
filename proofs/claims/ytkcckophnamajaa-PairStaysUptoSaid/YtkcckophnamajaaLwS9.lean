/- Layer 9: PairStays, walked whole. (Made by tools/mkstays9.py.) -/
import Derived.Test.YtkcckophnamajaaLwS1
set_option linter.unusedSimpArgs false
set_option linter.unusedVariables false
namespace Go.Proofs.Ytkcckophnamajaa
open Go.RowKit Go.Lib

theorem pairStays_walk (Ar A : Option Addr) (nr cr n0 c : Nat) (rs0 ks0 : List Int) (lv sos eos : Int) (h0 : 0 ≤ lv) (w : World) (hr0 : RdR w Ar nr rs0) (hk0 : RdK w A n0 ks0) (hnr : nr ≤ 1048576) (hn0 : n0 ≤ 1048576) (hcr : nr ≤ cr) (hnc : n0 ≤ c) :
    Calls Try.prog 6 #[.slice Ar nr cr, .slice A n0 c, .int .u8 lv, .int .i8 sos, .int .i8 eos] w fun e w' => e = .returned (.bool true) ∧ Below w.heap.size w w' := by
  have hm : lv.tmod 2 = 0 ∨ lv.tmod 2 = 1 := by
    have h1 := Int.tmod_nonneg (a := lv) 2 h0
    have h2 := Int.tmod_lt_of_pos lv (show (0 : Int) < 2 by omega)
    omega
  rcases hm with hlv | hlv
  · cases hs1 : (sos == 1) with
    | false =>
      cases hs2 : (eos == 1) with
      | false => exact pairStays_000 Ar A nr cr n0 c rs0 ks0 lv sos eos h0 hlv hs1 hs2 w hr0 hk0 hnr hn0 hcr hnc
      | true => exact pairStays_001 Ar A nr cr n0 c rs0 ks0 lv sos eos h0 hlv hs1 hs2 w hr0 hk0 hnr hn0 hcr hnc
    | true =>
      cases hs2 : (eos == 1) with
      | false => exact pairStays_010 Ar A nr cr n0 c rs0 ks0 lv sos eos h0 hlv hs1 hs2 w hr0 hk0 hnr hn0 hcr hnc
      | true => exact pairStays_011 Ar A nr cr n0 c rs0 ks0 lv sos eos h0 hlv hs1 hs2 w hr0 hk0 hnr hn0 hcr hnc
  · cases hs1 : (sos == 1) with
    | false =>
      cases hs2 : (eos == 1) with
      | false => exact pairStays_100 Ar A nr cr n0 c rs0 ks0 lv sos eos h0 hlv hs1 hs2 w hr0 hk0 hnr hn0 hcr hnc
      | true => exact pairStays_101 Ar A nr cr n0 c rs0 ks0 lv sos eos h0 hlv hs1 hs2 w hr0 hk0 hnr hn0 hcr hnc
    | true =>
      cases hs2 : (eos == 1) with
      | false => exact pairStays_110 Ar A nr cr n0 c rs0 ks0 lv sos eos h0 hlv hs1 hs2 w hr0 hk0 hnr hn0 hcr hnc
      | true => exact pairStays_111 Ar A nr cr n0 c rs0 ks0 lv sos eos h0 hlv hs1 hs2 w hr0 hk0 hnr hn0 hcr hnc
end Go.Proofs.Ytkcckophnamajaa
