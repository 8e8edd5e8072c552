/- The law FnExactPickVictim, walked: every call by its contract. -/
import Derived.Test.YtgkanacaijlljabProg
import Derived.Test.YtgkanacaijlljabStO
import Derived.Test.YtgkanacaijlljabStP
namespace Go.Proofs.Ytgkanacaijlljab
open Go.RowKit
set_option linter.unusedVariables false
set_option maxHeartbeats 4000000 in
set_option maxRecDepth 100000 in
theorem wkPv (v : Value) (L : List St) (p q : Int) (w : World) (h : StI w w.heap.size v L) (hW : ∀ i, i < L.length → stW (L.getD i St.zero)) :
    Calls Try.prog 5 #[.int .i64 q, v, .int .i64 p] w fun e w' => e = .returned (.bool true) ∧ Below w.heap.size w w' := by
  obtain ⟨r, hr⟩ := prop_dec' (StsOk L p)
  obtain ⟨y, hy⟩ : ∃ y, y = pickV L r p q := ⟨_, rfl⟩
  have HS := Lib.hid (fun (W : World) (u : Value) (hi : Nat) (a : StI W hi u L) (c : hi ≤ W.heap.size) (z : L.length ≤ 1048576) => specPick_any u L p q r y W hi a c hr hy z)
  have HI := Lib.hid (fun (W : World) (u : Value) (hi : Nat) (a : StI W hi u L) (c : hi ≤ W.heap.size) (z : L.length ≤ 1048576) => implPick_any u L p q r y W hi a c hr hy z)
  have hxx : (y != y) = false := by simp
  clear hr hy
  obtain ⟨A, c, rfl⟩ := h.slice
  have AA := Lib.hid h
  have HZ := Lib.hid (szSts_any _ L w w.heap.size h)
  have HT := Lib.hid (fun (W : World) (hb : Below w.heap.size w W) (hl : L.length ≤ 1048576) => toSts_any _ L W w.heap.size (h.below hb (Nat.le_refl _)) hb.size hl)
  clear h
  go_enter Try.func5, Try.ntmps5
  go_wp2_with fail
  refine HZ.out.mono ?_
  rintro e w1 ⟨y, rfl, hy, rfl⟩
  by_cases hneg : y < 0
  · go_wp2
    go_ret
    exact ⟨rfl, Below.refl _ _⟩
  have hl : L.length ≤ 1048576 := by rcases hy with hy | hy <;> omega
  have hn : ¬ y < 0 := hneg
  have HL := Lib.hid hl
  clear hy hneg hl HZ
  go_wp2_with fail
  refine (HT.out _ (Below.refl _ _) HL.out).mono ?_
  rintro e w2 ⟨u, rfl, hu, b2⟩
  have B2 := Lib.hid b2
  have U := Lib.hid (show StI w2 w2.heap.size u L from hu.reads)
  clear hu b2
  go_wp2_with fail
  refine (HS.out _ _ _ U.out (Nat.le_refl _) HL.out).mono ?_
  rintro e w3 ⟨rfl, b3⟩
  have B3 := Lib.hid (B2.out.trans (b3.mono B2.out.size))
  clear U B2 b3
  go_wp2_with fail
  refine (HT.out _ B3.out HL.out).mono ?_
  rintro e w4 ⟨x, rfl, hx, b4⟩
  have B4 := Lib.hid (B3.out.trans (b4.mono B3.out.size))
  have X := Lib.hid (show StI w4 w4.heap.size x L from hx.reads)
  clear hx b4 B3
  obtain ⟨xA, xc, rfl⟩ := X.out.slice
  go_wp2_with fail
  refine (HI.out _ _ _ X.out (Nat.le_refl _) HL.out).mono ?_
  rintro e w5 ⟨rfl, b5⟩
  have B5 := Lib.hid (B4.out.trans (b5.mono B4.out.size))
  have X5 := Lib.hid (X.out.below b5 (Nat.le_refl _))
  have z5 := b5.size
  clear b5 X B4
  go_wp2_with fail
  refine (HT.out _ B5.out HL.out).mono ?_
  rintro e w6 ⟨y6, rfl, hy6, b6⟩
  have B6 := Lib.hid (B5.out.trans (b6.mono B5.out.size))
  have Y := Lib.hid (show StI w6 w6.heap.size y6 L from hy6.reads)
  have X6 := Lib.hid (X5.out.below b6 z5)
  have z6 := b6.size
  clear hy6 b6 X5 B5
  go_wp2_with fail
  refine (eqSts_any _ _ _ _ _ _ X6.out Y.out (by omega) (Nat.le_refl _) HL.out).mono ?_
  rintro e w7 ⟨rfl, b7⟩
  have B7 := Lib.hid (B6.out.trans (b7.mono B6.out.size))
  clear b7 B6 X6 Y
  go_wp2
  go_ret
  exact ⟨rfl, B7.out⟩
end Go.Proofs.Ytgkanacaijlljab
