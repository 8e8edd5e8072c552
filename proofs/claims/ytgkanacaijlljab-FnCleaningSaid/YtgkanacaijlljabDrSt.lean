/- The model's draw of statistics of blocks for the laws. -/
import Derived.Test.YtgkanacaijlljabProg
import Derived.Test.YtgkanacaijlljabPick
import Derived.Test.YtgkanacaijlljabSrcK
import Derived.Test.YtgkanacaijlljabStM
import Derived.Test.YtgkanacaijlljabStV
namespace Go.Proofs.Ytgkanacaijlljab
open Go.RowKit
set_option linter.unusedVariables false
set_option linter.unusedSimpArgs false
/-- What a draw of statistics leaves. -/
def DrawStP (w : World) (g : Nat) (e : Ending) (w' : World) : Prop := ∃ (v : Value) (L : List St) (p : Int), e = .returned (.tuple #[v, .int .i64 p]) ∧ StOwn w' w.heap.size v L ∧ L.length ≤ 9 ∧ w.grownBy w' (some g)
theorem grown_self (w : World) (row : Option Nat) : w.grownBy w row := ⟨rfl, rfl, rfl, Nat.le_refl _, fun _ _ _ => rfl⟩
theorem grown_any {w w' : World} {g : Nat} (h : w.grownBy w' (some g)) {k : Nat} (hk : k < w.heap.size) (hne : k ≠ g) : w'.heap[k]? = w.heap[k]? := h.block k hk (fun e => hne (Option.some.inj e))
theorem StOwn.grownG {w w' : World} {B g : Nat} {v : Value} {L : List St} (h : StOwn w B v L) (hg : w.grownBy w' (some g)) (hgB : g < B) : StOwn w' B v L := VOwn.sames h fun k e => grown_any hg (VOwn.blockOf h e).2 (by have := (VOwn.blockOf h e).1; omega)
set_option maxHeartbeats 8000000 in
set_option maxRecDepth 100000 in
theorem drawSt_any (B g : Nat) (w : World) (h : Src w B g 0) : Calls Try.prog 92 #[.pointer (some ⟨g, 0, none⟩)] w (DrawStP w g) := by
  have hg0 := h.lt
  have S0 := Lib.hid h
  have G0 := Lib.hid (grown_self w (some g))
  have Z0 := Lib.hid (Nat.le_refl w.heap.size)
  have P9 : Hid (pickMax 9 = 8) := by show _ = _; decide
  have P16 : Hid (pickMax 16 = 15) := by show _ = _; decide
  clear h
  go_enter Try.func92, Try.ntmps92
  go_wp2_with fail
  have ba := (Below.refl w.heap.size w).alloc (Nat.le_refl _) (.cells #[.int .i64 8, .int .i64 8, .int .i64 16, .int .i64 1] 2)
  have NA := Lib.hid (Rw.new w 2 #[.int .i64 8, .int .i64 8, .int .i64 16, .int .i64 1])
  have SA := Lib.hid (S0.out.keep ba)
  have GA := Lib.hid (grown_below G0.out (ba.mono Z0.out))
  have hga := S0.out.lt
  clear ba
  refine (among_any (fun x => 1 ≤ x ∧ x ≤ 16) B g _ w.heap.size 4 4 _ SA.out (by omega) (by omega) (by omega) (by omega) ?_).mono ?_
  · intro i hi
    rw [NA.out.cell]
    rcases i with _ | _ | _ | _ | i <;> first | exact ⟨_, rfl, by omega⟩ | exact ⟨_, rfl, trivial⟩ | omega
  rintro e w1 ⟨vv, rfl, ⟨p, rfl, hp⟩, hs, hg⟩
  have S1 := Lib.hid hs
  have G1 := Lib.hid (grown_trans GA.out hg)
  have Z1 := Lib.hid (show w.heap.size ≤ w1.heap.size from G1.out.size)
  clear S0 G0 Z0 NA SA GA hs hg
  have L1 := Lib.hid (show StOwn (w1.alloc (.cells #[] 56)) w.heap.size (.slice (some ⟨w1.heap.size, 0, none⟩) 0 0) [] from VOwn.made w1 Z1.out)
  have bb := (Below.refl w1.heap.size w1).alloc (Nat.le_refl _) (.cells #[] 56)
  have S2 := Lib.hid (S1.out.keep bb)
  have G2 := Lib.hid (grown_below G1.out (bb.mono Z1.out))
  clear bb
  go_wp2_with fail
  obtain ⟨x2, hx2⟩ : ∃ x, x = w1.alloc (.cells #[] 56) := ⟨_, rfl⟩
  rw [← hx2] at L1 S2 G2 ⊢
  clear hx2
  refine (pick_any B g _ 9 _ S2.out (by omega) (by omega) (by omega)).mono ?_
  rintro e w3 ⟨vv, rfl, ⟨k0, rfl, hk0, hk1⟩, hs, hg⟩
  rw [P9.out] at hk1
  have S3 := Lib.hid (hs.more (n' := 20 + 10 * (0 : Nat)) (by omega))
  have G3 := Lib.hid (grown_trans G2.out hg)
  have L3 := Lib.hid (L1.out.grownG hg hg0)
  have Z3 := Lib.hid (show w.heap.size ≤ w3.heap.size from G3.out.size)
  have HP := Lib.hid hp
  clear S2 G2 L1 S1 G1 Z1 hs hg
  have hw1 : IntKind.i64.wrap (p + 1) = p + 1 := IntWalk.i64_in _ (by omega)
  go_wp2_with fail
  go_loopw [5, 6] (fun l c wr => ∃ (k : Nat) (L : List St), c = .int .i64 (k : Int) ∧ L.length + k ≤ 8 ∧ Hid (StOwn wr w.heap.size l L) ∧ Hid (Src wr B g (20 + 10 * L.length)) ∧ Hid (w.grownBy wr (some g)) ∧ Hid (w.heap.size ≤ wr.heap.size)) (fun _ c _ => (intOf c).toNat)
  case atStart => exact ⟨k0.toNat, [], by rw [Int.toNat_of_nonneg hk0], by simp; omega, L3, S3, G3, Z3⟩
  case round =>
    clear L3 S3 G3 Z3
    obtain ⟨k, L, rfl, hkl, L4, S4, G4, Z4⟩ := hrel
    by_cases hk : 0 < k
    · have d0 : decide ((0 : Int) < (k : Int)) = true := by simp; omega
      have d0' : decide ((k : Int) > 0) = true := by simp; omega
      have hwk : IntKind.i64.wrap ((k : Int) - 1) = ((k - 1 : Nat) : Int) := by rw [IntWalk.i64_in _ (by omega)]; omega
      have hL8 : L.length ≤ 8 := by omega
      go_wp2_with fail
      refine (pick_any B g _ (p + 1) _ S4.out (by omega) (by omega) (by omega)).mono ?_
      rintro e w5 ⟨vv, rfl, ⟨x, rfl, _, _⟩, hs, hg⟩
      have S5 := Lib.hid hs
      have G5 := Lib.hid (grown_trans G4.out hg)
      have L5 := Lib.hid (L4.out.grownG hg hg0)
      have Z5 := Lib.hid (show w.heap.size ≤ w5.heap.size from G5.out.size)
      clear hs hg L4 S4 G4 Z4
      have bb := (Below.refl w5.heap.size w5).alloc (Nat.le_refl _) (.cells #[.int .i64 x, .int .i64 0, .bool true] 56)
      have S6 := Lib.hid (S5.out.keep bb)
      have G6 := Lib.hid (grown_below G5.out (bb.mono Z5.out))
      have L6 := Lib.hid (VOwn.later L5.out bb (Nat.le_refl _))
      have R6 := Lib.hid (Rw.new w5 56 #[.int .i64 x, .int .i64 0, .bool true])
      have hm5 := S5.out.lt
      clear bb
      go_wp2_with fail
      have ba := (Below.refl _ (w5.alloc (.cells #[.int .i64 x, .int .i64 0, .bool true] 56))).alloc (Nat.le_refl _) (.cells #[.int .i64 0, .int .i64 1, .int .i64 3, .int .i64 10, .int .i64 30, .int .i64 1000000] 2)
      have R7 := Lib.hid (R6.out.alloc (.cells #[.int .i64 0, .int .i64 1, .int .i64 3, .int .i64 10, .int .i64 30, .int .i64 1000000] 2))
      have N7 := Lib.hid (Rw.new (w5.alloc (.cells #[.int .i64 x, .int .i64 0, .bool true] 56)) 2 #[.int .i64 0, .int .i64 1, .int .i64 3, .int .i64 10, .int .i64 30, .int .i64 1000000])
      rw [show (w5.alloc (.cells #[.int .i64 x, .int .i64 0, .bool true] 56)).heap.size = w5.heap.size + 1 by simp] at N7
      have S7 := Lib.hid (S6.out.keep ba)
      have Z6 : w.heap.size ≤ (w5.alloc (.cells #[.int .i64 x, .int .i64 0, .bool true] 56)).heap.size := by have := Z5.out; simp; omega
      have G7 := Lib.hid (grown_below G6.out (ba.mono Z6))
      have L7 := Lib.hid (VOwn.later L6.out ba (Nat.le_refl _))
      have HBK := Lib.hid (fun (j : Nat) (e : u5.ownBlock = some j) => (VOwn.blockOf L5.out e).2)
      clear ba L5 L6 G6 S6 G5 S5 R6
      refine (among_any (fun x => True) B g _ (w5.heap.size + 1) 6 6 _ S7.out (by omega) (by omega) (by omega) (by omega) ?_).mono ?_
      · intro i hi
        rw [N7.out.cell]
        rcases i with _ | _ | _ | _ | _ | _ | i <;> first | exact ⟨_, rfl, trivial⟩ | omega
      rintro e w8 ⟨vv, rfl, ⟨y, rfl, _⟩, hs, hg⟩
      have S8 := Lib.hid hs
      have G8 := Lib.hid (grown_trans G7.out hg)
      have L8 := Lib.hid (StOwn.grownG (show StOwn _ w.heap.size u5 L from L7.out) hg hg0)
      have R8 := Lib.hid (R7.out.grown hg (by omega))
      have Z8 := Lib.hid (show w.heap.size ≤ w8.heap.size from G8.out.size)
      clear hs hg S7 G7 L7 R7 N7 Z6
      obtain ⟨a0, a1, a2⟩ := R8.out.three
      obtain ⟨f0, f1, f2, _, _, _, _, _⟩ := R8.out.frees
      go_wp2_with fail
      obtain ⟨w9, hw9⟩ : ∃ x, x = w8.setCell ⟨w5.heap.size, 1, none⟩ (.int .i64 y) := ⟨_, rfl⟩
      have b9 : Below w5.heap.size w8 w9 := by rw [hw9]; exact bset (Below.refl _ _) (Nat.le_refl _) _
      have R9 := Lib.hid (show Rw w9 w5.heap.size 56 #[.int .i64 x, .int .i64 y, .bool true] by rw [hw9]; exact R8.out.set_ 1 _)
      have S9 := Lib.hid (S8.out.keepB b9 hm5)
      have G9 := Lib.hid (grown_below G8.out (show Below w.heap.size w8 w9 by rw [hw9]; exact bset (Below.refl _ _) Z5.out _))
      have L9 := Lib.hid (show StOwn w9 w.heap.size u5 L from VOwn.sames L8.out fun j e => b9.block j (HBK.out j e))
      rw [← hw9]
      clear hw9 b9 R8 S8 G8 L8 Z8 a0 a1 a2 f0 f1 f2
      refine (one_any B g _ 4 _ S9.out (by omega) (by omega) (by omega)).mono ?_
      rintro e w10 ⟨vv, rfl, ⟨b, rfl⟩, hs, hg⟩
      have S10 := Lib.hid hs
      have G10 := Lib.hid (grown_trans G9.out hg)
      have L10 := Lib.hid (L9.out.grownG hg hg0)
      have R10 := Lib.hid (R9.out.grown hg (by omega))
      clear hs hg S9 G9 L9 R9
      obtain ⟨a0, a1, a2⟩ := R10.out.three
      obtain ⟨f0, f1, f2, _, _, _, _, _⟩ := R10.out.frees
      have b11 : Below w5.heap.size w10 (w10.setCell ⟨w5.heap.size, 2, none⟩ (.bool (!b))) := bset (Below.refl _ _) (Nat.le_refl _) _
      have R11 := Lib.hid (R10.out.set_ 2 (.bool (!b)))
      obtain ⟨q0, q1, q2⟩ := R11.out.three
      have S11 := Lib.hid (S10.out.keepB b11 hm5)
      have G11 := Lib.hid (grown_below G10.out (show Below w.heap.size w10 (w10.setCell ⟨w5.heap.size, 2, none⟩ (.bool (!b))) from bset (Below.refl _ _) Z5.out _))
      have L11 := Lib.hid (show StOwn (w10.setCell ⟨w5.heap.size, 2, none⟩ (.bool (!b))) w.heap.size u5 L from VOwn.sames L10.out fun j e => b11.block j (HBK.out j e))
      clear b11 S10 G10 L10 R10 R11
      have b12 := (Below.refl (w10.setCell ⟨w5.heap.size, 2, none⟩ (.bool (!b))).heap.size (w10.setCell ⟨w5.heap.size, 2, none⟩ (.bool (!b)))).alloc (Nat.le_refl _) (.cells #[.int .i64 x, .int .i64 y, .bool (!b)] 56)
      have S12 := Lib.hid (S11.out.keep b12)
      have G12 := Lib.hid (grown_below G11.out (b12.mono G11.out.size))
      have L12 := Lib.hid (VOwn.later L11.out b12 (Nat.le_refl _))
      have R12 := Lib.hid (Rw.new (w10.setCell ⟨w5.heap.size, 2, none⟩ (.bool (!b))) 56 #[.int .i64 x, .int .i64 y, .bool (!b)])
      rw [show (w10.setCell ⟨w5.heap.size, 2, none⟩ (.bool (!b))).heap.size = w10.heap.size by simp] at R12
      have sz12 := G12.out.size
      have SZ12 := Lib.hid sz12
      clear b12 S11 G11 L11 sz12
      go_wp2_with (at_builtin; refine wpList_append_St rfl _ _ rfl u5 L rfl L12.out (Below.refl _ _) SZ12.out _ 1 ⟨x, y, !b⟩ rfl R12.out (by omega) ?_; intro v' w13 ho hb _; have L13 := Lib.hid ho; have S13 := Lib.hid (S12.out.keepB hb hg0); have G13 := Lib.hid (grown_below G12.out hb); clear ho hb)
      go_roundw
      case rel => exact ⟨k - 1, L ++ [⟨x, y, !b⟩], by go_num, by simp; omega, L13, Lib.hid (S13.out.more (by simp; omega)), G13, Lib.hid G13.out.size⟩
      case measure => simp [intOf]; omega
    · obtain rfl : k = 0 := by omega
      go_wp2_with fail
      refine (pick_any B g _ 16 _ S4.out (by omega) (by omega) (by omega)).mono ?_
      rintro e w5 ⟨vv, rfl, ⟨x, rfl, hx0, hx1⟩, hs, hg⟩
      have S5 := Lib.hid hs
      have G5 := Lib.hid (grown_trans G4.out hg)
      have L5 := Lib.hid (L4.out.grownG hg hg0)
      have Z5 := Lib.hid (show w.heap.size ≤ w5.heap.size from G5.out.size)
      clear hs hg L4 S4 G4 Z4
      have hL8 : L.length ≤ 8 := by omega
      rcases (by omega : x = 0 ∨ x = 1 ∨ x = 2 ∨ 3 ≤ x) with rfl | rfl | rfl | hx3
      · skip
        go_wp2_with fail
        have ba := (Below.refl w5.heap.size w5).alloc (Nat.le_refl _) (.cells #[.int .i64 0, .int .i64 (-1), .int .i64 640, .int .i64 641] 2)
        have NA := Lib.hid (Rw.new w5 2 #[.int .i64 0, .int .i64 (-1), .int .i64 640, .int .i64 641])
        have SA := Lib.hid (S5.out.keep ba)
        have GA := Lib.hid (grown_below G5.out (ba.mono Z5.out))
        have hga := S5.out.lt
        have ba5 := ba
        clear ba
        refine (among_any (fun x => True) B g _ w5.heap.size 4 4 _ SA.out (by omega) (by omega) (by omega) (by omega) ?_).mono ?_
        · intro i hi
          rw [NA.out.cell]
          rcases i with _ | _ | _ | _ | i <;> first | exact ⟨_, rfl, by omega⟩ | exact ⟨_, rfl, trivial⟩ | omega
        rintro e w6 ⟨vv, rfl, ⟨y, rfl, hy⟩, hs, hg⟩
        have S6 := Lib.hid hs
        have G6 := Lib.hid (grown_trans GA.out hg)
        have Z6 := Lib.hid (show w.heap.size ≤ w6.heap.size from G6.out.size)
        go_wp2
        go_ret2
        exact ⟨u5, L, y, rfl, StOwn.grownG (show StOwn _ w.heap.size u5 L from VOwn.later L5.out ba5 (Nat.le_refl _)) hg hg0, by omega, G6.out⟩
      · have b12 := (Below.refl w5.heap.size w5).alloc (Nat.le_refl _) (.cells #[.int .i64 (p + 1), .int .i64 0, .bool false] 56)
        have G12 := Lib.hid (grown_below G5.out (b12.mono Z5.out))
        have L12 := Lib.hid (VOwn.later L5.out b12 (Nat.le_refl _))
        have R12 := Lib.hid (Rw.new w5 56 #[.int .i64 (p + 1), .int .i64 0, .bool false])
        have SZ12 := Lib.hid G12.out.size
        clear b12
        go_wp2_with (at_builtin; refine wpList_append_St rfl _ _ rfl u5 L rfl L12.out (Below.refl _ _) SZ12.out _ 1 ⟨p + 1, 0, false⟩ rfl R12.out (by omega) ?_; intro v' w13 ho hb _; have L13 := Lib.hid ho; have G13 := Lib.hid (grown_below G12.out hb); clear ho hb)
        go_ret2
        exact ⟨v', L ++ [⟨p + 1, 0, false⟩], p, rfl, L13.out, by simp; omega, G13.out⟩
      · skip
        go_wp2_with fail
        have ba := (Below.refl w5.heap.size w5).alloc (Nat.le_refl _) (.cells #[.int .i64 (-1), .int .i64 1000001] 2)
        have NA := Lib.hid (Rw.new w5 2 #[.int .i64 (-1), .int .i64 1000001])
        have SA := Lib.hid (S5.out.keep ba)
        have GA := Lib.hid (grown_below G5.out (ba.mono Z5.out))
        have hga := S5.out.lt
        have ba5 := ba
        clear ba
        refine (among_any (fun x => True) B g _ w5.heap.size 2 2 _ SA.out (by omega) (by omega) (by omega) (by omega) ?_).mono ?_
        · intro i hi
          rw [NA.out.cell]
          rcases i with _ | _ | i <;> first | exact ⟨_, rfl, by omega⟩ | exact ⟨_, rfl, trivial⟩ | omega
        rintro e w6 ⟨vv, rfl, ⟨y, rfl, hy⟩, hs, hg⟩
        have S6 := Lib.hid hs
        have G6 := Lib.hid (grown_trans GA.out hg)
        have Z6 := Lib.hid (show w.heap.size ≤ w6.heap.size from G6.out.size)
        have L6 := Lib.hid (StOwn.grownG (show StOwn _ w.heap.size u5 L from VOwn.later L5.out ba5 (Nat.le_refl _)) hg hg0)
        have b12 := (Below.refl w6.heap.size w6).alloc (Nat.le_refl _) (.cells #[.int .i64 0, .int .i64 y, .bool false] 56)
        have G12 := Lib.hid (grown_below G6.out (b12.mono Z6.out))
        have L12 := Lib.hid (VOwn.later L6.out b12 (Nat.le_refl _))
        have R12 := Lib.hid (Rw.new w6 56 #[.int .i64 0, .int .i64 y, .bool false])
        have SZ12 := Lib.hid G12.out.size
        clear b12
        go_wp2_with (at_builtin; refine wpList_append_St rfl _ _ rfl u5 L rfl L12.out (Below.refl _ _) SZ12.out _ 1 ⟨0, y, false⟩ rfl R12.out (by omega) ?_; intro v' w13 ho hb _; have L13 := Lib.hid ho; have G13 := Lib.hid (grown_below G12.out hb); clear ho hb)
        go_ret2
        exact ⟨v', L ++ [⟨0, y, false⟩], p, rfl, L13.out, by simp; omega, G13.out⟩
      · have d0 : (x == 0) = false := by simp; omega
        have d1 : (x == 1) = false := by simp; omega
        have d2 : (x == 2) = false := by simp; omega
        clear hx3 hx0 hx1
        go_wp2
        go_ret2
        exact ⟨u5, L, p, rfl, L5.out, by omega, G5.out⟩
end Go.Proofs.Ytgkanacaijlljab
