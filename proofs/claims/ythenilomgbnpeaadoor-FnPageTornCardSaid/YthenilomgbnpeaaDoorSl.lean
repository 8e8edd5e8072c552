/- Sealing a page, in the model and in the program: the contracts. -/
import Derived.Test.YthenilomgbnpeaaDoorProg
import Derived.Test.YthenilomgbnpeaaDoorPg
import Derived.Test.YthenilomgbnpeaaDoorScr
import Derived.Test.YthenilomgbnpeaaDoorEncS
namespace Go.Proofs.YthenilomgbnpeaaDoor
open Go.RowKit
set_option linter.unusedVariables false

/-- The text x scrambled at address p. -/
def scrB (x : ByteArray) (p : Nat) : ByteArray := strOfNums (xorL x (strOfNums (streamL (p + 1) x.size)) x.size)
theorem scrB_size (x : ByteArray) (p : Nat) : (scrB x p).size = x.size := by unfold scrB; rw [strOfNums_size, xorL_length]
def markS : ByteArray := strOfNums [90]
theorem markS_size : markS.size = 1 := by unfold markS; rw [strOfNums_size]; rfl
def chkB (x : ByteArray) : ByteArray := strOfNums (chkL x 10)
theorem chkB_size (x : ByteArray) : (chkB x).size = 10 := by unfold chkB; rw [strOfNums_size, chkL_length]
def sealB (d s : ByteArray) (p : Nat) : ByteArray := scrB (d ++ s) p ++ chkB (scrB (d ++ s) p) ++ markS
theorem sealB_size {d s : ByteArray} {p : Nat} (hd : d.size = 64) (hs : s.size = 16) : (sealB d s p).size = 91 := by
  unfold sealB; rw [ByteArray.size_append, ByteArray.size_append, scrB_size, ByteArray.size_append, chkB_size, markS_size]; omega
theorem wpList_one_byte' {Q : Exit → Act → World → Prop} {ops : Array Oper} {rest : List Oper} {o : Oper} {a : Act} {w : World} (hgd : o.guard = none) (x : Operand)
    (ho : o.op = .convert 22 9 x) (n : Nat) (b : Int) (s : ByteArray) (hx : a.eval x = .slice (some ⟨w.heap.size, 0, none⟩) 1 n) (hs : s = strOfNums [b])
    (h : wpList Tryd.prog ops Q rest (a.put o.dst (.string s)) (w.alloc (.cells #[.int .u8 b] 5))) : wpList Tryd.prog ops Q (o :: rest) a (w.alloc (.cells #[.int .u8 b] 5)) := by
  refine wpList_plain hgd fun K hK' => ?_
  have hrun := arr_str (Arr.new w 5 .u8 [b]) 1 n (by simp)
  unfold Oper.wp
  simp only [List.map_cons, List.map_nil, List.take_succ_cons, List.take_zero] at hrun
  simp only [execOp, ho, hx, hrun, Sem.run_bind, Sem.run_pure, Result.andThen]
  rw [← hs]
  exact hK' _ _ h
/-- What SealPage answers. -/
inductive SealEnds (d s : ByteArray) (p : Int) : ByteArray → Int → Prop
  | invalid (h : ¬ (d.size = 64 ∧ s.size = 16)) : SealEnds d s p ⟨#[]⟩ 1
  | range (h : d.size = 64 ∧ s.size = 16) (h1 : ¬ (0 ≤ p ∧ p ≤ 65534)) : SealEnds d s p ⟨#[]⟩ 2
  | done (h : d.size = 64 ∧ s.size = 16) (n : Nat) (hn : p = n) (h1 : n ≤ 65534) : SealEnds d s p (sealB d s n) 0
theorem sealEnds (d s : ByteArray) (p : Int) : ∃ r c, SealEnds d s p r c := by
  by_cases h : d.size = 64 ∧ s.size = 16
  case neg => exact ⟨_, _, .invalid h⟩
  by_cases h1 : 0 ≤ p ∧ p ≤ 65534
  case neg => exact ⟨_, _, .range h h1⟩
  exact ⟨_, _, .done h p.toNat (by omega) (by omega)⟩
theorem validAddr_any (k : Int) (b : Bool) (w : World) (hb : b = true ↔ (0 ≤ k ∧ k ≤ 65534)) : Calls Tryd.prog 15 #[.int .i64 k] w fun e w' => e = .returned (.bool b) ∧ w = w' := by
  by_cases h1 : 0 ≤ k
  · have d1 : decide (0 ≤ k) = true := by simp; omega
    have d2 : decide (k ≥ 0) = true := by simp; omega
    go_enter Tryd.func15, Tryd.ntmps15
    go_wp2
    go_ret
    exact ⟨ret_bool (by rw [Bool.eq_iff_iff, hb]; simp [h1]), rfl⟩
  · have d1 : decide (0 ≤ k) = false := by simp; omega
    have d2 : decide (k ≥ 0) = false := by simp; omega
    go_enter Tryd.func15, Tryd.ntmps15
    go_wp2
    go_ret
    exact ⟨ret_bool (by rw [Bool.eq_iff_iff, hb]; simp; omega), rfl⟩
set_option maxRecDepth 100000 in
theorem implSeal_any (d s : ByteArray) (p : Int) (r : ByteArray) (c : Int) (w : World) (h : SealEnds d s p r c) (hd : d.size ≤ 9223372036854775807) (hs : s.size ≤ 9223372036854775807) (hT : MaskTab w) :
    Calls Tryd.prog 8 #[.string d, .string s, .int .i64 p] w (PairPost r c w) := by
  rcases h with h | ⟨h, h1⟩ | ⟨h, n, rfl, h1⟩
  · by_cases e : d.size = 64
    · have e1 : ((d.size : Int) != 64) = false := by rw [e]; rfl
      have e2 : ((s.size : Int) != 16) = true := by simp; exact fun k => h ⟨e, by omega⟩
      clear h e
      go_enter Tryd.func8, Tryd.ntmps8
      go_wp2
      go_ret2
      exact ⟨rfl, Below.refl _ _⟩
    · have e1 : ((d.size : Int) != 64) = true := by simp; omega
      clear h e
      go_enter Tryd.func8, Tryd.ntmps8
      go_wp2
      go_ret2
      exact ⟨rfl, Below.refl _ _⟩
  · have e1 : ((d.size : Int) != 64) = false := by rw [h.1]; rfl
    have e2 : ((s.size : Int) != 16) = false := by rw [h.2]; rfl
    have HV := Lib.hid (validAddr_any p false w (by simp; omega))
    clear h h1
    go_enter Tryd.func8, Tryd.ntmps8
    go_wp2_with fail
    refine HV.out.mono ?_
    rintro e w' ⟨rfl, rfl⟩
    go_wp2
    go_ret2
    exact ⟨rfl, Below.refl _ _⟩
  · have e1 : ((d.size : Int) != 64) = false := by rw [h.1]; rfl
    have e2 : ((s.size : Int) != 16) = false := by rw [h.2]; rfl
    have HV := Lib.hid (validAddr_any (n : Int) true w (by simp; omega))
    have hds : (d ++ s).size = 80 := by rw [ByteArray.size_append]; omega
    have HS := Lib.hid (fun (W : World) => (show Calls Tryd.prog 16 #[.int .i64 n, .string (d ++ s)] W _ from implScr_yes (n : Int) (d ++ s) W (by omega) (by omega) (by omega)))
    rw [Int.toNat_natCast] at HS
    change Hid (∀ W, Calls Tryd.prog 16 #[.int .i64 n, .string (d ++ s)] W fun e w' => e = .returned (.tuple #[.string (scrB (d ++ s) n), .int .i64 0]) ∧ Below W.heap.size W w') at HS
    have hb := scrB_size (d ++ s) n
    rw [hds] at hb
    have hl1 : ¬ 9223372036854775807 < d.size + s.size := by omega
    unfold sealB
    generalize scrB (d ++ s) n = x at *
    have HE := Lib.hid (fun (W : World) (hT : MaskTab W) => (show Calls Tryd.prog 17 #[.string x] W (EncPost (chkB x) 0 W) from implEnc_yes x 10 W (by omega) (by omega) hT))
    have hc := chkB_size x
    generalize chkB x = y at *
    have hm := markS_size
    have HM := Lib.hid (show markS = strOfNums [90] from rfl)
    generalize markS = z at *
    have hl2 : ¬ 9223372036854775807 < x.size + y.size := by omega
    have hl3 : ¬ 9223372036854775807 < (x ++ y).size + z.size := by rw [ByteArray.size_append]; omega
    have HT := Lib.hid hT
    clear h h1 hT
    go_enter Tryd.func8, Tryd.ntmps8
    go_wp2_with fail
    refine HV.out.mono ?_
    rintro e w' ⟨rfl, rfl⟩
    go_wp2_with fail
    refine (HS.out _).mono ?_
    rintro e w1 ⟨rfl, b1⟩
    have HT1 := Lib.hid (HT.out.below b1 (Nat.le_refl _))
    go_wp2_with fail
    refine (HE.out _ HT1.out).mono ?_
    rintro e w2 ⟨rfl, b2⟩
    have B2 := b1.trans (b2.mono b1.size)
    clear b1 b2
    go_wp2_with (with_reducible show wpList _ _ _ (⟨some 40, _, _, _, _, _⟩ :: _) _ _; go_must (refine wpList_one_byte' rfl _ rfl 1 90 z rfl HM.out ?_))
    go_ret2
    exact ⟨rfl, B2.alloc B2.size _⟩
end Go.Proofs.YthenilomgbnpeaaDoor
