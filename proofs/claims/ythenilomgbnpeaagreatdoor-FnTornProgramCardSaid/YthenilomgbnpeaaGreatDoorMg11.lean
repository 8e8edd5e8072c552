/- The proof's own lemmas, part 12: Sl Fp DrP DrR. -/
import Derived.Test.YthenilomgbnpeaaGreatDoorProg
import Derived.Test.YthenilomgbnpeaaGreatDoorMg4
import Derived.Test.YthenilomgbnpeaaGreatDoorMg5
import Derived.Test.YthenilomgbnpeaaGreatDoorMg10
import Derived.Test.YthenilomgbnpeaaGreatDoorMg1
import Derived.Deep.DeepMust
import Derived.Test.YthenilomgbnpeaaGreatDoorMg2
/- Sealing a page, in the model and in the program: the contracts. -/
namespace Go.Proofs.YthenilomgbnpeaaGreatDoor
open Go.RowKit
set_option linter.unusedVariables false

/-- The text x scrambled at address p. -/
def scrB (x : ByteArray) (p : Nat) : ByteArray := strOfNums (xorL x (strOfNums (streamL (p + 1) x.size)) x.size)
theorem scrB_size (x : ByteArray) (p : Nat) : (scrB x p).size = x.size := by unfold scrB; rw [strOfNums_size, xorL_length]
def markS : ByteArray := strOfNums [90]
theorem markS_size : markS.size = 1 := by unfold markS; rw [strOfNums_size]; rfl
def chkB (x : ByteArray) : ByteArray := strOfNums (chkL x 10)
theorem chkB_size (x : ByteArray) : (chkB x).size = 10 := by unfold chkB; rw [strOfNums_size, chkL_length]
def sealB (d s : ByteArray) (p : Nat) : ByteArray := scrB (d ++ s) p ++ chkB (scrB (d ++ s) p) ++ markS
theorem sealB_size {d s : ByteArray} {p : Nat} (hd : d.size = 64) (hs : s.size = 16) : (sealB d s p).size = 91 := by
  unfold sealB; rw [ByteArray.size_append, ByteArray.size_append, scrB_size, ByteArray.size_append, chkB_size, markS_size]; omega
theorem wpList_one_byte' {Q : Exit → Act → World → Prop} {ops : Array Oper} {rest : List Oper} {o : Oper} {a : Act} {w : World} (hgd : o.guard = none) (x : Operand)
    (ho : o.op = .convert 22 9 x) (n : Nat) (b : Int) (s : ByteArray) (hx : a.eval x = .slice (some ⟨w.heap.size, 0, none⟩) 1 n) (hs : s = strOfNums [b])
    (h : wpList Tryz.prog ops Q rest (a.put o.dst (.string s)) (w.alloc (.cells #[.int .u8 b] 5))) : wpList Tryz.prog ops Q (o :: rest) a (w.alloc (.cells #[.int .u8 b] 5)) := by
  refine wpList_plain hgd fun K hK' => ?_
  have hrun := arr_str (Arr.new w 5 .u8 [b]) 1 n (by simp)
  unfold Oper.wp
  simp only [List.map_cons, List.map_nil, List.take_succ_cons, List.take_zero] at hrun
  simp only [execOp, ho, hx, hrun, Sem.run_bind, Sem.run_pure, Result.andThen]
  rw [← hs]
  exact hK' _ _ h
/-- What SealPage answers. -/
inductive SealEnds (d s : ByteArray) (p : Int) : ByteArray → Int → Prop
  | invalid (h : ¬ (d.size = 64 ∧ s.size = 16)) : SealEnds d s p ⟨#[]⟩ 1
  | range (h : d.size = 64 ∧ s.size = 16) (h1 : ¬ (0 ≤ p ∧ p ≤ 65534)) : SealEnds d s p ⟨#[]⟩ 2
  | done (h : d.size = 64 ∧ s.size = 16) (n : Nat) (hn : p = n) (h1 : n ≤ 65534) : SealEnds d s p (sealB d s n) 0
theorem sealEnds (d s : ByteArray) (p : Int) : ∃ r c, SealEnds d s p r c := by
  by_cases h : d.size = 64 ∧ s.size = 16
  case neg => exact ⟨_, _, .invalid h⟩
  by_cases h1 : 0 ≤ p ∧ p ≤ 65534
  case neg => exact ⟨_, _, .range h h1⟩
  exact ⟨_, _, .done h p.toNat (by omega) (by omega)⟩
set_option maxRecDepth 100000 in
theorem l05Seal_any (d s : ByteArray) (p : Nat) (w : World) (hd : d.size = 64) (hs : s.size = 16) (hp : p ≤ 65534) :
    Calls Tryz.prog 44 #[.string d, .string s, .int .i64 p] w fun e w' => e = .returned (.string (sealB d s p)) ∧ Below w.heap.size w w' := by
  have hds : (d ++ s).size = 80 := by rw [ByteArray.size_append]; omega
  have HS := Lib.hid (fun (W : World) => (show Calls Tryz.prog 66 #[.int .i64 p, .string (d ++ s)] W _ from specScr_yes (p : Int) (d ++ s) W (by omega) (by omega) (by omega)))
  rw [Int.toNat_natCast] at HS
  change Hid (∀ W, Calls Tryz.prog 66 #[.int .i64 p, .string (d ++ s)] W fun e w' => e = .returned (.tuple #[.string (scrB (d ++ s) p), .int .i64 0]) ∧ Below W.heap.size W w') at HS
  have hb := scrB_size (d ++ s) p
  rw [hds] at hb
  unfold sealB
  generalize scrB (d ++ s) p = x at *
  have HE := Lib.hid (fun (W : World) => (show Calls Tryz.prog 67 #[.string x] W (EncPost (chkB x) 0 W) from specEnc_yes x 10 W (by omega) (by omega)))
  have hc := chkB_size x
  generalize chkB x = y at *
  have hm := markS_size
  have HM := Lib.hid (show markS = strOfNums [90] from rfl)
  generalize markS = z at *
  have hl1 : ¬ 9223372036854775807 < d.size + s.size := by omega
  have hl2 : ¬ 9223372036854775807 < x.size + y.size := by omega
  have hl3 : ¬ 9223372036854775807 < (x ++ y).size + z.size := by rw [ByteArray.size_append]; omega
  go_enter Tryz.func44, Tryz.ntmps44
  go_wp2_with fail
  refine (HS.out _).mono ?_
  rintro e w1 ⟨rfl, b1⟩
  go_wp2_with fail
  refine (HE.out _).mono ?_
  rintro e w2 ⟨rfl, b2⟩
  have B2 := b1.trans (b2.mono b1.size)
  clear b1 b2
  go_wp2_with (with_reducible show wpList _ _ _ (⟨some 28, _, _, _, _, _⟩ :: _) _ _; go_must (refine wpList_one_byte' rfl _ rfl 1 90 z rfl HM.out ?_))
  go_ret
  exact ⟨rfl, B2.alloc B2.size _⟩
theorem validAddr_any (k : Int) (b : Bool) (w : World) (hb : b = true ↔ (0 ≤ k ∧ k ≤ 65534)) : Calls Tryz.prog 26 #[.int .i64 k] w fun e w' => e = .returned (.bool b) ∧ w = w' := by
  by_cases h1 : 0 ≤ k
  · have d1 : decide (0 ≤ k) = true := by simp; omega
    have d2 : decide (k ≥ 0) = true := by simp; omega
    go_enter Tryz.func26, Tryz.ntmps26
    go_wp2
    go_ret
    exact ⟨ret_bool (by rw [Bool.eq_iff_iff, hb]; simp [h1]), rfl⟩
  · have d1 : decide (0 ≤ k) = false := by simp; omega
    have d2 : decide (k ≥ 0) = false := by simp; omega
    go_enter Tryz.func26, Tryz.ntmps26
    go_wp2
    go_ret
    exact ⟨ret_bool (by rw [Bool.eq_iff_iff, hb]; simp; omega), rfl⟩
set_option maxRecDepth 100000 in
theorem implSeal_any (d s : ByteArray) (p : Int) (r : ByteArray) (c : Int) (w : World) (h : SealEnds d s p r c) (hd : d.size ≤ 9223372036854775807) (hs : s.size ≤ 9223372036854775807) (hT : MaskTab w) :
    Calls Tryz.prog 8 #[.string d, .string s, .int .i64 p] w (PairPost r c w) := by
  rcases h with h | ⟨h, h1⟩ | ⟨h, n, rfl, h1⟩
  · by_cases e : d.size = 64
    · have e1 : ((d.size : Int) != 64) = false := by rw [e]; rfl
      have e2 : ((s.size : Int) != 16) = true := by simp; exact fun k => h ⟨e, by omega⟩
      clear h e
      go_enter Tryz.func8, Tryz.ntmps8
      go_wp2
      go_ret2
      exact ⟨rfl, Below.refl _ _⟩
    · have e1 : ((d.size : Int) != 64) = true := by simp; omega
      clear h e
      go_enter Tryz.func8, Tryz.ntmps8
      go_wp2
      go_ret2
      exact ⟨rfl, Below.refl _ _⟩
  · have e1 : ((d.size : Int) != 64) = false := by rw [h.1]; rfl
    have e2 : ((s.size : Int) != 16) = false := by rw [h.2]; rfl
    have HV := Lib.hid (validAddr_any p false w (by simp; omega))
    clear h h1
    go_enter Tryz.func8, Tryz.ntmps8
    go_wp2_with fail
    refine HV.out.mono ?_
    rintro e w' ⟨rfl, rfl⟩
    go_wp2
    go_ret2
    exact ⟨rfl, Below.refl _ _⟩
  · have e1 : ((d.size : Int) != 64) = false := by rw [h.1]; rfl
    have e2 : ((s.size : Int) != 16) = false := by rw [h.2]; rfl
    have HV := Lib.hid (validAddr_any (n : Int) true w (by simp; omega))
    have hds : (d ++ s).size = 80 := by rw [ByteArray.size_append]; omega
    have HS := Lib.hid (fun (W : World) => (show Calls Tryz.prog 27 #[.int .i64 n, .string (d ++ s)] W _ from implScr_yes (n : Int) (d ++ s) W (by omega) (by omega) (by omega)))
    rw [Int.toNat_natCast] at HS
    change Hid (∀ W, Calls Tryz.prog 27 #[.int .i64 n, .string (d ++ s)] W fun e w' => e = .returned (.tuple #[.string (scrB (d ++ s) n), .int .i64 0]) ∧ Below W.heap.size W w') at HS
    have hb := scrB_size (d ++ s) n
    rw [hds] at hb
    have hl1 : ¬ 9223372036854775807 < d.size + s.size := by omega
    unfold sealB
    generalize scrB (d ++ s) n = x at *
    have HE := Lib.hid (fun (W : World) (hT : MaskTab W) => (show Calls Tryz.prog 28 #[.string x] W (EncPost (chkB x) 0 W) from implEnc_yes x 10 W (by omega) (by omega) hT))
    have hc := chkB_size x
    generalize chkB x = y at *
    have hm := markS_size
    have HM := Lib.hid (show markS = strOfNums [90] from rfl)
    generalize markS = z at *
    have hl2 : ¬ 9223372036854775807 < x.size + y.size := by omega
    have hl3 : ¬ 9223372036854775807 < (x ++ y).size + z.size := by rw [ByteArray.size_append]; omega
    have HT := Lib.hid hT
    clear h h1 hT
    go_enter Tryz.func8, Tryz.ntmps8
    go_wp2_with fail
    refine HV.out.mono ?_
    rintro e w' ⟨rfl, rfl⟩
    go_wp2_with fail
    refine (HS.out _).mono ?_
    rintro e w1 ⟨rfl, b1⟩
    have HT1 := Lib.hid (HT.out.below b1 (Nat.le_refl _))
    go_wp2_with fail
    refine (HE.out _ HT1.out).mono ?_
    rintro e w2 ⟨rfl, b2⟩
    have B2 := b1.trans (b2.mono b1.size)
    clear b1 b2
    go_wp2_with (with_reducible show wpList _ _ _ (⟨some 40, _, _, _, _, _⟩ :: _) _ _; go_must (refine wpList_one_byte' rfl _ rfl 1 90 z rfl HM.out ?_))
    go_ret2
    exact ⟨rfl, B2.alloc B2.size _⟩
end Go.Proofs.YthenilomgbnpeaaGreatDoor
/- A bit of a raw page inverted, in the model and in the program: the contracts. -/
namespace Go.Proofs.YthenilomgbnpeaaGreatDoor
open Go.RowKit
set_option linter.unusedVariables false

def byteNums (s : ByteArray) : List Int := s.data.toList.map fun b => (b.toNat : Int)
theorem byteNums_length (s : ByteArray) : (byteNums s).length = s.size := by simp [byteNums]
theorem byteNums_get (s : ByteArray) (k : Nat) (h : k < s.size) : (byteNums s).getD k 0 = (byteAt s k : Int) := by
  have h' : k < s.data.toList.length := by simpa using h
  unfold byteNums byteAt
  rw [List.getD_eq_getElem?_getD, List.getElem?_map, List.getD_eq_getElem?_getD, List.getElem?_eq_getElem h']; rfl
/-- Bit k of a raw page inverted. -/
def flipL (raw : ByteArray) (k : Nat) : List Int := (byteNums raw).set (k / 8) ((byteAt raw (k / 8) ^^^ 2 ^ (k % 8) : Nat) : Int)
def flipP (raw : ByteArray) (k : Nat) : ByteArray := strOfNums (flipL raw k)
theorem flipP_size (raw : ByteArray) (k : Nat) : (flipP raw k).size = raw.size := by
  unfold flipP flipL; rw [strOfNums_size, List.length_set, byteNums_length]
/-- What FlipPageBit answers. -/
inductive FlipEnds (raw : ByteArray) (k : Int) : ByteArray → Int → Prop
  | invalid (h : raw.size ≠ 91) : FlipEnds raw k ⟨#[]⟩ 1
  | range (h : raw.size = 91) (h1 : ¬ (0 ≤ k ∧ k ≤ 727)) : FlipEnds raw k ⟨#[]⟩ 2
  | done (h : raw.size = 91) (n : Nat) (hn : k = n) (h1 : n ≤ 727) : FlipEnds raw k (flipP raw n) 0
theorem flipEnds (raw : ByteArray) (k : Int) : ∃ s c, FlipEnds raw k s c := by
  by_cases h : raw.size = 91
  case neg => exact ⟨_, _, .invalid h⟩
  by_cases h1 : 0 ≤ k ∧ k ≤ 727
  case neg => exact ⟨_, _, .range h h1⟩
  exact ⟨_, _, .done h k.toNat (by omega) (by omega)⟩
theorem FlipEnds.size {raw : ByteArray} {k : Int} {s : ByteArray} {c : Int} (h : FlipEnds raw k s c) : s.size ≤ 91 := by
  rcases h with h | h | ⟨h, n, rfl, h1⟩
  · exact Nat.zero_le _
  · exact Nat.zero_le _
  · rw [flipP_size]; omega
theorem flip_byte (y k : Nat) (hy : y < 256) : bits .xor .u8 (y : Int) (2 ^ (k % 8) % 256) = ((y ^^^ 2 ^ (k % 8) : Nat) : Int) := by
  have e : ((2 : Int) ^ (k % 8)) = (((2 : Nat) ^ (k % 8) : Nat) : Int) := by rw [Int.natCast_pow]; rfl
  have hp : (2 : Nat) ^ (k % 8) < 2 ^ 8 := Nat.pow_lt_pow_right (by decide) (by omega)
  rw [e]
  generalize (2 : Nat) ^ (k % 8) = q at *
  rw [show (q : Int) % 256 = (q : Int) by omega, u8_xor_nat _ _ (by omega) (by omega)]
set_option maxRecDepth 100000 in
theorem specFlipP_any (raw : ByteArray) (k : Int) (s : ByteArray) (c : Int) (w : World) (h : FlipEnds raw k s c) (hs : raw.size ≤ 9223372036854775807) :
    Calls Tryz.prog 45 #[.string raw, .int .i64 k] w (PairPost s c w) := by
  rcases h with h | ⟨h, h1⟩ | ⟨h, n, rfl, h1⟩
  · have hd : ((raw.size : Int) != 91) = true := by simp; omega
    go_enter Tryz.func45, Tryz.ntmps45
    go_wp2
    go_ret2
    exact ⟨rfl, Below.refl _ _⟩
  · have hd : ((raw.size : Int) != 91) = false := by rw [h]; rfl
    go_enter Tryz.func45, Tryz.ntmps45
    go_wp2_with fail
    refine (inr_no k 0 727 w h1).mono ?_
    rintro e w' ⟨rfl, rfl⟩
    go_wp2
    go_ret2
    exact ⟨rfl, Below.refl _ _⟩
  · have hd : ((raw.size : Int) != 91) = false := by rw [h]; rfl
    have HI := Lib.hid (fun (W : World) => inr_yes (n : Int) 0 727 W (by omega) (by omega))
    have HSZ := Lib.hid h
    have hI2 : (n : Int) / 8 < (raw.size : Int) := by omega
    have hI3 : (n : Int) ≤ 727 := by omega
    have hyl := byteAt_le raw (n / 8)
    have HX := Lib.hid (flip_byte (byteAt raw (n / 8)) n (by omega))
    have HG := Lib.hid (byteNums_get raw (n / 8) (by omega))
    clear h h1
    unfold flipP flipL
    generalize hy : byteAt raw (n / 8) = y at *
    clear hy
    go_enter Tryz.func45, Tryz.ntmps45
    go_wp2_with fail
    refine (HI.out _).mono ?_
    rintro e w' ⟨rfl, rfl⟩
    go_wp2_with (refine wpList_str_bytes rfl _ rfl raw rfl (Below.refl w.heap.size w) (Nat.le_refl _) ?_; intro cap w1 hat hz1 hb1; go_must (
      have hlen := byteNums_length raw
      change BytesAt w1 w.heap.size (byteNums raw) at hat
      have hcell := (hat (n / 8) (by have := HSZ.out; omega)).1
      have hfree := (hat (n / 8) (by have := HSZ.out; omega)).2
      rw [HG.out] at hcell
      have hset := hat.set_ (k := n / 8) (by have := HSZ.out; omega) ((y ^^^ 2 ^ (n % 8) : Nat) : Int)
      have hcv := hset.str (cap := cap)
      rw [List.length_set, hlen] at hcv
      have hcv2 := hcv
      rw [← HX.out] at hcv2
      have HE := Lib.hid hcv
      have hbe := hb1.setCell (p := ⟨w.heap.size, n / 8, none⟩) (Nat.le_refl _) (.int .u8 (bits .xor .u8 (y : Int) (2 ^ (n % 8) % 256)))
      clear hat hset hcv hlen))
    go_ret2
    exact ⟨by rw [HX.out]; rfl, hbe⟩
end Go.Proofs.YthenilomgbnpeaaGreatDoor
/- Chapter 5's generators: bytes, an address, a raw page. Only that each returns, within its bounds, is said. -/
namespace Go.Proofs.YthenilomgbnpeaaGreatDoor
open Go.RowKit
set_option linter.unusedVariables false
def TxE (m : Nat) (v : Value) : Prop := ∃ s : ByteArray, v = .string s ∧ s.size = m
set_option maxRecDepth 100000 in
theorem l05Bytes_any (B g n m : Nat) (w : World) (h : Src w B g n) (hn : n ≤ 800000000000) (hm : m ≤ 100) :
    Calls Tryz.prog 43 #[.pointer (some ⟨g, 0, none⟩), .int .i64 m] w (Chose (TxE m) B g (n + 200) w) := by
  have hlt := h.lt
  have hmi : (m : Int) ≤ 100 := by omega
  go_enter Tryz.func43, Tryz.ntmps43
  go_wp2_with fail
  refine (one_any B g n 3 _ h (by omega) (by omega) (by omega)).mono ?_
  rintro e w1 ⟨v1, rfl, ⟨b, rfl⟩, hS1, hg1⟩
  clear h
  have hz1 := hg1.size
  cases b
  · have h0 := hS1.keep ((Below.refl w1.heap.size w1).alloc (Nat.le_refl _) (.cells #[] 5))
    have hg0 : w1.grownBy (w1.alloc (.cells #[] 5)) (some g) := World.grownBy_alloc w1 _ _
    have hown0 := BytesOwn.made w1 hz1
    have hgr0 := grown_trans hg1 hg0
    clear hS1 hg1 hg0
    go_wp2
    go_loopw [5, 6] (fun v i wr => ∃ (k : Nat) (l : List Int), k ≤ m ∧ i = .int .i64 k ∧ l.length = k ∧ BytesOwn wr w.heap.size v l ∧ Src wr B g (n + 2 + k) ∧ w.grownBy wr (some g)) (fun _ i _ => m - (intOf i).toNat)
    case atStart => exact ⟨0, [], by omega, rfl, rfl, hown0, h0, hgr0⟩
    case round =>
      clear hown0 h0 hgr0
      obtain ⟨k, l, hk, rfl, hl, hown, hS, hgr⟩ := hrel
      have hz := hgr.size
      by_cases hk0 : k < m
      · have hki : (k : Int) < (m : Int) := by omega
        go_wp2_with (first
          | (
             go_at_call 39; refine (next_any B g (n + 2 + k) _ hS (by omega)).mono ?_; rintro e w2 ⟨v2, rfl, ⟨y, rfl, hy0, hy1⟩, hS2, hg2⟩
             have hown2 := hown.grown hg2 hlt
             have hgr2 := grown_trans hgr hg2
             have hz2 := hgr2.size
             clear hown hS hgr hg2)
          | (
             at_builtin; refine wpList_append_byte rfl _ _ rfl _ l rfl hown2 (Below.refl _ _) hz2 _ _ rfl (by omega) ?_
             intro v' w3 hown3 hb3
             have hS3 := hS2.keepB hb3 hlt
             have hgr3 := grown_below hgr2 hb3
             clear hown2 hS2 hgr2 hb3))
        go_roundw
        case rel => exact ⟨k + 1, _, by omega, by go_num, by simp [hl], hown3, hS3, hgr3⟩
        case measure => simp [intOf]; omega
      · obtain rfl : k = m := by omega
        have hcv := bytes_str hown
        have hls : (strOfNums l).size = l.length := strOfNums_size l
        have HL := Lib.hid hls
        have HLL := Lib.hid hl
        clear hls hl
        go_wp2
        go_ret
        exact ⟨_, rfl, ⟨_, rfl, by rw [HL.out, HLL.out]⟩, hS.more (by omega), hgr⟩
  · go_wp2_with fail
    refine (next_any B g (n + 2) _ hS1 (by omega)).mono ?_
    rintro e w2 ⟨v2, rfl, ⟨y, rfl, hy0, hy1⟩, hS2, hg2⟩
    obtain ⟨c, rfl⟩ := Int.eq_ofNat_of_zero_le hy0
    have HF := Lib.hid (fun (W : World) => fill_any c m W (by omega) (by omega))
    have hgr2 := grown_trans hg1 hg2
    clear hy0 hS1 hg1 hg2
    have hf := fillB_size c m
    go_wp2_with fail
    refine (HF.out _).mono ?_
    rintro e w3 ⟨rfl, hb3⟩
    have hS3 := hS2.keep hb3
    have hgr3 := grown_below hgr2 (hb3.mono hgr2.size)
    clear hS2 hgr2 hb3
    go_wp2
    go_ret
    exact ⟨_, rfl, ⟨_, rfl, hf⟩, hS3.more (by omega), hgr3⟩
theorem l05Page_any (B g n : Nat) (w : World) (h : Src w B g n) (hn : n ≤ 800000000000) :
    Calls Tryz.prog 42 #[.pointer (some ⟨g, 0, none⟩)] w (Chose (IntIn (-1) 65535) B g (n + 4) w) := by
  have hlt := h.lt
  have HP : Hid (pickMax 600 = 599) := by show _ = _; decide
  go_enter Tryz.func42, Tryz.ntmps42
  go_wp2_with fail
  refine (pick_any B g n 600 _ h (by omega) (by omega) (by omega)).mono ?_
  rintro e w1 ⟨v1, rfl, ⟨x, rfl, hx0, hx1⟩, hS1, hg1⟩
  rw [HP.out] at hx1
  clear h
  have hz1 := hg1.size
  have hne : w1.heap.size ≠ g := by omega
  go_wp2_with fail
  refine (among_any (fun x => -1 ≤ x ∧ x ≤ 65535) B g (n + 2) w1.heap.size 10 10 _ ?_ (by omega) (by omega) (by omega) hne ?_).mono ?_
  · exact hS1.keep ((Below.refl _ _).alloc (Nat.le_refl _) _)
  · refine newCells _ _ _ 10 rfl ?_
    intro v hv
    simp only [List.mem_cons, List.not_mem_nil, or_false] at hv
    rcases hv with rfl | rfl | rfl | rfl | rfl | rfl | rfl | rfl | rfl | rfl <;> exact ⟨_, rfl, by constructor <;> omega⟩
  rintro e w2 ⟨v2, rfl, ⟨y, rfl, hy0, hy1⟩, hS2, hg2⟩
  go_wp2
  go_ret
  exact ⟨_, rfl, ⟨y, rfl, hy0, hy1⟩, hS2, grown_trans hg1 (grown_trans (World.grownBy_alloc w1 _ _) hg2)⟩
theorem minr_any (a b : Int) (w : World) : Calls Tryz.prog 41 #[.int .i64 a, .int .i64 b] w fun e w' => e = .returned (.int .i64 (min a b)) ∧ w = w' := by
  by_cases h : a < b
  · have hm : min a b = a := by omega
    rw [hm]
    go_enter Tryz.func41, Tryz.ntmps41
    go_wp2
    go_ret
    exact ⟨rfl, rfl⟩
  · have hm : min a b = b := by omega
    rw [hm]
    have h' : b ≤ a := by omega
    go_enter Tryz.func41, Tryz.ntmps41
    go_wp2
    go_ret
    exact ⟨rfl, rfl⟩
theorem maxr_any (a b : Int) (w : World) : Calls Tryz.prog 40 #[.int .i64 a, .int .i64 b] w fun e w' => e = .returned (.int .i64 (max a b)) ∧ w = w' := by
  by_cases h : b < a
  · have hm : max a b = a := by omega
    rw [hm]
    go_enter Tryz.func40, Tryz.ntmps40
    go_wp2
    go_ret
    exact ⟨rfl, rfl⟩
  · have hm : max a b = b := by omega
    rw [hm]
    have h' : a ≤ b := by omega
    go_enter Tryz.func40, Tryz.ntmps40
    go_wp2
    go_ret
    exact ⟨rfl, rfl⟩
end Go.Proofs.YthenilomgbnpeaaGreatDoor
/- Chapter 5's generator of a raw page. Only that it returns, within its bounds, is said. -/
namespace Go.Proofs.YthenilomgbnpeaaGreatDoor
open Go.RowKit
set_option linter.unusedVariables false
def RawAny (v : Value) : Prop := ∃ (s : ByteArray) (p : Int), v = .tuple #[.string s, .int .i64 p] ∧ s.size ≤ 400 ∧ 0 ≤ p ∧ p ≤ 65534
set_option maxHeartbeats 1000000 in
set_option maxRecDepth 100000 in
theorem l05Raw_any (B g n : Nat) (w : World) (h : Src w B g n) (hn : n ≤ 600000000000) :
    Calls Tryz.prog 21 #[.pointer (some ⟨g, 0, none⟩)] w (Chose RawAny B g (n + 4000) w) := by
  have hlt := h.lt
  have HP : Hid (pickMax 728 = 727) := by show _ = _; decide
  have HP2 : Hid (pickMax 12 = 11) := by show _ = _; decide
  have HP3 : Hid (pickMax 92 = 91) := by show _ = _; decide
  go_enter Tryz.func21, Tryz.ntmps21
  go_wp2_with fail
  refine (l05Page_any B g n _ h (by omega)).mono ?_
  rintro e w1 ⟨v1, rfl, ⟨x, rfl, hx0, hx1⟩, hS1, hg1⟩
  clear h
  go_wp2_with fail
  refine (minr_any _ _ _).mono ?_
  rintro e w' ⟨rfl, rfl⟩
  go_wp2_with fail
  refine (maxr_any _ _ _).mono ?_
  rintro e w' ⟨rfl, rfl⟩
  obtain ⟨pn, hpn, hpl⟩ : ∃ pn : Nat, max 0 (min x 65534) = (pn : Int) ∧ pn ≤ 65534 := ⟨(max 0 (min x 65534)).toNat, by omega, by omega⟩
  rw [hpn]
  clear hpn hx0 hx1
  go_wp2_with fail
  refine (l05Bytes_any B g (n + 4) 64 _ hS1 (by omega) (by omega)).mono ?_
  rintro e w2 ⟨v2, rfl, ⟨D, rfl, hD⟩, hS2, hg2⟩
  have G2 := grown_trans hg1 hg2
  clear hS1 hg1 hg2
  go_wp2_with fail
  refine (l05Bytes_any B g (n + 4 + 200) 16 _ hS2 (by omega) (by omega)).mono ?_
  rintro e w3 ⟨v3, rfl, ⟨S, rfl, hS⟩, hS3, hg3⟩
  have G3 := grown_trans G2 hg3
  clear hS2 G2 hg3
  have HSL := Lib.hid (fun (W : World) => l05Seal_any D S pn W hD hS hpl)
  have hRs := sealB_size (p := pn) hD hS
  generalize sealB D S pn = R at *
  go_wp2_with fail
  refine (HSL.out _).mono ?_
  rintro e w4 ⟨rfl, b4⟩
  have hS4 := hS3.keep b4
  have G4 := grown_below G3 (b4.mono G3.size)
  clear hS3 G3 b4 HSL hD hS
  have hz4 := G4.size
  have hne : w4.heap.size ≠ g := by omega
  go_wp2_with fail
  refine (among_any (fun x => 0 ≤ x ∧ x ≤ 3) B g (n + 4 + 200 + 200) w4.heap.size 5 5 _ ?_ (by omega) (by omega) (by omega) hne ?_).mono ?_
  · exact hS4.keep ((Below.refl _ _).alloc (Nat.le_refl _) _)
  · refine newCells _ _ _ 5 rfl ?_
    intro v hv
    simp only [List.mem_cons, List.not_mem_nil, or_false] at hv
    rcases hv with rfl | rfl | rfl | rfl | rfl <;> exact ⟨_, rfl, by constructor <;> omega⟩
  rintro e w5 ⟨v5, rfl, ⟨y, rfl, hy0, hy1⟩, hS5, hg5⟩
  have G5 := grown_trans G4 (grown_trans (World.grownBy_alloc w4 _ _) hg5)
  obtain ⟨K, rfl⟩ := Int.eq_ofNat_of_zero_le hy0
  have HK := Lib.hid hy1
  clear hS4 G4 hg5 hne hz4 hy0 hy1
  go_wp2
  go_loopw [6, 7] (fun t i wr => ∃ (k : Nat) (T : ByteArray), k ≤ K ∧ i = .int .i64 k ∧ t = .string T ∧ T.size = 91 ∧ Src wr B g (n + 450 + 2 * (K - k)) ∧ w.grownBy wr (some g)) (fun _ i _ => (intOf i).toNat)
  case atStart => exact ⟨K, R, by omega, rfl, rfl, hRs, hS5.more (by omega), G5⟩
  case round =>
    clear hS5 G5 hRs
    obtain ⟨k, T, hk, rfl, rfl, hT, hS5, G5⟩ := hrel
    have hk3 : (k : Int) ≤ 3 := by have := HK.out; omega
    have HTS := Lib.hid hT
    clear hT
    by_cases hk0 : 0 < k
    · have hki : (0 : Int) < (k : Int) := by omega
      go_wp2_with fail
      refine (pick_any B g _ 728 _ hS5 (by have := HK.out; omega) (by omega) (by omega)).mono ?_
      rintro e w6 ⟨v6, rfl, ⟨z, rfl, hz0, hz1⟩, hS6, hg6⟩
      rw [HP.out] at hz1
      obtain ⟨b, rfl⟩ := Int.eq_ofNat_of_zero_le hz0
      have G6 := grown_trans G5 hg6
      have HF := Lib.hid (specFlipP_any T b (flipP T b) 0 w6 (.done HTS.out b rfl (by omega)) (by have := HTS.out; omega))
      have HFS := Lib.hid (show (flipP T b).size = 91 from by rw [flipP_size]; exact HTS.out)
      generalize flipP T b = T2 at *
      clear hS5 G5 hg6 hz0 hz1
      go_wp2_with fail
      refine HF.out.mono ?_
      rintro e w7 ⟨rfl, b7⟩
      have hS7 := hS6.keep b7
      have G7 := grown_below G6 (b7.mono G6.size)
      clear hS6 G6 b7 HF
      go_wp2
      go_roundw
      case rel => exact ⟨k - 1, T2, by omega, by go_num, rfl, HFS.out, hS7.more (by omega), G7⟩
      case measure => simp [intOf]; omega
    · obtain rfl : k = 0 := by omega
      have hS5 := hS5.more (n' := n + 500) (by have := HK.out; omega)
      go_wp2_with fail
      refine (pick_any B g _ 12 _ hS5 (by omega) (by omega) (by omega)).mono ?_
      rintro e w6 ⟨v6, rfl, ⟨z, rfl, hz0, hz1⟩, hS6, hg6⟩
      have G6 := grown_trans G5 hg6
      clear hS5 G5 hg6 hz1
      by_cases h0 : z = 0
      · subst h0
        go_wp2_with fail
        refine (pick_any B g _ 92 _ hS6 (by omega) (by omega) (by omega)).mono ?_
        rintro e w7 ⟨v7, rfl, ⟨q, rfl, hq0, hq1⟩, hS7, hg7⟩
        rw [HP3.out] at hq1
        obtain ⟨b, rfl⟩ := Int.eq_ofNat_of_zero_le hq0
        have G7 := grown_trans G6 hg7
        have HF := Lib.hid (torn_any T b w7 HTS.out (by omega))
        have HFS := Lib.hid (tornB_size HTS.out (show b ≤ 91 by omega))
        generalize tornB T b = T2 at *
        clear hS6 G6 hg7 hq0 hq1
        go_wp2_with fail
        refine HF.out.mono ?_
        rintro e w8 ⟨rfl, b8⟩
        have hS8 := hS7.keep b8
        have G8 := grown_below G7 (b8.mono G7.size)
        go_wp2
        go_ret2
        exact ⟨_, rfl, ⟨_, _, rfl, by have := HFS.out; omega, by omega, by omega⟩, hS8.more (by omega), G8⟩
      · have hb0 : (z == 0) = false := by simpa using h0
        by_cases h1 : z = 1
        · subst h1
          go_wp2_with fail
          refine (damage_any B g _ T _ hS6 (by omega) (by have := HTS.out; omega)).mono ?_
          rintro e w7 ⟨v7, rfl, ⟨T2, rfl, hT2⟩, hS7, hg7⟩
          have G7 := grown_trans G6 hg7
          clear hS6 G6 hg7
          go_wp2
          go_ret2
          exact ⟨_, rfl, ⟨_, _, rfl, hT2, by omega, by omega⟩, hS7.more (by omega), G7⟩
        · have hb1 : (z == 1) = false := by simpa using h1
          by_cases h2 : z = 2
          · subst h2
            have hf := fillB_size 255 91
            go_wp2_with fail
            refine (specErased_any _).mono ?_
            rintro e w7 ⟨rfl, b7⟩
            have hS7 := hS6.keep b7
            have G7 := grown_below G6 (b7.mono G6.size)
            clear hS6 G6 b7
            go_wp2
            go_ret2
            exact ⟨_, rfl, ⟨_, _, rfl, by omega, by omega, by omega⟩, hS7.more (by omega), G7⟩
          · have hb2 : (z == 2) = false := by simpa using h2
            go_wp2
            go_ret2
            exact ⟨_, rfl, ⟨_, _, rfl, by have := HTS.out; omega, by omega, by omega⟩, hS6.more (by omega), G6⟩
end Go.Proofs.YthenilomgbnpeaaGreatDoor
