/- FnCrc: the walk. -/
import Derived.Test.YtegjppihopncoaaDoorProg
import Derived.Test.YtegjppihopncoaaDoorByte
import Derived.Test.YtegjppihopncoaaDoorCrc
import Derived.Test.YtegjppihopncoaaDoorCrcL
import Derived.WalkKit
import Derived.ProofKit
import Derived.Below
import Derived.BigQuiet
import Derived.Deep.QuietTactic
import Derived.Deep.RegionWith
namespace Go.Proofs.YtegjppihopncoaaDoor
open Go.RowKit

theorem CodeIs.wide {w : World} {B B' : Nat} {v : Value} (h : CodeIs w B v) (hB : B ≤ B') : CodeIs w B' v := by
  obtain ⟨A, len, cap, rfl, hl, hh⟩ := h
  refine ⟨A, len, cap, rfl, hl, fun hp => ?_⟩
  obtain ⟨b, off, hA, hb, hc⟩ := hh hp
  exact ⟨b, off, hA, by omega, hc⟩
theorem drawCk_any (w : World) (v : Value) (h : CodeIs w w.heap.size v) :
    Calls Tryd.prog 9 #[v] w fun e w' => ∃ s : ByteArray, e = .returned (.string s) ∧ s.size ≤ 39 ∧ Below w.heap.size w w' := by
  have P2 : Hid (pickMax 40 = 39) := by show _ = _; decide
  have hv := h
  obtain ⟨A, len, cap, rfl, _⟩ := hv
  go_enter Tryd.func9, Tryd.ntmps9
  go_wp2_with fail
  refine (l00From_any _ _ h).mono ?_
  rintro e w1 ⟨rfl, hS1, hb1⟩
  go_wp2_with fail
  refine (word_any _ _ 0 40 _ hS1 (by omega) (by omega) (by omega)).mono ?_
  rintro e w2 ⟨v2, rfl, ⟨s, rfl, hs⟩, hS2, hg2⟩
  rw [P2.out] at hs
  go_wp2
  go_ret
  exact ⟨_, rfl, by omega, hb1.grown hg2 hb1.size (fun k hk => by injection hk with hk; omega)⟩
theorem bit_any (B : Nat) (v : Value) (k : Nat) (w : World) (h : CodeIs w B v) (hk : k ≤ 32) :
    Calls Tryd.prog 10 #[v, .int .i64 (1 + (k : Int)), .int .i64 2] w (AtPost 2 w) := by
  have := b10At_any B v (1 + k) 2 w h (by omega) (by omega) (by omega)
  rw [Int.natCast_add] at this
  exact this
/-- The checksum over the table, in any later world. -/
theorem ck_later (s : ByteArray) (w w' : World) (hs : s.size ≤ 1048576) (hT : ∀ j, j < 16 → w.cell? ⟨0, j, none⟩ = some (.int .u32 (crcT.getD j 0))) (h0 : 0 < w.heap.size) (hb : Below w.heap.size w w') :
    Calls Tryd.prog 11 #[.string s] w' fun e w'' => e = .returned (.int .i64 (ckOf s : Nat)) ∧ w' = w'' :=
  implCk_any 0 s w' hs (fun j hj => (hb.cell (p := ⟨0, j, none⟩) h0).trans (hT j hj)) rfl


theorem burst_zero (s : ByteArray) (f : Nat) : (s.data.toList.map fun b => (b.toNat : Int)) = burst s f 0 := by
  apply List.ext_getElem
  · simp [burst]
  · intro k h1 h2
    have hk : k < s.data.toList.length := by simpa using h1
    simp only [burst, List.getElem_map, List.getElem_range, Nat.mul_zero, Nat.zero_div, Nat.zero_mod, Nat.xor_zero]
    unfold byteAt
    rw [List.getD_eq_getElem?_getD, List.getElem?_eq_getElem hk]; rfl
theorem burst_byte_lt (s : ByteArray) (f B j : Nat) : byteAt s j ^^^ (2 ^ f * B / 2 ^ (8 * j) % 256) < 256 := by
  have h1 := byteAt_le s j
  have := Nat.mod_lt (2 ^ f * B / 2 ^ (8 * j)) (show 0 < 256 by decide)
  exact Nat.xor_lt_two_pow (n := 8) (by omega) (by omega)
theorem nums_at' (l : List Int) (k : Nat) (hk : k < l.length) (hb : ∀ x ∈ l, 0 ≤ x ∧ x < 256) : (byteAt (strOfNums l) k : Int) = l.getD k 0 := by
  have h1 := hb _ (List.getElem_mem hk)
  unfold byteAt
  rw [strOfNums_data, List.getD_eq_getElem?_getD, List.getElem?_map, List.getD_eq_getElem?_getD, List.getElem?_eq_getElem hk]
  simp only [Option.map_some, Option.getD_some]
  rw [UInt8.toNat_ofNat']
  omega
theorem burst_ck (s : ByteArray) (f B i : Nat) (hB : B < 2 ^ i) (hi : i ≤ 32) (hf : f + i ≤ 8 * s.size) : ckOf (strOfNums (burst s f B)) = ckOf s ↔ B = 0 := by
  have hsz : (strOfNums (burst s f B)).size = s.size := by rw [strOfNums_size, burst_length]
  have hok : ∀ x ∈ burst s f B, 0 ≤ x ∧ x < 256 := by
    intro x hx
    simp only [burst, List.mem_map] at hx
    obtain ⟨j, _, rfl⟩ := hx
    have := burst_byte_lt s f B j
    omega
  have hby : ∀ j, j < s.size → byteAt (strOfNums (burst s f B)) j = byteAt s j ^^^ (2 ^ f * B / 2 ^ (8 * j) % 256) := fun j hj => by
    have := nums_at' (burst s f B) j (by rw [burst_length]; exact hj) hok
    rw [burst_getD s f B j hj] at this
    exact Int.ofNat_inj.1 this
  have hfit : 2 ^ f * B < 2 ^ (8 * s.size) := by
    calc 2 ^ f * B < 2 ^ f * 2 ^ i := Nat.mul_lt_mul_of_pos_left hB (Nat.two_pow_pos f)
      _ = 2 ^ (f + i) := by rw [Nat.pow_add]
      _ ≤ 2 ^ (8 * s.size) := Nat.pow_le_pow_right (by decide) hf
  have hB32 : B < 4294967296 := by
    calc B < 2 ^ i := hB
      _ ≤ 2 ^ 32 := Nat.pow_le_pow_right (by decide) hi
      _ = 4294967296 := by decide
  rw [← ckF_burst s (strOfNums (burst s f B)) B f s.size hB32 (by omega) hfit hby]
  unfold ckOf
  rw [hsz]
  constructor
  · intro e
    have := congrArg (· ^^^ 4294967295) e
    simpa [Nat.xor_assoc] using this
  · intro e; rw [e]
theorem ckOf_lt (s : ByteArray) : ckOf s < 4294967296 := Nat.xor_lt_two_pow (n := 32) (ckF_lt s _) (by omega)
set_option maxRecDepth 100000 in
theorem crc_any (a0 : Option Addr) (len0 cap0 : Nat) (z0 : List Int) (a1 : Option Addr) (len1 cap1 : Nat) (z1 : List Int) (w : World) (w0 : IsRow .u8 w a0 len0 cap0 z0) (w1 : IsRow .u8 w a1 len1 cap1 z1)
    (hT : ∀ j, j < 16 → w.cell? ⟨0, j, none⟩ = some (.int .u32 (crcT.getD j 0))) (hz0 : 0 < w.heap.size) :
    Calls Tryd.prog 3 #[.slice a0 len0 cap0, .slice a1 len1 cap1] w fun e w' => e = .returned (.bool true) ∧ Below w.heap.size w w' := by
  have b0 := w0.len
  have b1 := w1.len
  have CK := Lib.hid (fun (s : ByteArray) (w' : World) hs hb => ck_later s w w' hs hT hz0 hb)
  clear hT
  by_cases hl : len0 ≤ 1048576 ∧ len1 ≤ 1048576
  · obtain ⟨hl0, hl1⟩ := hl
    have hc0 := w0.code hl0
    have hc1 := w1.code hl1
    have HL := Lib.hid (show Calls Tryd.prog 8 #[.slice a0 len0 cap0, .slice a1 len1 cap1] w fun e w' => e = .returned (.bool false) ∧ w = w' from long_no _ _ _ _ _ _ _ hl0 hl1)
    obtain ⟨cd, hcd⟩ : ∃ v, v = Value.slice a0 len0 cap0 := ⟨_, rfl⟩
    obtain ⟨mo, hmo⟩ : ∃ v, v = Value.slice a1 len1 cap1 := ⟨_, rfl⟩
    rw [← hcd] at hc0
    rw [← hmo] at hc1
    rw [← hcd, ← hmo] at HL
    have HDr := Lib.hid (drawCk_any w cd hc0)
    have HA0 := Lib.hid (show ∀ W (n : Int), CodeIs W w.heap.size mo → 2 ≤ n → n ≤ 10000 → Calls Tryd.prog 10 #[mo, .int .i64 0, .int .i64 n] W (AtPost n W) from fun W n h hn hn2 => b10At_any _ _ 0 n W h (by omega) hn (by omega))
    have HA1 := Lib.hid (show ∀ W (k : Nat), CodeIs W w.heap.size mo → k ≤ 32 → Calls Tryd.prog 10 #[mo, .int .i64 (1 + (k : Int)), .int .i64 2] W (AtPost 2 W) from fun W k h hk => bit_any _ _ k W h hk)
    have HM := Lib.hid hc1
    rw [← hcd, ← hmo]
    clear w0 w1 hc0 hc1 hcd hmo
    go_enter Tryd.func3, Tryd.ntmps3
    go_wp2_with fail
    refine HL.out.mono ?_
    rintro e w' ⟨rfl, rfl⟩
    go_wp2_with fail
    refine HDr.out.mono ?_
    rintro e w1 ⟨s, rfl, hs, hb⟩
    have hz := hb.size
    by_cases he : s = ⟨#[]⟩
    · have hq := str_same he
      go_wp2
      go_ret
      exact ⟨rfl, hb⟩
    · have hq : s.toList.isEmpty = false := by
        rw [ByteArray.toList_eq]
        cases h : s.data.toList with
        | nil => exact absurd (ByteArray.ext (Array.toList_inj.1 h)) he
        | cons x l => rfl
      have hpos : 0 < s.size := by
        rcases Nat.eq_zero_or_pos s.size with h0 | h0
        · exact absurd (ByteArray.ext (Array.eq_empty_of_size_eq_zero h0)) he
        · exact h0
      have hsi : (s.size : Int) ≤ 39 := by omega
      clear he
      go_wp2_with (refine wpList_str_bytes rfl _ rfl s rfl hb hz ?_; intro cap w2 hat hz2 hb2)
      refine (HA0.out _ (8 * (s.size : Int)) (HM.out.keep fun b hbl => hb2.block b hbl) (by omega) (by omega)).mono ?_
      rintro e w' ⟨x, rfl, hx0, hx1, rfl⟩
      obtain ⟨f, rfl⟩ := Int.eq_ofNat_of_zero_le hx0
      have hf : f < 8 * s.size := by omega
      have hfi : (f : Int) < 8 * (s.size : Int) := by omega
      clear hx0 hx1 HL HDr HA0
      go_wp2_with fail
      rw [burst_zero s f] at hat
      go_loopw [8, 9] (fun u v wr => ∃ (i B : Nat) (cb : Bool), i ≤ 32 ∧ f + i ≤ 8 * s.size ∧ v = .int .i64 i ∧ u = .bool cb ∧ Hid (cb = true ↔ B ≠ 0) ∧ B < 2 ^ i ∧ BytesAt wr w1.heap.size (burst s f B) ∧ Below w.heap.size w wr ∧ w1.heap.size < wr.heap.size) (fun _ v _ => 32 - (intOf v).toNat)
      case atStart => exact ⟨0, 0, false, by omega, by omega, rfl, rfl, Lib.hid (by simp), by decide, hat, hb2, hz2⟩
      case round =>
        clear hat hb2 hz2
        obtain ⟨i, B, cb, hi, hfi2, rfl, rfl, HCB, hB, hat, hb2, hg⟩ := hrel
        have HAt := Lib.hid hat
        have HB := Lib.hid hB
        clear hat hB
        by_cases hc : i < 32 ∧ f + i < 8 * s.size
        · obtain ⟨hc1, hc2⟩ := hc
          have k1 : (i : Int) < 32 := by omega
          have k2 : (f : Int) + (i : Int) < 8 * (s.size : Int) := by omega
          go_wp2_with fail
          refine (HA1.out _ i (HM.out.keep fun b hbl => hb2.block b hbl) (by omega)).mono ?_
          rintro e w' ⟨x, rfl, hx0, hx1, rfl⟩
          by_cases hx : x = 1
          · subst hx
            obtain ⟨A, hA⟩ : ∃ A : Nat, A = f + i := ⟨_, rfl⟩
            have hAi : (f : Int) + (i : Int) = (A : Int) := by omega
            have hAn : A / 8 < s.size := by omega
            have i3 : (A : Int) / 8 < (s.size : Int) := by omega
            have q1 : IntKind.i64.wrap ((A : Int) / 8) = (A : Int) / 8 := IntWalk.i64_in _ (by omega)
            have q2 : (0 : Int) ≤ (A : Int) / 8 := by omega
            have q3 : ((A : Int) / 8).toNat = A / 8 := by omega
            have r1 : IntKind.i64.wrap ((A : Int) % 8) = (A : Int) % 8 := IntWalk.i64_in _ (by omega)
            have r2 : (0 : Int) ≤ (A : Int) % 8 := by omega
            have r3 : ((A : Int) % 8).toNat = A % 8 := by omega
            have r4 : IntKind.u64.wrap ((A : Int) % 8) = (A : Int) % 8 := by rw [IntKind.wrap_u64]; omega
            have hat := HAt.out (A / 8) (by rw [burst_length]; exact hAn)
            rw [burst_getD s f B _ hAn] at hat
            obtain ⟨hcell, hfree⟩ := hat
            have hyl := burst_byte_lt s f B (A / 8)
            have hset := burst_set s f B i
            rw [← hA] at hset
            obtain ⟨y, hy⟩ : ∃ y, y = byteAt s (A / 8) ^^^ (2 ^ f * B / 2 ^ (8 * (A / 8)) % 256) := ⟨_, rfl⟩
            rw [← hy] at hcell hyl hset
            have HX : Hid (bits .xor .u8 (y : Int) (2 ^ (A % 8) % 256) = ((y ^^^ 2 ^ (A % 8) : Nat) : Int)) := by
              show _ = _
              have e : ((2 : Int) ^ (A % 8)) = (((2 : Nat) ^ (A % 8) : Nat) : Int) := by rw [Int.natCast_pow]; rfl
              have hp : (2 : Nat) ^ (A % 8) < 2 ^ 8 := Nat.pow_lt_pow_right (by decide) (by omega)
              rw [e]
              generalize (2 : Nat) ^ (A % 8) = q at *
              rw [show (q : Int) % 256 = (q : Int) by omega, u8_xor_nat _ _ (by omega) (by omega)]
            have hat2 := HAt.out.set_ (k := A / 8) (by rw [burst_length]; exact hAn) (bits .xor .u8 (y : Int) (2 ^ (A % 8) % 256))
            rw [HX.out, hset, ← HX.out] at hat2
            have HA3 := Lib.hid hat2
            have hb3 := Lib.hid (hb2.setCell (p := ⟨w1.heap.size, A / 8, none⟩) hz (.int .u8 (bits .xor .u8 (y : Int) (2 ^ (A % 8) % 256))))
            have HN := Lib.hid (burst_ne B i HB.out)
            have HAA := Lib.hid hA
            clear hat2 hset hy hx0 hx1 hA
            go_wp2
            go_roundw
            case rel => exact ⟨i + 1, B ^^^ 2 ^ i, true, by omega, by omega, by go_num, rfl, Lib.hid (by simp [HN.out.1]), HN.out.2, HA3.out, hb3.out, by simpa using hg⟩
            case measure => simp [intOf]; omega
          · obtain rfl : x = 0 := by omega
            go_wp2
            go_roundw
            case rel => exact ⟨i + 1, B, cb, by omega, by omega, by go_num, rfl, HCB, by have := HB.out; rw [Nat.pow_succ]; omega, HAt.out, hb2, hg⟩
            case measure => simp [intOf]; omega
        · have hck := burst_ck s f B i HB.out hi hfi2
          have hSz : (strOfNums (burst s f B)).size = s.size := by rw [strOfNums_size, burst_length]
          have hcv := fun (W : World) (h : BytesAt W w1.heap.size (burst s f B)) => h.str (cap := cap)
          rw [burst_length] at hcv
          have hcv1 := hcv wr HAt.out
          obtain ⟨S, hS⟩ : ∃ S, S = strOfNums (burst s f B) := ⟨_, rfl⟩
          rw [← hS] at hck hSz hcv1
          have HK1 := Lib.hid (CK.out s wr (by omega) hb2)
          have HK2 := Lib.hid (CK.out S wr (by omega) hb2)
          have l1 := ckOf_lt s
          have hcb := HCB.out
          have HQ : Hid ((((ckOf S : Nat) : Int) != ((ckOf s : Nat) : Int)) = cb) := by
            show _ = _
            cases cb with
            | true =>
              have : ¬ ckOf S = ckOf s := fun e => (hcb.1 rfl) (hck.1 e)
              simp; omega
            | false =>
              have hB0 : B = 0 := by
                by_cases h : B = 0
                · exact h
                · have := hcb.2 h; simp at this
              have := hck.2 hB0
              simp; omega
          obtain ⟨n, hn⟩ : ∃ n, n = ckOf s := ⟨_, rfl⟩
          obtain ⟨n2, hn2⟩ : ∃ n2, n2 = ckOf S := ⟨_, rfl⟩
          rw [← hn] at HK1 HQ l1
          rw [← hn2] at HK2 HQ
          have hq2 := HQ.out
          have hbb : (cb == cb) = true := by simp
          have d1 : decide ((n : Int) ≥ 0) = true := by simp
          have d2 : decide ((n : Int) ≤ 4294967295) = true := by simp; omega
          clear hck hcv hS hcb hn hn2 HCB HB HA1 CK
          by_cases hi32 : i < 32
          · have k1 : (i : Int) < 32 := by omega
            have k2 : 8 * (s.size : Int) ≤ (f : Int) + (i : Int) := by omega
            go_wp2_with fail
            refine HK1.out.mono ?_
            rintro e w' ⟨rfl, rfl⟩
            go_wp2_with fail
            refine HK2.out.mono ?_
            rintro e w' ⟨rfl, rfl⟩
            go_wp2
            go_ret
            exact ⟨rfl, hb2⟩
          · obtain rfl : i = 32 := by omega
            go_wp2_with fail
            refine HK1.out.mono ?_
            rintro e w' ⟨rfl, rfl⟩
            go_wp2_with fail
            refine HK2.out.mono ?_
            rintro e w' ⟨rfl, rfl⟩
            go_wp2
            go_ret
            exact ⟨rfl, hb2⟩
  · go_enter Tryd.func3, Tryd.ntmps3
    go_wp2_with (go_at_call 8; refine (long_yes _ _ _ _ _ _ _ b0 b1 hl).mono ?_; rintro e w' ⟨rfl, rfl⟩)
    go_ret
    exact ⟨rfl, Below.refl _ _⟩
end Go.Proofs.YtegjppihopncoaaDoor
