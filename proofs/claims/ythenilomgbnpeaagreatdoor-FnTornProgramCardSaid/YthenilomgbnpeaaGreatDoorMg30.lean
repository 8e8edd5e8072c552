/- The proof's own lemmas, part 31: DecE Ones Op. -/
import Derived.Test.YthenilomgbnpeaaGreatDoorProg
import Derived.Test.YthenilomgbnpeaaGreatDoorMg10
import Derived.Test.YthenilomgbnpeaaGreatDoorMg6
import Derived.Lib.AppendStr
import Derived.Lib.BufferWrite
import Derived.Test.YthenilomgbnpeaaGreatDoorMg1
import Derived.ProofKit
import Derived.Lib.Hide
import Derived.Lib.BitFns
import Derived.Test.YthenilomgbnpeaaGreatDoorMg11
/- Decoding several words, in the model and in the program: the contracts. -/
namespace Go.Proofs.YthenilomgbnpeaaGreatDoor
open Go.RowKit

theorem decX_ok {X : Nat} (h : okX X) : Dec X (wStr (valX X)) (cntX X : Nat) 0 := by
  unfold valX cntX
  by_cases hg : good X = true
  · rw [if_pos hg, if_pos hg]; exact .inl ⟨hg, rfl, rfl, rfl⟩
  · rw [if_neg hg, if_neg hg]
    rcases h with h | h
    · exact absurd h hg
    · exact .inr (.inl ⟨by simpa using hg, h, rfl, rfl, rfl⟩)
theorem decX_bad {X : Nat} (h : ¬ okX X) : Dec X ⟨#[]⟩ 0 6 := by
  have hg : good X = false := by rw [Bool.eq_false_iff]; exact fun e => h (.inl e)
  exact .inr (.inr ⟨hg, fun e => h (.inr e), rfl, rfl, rfl⟩)
theorem valX_lt (X : Nat) : valX X < 2 ^ 64 := by unfold valX; split <;> exact lo_lt _
theorem byteIdx (t : ByteArray) (k : Nat) (h : k < t.size) (w : World) :
    (Instr.index 9 (.string t) (.int .i64 (k : Int))).run Tryz.prog w = .ok (.int .u8 (byteAt t k : Int)) w := by
  rw [← byteAt_eq h]
  have h0 : (0 : Int) ≤ (k : Int) := by omega
  have h1 : (k : Int) < (t.size : Int) := by omega
  go_simp
def EccPost (r : ByteArray) (n c : Int) (w : World) (e : Ending) (w' : World) : Prop := e = .returned (.tuple #[.string r, .int .i64 n, .int .i64 c]) ∧ Below w.heap.size w w'
/-- How the decoding ends: all words, or at the first that can't be decoded. -/
def EccEnds (s t : ByteArray) (n m : Nat) (R : ByteArray) (tot c : Int) : Prop :=
  (m = n ∧ R = strOfNums (outL s t n) ∧ tot = (totL s t n : Nat) ∧ c = 0) ∨ (m < n ∧ ¬ okX (cwX s t m) ∧ R = ⟨#[]⟩ ∧ tot = 0 ∧ c = 6)
theorem BytesOwn.whole {w : World} {B g n : Nat} {l : List Int} (h : BytesOwn w B (.slice (some ⟨g, 0, none⟩) n n) l) (hl : l.length = n) : w.heap[g]? = some (.cells (l.map (Value.int .u8)).toArray 5 (0, 0)) := by
  rcases h.2 with ⟨h1, _⟩ | ⟨g', cap, cur, h1, _, h3, _, _, h6, h7⟩
  · simp at h1
  · simp at h1
    obtain ⟨rfl, _, rfl⟩ := h1
    rw [h3]
    have : cur.toList = l.map (Value.int .u8) := by rw [← h7, List.take_of_length_le (by simp; omega)]
    rw [← this]
theorem BytesOwn.of_whole {w : World} {B g n : Nat} {l : List Int} (hB : B ≤ g) (hl : l.length = n) (hn : n ≤ 140737488355328) (h : w.heap[g]? = some (.cells (l.map (Value.int .u8)).toArray 5 (0, 0))) : BytesOwn w B (.slice (some ⟨g, 0, none⟩) n n) l := by
  refine ⟨by simp, .inr ⟨g, n, _, by rw [hl], hB, h, by omega, by unfold maxLen; omega, by simp [hl], ?_⟩⟩
  rw [List.take_of_length_le (by simp)]
theorem byteCells_wStr (x : Nat) : Lib.byteCells (wStr x).data.toList = (wL x).map (Value.int .u8) := by
  rw [← nums_wStr x, List.map_map]; rfl
theorem wpList_copy_word {Q : Exit → Act → World → Prop} {ops : Array Oper} {rest : List Oper} {o : Oper} {a : Act} {w0 w : World} {B : Nat} (hgd : o.guard = none) (d x : Operand)
    (ho : o.op = .call { callee := .builtin .copy, args := #[d, x], argTypes := #[22, 9] })
    (g off dLen dCap n : Nat) (hd : a.eval d = .slice (some ⟨g, off, none⟩) dLen dCap) (y : Nat) (hx : a.eval x = .string (wStr y)) (l : List Int)
    (hown : BytesOwn w B (.slice (some ⟨g, 0, none⟩) n n) l) (hl : l.length = n) (hn : n ≤ 140737488355328) (hle : 8 ≤ dLen) (hfit : off + 8 ≤ n) (hb : Below B w0 w) (hBg : B ≤ g)
    (h : ∀ w', BytesOwn w' B (.slice (some ⟨g, 0, none⟩) n n) (l.take off ++ wL y ++ l.drop (off + 8)) → Below B w0 w' → w'.heap.size = w.heap.size → wpList Tryz.prog ops Q rest (a.put o.dst (.int .i64 8)) w') :
    wpList Tryz.prog ops Q (o :: rest) a w := by
  refine wpList_plain hgd fun K hK => ?_
  have hw := hown.whole hl
  have hrun := Lib.run_copy_row_string (P := Tryz.prog) w 22 9 o.type 5 g off dLen dCap (wStr y) _ _ Tryz.underlying22 (by kernel_rfl) hw (by rw [wStr_size]; exact hle) (by rw [wStr_size]; simp; omega)
  unfold Oper.wp execOp
  simp only [ho, resolve, invoke, builtin, Sem.run_bind, Sem.run_pure, Result.andThen_ok, List.map_toArray, List.map_cons, List.map_nil, hd, hx, hrun]
  refine hK _ _ ?_
  rw [byteCells_wStr, wStr_size]
  have e : (((l.map (Value.int .u8)).toArray.toList.take off ++ (wL y).map (Value.int .u8) ++ (l.map (Value.int .u8)).toArray.toList.drop (off + 8)).toArray) = ((l.take off ++ wL y ++ l.drop (off + 8)).map (Value.int .u8)).toArray := by
    simp [List.map_take, List.map_drop]
  rw [e]
  exact h _ (BytesOwn.of_whole hBg (by simp [wL_length]; omega) hn (setRow_heap w g _ _ _ _ hw)) (below_setRow hb hBg _) (size_setRow ..)
theorem slice_from (g k n : Nat) (hk : k < n) (w : World) :
    (Instr.slice 22 (.slice (some ⟨g, 0, none⟩) (8 * n) (8 * n)) (some (.int .i64 ((k : Int) * 8))) none none).run Tryz.prog w = .ok (.slice (some ⟨g, 8 * k, none⟩) (8 * n - 8 * k) (8 * n - 8 * k)) w := by
  rw [run_slice_l w 22 (some ⟨g, 0, none⟩) (8 * n) (8 * n) (by kernel_rfl) .i64 _ (by omega) (by omega)]
  have e : (sizeOf (Tryz.prog.elem 22)).run Tryz.prog w = .ok 1 w := by kernel_rfl
  rw [e, show ((k : Int) * 8).toNat = 8 * k by omega]
  simp only [Result.andThen_ok, sliced]
  rw [if_neg (by omega)]
  simp [Addr.add]
  omega
theorem outL_take (s t : ByteArray) (n k : Nat) (h : k < n) (y : List Int) :
    (outL s t k ++ List.replicate (8 * n - 8 * k) 0).take (8 * k) ++ y ++ (outL s t k ++ List.replicate (8 * n - 8 * k) (0 : Int)).drop (8 * k + 8) = (outL s t k ++ y) ++ List.replicate (8 * n - 8 * (k + 1)) 0 := by
  have hl := outL_length s t k
  rw [List.take_append_of_le_length (by omega), List.take_of_length_le (by omega), List.drop_append, List.drop_eq_nil_of_le (by omega), hl, List.nil_append, List.drop_replicate, show 8 * n - 8 * k - (8 * k + 8 - 8 * k) = 8 * n - 8 * (k + 1) by omega]
set_option maxRecDepth 100000 in
theorem implDecE_yes (s t : ByteArray) (n m : Nat) (R : ByteArray) (tot c : Int) (w : World) (hn : s.size = 8 * n) (hn2 : n ≤ 32) (ht : t.size = n) (hm : m ≤ n) (hok : ∀ k, k < m → okX (cwX s t k)) (hend : EccEnds s t n m R tot c) (hT : MaskTab w) :
    Calls Tryz.prog 37 #[.string s, .string t] w (EccPost R tot c w) := by
  have HT := Lib.hid hT
  have HV := Lib.hid (fun (W : World) => wholeWords_yes s W ⟨by omega, by omega⟩)
  have HW := Lib.hid (fun (k : Nat) (W : World) (h : 8 * k + 8 ≤ s.size) => wordOf_any s k W h (by omega))
  have HX := Lib.hid (fun (k : Nat) (h : k < t.size) (W : World) => byteIdx t k h W)
  have HD := Lib.hid (fun (k : Nat) (R : ByteArray) (n c : Int) (W : World) (h : Dec (cwX s t k) R n c) (hT : MaskTab W) => implDec_any (cwX s t k) R n c W (cwX_lt s t k) hT h)
  have hsz : (s.size : Int) ≤ 256 := by omega
  have htz : (t.size : Int) ≤ 32 := by omega
  have hdv : ((t.size : Int) != (s.size : Int) / 8) = false := by simp; omega
  have hse : (s.size : Int) = ((8 * n : Nat) : Int) := by omega
  have HSE := Lib.hid hse
  have HN := Lib.hid (And.intro hn ht)
  have HO := Lib.hid hok
  have HE := Lib.hid hend
  clear hn ht hok hend hT hse
  go_enter Tryz.func37, Tryz.ntmps37
  go_wp2_with (first
    | (go_at_call 54; refine (HV.out _).mono ?_; rintro e w' ⟨rfl, rfl⟩)
    | (refine wpList_make_bytes rfl _ _ rfl _ _ _ _ (8 * n) rfl rfl HSE.out HSE.out (by omega) (Below.refl _ _) (Nat.le_refl _) ?_; intro w1 hown hb))
  clear hdv
  go_loopw [8, 29] (fun u j wr => ∃ k : Nat, k ≤ m ∧ j = .int .i64 k ∧ u = .int .i64 (totL s t k : Nat) ∧ BytesOwn wr w.heap.size (.slice (some ⟨w.heap.size, 0, none⟩) (8 * n) (8 * n)) (outL s t k ++ List.replicate (8 * n - 8 * k) 0) ∧ Below w.heap.size w wr ∧ w.heap.size < wr.heap.size) (fun _ j _ => n - (intOf j).toNat)
  case atStart => exact ⟨0, by omega, rfl, rfl, by simpa [outL] using hown, hb, (World.ownsRow.lt hown _ rfl).2⟩
  case round =>
    clear hown hb
    obtain ⟨k, hk, rfl, rfl, hown, hb, hzb⟩ := hrel
    have hz := hb.size
    obtain ⟨hn, ht⟩ := HN.out
    have hol := outL_length s t k
    have hlen : (outL s t k ++ List.replicate (8 * n - 8 * k) (0 : Int)).length = 8 * n := by simp [hol]; omega
    have htl := totL_le s t k
    by_cases hkn : k < n
    · have hwd := wd_wStr (s := s) (k := k) (by omega)
      have hwo := fun (W : World) => HW.out k W (by omega)
      have hix := fun (W : World) => HX.out k (by omega) W
      have hkt : (k : Int) < (t.size : Int) := by omega
      have hlo := cwX_lo s t k
      have hhi := cwX_hi s t k
      rw [hwd] at hwo
      rw [← hlo] at hwo
      rw [← hhi] at hix
      have hhl := hi_lt (cwX_lt s t k)
      obtain ⟨r, cn, cd, hdec⟩ : ∃ (r : ByteArray) (cn cd : Int), Dec (cwX s t k) r cn cd ∧ ((okX (cwX s t k) ∧ r = wStr (valX (cwX s t k)) ∧ cn = (cntX (cwX s t k) : Nat) ∧ cd = 0) ∨ (¬ okX (cwX s t k) ∧ r = ⟨#[]⟩ ∧ cn = 0 ∧ cd = 6)) := by
        by_cases h : okX (cwX s t k)
        · exact ⟨_, _, _, decX_ok h, .inl ⟨h, rfl, rfl, rfl⟩⟩
        · exact ⟨_, _, _, decX_bad h, .inr ⟨h, rfl, rfl, rfl⟩⟩
      obtain ⟨hd, hcase⟩ := hdec
      have H1 := Lib.hid (fun (W : World) (hT : MaskTab W) => HD.out k r cn cd W hd hT)
      have HC := Lib.hid hcase
      have HWO := Lib.hid hwo
      have HIX := Lib.hid hix
      have HTr := Lib.hid (show MaskTab wr.drew from HT.out.below hb.drew (Nat.le_refl _))
      have HLEN := Lib.hid hlen
      clear hn ht hwd hwo hix hlo hhi hd hcase hlen hol
      have q4 : IntKind.i64.wrap ((hi (cwX s t k) : Nat) : Int) = (hi (cwX s t k) : Nat) := IntWalk.i64_in _ (by omega)
      go_wp2_with fail
      refine wp_region_held_drew (S := fun _ => True) (by kernel_rfl) trivial (fun hHeld => ?_)
      refine wpAnyH_take (i := 0) (oi := _) (v := .string s) rfl (by kernel_rfl) (by kernel_rfl) (by kernel_rfl) (fun _ _ _ h => h) (Or.inl ⟨by rfl, fun w hSw => by go_simp⟩) hHeld ?_
      refine wpAnyH_take (i := 1) (oi := _) (v := .int .i64 (k : Int)) rfl (by kernel_rfl) (by kernel_rfl) (by kernel_rfl) (fun _ _ _ h => h) (Or.inl ⟨by rfl, fun w hSw => by go_simp⟩) hHeld ?_
      refine wpAnyH_take (i := 3) (oi := _) (v := .string t) rfl (by kernel_rfl) (by kernel_rfl) (by kernel_rfl) (fun _ _ _ h => h) (Or.inl ⟨by rfl, fun w hSw => by go_simp⟩) hHeld ?_
      refine wpAnyH_take (i := 4) (oi := _) (v := .int .i64 (k : Int)) rfl (by kernel_rfl) (by kernel_rfl) (by kernel_rfl) (fun _ _ _ h => h) (Or.inl ⟨by rfl, fun w hSw => by go_simp⟩) hHeld ?_
      refine wpAnyH_take (i := 5) (oi := _) (v := .int .u8 (hi (cwX s t k) : Nat)) rfl (by kernel_rfl) (by kernel_rfl) (by kernel_rfl) (fun _ _ _ h => h) (Or.inl ⟨by rfl, fun w hSw => by have hs1 := HIX.out w; go_simp⟩) hHeld ?_
      refine wpAnyH_take (i := 6) (oi := _) (v := .int .i64 (hi (cwX s t k) : Nat)) rfl (by kernel_rfl) (by kernel_rfl) (by kernel_rfl) (fun _ _ _ h => h) (Or.inl ⟨by rfl, fun w hSw => by go_simp⟩) hHeld ?_
      refine wpAnyH_ready (rs := [2]) (by kernel_rfl) (by simp) ?_
      refine AllReadyH.cons (o := _) rfl (fun K hK => ?_) AllReadyH.nil
      go_simp
      go_at_call 56
      refine (HWO.out _).mono ?_
      rintro e w' ⟨rfl, rfl⟩
      refine hK.out _ _ trivial (fun hHeld => ?_)
      clear hK K
      refine wpAnyH_ready (rs := [7]) (by kernel_rfl) (by simp) ?_
      refine AllReadyH.cons (o := _) rfl (fun K hK => ?_) AllReadyH.nil
      go_simp
      go_at_call 61
      refine (H1.out _ HTr.out).mono ?_
      rintro e w1 ⟨rfl, hb1⟩
      have hown1 : BytesOwn w1 w.heap.size (.slice (some ⟨w.heap.size, 0, none⟩) (8 * n) (8 * n)) (outL s t k ++ List.replicate (8 * n - 8 * k) 0) := BytesOwn.later hown.drew hb1 (fun g hg => (World.ownsRow.lt hown g hg).2)
      have hbb : Below w.heap.size w w1 := hb.drew.trans (hb1.mono hz)
      have hzz : w.heap.size < w1.heap.size := Nat.lt_of_lt_of_le hzb hb1.size
      refine hK.out _ _ trivial (fun hHeld => ?_)
      clear hK K q4 hown hb hb1
      refine wpAnyH_take (i := 8) (oi := _) (v := .tuple #[.string r, .int .i64 cn, .int .i64 cd]) rfl (by kernel_rfl) (by kernel_rfl) (by kernel_rfl) (fun _ _ _ h => h) (Or.inl ⟨by rfl, fun w hSw => by go_simp⟩) hHeld ?_
      refine wpAnyH_take (i := 9) (oi := _) (v := .string r) rfl (by kernel_rfl) (by kernel_rfl) (by kernel_rfl) (fun _ _ _ h => h) (Or.inl ⟨by rfl, fun w hSw => by go_simp⟩) hHeld ?_
      refine wpAnyH_take (i := 10) (oi := _) (v := .int .i64 cn) rfl (by kernel_rfl) (by kernel_rfl) (by kernel_rfl) (fun _ _ _ h => h) (Or.inl ⟨by rfl, fun w hSw => by go_simp⟩) hHeld ?_
      refine wpAnyH_take (i := 11) (oi := _) (v := .int .i64 cd) rfl (by kernel_rfl) (by kernel_rfl) (by kernel_rfl) (fun _ _ _ h => h) (Or.inl ⟨by rfl, fun w hSw => by go_simp⟩) hHeld ?_
      refine wpAnyH_take (i := 12) (oi := _) (v := .string r) rfl (by kernel_rfl) (by kernel_rfl) (by kernel_rfl) (fun _ _ _ h => h) (Or.inl ⟨by rfl, fun w hSw => by go_simp⟩) hHeld ?_
      refine wpAnyH_take (i := 13) (oi := _) (v := .int .i64 cn) rfl (by kernel_rfl) (by kernel_rfl) (by kernel_rfl) (fun _ _ _ h => h) (Or.inl ⟨by rfl, fun w hSw => by go_simp⟩) hHeld ?_
      refine wpAnyH_take (i := 14) (oi := _) (v := .int .i64 cd) rfl (by kernel_rfl) (by kernel_rfl) (by kernel_rfl) (fun _ _ _ h => h) (Or.inl ⟨by rfl, fun w hSw => by go_simp⟩) hHeld ?_
      refine wpAnyH_done (by kernel_rfl) ?_ _
      clear hHeld
      have hz1 := hbb.size
      rcases HC.out with ⟨ho, rfl, rfl, rfl⟩ | ⟨ho, rfl, rfl, rfl⟩
      · have hkm : k < m := by
          rcases HE.out with ⟨h1, _⟩ | ⟨_, h2, _⟩
          · omega
          · by_cases e : k = m
            · subst e; exact absurd ho h2
            · omega
        have HOL : Hid (outL s t (k + 1) = outL s t k ++ wL (valX (cwX s t k))) := by show _ = _; rfl
        have HTL : Hid (((totL s t (k + 1) : Nat) : Int) = (totL s t k : Nat) + (cntX (cwX s t k) : Nat)) := by show _ = _; rw [totL]; omega
        have hcn : cntX (cwX s t k) ≤ 1 := by unfold cntX; split <;> omega
        have HSP := Lib.hid (outL_take s t n k hkn (wL (valX (cwX s t k))))
        have hsf := fun (W : World) => slice_from w.heap.size k n hkn W
        clear HC ho
        generalize valX (cwX s t k) = y at *
        generalize cntX (cwX s t k) = cx at *
        go_wp2_with (refine wpList_copy_word rfl _ _ rfl w.heap.size (8 * k) (8 * n - 8 * k) (8 * n - 8 * k) (8 * n) rfl y rfl _ hown1 HLEN.out (by omega) (by omega) (by omega) hbb (Nat.le_refl _) ?_; intro w2 hown' hb' hz2; clear hown1 hbb)
        have hown2 := hown'
        rw [HSP.out, ← HOL.out] at hown2
        go_roundw
        case rel => exact ⟨k + 1, by omega, by go_num, by rw [HTL.out], hown2, hb', by omega⟩
        case measure => simp [intOf]; omega
      · rcases HE.out with ⟨h1, _⟩ | ⟨_, h2, rfl, rfl, rfl⟩
        · exact absurd (HO.out k (by omega)) ho
        · clear HC ho h2 HE
          go_wp2
          go_ret3
          exact ⟨rfl, hbb⟩
    · rcases HE.out with ⟨h1, rfl, rfl, rfl⟩ | ⟨h1, _⟩
      · obtain rfl : k = n := by omega
        have hkt : (k : Int) = (t.size : Int) := by omega
        have hkt2 : ¬ (k : Int) < (t.size : Int) := by omega
        have hcv := bytes_str hown
        rw [Nat.sub_self, List.replicate_zero, List.append_nil] at hcv
        clear hn ht hkt h1 HE hlen hol
        go_wp2
        go_ret3
        exact ⟨rfl, hb⟩
      · omega
end Go.Proofs.YthenilomgbnpeaaGreatDoor
/- Counting the bits that are 1, in the model and in the program: the contracts. -/
namespace Go.Proofs.YthenilomgbnpeaaGreatDoor
open Go.RowKit

/-- The bits of x that are 1, of its lowest f ones. -/
def onesF : Nat → Nat → Nat
  | 0, _ => 0
  | f + 1, x => x % 2 + onesF f (x / 2)
theorem onesF_le : ∀ f x, onesF f x ≤ f
  | 0, _ => Nat.le_refl _
  | f + 1, x => by have := onesF_le f (x / 2); rw [onesF]; omega
/-- The bits of the first k bytes that are 1. -/
def onesS (s : ByteArray) : Nat → Nat
  | 0 => 0
  | k + 1 => onesS s k + onesF 8 (byteAt s k)
theorem onesS_le (s : ByteArray) : ∀ k, onesS s k ≤ 8 * k
  | 0 => Nat.le_refl _
  | k + 1 => by have := onesS_le s k; have := onesF_le 8 (byteAt s k); rw [onesS]; omega

theorem onesF_more : ∀ f x, x < 2 ^ f → onesF (f + 1) x = onesF f x
  | 0, x, h => by have : x = 0 := by simpa using h
                  subst this; rfl
  | f + 1, x, h => by
    rw [onesF, onesF_more f (x / 2) (by rw [Nat.pow_succ] at h; omega)]; rfl
theorem onesF_step {x : Nat} (h : x < 256) : onesF 8 x = x % 2 + onesF 8 (x / 2) := by
  rw [onesF_more 7 (x / 2) (by omega)]; rfl
theorem pop_ones : ∀ f x, Lib.popAux f x = onesF f x
  | 0, _ => rfl
  | f + 1, x => by rw [Lib.popAux, onesF, pop_ones f]
theorem ones_big : ∀ k f x, x < 2 ^ f → onesF (f + k) x = onesF f x
  | 0, _, _, _ => rfl
  | k + 1, f, x, h => by
    rw [← Nat.add_assoc, onesF_more (f + k) x (Nat.lt_of_lt_of_le h (Nat.pow_le_pow_right (by decide) (by omega))), ones_big k f x h]
theorem count_ones {x : Nat} (h : x < 256) : Lib.onesCount x = onesF 8 x := by
  unfold Lib.onesCount; rw [pop_ones]; exact ones_big 56 8 x h

set_option maxRecDepth 1000000 in
theorem onesCount8_int (x : Int) (w : World) (h0 : 0 ≤ x) (h1 : x ≤ 255) :
    Calls Tryz.prog 36 #[.int .u8 x] w fun e w' => e = .returned (.int .i64 (Lib.onesCount x.toNat)) ∧ w' = w := by
  have e : wrap64 (Lib.pop8 x) = (Lib.onesCount x.toNat : Int) := by
    have h2 := Lib.pop8_eq ⟨x.toNat, by omega⟩
    have l := Lib.onesCount_le8 ⟨x.toNat, by omega⟩
    simp only [Int.toNat_of_nonneg h0] at h2
    simp only at l
    rw [h2, IntWalk.wrap64_in _ (by omega)]
  have E := Lib.hid e
  clear e
  go_enter Tryz.func36, Tryz.ntmps36
  go_wp2
  go_ret
  exact ⟨ret_int E.out, rfl⟩
theorem onesCount8_any (x : Nat) (w : World) (h : x ≤ 255) :
    Calls Tryz.prog 36 #[.int .u8 x] w fun e w' => e = .returned (.int .i64 (onesF 8 x : Nat)) ∧ w = w' :=
  (onesCount8_int (x : Int) w (by omega) (by omega)).mono fun _ _ ⟨he, hw⟩ => ⟨by rw [he, Int.toNat_natCast, count_ones (by omega)], hw.symm⟩

end Go.Proofs.YthenilomgbnpeaaGreatDoor
/- Opening a page, in the model and in the program: the contracts. -/
namespace Go.Proofs.YthenilomgbnpeaaGreatDoor
open Go.RowKit
set_option linter.unusedVariables false
theorem results_tmp4 {fn : Func} {t u v x : Tmp} (h : fn.results = #[.tmp t, .tmp u, .tmp v, .tmp x]) (tmps : Array Value) (P : Program) (w : World) :
    (results fn tmps).run P w = .ok (.tuple #[tmps.getD t undef, tmps.getD u undef, tmps.getD v undef, tmps.getD x undef]) w := by
  simp [results, h]
/-- How many bits of the mark are wrong. -/
def mkErr (raw : ByteArray) : Nat := onesF 8 (byteAt raw 90 ^^^ 90)
def bodyOf (raw : ByteArray) : ByteArray := raw.extract 0 80
def chksOf (raw : ByteArray) : ByteArray := raw.extract 80 90
theorem bodyOf_size {raw : ByteArray} (h : raw.size = 91) : (bodyOf raw).size = 80 := by unfold bodyOf; rw [ByteArray.size_extract]; omega
theorem chksOf_size {raw : ByteArray} (h : raw.size = 91) : (chksOf raw).size = 10 := by unfold chksOf; rw [ByteArray.size_extract]; omega
/-- What OpenPage answers. -/
inductive OpenEnds (raw : ByteArray) (p : Int) : ByteArray → ByteArray → Int → Int → Prop
  | invalid (h : raw.size ≠ 91) : OpenEnds raw p ⟨#[]⟩ ⟨#[]⟩ 0 1
  | range (h : raw.size = 91) (h1 : ¬ (0 ≤ p ∧ p ≤ 65534)) : OpenEnds raw p ⟨#[]⟩ ⟨#[]⟩ 0 2
  | mark (h : raw.size = 91) (h1 : 0 ≤ p ∧ p ≤ 65534) (h2 : 1 < mkErr raw) : OpenEnds raw p ⟨#[]⟩ ⟨#[]⟩ 0 6
  | bad (h : raw.size = 91) (h1 : 0 ≤ p ∧ p ≤ 65534) (h2 : mkErr raw ≤ 1) (m : Nat) (hm : m ≤ 10) (hok : ∀ k, k < m → okX (cwX (bodyOf raw) (chksOf raw) k)) (R : ByteArray) (t : Int) (he : EccEnds (bodyOf raw) (chksOf raw) 10 m R t 6) : OpenEnds raw p ⟨#[]⟩ ⟨#[]⟩ 0 6
  | done (h : raw.size = 91) (n : Nat) (hn : p = n) (h1 : n ≤ 65534) (h2 : mkErr raw ≤ 1) (m : Nat) (hm : m ≤ 10) (hok : ∀ k, k < m → okX (cwX (bodyOf raw) (chksOf raw) k)) (R : ByteArray) (t : Nat) (ht : t ≤ 100) (hR : R.size = 80) (he : EccEnds (bodyOf raw) (chksOf raw) 10 m R (t : Int) 0) :
      OpenEnds raw p ((scrB R n).extract 0 64) ((scrB R n).extract 64 80) ((t : Int) + (mkErr raw : Nat)) 0
def OpenPost (d s : ByteArray) (n c : Int) (w : World) (e : Ending) (w' : World) : Prop := e = .returned (.tuple #[.string d, .string s, .int .i64 n, .int .i64 c]) ∧ Below w.heap.size w w'
theorem mkErr_le (raw : ByteArray) : mkErr raw ≤ 8 := onesF_le _ _
set_option maxRecDepth 100000 in
theorem implOpen_any (raw : ByteArray) (p : Int) (d s : ByteArray) (n c : Int) (w : World) (h : OpenEnds raw p d s n c) (hraw : raw.size ≤ 9223372036854775807) (hT : MaskTab w) :
    Calls Tryz.prog 15 #[.string raw, .int .i64 p] w (OpenPost d s n c w) := by
  by_cases h9 : raw.size = 91
  case neg =>
    have hd : ((raw.size : Int) != 91) = true := by simp; omega
    rcases h with _ | ⟨h, _⟩ | ⟨h, _⟩ | ⟨h, _⟩ | ⟨h, _⟩
    · go_enter Tryz.func15, Tryz.ntmps15
      go_wp2
      exact bodyPost_ret (results_tmp4 rfl _ _ _) rfl ⟨rfl, Below.refl _ _⟩
    all_goals exact absurd h h9
  have hd : ((raw.size : Int) != 91) = false := by rw [h9]; rfl
  by_cases hp : 0 ≤ p ∧ p ≤ 65534
  case neg =>
    have HV := Lib.hid (validAddr_any p false w (by simp; omega))
    rcases h with h | ⟨h, _⟩ | ⟨_, h, _⟩ | ⟨_, h, _⟩ | ⟨_, k, rfl, h, _⟩
    · exact absurd h9 h
    · clear h9 hp
      go_enter Tryz.func15, Tryz.ntmps15
      go_wp2_with fail
      refine HV.out.mono ?_
      rintro e w' ⟨rfl, rfl⟩
      go_wp2
      exact bodyPost_ret (results_tmp4 rfl _ _ _) rfl ⟨rfl, Below.refl _ _⟩
    · exact absurd h hp
    · exact absurd h hp
    · exact absurd ⟨by omega, by omega⟩ hp
  have HV := Lib.hid (validAddr_any p true w (by simp; omega))
  have hb9 : byteAt raw 90 < 256 := by have := byteAt_le raw 90; omega
  have hxl : byteAt raw 90 ^^^ 90 < 2 ^ 8 := Nat.xor_lt_two_pow (by omega) (by omega)
  have hx : bits .xor .u8 (byteAt raw 90 : Int) 90 = ((byteAt raw 90 ^^^ 90 : Nat) : Int) := u8_xor_nat _ 90 (by omega) (by omega)
  have HO := Lib.hid (fun (W : World) => (show Calls Tryz.prog 36 #[.int .u8 (bits .xor .u8 (byteAt raw 90 : Int) 90)] W fun e w' => e = .returned (.int .i64 (mkErr raw : Nat)) ∧ W = w' from by rw [hx]; exact onesCount8_any (byteAt raw 90 ^^^ 90) W (by omega)))
  have HX := Lib.hid (show ∀ W : World, (Instr.index 9 (.string raw) (.int .i64 90)).run Tryz.prog W = .ok (.int .u8 (byteAt raw 90 : Int)) W from fun W => byteIdx raw 90 (by omega) W)
  have hx90 := HX.out w
  have hme := mkErr_le raw
  clear hxl hx hb9
  have HT := Lib.hid hT
  have HME := Lib.hid h
  clear hT h
  generalize hmm : mkErr raw = me at *
  have HMM := Lib.hid hmm
  clear hmm
  have hmi : (me : Int) ≤ 8 := by omega
  go_enter Tryz.func15, Tryz.ntmps15
  go_wp2_with fail
  refine HV.out.mono ?_
  rintro e w' ⟨rfl, rfl⟩
  by_cases hm1 : 1 < me
  · have hmi2 : (1 : Int) < (me : Int) := by omega
    have hres : d = ⟨#[]⟩ ∧ s = ⟨#[]⟩ ∧ n = 0 ∧ c = 6 := by
      have hq := HMM.out
      rcases HME.out with h | ⟨h, h1⟩ | ⟨h, h1, h2⟩ | ⟨h, h1, h2, _⟩ | ⟨_, _, _, _, h2, _⟩
      · exact absurd h9 h
      · exact absurd hp h1
      · exact ⟨rfl, rfl, rfl, rfl⟩
      · omega
      · omega
    obtain ⟨rfl, rfl, rfl, rfl⟩ := hres
    clear HME
    go_wp2_with fail
    refine (HO.out _).mono ?_
    rintro e w' ⟨rfl, rfl⟩
    go_wp2
    exact bodyPost_ret (results_tmp4 rfl _ _ _) rfl ⟨rfl, Below.refl _ _⟩
  have hmi2 : ¬ (1 : Int) < (me : Int) := by omega
  obtain ⟨m, hm, hok, R, t, cd, he, hcase⟩ : ∃ m, m ≤ 10 ∧ (∀ k, k < m → okX (cwX (bodyOf raw) (chksOf raw) k)) ∧ ∃ (R : ByteArray) (t cd : Int), EccEnds (bodyOf raw) (chksOf raw) 10 m R t cd ∧
      ((cd = 6 ∧ d = ⟨#[]⟩ ∧ s = ⟨#[]⟩ ∧ n = 0 ∧ c = 6) ∨ (cd = 0 ∧ ∃ q pn : Nat, p = pn ∧ pn ≤ 65534 ∧ t = q ∧ q ≤ 100 ∧ R.size = 80 ∧ d = (scrB R pn).extract 0 64 ∧ s = (scrB R pn).extract 64 80 ∧ n = (q : Int) + (me : Nat) ∧ c = 0)) := by
    have hq := HMM.out
    rcases HME.out with h | ⟨h, h1⟩ | ⟨h, h1, h2⟩ | ⟨h, h1, h2, m, hm, hok, R, t, he⟩ | ⟨h, pn, hpn, h1, h2, m, hm, hok, R, q, hq2, hR, he⟩
    · exact absurd h9 h
    · exact absurd hp h1
    · omega
    · exact ⟨m, hm, hok, R, t, 6, he, .inl ⟨rfl, rfl, rfl, rfl, rfl⟩⟩
    · exact ⟨m, hm, hok, R, q, 0, he, .inr ⟨rfl, q, pn, hpn, h1, rfl, hq2, hR, rfl, rfl, by rw [hq], rfl⟩⟩
  have hb8 := bodyOf_size h9
  have hc8 := chksOf_size h9
  have HDE := Lib.hid (fun (W : World) (hT : MaskTab W) => (show Calls Tryz.prog 37 #[.string (raw.extract 0 80), .string (raw.extract 80 90)] W (EccPost R t cd W) from implDecE_yes (bodyOf raw) (chksOf raw) 10 m R t cd W (by omega) (by omega) (by omega) hm hok he hT))
  have HC := Lib.hid hcase
  have s1 : (80 : Int) ≤ (raw.size : Int) := by omega
  have s2 : (90 : Int) ≤ (raw.size : Int) := by omega
  clear hb8 hc8 hok he hcase HME HMM
  go_wp2_with fail
  refine (HO.out _).mono ?_
  rintro e w' ⟨rfl, rfl⟩
  go_wp2_with fail
  clear hd hp hx90 HX HO HV
  go_region_held3 (fun w' => Below w.heap.size w w')
    (first
      | exact (Below.refl _ _).drew
      | exact (Below.refl w.heap.size w).drew.trans hb1)
    (first
      | (go_at_call 37
         refine (HDE.out w.drew (show MaskTab w.drew from HT.out)).mono ?_
         rintro e w1 ⟨rfl, hb1⟩))
  rename_i hS1
  rcases HC.out with ⟨rfl, rfl, rfl, rfl, rfl⟩ | ⟨rfl, q, pn, rfl, hpn, rfl, hq, hR, rfl, rfl, rfl, rfl⟩
  · clear HC
    go_wp2
    exact bodyPost_ret (results_tmp4 rfl _ _ _) rfl ⟨rfl, hS1⟩
  · clear HC
    have hx := scrB_size R pn
    have HS := Lib.hid (fun (W : World) => (show Calls Tryz.prog 27 #[.int .i64 pn, .string R] W _ from implScr_yes (pn : Int) R W (by omega) (by omega) (by omega)))
    rw [Int.toNat_natCast] at HS
    change Hid (∀ W, Calls Tryz.prog 27 #[.int .i64 pn, .string R] W fun e w' => e = .returned (.tuple #[.string (scrB R pn), .int .i64 0]) ∧ Below W.heap.size W w') at HS
    generalize scrB R pn = x at *
    have x1 : (64 : Int) ≤ (x.size : Int) := by omega
    have hxs : x.size = 80 := by omega
    have HXE := Lib.hid (show x.extract 64 80 = x.extract 64 x.size by rw [hxs])
    clear hx hxs
    go_wp2_with fail
    refine (HS.out _).mono ?_
    rintro e w2 ⟨rfl, b2⟩
    have B2 := hS1.trans (b2.mono hS1.size)
    clear b2 hS1
    go_wp2_with fail
    go_region
    go_wp2
    rw [HXE.out]
    exact bodyPost_ret (results_tmp4 rfl _ _ _) rfl ⟨rfl, B2.drew⟩
theorem openEnds (raw : ByteArray) (p : Int) : ∃ d s n c, OpenEnds raw p d s n c := by
  by_cases h : raw.size = 91
  case neg => exact ⟨_, _, _, _, .invalid h⟩
  by_cases h1 : 0 ≤ p ∧ p ≤ 65534
  case neg => exact ⟨_, _, _, _, .range h h1⟩
  by_cases h2 : mkErr raw ≤ 1
  case neg => exact ⟨_, _, _, _, .mark h h1 (by omega)⟩
  obtain ⟨m, hm, hok, hend⟩ := first_bad (fun k => okX (cwX (bodyOf raw) (chksOf raw) k)) 10
  rcases hend with rfl | hbad
  · have hle := totL_le (bodyOf raw) (chksOf raw) 10
    exact ⟨_, _, _, _, .done h p.toNat (by omega) (by omega) h2 10 (Nat.le_refl _) hok _ _ (show totL (bodyOf raw) (chksOf raw) 10 ≤ 100 by omega) (by rw [strOfNums_size, outL_length]) (.inl ⟨rfl, rfl, rfl, rfl⟩)⟩
  · by_cases e : m = 10
    · subst e
      have hle := totL_le (bodyOf raw) (chksOf raw) 10
      exact ⟨_, _, _, _, .done h p.toNat (by omega) (by omega) h2 10 (Nat.le_refl _) hok _ _ (show totL (bodyOf raw) (chksOf raw) 10 ≤ 100 by omega) (by rw [strOfNums_size, outL_length]) (.inl ⟨rfl, rfl, rfl, rfl⟩)⟩
    · exact ⟨_, _, _, _, .bad h h1 h2 m hm hok _ _ (.inr ⟨by omega, hbad, rfl, rfl, rfl⟩)⟩
theorem OpenEnds.size {raw : ByteArray} {p : Int} {d s : ByteArray} {n c : Int} (h : OpenEnds raw p d s n c) : d.size ≤ 64 ∧ s.size ≤ 16 := by
  rcases h with h | h | h | h | h
  all_goals first
    | (rw [ByteArray.size_extract, ByteArray.size_extract]; omega)
    | exact ⟨Nat.zero_le _, Nat.zero_le _⟩
end Go.Proofs.YthenilomgbnpeaaGreatDoor
