/- Decoding several words, in the model and in the program: the contracts. -/
import Derived.Test.YthenilomgbnpeaaDoorProg
import Derived.Test.YthenilomgbnpeaaDoorEncS
import Derived.Test.YthenilomgbnpeaaDoorDecN
import Derived.Test.YthenilomgbnpeaaDoorFlipS
import Derived.Lib.AppendStr
import Derived.Lib.BufferWrite
namespace Go.Proofs.YthenilomgbnpeaaDoor
open Go.RowKit

theorem decX_ok {X : Nat} (h : okX X) : Dec X (wStr (valX X)) (cntX X : Nat) 0 := by
  unfold valX cntX
  by_cases hg : good X = true
  · rw [if_pos hg, if_pos hg]; exact .inl ⟨hg, rfl, rfl, rfl⟩
  · rw [if_neg hg, if_neg hg]
    rcases h with h | h
    · exact absurd h hg
    · exact .inr (.inl ⟨by simpa using hg, h, rfl, rfl, rfl⟩)
theorem decX_bad {X : Nat} (h : ¬ okX X) : Dec X ⟨#[]⟩ 0 6 := by
  have hg : good X = false := by rw [Bool.eq_false_iff]; exact fun e => h (.inl e)
  exact .inr (.inr ⟨hg, fun e => h (.inr e), rfl, rfl, rfl⟩)
theorem valX_lt (X : Nat) : valX X < 2 ^ 64 := by unfold valX; split <;> exact lo_lt _
theorem byteIdx (t : ByteArray) (k : Nat) (h : k < t.size) (w : World) :
    (Instr.index 9 (.string t) (.int .i64 (k : Int))).run Tryd.prog w = .ok (.int .u8 (byteAt t k : Int)) w := by
  rw [← byteAt_eq h]
  have h0 : (0 : Int) ≤ (k : Int) := by omega
  have h1 : (k : Int) < (t.size : Int) := by omega
  go_simp
def EccPost (r : ByteArray) (n c : Int) (w : World) (e : Ending) (w' : World) : Prop := e = .returned (.tuple #[.string r, .int .i64 n, .int .i64 c]) ∧ Below w.heap.size w w'
/-- How the decoding ends: all words, or at the first that can't be decoded. -/
def EccEnds (s t : ByteArray) (n m : Nat) (R : ByteArray) (tot c : Int) : Prop :=
  (m = n ∧ R = strOfNums (outL s t n) ∧ tot = (totL s t n : Nat) ∧ c = 0) ∨ (m < n ∧ ¬ okX (cwX s t m) ∧ R = ⟨#[]⟩ ∧ tot = 0 ∧ c = 6)
theorem BytesOwn.whole {w : World} {B g n : Nat} {l : List Int} (h : BytesOwn w B (.slice (some ⟨g, 0, none⟩) n n) l) (hl : l.length = n) : w.heap[g]? = some (.cells (l.map (Value.int .u8)).toArray 5 (0, 0)) := by
  rcases h.2 with ⟨h1, _⟩ | ⟨g', cap, cur, h1, _, h3, _, _, h6, h7⟩
  · simp at h1
  · simp at h1
    obtain ⟨rfl, _, rfl⟩ := h1
    rw [h3]
    have : cur.toList = l.map (Value.int .u8) := by rw [← h7, List.take_of_length_le (by simp; omega)]
    rw [← this]
theorem BytesOwn.of_whole {w : World} {B g n : Nat} {l : List Int} (hB : B ≤ g) (hl : l.length = n) (hn : n ≤ 140737488355328) (h : w.heap[g]? = some (.cells (l.map (Value.int .u8)).toArray 5 (0, 0))) : BytesOwn w B (.slice (some ⟨g, 0, none⟩) n n) l := by
  refine ⟨by simp, .inr ⟨g, n, _, by rw [hl], hB, h, by omega, by unfold maxLen; omega, by simp [hl], ?_⟩⟩
  rw [List.take_of_length_le (by simp)]
theorem byteCells_wStr (x : Nat) : Lib.byteCells (wStr x).data.toList = (wL x).map (Value.int .u8) := by
  rw [← nums_wStr x, List.map_map]; rfl
theorem wpList_copy_word {Q : Exit → Act → World → Prop} {ops : Array Oper} {rest : List Oper} {o : Oper} {a : Act} {w0 w : World} {B : Nat} (hgd : o.guard = none) (d x : Operand)
    (ho : o.op = .call { callee := .builtin .copy, args := #[d, x], argTypes := #[22, 9] })
    (g off dLen dCap n : Nat) (hd : a.eval d = .slice (some ⟨g, off, none⟩) dLen dCap) (y : Nat) (hx : a.eval x = .string (wStr y)) (l : List Int)
    (hown : BytesOwn w B (.slice (some ⟨g, 0, none⟩) n n) l) (hl : l.length = n) (hn : n ≤ 140737488355328) (hle : 8 ≤ dLen) (hfit : off + 8 ≤ n) (hb : Below B w0 w) (hBg : B ≤ g)
    (h : ∀ w', BytesOwn w' B (.slice (some ⟨g, 0, none⟩) n n) (l.take off ++ wL y ++ l.drop (off + 8)) → Below B w0 w' → w'.heap.size = w.heap.size → wpList Tryd.prog ops Q rest (a.put o.dst (.int .i64 8)) w') :
    wpList Tryd.prog ops Q (o :: rest) a w := by
  refine wpList_plain hgd fun K hK => ?_
  have hw := hown.whole hl
  have hrun := Lib.run_copy_row_string (P := Tryd.prog) w 22 9 o.type 5 g off dLen dCap (wStr y) _ _ Tryd.underlying22 (by kernel_rfl) hw (by rw [wStr_size]; exact hle) (by rw [wStr_size]; simp; omega)
  unfold Oper.wp execOp
  simp only [ho, resolve, invoke, builtin, Sem.run_bind, Sem.run_pure, Result.andThen_ok, List.map_toArray, List.map_cons, List.map_nil, hd, hx, hrun]
  refine hK _ _ ?_
  rw [byteCells_wStr, wStr_size]
  have e : (((l.map (Value.int .u8)).toArray.toList.take off ++ (wL y).map (Value.int .u8) ++ (l.map (Value.int .u8)).toArray.toList.drop (off + 8)).toArray) = ((l.take off ++ wL y ++ l.drop (off + 8)).map (Value.int .u8)).toArray := by
    simp [List.map_take, List.map_drop]
  rw [e]
  exact h _ (BytesOwn.of_whole hBg (by simp [wL_length]; omega) hn (setRow_heap w g _ _ _ _ hw)) (below_setRow hb hBg _) (size_setRow ..)
theorem slice_from (g k n : Nat) (hk : k < n) (w : World) :
    (Instr.slice 22 (.slice (some ⟨g, 0, none⟩) (8 * n) (8 * n)) (some (.int .i64 ((k : Int) * 8))) none none).run Tryd.prog w = .ok (.slice (some ⟨g, 8 * k, none⟩) (8 * n - 8 * k) (8 * n - 8 * k)) w := by
  rw [run_slice_l w 22 (some ⟨g, 0, none⟩) (8 * n) (8 * n) (by kernel_rfl) .i64 _ (by omega) (by omega)]
  have e : (sizeOf (Tryd.prog.elem 22)).run Tryd.prog w = .ok 1 w := by kernel_rfl
  rw [e, show ((k : Int) * 8).toNat = 8 * k by omega]
  simp only [Result.andThen_ok, sliced]
  rw [if_neg (by omega)]
  simp [Addr.add]
  omega
theorem outL_take (s t : ByteArray) (n k : Nat) (h : k < n) (y : List Int) :
    (outL s t k ++ List.replicate (8 * n - 8 * k) 0).take (8 * k) ++ y ++ (outL s t k ++ List.replicate (8 * n - 8 * k) (0 : Int)).drop (8 * k + 8) = (outL s t k ++ y) ++ List.replicate (8 * n - 8 * (k + 1)) 0 := by
  have hl := outL_length s t k
  rw [List.take_append_of_le_length (by omega), List.take_of_length_le (by omega), List.drop_append, List.drop_eq_nil_of_le (by omega), hl, List.nil_append, List.drop_replicate, show 8 * n - 8 * k - (8 * k + 8 - 8 * k) = 8 * n - 8 * (k + 1) by omega]
set_option maxRecDepth 100000 in
theorem implDecE_yes (s t : ByteArray) (n m : Nat) (R : ByteArray) (tot c : Int) (w : World) (hn : s.size = 8 * n) (hn2 : n ≤ 32) (ht : t.size = n) (hm : m ≤ n) (hok : ∀ k, k < m → okX (cwX s t k)) (hend : EccEnds s t n m R tot c) (hT : MaskTab w) :
    Calls Tryd.prog 19 #[.string s, .string t] w (EccPost R tot c w) := by
  have HT := Lib.hid hT
  have HV := Lib.hid (fun (W : World) => wholeWords_yes s W ⟨by omega, by omega⟩)
  have HW := Lib.hid (fun (k : Nat) (W : World) (h : 8 * k + 8 ≤ s.size) => wordOf_any s k W h (by omega))
  have HX := Lib.hid (fun (k : Nat) (h : k < t.size) (W : World) => byteIdx t k h W)
  have HD := Lib.hid (fun (k : Nat) (R : ByteArray) (n c : Int) (W : World) (h : Dec (cwX s t k) R n c) (hT : MaskTab W) => implDec_any (cwX s t k) R n c W (cwX_lt s t k) hT h)
  have hsz : (s.size : Int) ≤ 256 := by omega
  have htz : (t.size : Int) ≤ 32 := by omega
  have hdv : ((t.size : Int) != (s.size : Int) / 8) = false := by simp; omega
  have hse : (s.size : Int) = ((8 * n : Nat) : Int) := by omega
  have HSE := Lib.hid hse
  have HN := Lib.hid (And.intro hn ht)
  have HO := Lib.hid hok
  have HE := Lib.hid hend
  clear hn ht hok hend hT hse
  go_enter Tryd.func19, Tryd.ntmps19
  go_wp2_with (first
    | (go_at_call 24; refine (HV.out _).mono ?_; rintro e w' ⟨rfl, rfl⟩)
    | (refine wpList_make_bytes rfl _ _ rfl _ _ _ _ (8 * n) rfl rfl HSE.out HSE.out (by omega) (Below.refl _ _) (Nat.le_refl _) ?_; intro w1 hown hb))
  clear hdv
  go_loopw [8, 29] (fun u j wr => ∃ k : Nat, k ≤ m ∧ j = .int .i64 k ∧ u = .int .i64 (totL s t k : Nat) ∧ BytesOwn wr w.heap.size (.slice (some ⟨w.heap.size, 0, none⟩) (8 * n) (8 * n)) (outL s t k ++ List.replicate (8 * n - 8 * k) 0) ∧ Below w.heap.size w wr ∧ w.heap.size < wr.heap.size) (fun _ j _ => n - (intOf j).toNat)
  case atStart => exact ⟨0, by omega, rfl, rfl, by simpa [outL] using hown, hb, (World.ownsRow.lt hown _ rfl).2⟩
  case round =>
    clear hown hb
    obtain ⟨k, hk, rfl, rfl, hown, hb, hzb⟩ := hrel
    have hz := hb.size
    obtain ⟨hn, ht⟩ := HN.out
    have hol := outL_length s t k
    have hlen : (outL s t k ++ List.replicate (8 * n - 8 * k) (0 : Int)).length = 8 * n := by simp [hol]; omega
    have htl := totL_le s t k
    by_cases hkn : k < n
    · have hwd := wd_wStr (s := s) (k := k) (by omega)
      have hwo := fun (W : World) => HW.out k W (by omega)
      have hix := fun (W : World) => HX.out k (by omega) W
      have hkt : (k : Int) < (t.size : Int) := by omega
      have hlo := cwX_lo s t k
      have hhi := cwX_hi s t k
      rw [hwd] at hwo
      rw [← hlo] at hwo
      rw [← hhi] at hix
      have hhl := hi_lt (cwX_lt s t k)
      obtain ⟨r, cn, cd, hdec⟩ : ∃ (r : ByteArray) (cn cd : Int), Dec (cwX s t k) r cn cd ∧ ((okX (cwX s t k) ∧ r = wStr (valX (cwX s t k)) ∧ cn = (cntX (cwX s t k) : Nat) ∧ cd = 0) ∨ (¬ okX (cwX s t k) ∧ r = ⟨#[]⟩ ∧ cn = 0 ∧ cd = 6)) := by
        by_cases h : okX (cwX s t k)
        · exact ⟨_, _, _, decX_ok h, .inl ⟨h, rfl, rfl, rfl⟩⟩
        · exact ⟨_, _, _, decX_bad h, .inr ⟨h, rfl, rfl, rfl⟩⟩
      obtain ⟨hd, hcase⟩ := hdec
      have H1 := Lib.hid (fun (W : World) (hT : MaskTab W) => HD.out k r cn cd W hd hT)
      have HC := Lib.hid hcase
      have HWO := Lib.hid hwo
      have HIX := Lib.hid hix
      have HTr := Lib.hid (show MaskTab wr.drew from HT.out.below hb.drew (Nat.le_refl _))
      have HLEN := Lib.hid hlen
      clear hn ht hwd hwo hix hlo hhi hd hcase hlen hol
      have q4 : IntKind.i64.wrap ((hi (cwX s t k) : Nat) : Int) = (hi (cwX s t k) : Nat) := IntWalk.i64_in _ (by omega)
      go_wp2_with fail
      refine wp_region_held_drew (S := fun _ => True) (by kernel_rfl) trivial (fun hHeld => ?_)
      refine wpAnyH_take (i := 0) (oi := _) (v := .string s) rfl (by kernel_rfl) (by kernel_rfl) (by kernel_rfl) (fun _ _ _ h => h) (Or.inl ⟨by rfl, fun w hSw => by go_simp⟩) hHeld ?_
      refine wpAnyH_take (i := 1) (oi := _) (v := .int .i64 (k : Int)) rfl (by kernel_rfl) (by kernel_rfl) (by kernel_rfl) (fun _ _ _ h => h) (Or.inl ⟨by rfl, fun w hSw => by go_simp⟩) hHeld ?_
      refine wpAnyH_take (i := 3) (oi := _) (v := .string t) rfl (by kernel_rfl) (by kernel_rfl) (by kernel_rfl) (fun _ _ _ h => h) (Or.inl ⟨by rfl, fun w hSw => by go_simp⟩) hHeld ?_
      refine wpAnyH_take (i := 4) (oi := _) (v := .int .i64 (k : Int)) rfl (by kernel_rfl) (by kernel_rfl) (by kernel_rfl) (fun _ _ _ h => h) (Or.inl ⟨by rfl, fun w hSw => by go_simp⟩) hHeld ?_
      refine wpAnyH_take (i := 5) (oi := _) (v := .int .u8 (hi (cwX s t k) : Nat)) rfl (by kernel_rfl) (by kernel_rfl) (by kernel_rfl) (fun _ _ _ h => h) (Or.inl ⟨by rfl, fun w hSw => by have hs1 := HIX.out w; go_simp⟩) hHeld ?_
      refine wpAnyH_take (i := 6) (oi := _) (v := .int .i64 (hi (cwX s t k) : Nat)) rfl (by kernel_rfl) (by kernel_rfl) (by kernel_rfl) (fun _ _ _ h => h) (Or.inl ⟨by rfl, fun w hSw => by go_simp⟩) hHeld ?_
      refine wpAnyH_ready (rs := [2]) (by kernel_rfl) (by simp) ?_
      refine AllReadyH.cons (o := _) rfl (fun K hK => ?_) AllReadyH.nil
      go_simp
      go_at_call 26
      refine (HWO.out _).mono ?_
      rintro e w' ⟨rfl, rfl⟩
      refine hK.out _ _ trivial (fun hHeld => ?_)
      clear hK K
      refine wpAnyH_ready (rs := [7]) (by kernel_rfl) (by simp) ?_
      refine AllReadyH.cons (o := _) rfl (fun K hK => ?_) AllReadyH.nil
      go_simp
      go_at_call 27
      refine (H1.out _ HTr.out).mono ?_
      rintro e w1 ⟨rfl, hb1⟩
      have hown1 : BytesOwn w1 w.heap.size (.slice (some ⟨w.heap.size, 0, none⟩) (8 * n) (8 * n)) (outL s t k ++ List.replicate (8 * n - 8 * k) 0) := BytesOwn.later hown.drew hb1 (fun g hg => (World.ownsRow.lt hown g hg).2)
      have hbb : Below w.heap.size w w1 := hb.drew.trans (hb1.mono hz)
      have hzz : w.heap.size < w1.heap.size := Nat.lt_of_lt_of_le hzb hb1.size
      refine hK.out _ _ trivial (fun hHeld => ?_)
      clear hK K q4 hown hb hb1
      refine wpAnyH_take (i := 8) (oi := _) (v := .tuple #[.string r, .int .i64 cn, .int .i64 cd]) rfl (by kernel_rfl) (by kernel_rfl) (by kernel_rfl) (fun _ _ _ h => h) (Or.inl ⟨by rfl, fun w hSw => by go_simp⟩) hHeld ?_
      refine wpAnyH_take (i := 9) (oi := _) (v := .string r) rfl (by kernel_rfl) (by kernel_rfl) (by kernel_rfl) (fun _ _ _ h => h) (Or.inl ⟨by rfl, fun w hSw => by go_simp⟩) hHeld ?_
      refine wpAnyH_take (i := 10) (oi := _) (v := .int .i64 cn) rfl (by kernel_rfl) (by kernel_rfl) (by kernel_rfl) (fun _ _ _ h => h) (Or.inl ⟨by rfl, fun w hSw => by go_simp⟩) hHeld ?_
      refine wpAnyH_take (i := 11) (oi := _) (v := .int .i64 cd) rfl (by kernel_rfl) (by kernel_rfl) (by kernel_rfl) (fun _ _ _ h => h) (Or.inl ⟨by rfl, fun w hSw => by go_simp⟩) hHeld ?_
      refine wpAnyH_take (i := 12) (oi := _) (v := .string r) rfl (by kernel_rfl) (by kernel_rfl) (by kernel_rfl) (fun _ _ _ h => h) (Or.inl ⟨by rfl, fun w hSw => by go_simp⟩) hHeld ?_
      refine wpAnyH_take (i := 13) (oi := _) (v := .int .i64 cn) rfl (by kernel_rfl) (by kernel_rfl) (by kernel_rfl) (fun _ _ _ h => h) (Or.inl ⟨by rfl, fun w hSw => by go_simp⟩) hHeld ?_
      refine wpAnyH_take (i := 14) (oi := _) (v := .int .i64 cd) rfl (by kernel_rfl) (by kernel_rfl) (by kernel_rfl) (fun _ _ _ h => h) (Or.inl ⟨by rfl, fun w hSw => by go_simp⟩) hHeld ?_
      refine wpAnyH_done (by kernel_rfl) ?_ _
      clear hHeld
      have hz1 := hbb.size
      rcases HC.out with ⟨ho, rfl, rfl, rfl⟩ | ⟨ho, rfl, rfl, rfl⟩
      · have hkm : k < m := by
          rcases HE.out with ⟨h1, _⟩ | ⟨_, h2, _⟩
          · omega
          · by_cases e : k = m
            · subst e; exact absurd ho h2
            · omega
        have HOL : Hid (outL s t (k + 1) = outL s t k ++ wL (valX (cwX s t k))) := by show _ = _; rfl
        have HTL : Hid (((totL s t (k + 1) : Nat) : Int) = (totL s t k : Nat) + (cntX (cwX s t k) : Nat)) := by show _ = _; rw [totL]; omega
        have hcn : cntX (cwX s t k) ≤ 1 := by unfold cntX; split <;> omega
        have HSP := Lib.hid (outL_take s t n k hkn (wL (valX (cwX s t k))))
        have hsf := fun (W : World) => slice_from w.heap.size k n hkn W
        clear HC ho
        generalize valX (cwX s t k) = y at *
        generalize cntX (cwX s t k) = cx at *
        go_wp2_with (refine wpList_copy_word rfl _ _ rfl w.heap.size (8 * k) (8 * n - 8 * k) (8 * n - 8 * k) (8 * n) rfl y rfl _ hown1 HLEN.out (by omega) (by omega) (by omega) hbb (Nat.le_refl _) ?_; intro w2 hown' hb' hz2; clear hown1 hbb)
        have hown2 := hown'
        rw [HSP.out, ← HOL.out] at hown2
        go_roundw
        case rel => exact ⟨k + 1, by omega, by go_num, by rw [HTL.out], hown2, hb', by omega⟩
        case measure => simp [intOf]; omega
      · rcases HE.out with ⟨h1, _⟩ | ⟨_, h2, rfl, rfl, rfl⟩
        · exact absurd (HO.out k (by omega)) ho
        · clear HC ho h2 HE
          go_wp2
          go_ret3
          exact ⟨rfl, hbb⟩
    · rcases HE.out with ⟨h1, rfl, rfl, rfl⟩ | ⟨h1, _⟩
      · obtain rfl : k = n := by omega
        have hkt : (k : Int) = (t.size : Int) := by omega
        have hkt2 : ¬ (k : Int) < (t.size : Int) := by omega
        have hcv := bytes_str hown
        rw [Nat.sub_self, List.replicate_zero, List.append_nil] at hcv
        clear hn ht hkt h1 HE hlen hol
        go_wp2
        go_ret3
        exact ⟨rfl, hb⟩
      · omega
end Go.Proofs.YthenilomgbnpeaaDoor
