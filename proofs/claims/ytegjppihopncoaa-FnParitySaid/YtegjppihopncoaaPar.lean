/- The exclusive or of several texts, in the model and in the program: the contracts. -/
import Derived.Test.YtegjppihopncoaaProg
import Derived.Test.YtegjppihopncoaaStrs
import Derived.Test.YtegjppihopncoaaParN
import Derived.Test.YtegjppihopncoaaBytes
import Derived.Test.YtegjppihopncoaaXor
import Derived.RegionTactic
import Derived.ChangeAlike
import Derived.Deep.RegionHeld3
import Derived.Lib.BufferWrite
namespace Go.Proofs.Ytegjppihopncoaa
open Go.RowKit

theorem under256 : Try.prog.underlying 35 = some (.array 256 5) := by kernel_rfl
theorem under256' : Try.prog.underlying 35 = some (.array (Try.prog.arrayLen 35) (Try.prog.elem 35)) := by kernel_rfl
theorem len256 : Try.prog.arrayLen 35 = 256 := by kernel_rfl
theorem elem256 : Try.prog.elem 35 = 5 := by kernel_rfl
theorem size1 (w : World) : (sizeOf 5).run Try.prog w = .ok 1 w := by kernel_rfl
theorem zero256 (w : World) : (zeroValue 35).run Try.prog w = .ok (.agg ((tab fun _ => 0).map (Value.int .u8)).toArray) w := by kernel_rfl
theorem slice_all (g : Nat) (w : World) :
    (Instr.sliceAt 35 (.pointer (some ⟨g, 0, none⟩)) none none none).run Try.prog w = .ok (.slice (some ⟨g, 0, none⟩) 256 256) w := by
  rw [run_sliceAt_array_all w _ _ under256', elem256, size1, len256]
  simp [slicedAt, Result.andThen, Addr.add]
theorem slice_to (g m : Nat) (hm : m ≤ 256) (w : World) :
    (Instr.sliceAt 35 (.pointer (some ⟨g, 0, none⟩)) none (some (.int .i64 (m : Int))) none).run Try.prog w = .ok (.slice (some ⟨g, 0, none⟩) m 256) w := by
  rw [run_sliceAt_array_h w _ _ under256' .i64 (m : Int) (by omega) (by rw [len256]; omega), elem256, size1, len256]
  simp [slicedAt, Result.andThen, Addr.add]
def tailA (cap b off : Nat) : Option Addr := if cap = 1 then some ⟨b, off, none⟩ else some ⟨b, off + 1, none⟩
theorem slice_tail (b off n cap : Nat) (h1 : 1 ≤ n) (w : World) :
    (Instr.slice 24 (.slice (some ⟨b, off, none⟩) n cap) (some (.int .i64 1)) none none).run Try.prog w = .ok (.slice (tailA cap b off) (n - 1) (cap - 1)) w := by
  rw [run_slice_l w 24 (some ⟨b, off, none⟩) n cap (by kernel_rfl) .i64 _ (by omega) (by omega)]
  have e : (sizeOf (Try.prog.elem 24)).run Try.prog w = .ok 1 w := by kernel_rfl
  rw [e, show ((1 : Int)).toNat = 1 by decide]
  simp only [Result.andThen_ok, sliced, tailA]
  by_cases h : cap = 1
  · rw [if_pos h, if_pos h]
  · rw [if_neg h, if_neg h]; simp [Addr.add]
def numsT (s : ByteArray) : List Int := s.data.toList.map fun b => (b.toNat : Int)
theorem byteCells_nums (s : ByteArray) : Lib.byteCells s.data.toList = (numsT s).map (Value.int .u8) := by
  unfold numsT; rw [List.map_map]; rfl
theorem first_unit (L : List ByteArray) (hL : 0 < L.length) (x0 : ByteArray) (h0 : L.getD 0 ByteArray.empty = x0) (hm : x0.size ≤ 256) :
    numsT x0 ++ (tab fun _ => 0).drop x0.size = tab (stF L x0.size 1 0) := by
  have hl : (numsT x0).length = x0.size := by unfold numsT; simp
  apply List.ext_getElem
  · simp [hl, tab_length]; omega
  · intro k h1 h2
    rw [tab_length] at h2
    have ht : L.take 1 = [x0] := by
      cases L with
      | nil => simp at hL
      | cons u L => simp at h0; subst h0; rfl
    simp only [tab, List.getElem_map, List.getElem_range]
    unfold stF
    by_cases hk : k < x0.size
    · rw [List.getElem_append_left (by omega), if_pos hk, if_neg (by omega), ht, xorAll, xorAll, Nat.xor_zero]
      unfold numsT byteAt
      rw [List.getElem_map, List.getD_eq_getElem?_getD, List.getElem?_eq_getElem (by simpa using hk)]; rfl
    · rw [List.getElem_append_right (by omega), if_neg hk]
      simp
theorem wp_copy_str {Q : Exit → Act → World → Prop} {K : Act → World → Prop} {o : Oper} {a : Act} {w : World} (d x : Operand)
    (ho : o.op = .call { callee := .builtin .copy, args := #[d, x], argTypes := #[22, 9] })
    (g dCap : Nat) (hd : a.eval d = .slice (some ⟨g, 0, none⟩) 256 dCap) (t : ByteArray) (hx : a.eval x = .string t) (ht : t.size ≤ 256) (l : List Int) (hl : l.length = 256) (T : TypeId) (hA : Arr w g T .u8 l)
    (h : K (a.put o.dst (.int .i64 t.size)) (w.setRow g ((numsT t ++ l.drop t.size).map (Value.int .u8)).toArray)) : Oper.wp Try.prog o a w K Q := by
  have hrun := Lib.run_copy_row_string (P := Try.prog) w 22 9 o.type 5 g 0 256 dCap t _ _ Try.underlying22 (by kernel_rfl) hA ht (by simp [hl]; omega)
  unfold Oper.wp execOp
  simp only [ho, resolve, invoke, builtin, Sem.run_bind, Sem.run_pure, Result.andThen_ok, List.map_toArray, List.map_cons, List.map_nil, hd, hx, hrun]
  have e : (((l.map (Value.int .u8)).toArray.toList.take 0 ++ Lib.byteCells t.data.toList ++ (l.map (Value.int .u8)).toArray.toList.drop (0 + t.size)).toArray) = ((numsT t ++ l.drop t.size).map (Value.int .u8)).toArray := by
    rw [byteCells_nums]; simp [List.map_drop]
  rw [e]
  exact h
/-- What the exclusive or of a list answers. -/
def XorEnds (L : List ByteArray) (R : ByteArray) (c : Int) : Prop := (∃ m, Units L m ∧ R = sumS L m ∧ c = 0) ∨ ((¬ ∃ m, Units L m) ∧ R = ⟨#[]⟩ ∧ c = 1)
def XorPost (R : ByteArray) (c : Int) (w : World) (e : Ending) (w' : World) : Prop := e = .returned (.tuple #[.string R, .int .i64 c]) ∧ Below w.heap.size w w'
theorem xorEnds (L : List ByteArray) : ∃ R c, XorEnds L R c := by
  by_cases h : ∃ m, Units L m
  · obtain ⟨m, hm⟩ := h
    exact ⟨_, _, .inl ⟨m, hm, rfl, rfl⟩⟩
  · exact ⟨_, _, .inr ⟨h, rfl, rfl⟩⟩
/-- The run over units that are in bounds, up to the first of another length. -/
def RunEnds (L : List ByteArray) (m K : Nat) (R : ByteArray) (c : Int) : Prop := (K = L.length ∧ R = sumS L m ∧ c = 0) ∨ (K < L.length ∧ (L.getD K ByteArray.empty).size ≠ m ∧ R = ⟨#[]⟩ ∧ c = 1)
set_option maxRecDepth 100000 in
theorem xorOf_run (v : Value) (L : List ByteArray) (m K : Nat) (R : ByteArray) (c : Int) (w : World) (hv : StrsIn w v L) (h1 : 1 ≤ L.length) (h8 : L.length ≤ 8) (hm : m ≤ 256) (hK1 : 1 ≤ K) (hK : K ≤ L.length) (hsz : ∀ i, i < K → (L.getD i ByteArray.empty).size = m) (hbig : ∀ i, i < L.length → (L.getD i ByteArray.empty).size ≤ 9223372036854775807) (hE : RunEnds L m K R c) :
    Calls Try.prog 11 #[v] w (XorPost R c w) := by
  obtain ⟨A, n, cap, rfl, hlc, hcm, hn, hA⟩ := hv
  obtain ⟨b, off, rfl, hbl, hx⟩ := hA (by omega)
  have hc0 := hx 0 (by omega)
  rw [Nat.add_zero] at hc0
  have hm0 := hsz 0 (by omega)
  obtain ⟨x0, hx0⟩ : ∃ x0, x0 = L.getD 0 ByteArray.empty := ⟨_, rfl⟩
  rw [← hx0] at hc0 hm0
  have hFU := first_unit L (by omega) x0 hx0.symm (by omega)
  rw [hm0] at hFU
  have HF := Lib.hid hFU
  have HX := Lib.hid hx
  have HN := Lib.hid hn
  have HS := Lib.hid hsz
  have HB := Lib.hid hbig
  have HE := Lib.hid hE
  have HM := Lib.hid hm0
  obtain ⟨T, hT⟩ : ∃ T, T = tailA cap b off := ⟨_, rfl⟩
  have hsl := fun (W : World) => slice_tail b off n cap (by omega) W
  rw [← hT] at hsl
  have HTA : Hid (2 ≤ n → T = some ⟨b, off + 1, none⟩) := Lib.hid (fun h => by rw [hT]; unfold tailA; rw [if_neg (by omega)])
  clear hT
  have n1 : (1 : Int) ≤ (n : Int) := by omega
  have n2 : (n : Int) ≤ 8 := by omega
  have hm0i : (x0.size : Int) ≤ 256 := by omega
  have hd1 : decide ((n : Int) < 1) = false := by simp; omega
  have hd2 : decide ((8 : Int) < (n : Int)) = false := by simp; omega
  have hd3 : decide ((256 : Int) < (x0.size : Int)) = false := by simp; omega
  have hK2 : K ≤ n := by omega
  have hzv := zero256
  obtain ⟨zs, hzs⟩ : ∃ zs, zs = ((tab fun _ => 0).map (Value.int .u8)).toArray := ⟨_, rfl⟩
  rw [← hzs] at hzv
  have hAr := Arr.new w 35 .u8 (tab fun _ => 0)
  rw [← hzs] at hAr
  have hcz : (w.alloc (.cells zs 35)).cell? ⟨b, off, none⟩ = some (.string x0) := by rw [World.cell?_alloc_lt w _ _ hbl]; exact hc0
  clear hA hx hn hsz hbig hE hFU hm0 hx0 h1 h8 hzs
  go_enter Try.func11, Try.ntmps11
  go_wp2
  clear hd1 hd2 hd3 hzv
  have hsa := fun (W : World) => slice_all w.heap.size W
  refine wp_region_held_drew (S := fun w' => w'.cell? ⟨b, off, none⟩ = some (.string x0)) (by kernel_rfl) (by simpa using hcz) (fun hHeld => ?_)
  refine wpAnyH_take (i := 0) (oi := _) (v := .slice (some ⟨w.heap.size, 0, none⟩) 256 256) rfl (by kernel_rfl) (by kernel_rfl) (by kernel_rfl) (fun _ _ _ h => h) (Or.inl ⟨by rfl, fun w hSw => by go_simp⟩) hHeld ?_
  refine wpAnyH_take (i := 1) (oi := _) (v := .slice (some ⟨b, off, none⟩) n cap) rfl (by kernel_rfl) (by kernel_rfl) (by kernel_rfl) (fun _ _ _ h => h) (Or.inl ⟨by rfl, fun w hSw => by go_simp⟩) hHeld ?_
  refine wpAnyH_take (i := 2) (oi := _) (v := .pointer (some ⟨b, off, none⟩)) rfl (by kernel_rfl) (by kernel_rfl) (by kernel_rfl) (fun _ _ _ h => h) (Or.inl ⟨by rfl, fun w hSw => by go_simp; intro h; omega⟩) hHeld ?_
  refine wpAnyH_take (i := 3) (oi := _) (v := .string x0) rfl (by kernel_rfl) (by kernel_rfl) (by kernel_rfl) (fun _ _ _ h => h) (Or.inl ⟨by rfl, fun w hSw => by have hs1 : w.cell? ⟨b, off, none⟩ = some (.string x0) := hSw; go_simp⟩) hHeld ?_
  refine wpAnyH_ready (rs := [4]) (by kernel_rfl) (by simp) ?_
  refine AllReadyH.cons (o := _) rfl (fun K hK => ?_) AllReadyH.nil
  rw [if_pos (by rfl)]
  refine wp_copy_str (.tmp 24) (.tmp 27) rfl w.heap.size 256 rfl x0 rfl (by omega) _ (tab_length _) _ (show Arr _ _ _ _ _ from hAr) ?_
  have hA1 : Arr ((w.alloc (.cells zs 35)).drew.setRow w.heap.size ((numsT x0 ++ (tab fun _ => 0).drop x0.size).map (Value.int .u8)).toArray) w.heap.size 35 .u8 (numsT x0 ++ (tab fun _ => 0).drop x0.size) := Arr.row (show Arr (w.alloc (.cells zs 35)).drew _ _ _ _ from hAr) _
  have hb1 : Below w.heap.size w ((w.alloc (.cells zs 35)).drew.setRow w.heap.size ((numsT x0 ++ (tab fun _ => 0).drop x0.size).map (Value.int .u8)).toArray) := below_setRow ((Below.refl w.heap.size w).alloc (Nat.le_refl _) _).drew (Nat.le_refl _) _
  have hz1 : w.heap.size < ((w.alloc (.cells zs 35)).drew.setRow w.heap.size ((numsT x0 ++ (tab fun _ => 0).drop x0.size).map (Value.int .u8)).toArray).heap.size := by rw [size_setRow]; show w.heap.size < (w.heap.push _).size; simp
  rw [HM.out, HF.out] at hA1 hb1 hz1
  refine hK.out _ _ ((hb1.cell (p := ⟨b, off, none⟩) hbl).trans hc0 |> fun h => by rw [HM.out, HF.out]; exact h) (fun hHeld => ?_)
  clear hK K
  rw [HM.out, HF.out]
  rw [HM.out, HF.out] at hHeld
  generalize (w.alloc (.cells zs 35)).drew.setRow w.heap.size ((tab (stF L m 1 0)).map (Value.int .u8)).toArray = w1 at *
  refine wpAnyH_take (i := 5) (oi := _) (v := .int .i64 (m : Int)) rfl (by kernel_rfl) (by kernel_rfl) (by kernel_rfl) (fun _ _ _ h => h) (Or.inl ⟨by rfl, fun w hSw => by go_simp⟩) hHeld ?_
  refine wpAnyH_done (by kernel_rfl) ?_ _
  clear hHeld hsa hAr hcz
  have hmi : (m : Int) ≤ 256 := by omega
  go_wp2
  go_loopw [32] (fun u wr => ∃ i : Nat, i + 1 ≤ K ∧ u = .int .i64 i ∧ Arr wr w.heap.size 35 .u8 (tab (stF L m (i + 1) 0)) ∧ Below w.heap.size w wr ∧ w.heap.size < wr.heap.size) (fun u _ => n - (intOf u).toNat)
  case atStart => exact ⟨0, hK1, rfl, hA1, hb1, hz1⟩
  case round =>
    clear hA1 hb1 hz1
    obtain ⟨i, hi, rfl, hA, hb, hz⟩ := hrel
    have hN := HN.out
    by_cases hlt : i + 1 < n
    · have hT := HTA.out (by omega)
      subst hT
      have hc := (hb.cell (p := ⟨b, off + (i + 1), none⟩) hbl).trans (HX.out (i + 1) hlt)
      rw [show off + (i + 1) = off + 1 + i by omega] at hc
      have hub := HB.out (i + 1) (by omega)
      obtain ⟨x, hx⟩ : ∃ x, x = L.getD (i + 1) ByteArray.empty := ⟨_, rfl⟩
      have hxx := xorAll_take (L := L) (k := i + 1) (by omega)
      rw [← hx] at hc hub hxx
      have hil : (i : Int) < ((n - 1 : Nat) : Int) := by omega
      have hil2 : i < n - 1 := by omega
      have HXX := Lib.hid hxx
      clear hxx
      by_cases hk : i + 1 < K
      · have hsx := HS.out (i + 1) hk
        rw [← hx] at hsx
        have HSX := Lib.hid hsx
        have hne : ((x.size : Int) != (m : Int)) = false := by simp; omega
        clear hx hN hsx
        go_wp2
        obtain ⟨wo, hwo⟩ : ∃ wo : World, wo = wr := ⟨_, rfl⟩
        subst hwo
        go_loopw [41] (fun u wi => ∃ j : Nat, j ≤ m ∧ u = .int .i64 j ∧ Arr wi w.heap.size 35 .u8 (tab (stF L m (i + 1) j)) ∧ Below w.heap.size w wi ∧ w.heap.size < wi.heap.size) (fun u _ => m - (intOf u).toNat)
        case atStart => exact ⟨0, by omega, rfl, hA, hb, hz⟩
        case round =>
          clear hA hb hz hc
          obtain ⟨j, hj, rfl, hA, hb, hz⟩ := hrel
          by_cases hjm : j < m
          · have h256 : j < 256 := by omega
            have hj1 : (j : Int) < 256 := by omega
            have hsx2 := HSX.out
            have hj2 : (j : Int) < (x.size : Int) := by omega
            have hj3 : j < x.size := by omega
            have hjmi : (j : Int) < (m : Int) := by omega
            have hcell := hA.cell (j := j) (by rw [tab_length]; exact h256)
            have hfree := hA.free j
            have hat : (tab (stF L m (i + 1) j)).getD j 0 = ((xorAll (L.take (i + 1)) j : Nat) : Int) := by
              rw [tab_at _ h256]; unfold stF; rw [if_pos hjm, if_neg (by omega)]
            rw [hat] at hcell
            have hl1 := xorAll_lt (L.take (i + 1)) j
            have hl2 := byteAt_le x j
            have HV : Hid (bits .xor .u8 ((xorAll (L.take (i + 1)) j : Nat) : Int) (x[j].toNat : Int) = ((xorAll (L.take (i + 1 + 1)) j : Nat) : Int)) := by
              show _ = _
              rw [HXX.out j, byteAt_eq hj3]; exact u8_xor_nat _ _ (by omega) (by omega)
            have hnext := hA.set_ j (bits .xor .u8 ((xorAll (L.take (i + 1)) j : Nat) : Int) (x[j].toNat : Int))
            rw [stF_step L m (i + 1) j hjm _ HV.out] at hnext
            have hbn := hb.setCell (p := ⟨w.heap.size, j, none⟩) (Nat.le_refl _) (.int .u8 (bits .xor .u8 ((xorAll (L.take (i + 1)) j : Nat) : Int) (x[j].toNat : Int)))
            generalize xorAll (L.take (i + 1)) j = y at *
            clear hA hb hat hsx2
            go_wp2
            go_region
            all_goals
              go_wp2
              go_roundw
              case rel => exact ⟨j + 1, by omega, by go_num, hnext.drew, hbn.drew, by simp; omega⟩
              case measure => simp [intOf]; omega
          · obtain rfl : j = m := by omega
            rw [stF_next] at hA
            go_wp2
            go_roundw
            case rel => exact ⟨i + 1, by omega, by go_num, hA, hb, hz⟩
            case measure => simp [intOf]; omega
      · have hKi : i + 1 = K := by omega
        rcases HE.out with ⟨h1, _⟩ | ⟨_, h2, rfl, rfl⟩
        · omega
        · rw [← hKi, ← hx] at h2
          have hne : ((x.size : Int) != (m : Int)) = true := by simp; omega
          clear hx hN h2 HE hKi
          go_wp2
          go_ret2
          exact ⟨rfl, hb⟩
    · have hKn : i + 1 = n := by omega
      rcases HE.out with ⟨h1, rfl, rfl⟩ | ⟨h1, _⟩
      · have hil : ¬ (i : Int) < ((n - 1 : Nat) : Int) := by omega
        have hst := fun (W : World) => slice_to w.heap.size m hm W
        have hcv := arr_str hA m 256 (by rw [tab_length]; omega)
        rw [show i + 1 = L.length by omega, tab_take L m hm (List.take_of_length_le (Nat.le_refl _))] at hcv
        clear hN HE hKn h1
        go_wp2
        go_ret2
        exact ⟨rfl, hb⟩
      · omega
theorem xorOf_out (v : Value) (L : List ByteArray) (w : World) (hv : StrsIn w v L) (h : L.length < 1 ∨ 8 < L.length ∨ 256 < (L.getD 0 ByteArray.empty).size) (hbig : ∀ i, i < L.length → (L.getD i ByteArray.empty).size ≤ 9223372036854775807) :
    Calls Try.prog 11 #[v] w (XorPost ⟨#[]⟩ 1 w) := by
  obtain ⟨A, n, cap, rfl, hlc, hcm, hn, hA⟩ := hv
  rcases Nat.eq_zero_or_pos n with h0 | h0
  · subst h0
    clear hA h hbig
    go_enter Try.func11, Try.ntmps11
    go_wp2
    go_ret2
    exact ⟨rfl, Below.refl _ _⟩
  · obtain ⟨b, off, rfl, hbl, hx⟩ := hA h0
    have hc := hx 0 h0
    have hs0 := hbig 0 (by omega)
    rw [Nat.add_zero] at hc
    generalize L.getD 0 ByteArray.empty = x at *
    have n1 : ¬ (n : Int) < 1 := by omega
    have hni : (n : Int) ≤ 9223372036854775807 := by omega
    have hd1 : decide ((n : Int) < 1) = false := by simp; omega
    by_cases h8 : 8 < n
    · have hd2 : decide ((8 : Int) < (n : Int)) = true := by simp; omega
      clear hA hx h hbig hn
      go_enter Try.func11, Try.ntmps11
      go_wp2
      go_ret2
      exact ⟨rfl, Below.refl _ _⟩
    · have hd2 : decide ((8 : Int) < (n : Int)) = false := by simp; omega
      have hd3 : decide ((256 : Int) < (x.size : Int)) = true := by simp; omega
      clear hA hx h hbig hn
      go_enter Try.func11, Try.ntmps11
      go_wp2
      go_ret2
      exact ⟨rfl, Below.refl _ _⟩
/-- The program's exclusive or of any list. -/
theorem xorOf_any (v : Value) (L : List ByteArray) (R : ByteArray) (c : Int) (w : World) (hv : StrsIn w v L) (hbig : ∀ i, i < L.length → (L.getD i ByteArray.empty).size ≤ 9223372036854775807) (hE : XorEnds L R c) :
    Calls Try.prog 11 #[v] w (XorPost R c w) := by
  rcases units_or L with ⟨m, hm⟩ | h | ⟨h1, h8, hs, k, hk1, hk, hb, hne⟩
  · rcases hE with ⟨m', hm', rfl, rfl⟩ | ⟨h, _⟩
    · exact xorOf_run v L m' L.length _ _ w hv hm'.1 hm'.2.1 hm'.2.2.1 hm'.1 (Nat.le_refl _) hm'.2.2.2 hbig (.inl ⟨rfl, rfl, rfl⟩)
    · exact absurd ⟨m, hm⟩ h
  · rcases hE with ⟨m, hm, _⟩ | ⟨_, rfl, rfl⟩
    · obtain ⟨a1, a2, a3, a4⟩ := hm
      have := a4 0 (by omega)
      omega
    · exact xorOf_out v L w hv h hbig
  · rcases hE with ⟨m, hm, _⟩ | ⟨_, rfl, rfl⟩
    · obtain ⟨a1, a2, a3, a4⟩ := hm
      exact absurd ((a4 k hk).trans (a4 0 (by omega)).symm) hne
    · exact xorOf_run v L _ k _ _ w hv h1 h8 hs hk1 (Nat.le_of_lt hk) hb hbig (.inr ⟨hk, hne, rfl, rfl⟩)
theorem implParOf_any (v : Value) (L : List ByteArray) (R : ByteArray) (c : Int) (w : World) (hv : StrsIn w v L) (hbig : ∀ i, i < L.length → (L.getD i ByteArray.empty).size ≤ 9223372036854775807) (hE : XorEnds L R c) :
    Calls Try.prog 7 #[v] w (XorPost R c w) := by
  have HX := Lib.hid (xorOf_any v L R c w hv hbig hE)
  obtain ⟨A, n, cap, rfl, _⟩ := hv
  clear hbig hE
  go_enter Try.func7, Try.ntmps7
  go_wp2_with fail
  refine HX.out.mono ?_
  rintro e w1 ⟨rfl, hb⟩
  go_wp2
  go_ret2
  exact ⟨rfl, hb⟩
end Go.Proofs.Ytegjppihopncoaa
