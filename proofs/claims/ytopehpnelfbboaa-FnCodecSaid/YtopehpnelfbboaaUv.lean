/- The variable-length integers, in the model and in the program: their contracts. -/
import Derived.Test.YtopehpnelfbboaaProg
import Derived.Test.YtopehpnelfbboaaUvN
import Derived.Test.YtopehpnelfbboaaBytes
import Derived.WalkKit
import Derived.ProofKit
import Derived.Lib.Hide
namespace Go.Proofs.Ytopehpnelfbboaa
open Go.RowKit


theorem specEncUv_yes (n : Nat) (w : World) (h : n < 2 ^ 63) :
    Calls Try.prog 30 #[.int .i64 n] w fun e w' => e = .returned (.string (strOfNums (uv n))) ∧ Below w.heap.size w w' := by
  go_enter Try.func30, Try.ntmps30
  go_wp2
  go_loopw [0, 3] (fun u v wr => ∃ (x : Nat) (l : List Int), u = .int .i64 x ∧ l.length ≤ 8 ∧ x * 128 ^ l.length < 2 ^ 63 ∧ l ++ uv x = uv n ∧ BytesOwn wr w.heap.size v l ∧ Below w.heap.size w wr) (fun u _ _ => (intOf u).toNat)
  case atStart => exact ⟨n, [], rfl, by simp, by simpa using h, rfl, BytesOwn.made _ (Nat.le_refl _), (Below.refl _ _).alloc (Nat.le_refl _) _⟩
  case round =>
    obtain ⟨x, l, rfl, hl, hx, hu, hown, hb⟩ := hrel
    have hz := hb.size
    by_cases hlt : 128 ≤ x
    · have hr := uv_room hx hlt
      have hbig := uv_big (n := x) (by omega)
      rw [hbig] at hu
      have HU := Lib.hid hu
      have HR := Lib.hid hr
      have HE := Lib.hid (enc_spec x)
      clear hu hr hbig hx
      go_wp2_with (at_builtin; refine wpList_append_byte rfl _ _ rfl _ _ rfl hown hb hz _ _ rfl (by omega) ?_; intro v' w1 hown' hb'; clear hown hb)
      rw [HE.out] at hown'
      go_roundw
      case rel => exact ⟨x / 128, l ++ [((x % 128 + 128 : Nat) : Int)], by go_num, by have := HR.out; simp; omega, by simpa using HR.out.2, by rw [List.append_assoc]; exact HU.out, hown', hb'⟩
      case measure => simp [intOf]; omega
    · have hs := uv_small (n := x) (by omega)
      rw [hs] at hu
      have HU := Lib.hid hu
      clear hu hs hx
      go_wp2_with (at_builtin; refine wpList_append_byte rfl _ _ rfl _ _ rfl hown hb hz _ _ rfl (by omega) ?_; intro v' w1 hown' hb'; clear hown hb; have hcv := bytes_str hown')
      go_ret
      exact ⟨ret_str (by rw [← HU.out]), hb'⟩

theorem pad9_set {l : List Int} (h : l.length < 9) (u : Int) : (pad9 l).set l.length u = pad9 (l ++ [u]) := by
  unfold pad9
  rw [List.set_append_right _ _ (Nat.le_refl _), Nat.sub_self, show 9 - l.length = (9 - (l ++ [u]).length) + 1 by simp; omega, List.replicate_succ, List.set_cons_zero, List.append_assoc]
  simp

theorem results_row_tmp {P : Program} {fn : Func} {p u : Tmp} {ty : TypeId} (h : fn.results = #[.cell p ty, .tmp u]) (tmps : Array Value) (w : World) (g : Nat) (t : TypeId) (cs : Array Value) (fr : Nat × Nat) (d : TypeDesc)
    (hp : tmps.getD p undef = .pointer (some ⟨g, 0, none⟩)) (hg : w.heap[g]? = some (.cells cs t fr))
    (hu : P.underlying ty = some d) (hd : (match d with | .struct _ | .array _ _ => true | _ => false) = true) (hi : (P.info? ty).map (·.size) = some cs.size) :
    (results fn tmps).run P w = .ok (.tuple #[.agg cs, tmps.getD u undef]) w := by
  rw [results_cell_tmp h, hp]
  simp [asAddr, run_loadVar_row w g t ty cs fr d hg hu hd hi]

theorem info9 : (Try.prog.info? 46).map (·.size) = some 9 := by kernel_rfl
theorem info9' {l : List Int} (h : l.length ≤ 9) : (Try.prog.info? 46).map (·.size) = some ((pad9 l).map (Value.int .u8)).toArray.size := by
  rw [info9]; simp [pad9_length h]
theorem size9 {l l' : List Int} (h : l.length ≤ 9) (h' : l'.length ≤ 9) : ((pad9 l).map (Value.int .u8)).toArray.size = ((pad9 l').map (Value.int .u8)).toArray.size := by
  simp [pad9_length h, pad9_length h']
theorem one9 (l : List Int) : (l.map (Value.int .u8)).toArray.all (·.oneCell') = true := by simp [Value.oneCell']

set_option maxRecDepth 100000 in
theorem groupsOf_any (n : Nat) (w : World) (h : n < 2 ^ 63) :
    Calls Try.prog 33 #[.int .i64 n] w fun e w' => e = .returned (.tuple #[.agg ((pad9 (uv n)).map (Value.int .u8)).toArray, .int .i64 (uv n).length]) ∧ Below w.heap.size w w' := by
  go_enter Try.func33, Try.ntmps33
  go_wp2
  go_loopw [0, 5] (fun u s wr => ∃ (x : Nat) (l : List Int), u = .int .i64 x ∧ s = .int .i64 l.length ∧ l.length ≤ 8 ∧ x * 128 ^ l.length < 2 ^ 63 ∧ l ++ uv x = uv n ∧ Arr wr (w.heap.size + 1) 46 .u8 (pad9 l) ∧ Arr wr w.heap.size 46 .u8 (pad9 []) ∧ Below w.heap.size w wr) (fun u _ _ => (intOf u).toNat)
  case atStart =>
    refine ⟨n, [], rfl, rfl, by simp, by simpa using h, rfl, ?_, (Arr.new w _ .u8 (pad9 [])).alloc _, ((Below.refl _ _).alloc (Nat.le_refl _) _).alloc (by simp) _⟩
    have := Arr.new (w.alloc (.cells ((pad9 []).map (Value.int .u8)).toArray 46)) 46 .u8 (pad9 [])
    simp only [World.size_alloc] at this
    exact this
  case round =>
    obtain ⟨x, l, rfl, rfl, hl, hx, hu, hA, hR, hb⟩ := hrel
    have hc := hA.cell (j := l.length) (by rw [pad9_length (by omega)]; omega)
    have hf := hA.free l.length
    by_cases hlt : 128 ≤ x
    · have hr := uv_room hx hlt
      have hbig := uv_big (n := x) (by omega)
      rw [hbig] at hu
      have hA' := hA.set_ l.length ((x % 128 + 128 : Nat) : Int)
      rw [pad9_set (by omega), ← enc_impl] at hA'
      have hR' := hR.far (p := ⟨w.heap.size + 1, l.length, none⟩) (by simp) (.int .u8 (bits .or .u8 ((x : Int) % 256) 128))
      have hb' := hb.setCell (p := ⟨w.heap.size + 1, l.length, none⟩) (by simp) (.int .u8 (bits .or .u8 ((x : Int) % 256) 128))
      have HU := Lib.hid hu
      have HR := Lib.hid hr
      have HE := Lib.hid (enc_impl x)
      clear hu hr hbig hx hA hR hb
      go_wp2
      go_roundw
      case rel => exact ⟨x / 128, l ++ [bits .or .u8 ((x : Int) % 256) 128], by go_num, by simp, by have := HR.out; simp; omega, by simpa using HR.out.2, by rw [List.append_assoc, HE.out]; exact HU.out, hA', hR', hb'⟩
      case measure => simp [intOf]; omega
    · have hs := uv_small (n := x) (by omega)
      rw [hs] at hu
      have hA' := hA.set_ l.length (x : Int)
      rw [pad9_set (by omega)] at hA'
      have hR' := hR.far (p := ⟨w.heap.size + 1, l.length, none⟩) (by simp) (.int .u8 (x : Int))
      have hb' := hb.setCell (p := ⟨w.heap.size + 1, l.length, none⟩) (by simp) (.int .u8 (x : Int))
      have HU := Lib.hid hu
      clear hu hs hx hA hR hb
      go_wp2_with (first
        | (refine wpList_load_row rfl 46 _ rfl _ rfl _ _ _ _ hA' Try.underlying46 rfl (info9' (by simp; omega)) ?_)
        | (refine wpList_store_row rfl 46 _ _ rfl _ _ rfl rfl _ _ hR' (info9' (by simp; omega)) (size9 (by simp) (by simp; omega)) (one9 _) ?_))
      rw [← HU.out]
      exact bodyPost_ret (results_row_tmp Try.results33 _ _ _ _ _ _ _ rfl (hR'.row (pad9 (l ++ [(x : Int)]))) Try.underlying46 rfl (info9' (by simp; omega))) rfl ⟨by simp, below_setRow hb' (Nat.le_refl _) _⟩
theorem len9 : Try.prog.arrayLen 46 = 9 := by kernel_rfl
theorem under9 : Try.prog.underlying 46 = some (.array (Try.prog.arrayLen 46) (Try.prog.elem 46)) := by kernel_rfl
theorem elem9 : Try.prog.elem 46 = 5 := by kernel_rfl
theorem size8 (w : World) : (sizeOf 5).run Try.prog w = .ok 1 w := by kernel_rfl
theorem sliceAt9 (g k : Nat) (w : World) (hk : k ≤ 9) :
    (Instr.sliceAt 46 (.pointer (some ⟨g, 0, none⟩)) none (some (.int .i64 (k : Int))) none).run Try.prog w = .ok (.slice (some ⟨g, 0, none⟩) k 9) w := by
  rw [run_sliceAt_array_h w _ _ under9 .i64 (k : Int) (by omega) (by rw [len9]; omega), elem9, size8, len9]
  simp [slicedAt, Result.andThen, Addr.add]
theorem pad9_take (l : List Int) : (pad9 l).take l.length = l := by simp [pad9]
set_option maxRecDepth 100000 in
theorem implEncUv_yes (n : Nat) (w : World) (h : n < 2 ^ 63) :
    Calls Try.prog 10 #[.int .i64 n] w fun e w' => e = .returned (.string (strOfNums (uv n))) ∧ Below w.heap.size w w' := by
  have hlen := uv_len h
  have hsl := fun (g : Nat) (W : World) => sliceAt9 g _ W hlen
  go_enter Try.func10, Try.ntmps10
  go_wp2_with (first
    | (go_at_call 33; refine (groupsOf_any n _ h).mono ?_; rintro e w1 ⟨rfl, hb⟩)
    | (refine wpList_store_row rfl 46 _ _ rfl _ _ rfl rfl _ _ (Arr.new w1 46 .u8 (pad9 [])) (info9' hlen) (size9 (by simp) hlen) (one9 _) ?_
       have hcv : (Go.convert 22 9 (.slice (some ⟨w1.heap.size, 0, none⟩) (uv n).length 9)).run Try.prog ((w1.alloc (.cells #[.int .u8 0, .int .u8 0, .int .u8 0, .int .u8 0, .int .u8 0, .int .u8 0, .int .u8 0, .int .u8 0, .int .u8 0] 46)).setRow w1.heap.size ((pad9 (uv n)).map (Value.int .u8)).toArray) = .ok (.string (strOfNums ((pad9 (uv n)).take (uv n).length))) ((w1.alloc (.cells #[.int .u8 0, .int .u8 0, .int .u8 0, .int .u8 0, .int .u8 0, .int .u8 0, .int .u8 0, .int .u8 0, .int .u8 0] 46)).setRow w1.heap.size ((pad9 (uv n)).map (Value.int .u8)).toArray) := arr_str ((Arr.new w1 46 .u8 (pad9 [])).row (pad9 (uv n))) (uv n).length 9 (by rw [pad9_length hlen]; exact hlen)))
  go_ret
  exact ⟨ret_str (by rw [pad9_take]), below_setRow ((hb.alloc hb.size _)) hb.size _⟩
theorem implEncUv_no (n : Int) (w : World) (h : n < 0) :
    Calls Try.prog 10 #[.int .i64 n] w fun e w' => e = .returned (.string (strOfNums [])) ∧ Below w.heap.size w w' := by
  go_enter Try.func10, Try.ntmps10
  go_wp2
  go_ret
  exact ⟨rfl, Below.refl _ _⟩
theorem specEncUv_no (n : Int) (w : World) (h : n < 0) :
    Calls Try.prog 30 #[.int .i64 n] w fun e w' => e = .returned (.string (strOfNums [])) ∧ Below w.heap.size w w' := by
  go_enter Try.func30, Try.ntmps30
  go_wp2
  go_ret
  exact ⟨rfl, Below.refl _ _⟩
end Go.Proofs.Ytopehpnelfbboaa
