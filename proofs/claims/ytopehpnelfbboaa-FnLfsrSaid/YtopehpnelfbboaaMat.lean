/- The register's matrices: the contracts of apply, applyTwice and matrixOf. -/
import Derived.Test.YtopehpnelfbboaaProg
import Derived.Test.YtopehpnelfbboaaLfsr
import Derived.Test.YtopehpnelfbboaaMatN
import Derived.Deep.RegionHeld3
namespace Go.Proofs.Ytopehpnelfbboaa
open Go.RowKit

theorem under16 : Try.prog.underlying 58 = some (.array 16 55) := by kernel_rfl
theorem size16 (w : World) : (sizeOf 55).run Try.prog w = .ok 1 w := by kernel_rfl
theorem info16 : (Try.prog.info? 58).map (·.size) = some 16 := by kernel_rfl
theorem info16' {l : List Int} (h : l.length = 16) : (Try.prog.info? 58).map (·.size) = some (l.map (Value.int .u16)).toArray.size := by
  rw [info16]; simp [h]
theorem idx16 (l : List Int) (hl : l.length = 16) (k : Nat) (hk : k < 16) (w : World) :
    (Instr.index 58 (.agg (l.map (Value.int .u16)).toArray) (.int .i64 (k : Int))).run Try.prog w = .ok (.int .u16 (l.getD k 0)) w := by
  have h1 : (0 : Int) ≤ (k : Int) ∧ (k : Int) < ((16 : Nat) : Int) := by omega
  simp only [Instr.index, asIntOf, Sem.run_bind, Sem.run_pure, Result.andThen_ok, run_underlying under16, if_pos h1, size16, Int.toNat_natCast, Nat.mul_one]
  simp [part, isAgg, run_underlying Try.underlying55, hl, hk]

set_option maxRecDepth 100000 in
theorem apply_any (m s : Nat) (w : World) (hs : s < 65536) :
    Calls Try.prog 44 #[.agg ((cols m).map (Value.int .u16)).toArray, .int .u16 s] w fun e w' => e = .returned (.int .u16 (stepI s m : Nat)) ∧ Below w.heap.size w w' := by
  have hlen := cols_length m
  have hA := Arr.new w 58 .u16 (cols m)
  have hidx := fun (k : Nat) (hk : k < 16) (W : World) => idx16 (cols m) hlen k hk W
  have HI := Lib.hid hidx
  have hs1 : (s : Int) ≤ 65535 := by omega
  clear hidx
  go_enter Try.func44, Try.ntmps44
  go_wp2_with (refine wpList_load_row rfl 58 _ rfl _ rfl _ _ _ _ hA Try.underlying58 rfl (info16' hlen) ?_)
  go_loop [5, 9] (fun v i => ∃ k : Nat, k ≤ 16 ∧ i = .int .i64 k ∧ v = .int .u16 (appF (fun b => stepI (2 ^ b) m) s k : Nat)) (fun _ i => 16 - (intOf i).toNat)
  case atStart => exact ⟨0, by omega, rfl, rfl⟩
  case round =>
    obtain ⟨k, hk, rfl, rfl⟩ := hrel
    by_cases hk16 : k < 16
    · have hi := HI.out k hk16
      rw [cols_get m hk16] at hi
      have hb := bit_u16 s k hs
      obtain ⟨v, hv⟩ : ∃ v, v = appF (fun b => stepI (2 ^ b) m) s k := ⟨_, rfl⟩
      have hvl : v < 65536 := by rw [hv]; exact appF_lt m s k hs
      have hx := Lib.hid (u16_xor_nat v (stepI (2 ^ k) m) hvl (stepI_lt _ (two_pow_lt hk16) m))
      by_cases ho : s / 2 ^ k % 2 = 1
      · have hb' : (bits .and .u16 ((s : Int) / 2 ^ k) 1 == 1) = true := by rw [hb, ho]; rfl
        have HN : Hid (appF (fun b => stepI (2 ^ b) m) s (k + 1) = v ^^^ stepI (2 ^ k) m) := by show _ = _; rw [appF, if_pos ho, hv]
        rw [← hv]
        have HV := Lib.hid hv
        clear hb hv ho
        go_wp2
        go_round
        case rel => exact ⟨k + 1, by omega, by go_num, by rw [HN.out, hx.out]⟩
        case measure => simp [intOf]; omega
      · have hb' : (bits .and .u16 ((s : Int) / 2 ^ k) 1 == 1) = false := by rw [hb, beq_eq_false_iff_ne]; exact fun e => ho (Int.ofNat.inj e)
        have HN : Hid (appF (fun b => stepI (2 ^ b) m) s (k + 1) = v) := by show _ = _; rw [appF, if_neg ho, hv]
        rw [← hv]
        have HV := Lib.hid hv
        clear hb hv ho
        go_wp2
        go_round
        case rel => exact ⟨k + 1, by omega, by go_num, by rw [HN.out]⟩
        case measure => simp [intOf]; omega
    · obtain rfl : k = 16 := by omega
      have HE := Lib.hid (appF_step m s 16)
      go_wp2
      go_ret
      exact ⟨ret_int (by rw [HE.out, Nat.mod_eq_of_lt hs]), (Below.refl _ _).alloc (Nat.le_refl _) _⟩
theorem range_new (w : World) (t : TypeId) (l : List Int) : (w.alloc (.cells (l.map (Value.int .u16)).toArray t)).rangeAt w.heap.size 0 (l.map (Value.int .u16)) := by
  intro j u hu
  have h := Arr.new w t .u16 l
  have hj : j < l.length := by
    have := List.getElem?_eq_some_iff.1 hu
    simpa using this.1
  rw [Nat.zero_add, h.cell hj]
  rw [List.getElem?_map, List.getElem?_eq_getElem hj] at hu
  simp at hu
  simp [hj, hu]
theorem range_below {w w' : World} {g B : Nat} {l : List Value} (h : w.rangeAt g 0 l) (hb : Below B w w') (hg : g < B) : w'.rangeAt g 0 l := by
  intro j u hu
  exact (hb.cell (p := ⟨g, 0 + j, none⟩) hg).trans (h j u hu)

set_option maxRecDepth 100000 in
theorem twice_any (m s : Nat) (w : World) (hs : s < 65536) :
    Calls Try.prog 45 #[.agg ((cols m).map (Value.int .u16)).toArray, .int .u16 s] w fun e w' => e = .returned (.int .u16 (stepI s (m + m) : Nat)) ∧ Below w.heap.size w w' := by
  have HS2 := Lib.hid (stepI_lt s hs m)
  have hr := range_new w 58 (cols m)
  have hu := under16
  have hin : (Try.prog.info? 58).map (·.size) = some ((cols m).map (Value.int .u16)).length := by rw [info16]; simp [cols_length]
  obtain ⟨l, hl⟩ : ∃ l, l = cols m := ⟨_, rfl⟩
  rw [← hl] at hr hin ⊢
  have hA := fun (x : Nat) (W : World) (hx : x < 65536) => apply_any m x W hx
  rw [← hl] at hA
  have HA := Lib.hid hA
  clear hl hA
  go_enter Try.func45, Try.ntmps45
  go_wp2
  refine wp_region_held_drew (S := fun w' => w'.rangeAt w.heap.size 0 (l.map (Value.int .u16))) (by kernel_rfl) hr (fun hHeld => ?_)
  refine wpAnyH_take (i := 0) (oi := _) (v := _) rfl (by kernel_rfl) (by kernel_rfl) (by kernel_rfl) (fun _ _ _ h => h) (yieldsIf_load_mid (by rfl) _ _ rfl _ _ rfl _ _ (fun _ h => h) hu rfl hin) hHeld ?_
  refine wpAnyH_take (i := 1) (oi := _) (v := _) rfl (by kernel_rfl) (by kernel_rfl) (by kernel_rfl) (fun _ _ _ h => h) (yieldsIf_load_mid (by rfl) _ _ rfl _ _ rfl _ _ (fun _ h => h) hu rfl hin) hHeld ?_
  refine wpAnyH_take (i := 2) (oi := _) (v := .int .u16 s) rfl (by kernel_rfl) (by kernel_rfl) (by kernel_rfl) (fun _ _ _ h => h) (Or.inl ⟨by rfl, fun w hSw => by go_simp⟩) hHeld ?_
  refine wpAnyH_ready (rs := [3]) (by kernel_rfl) (by simp) ?_
  refine AllReadyH.cons (o := _) rfl (fun K hK => ?_) AllReadyH.nil
  go_simp
  go_at_call 44
  refine (HA.out s _ hs).mono ?_
  rintro e w1 ⟨rfl, hb1⟩
  have hr1 := range_below hHeld hb1 (by simp)
  refine hK.out _ _ hr1 (fun hHeld => ?_)
  clear hK K
  refine wpAnyH_ready (rs := [4]) (by kernel_rfl) (by simp) ?_
  refine AllReadyH.cons (o := _) rfl (fun K hK => ?_) AllReadyH.nil
  go_simp
  go_at_call 44
  refine (HA.out (stepI s m) _ HS2.out).mono ?_
  rintro e w2 ⟨rfl, hb2⟩
  refine hK.out _ _ (range_below hr1 hb2 (by have := hb1.size; simp at this; omega)) (fun hHeld => ?_)
  clear hK K
  refine wpAnyH_ready (rs := [5]) (by kernel_rfl) (by simp) ?_
  refine AllReadyH.cons (o := _) rfl (fun K hK => ?_) AllReadyH.nil
  go_simp
  refine hK.out _ _ hHeld (fun hHeld => ?_)
  clear hK K
  refine wpAnyH_done (by kernel_rfl) ?_ _
  go_wp2
  go_ret
  exact ⟨ret_int (by rw [stepI_add]), (((Below.refl w.heap.size w).alloc (Nat.le_refl _) _).drew.trans (hb1.mono (by simp))).trans (hb2.mono (by have := hb1.size; simp at this; omega))⟩
theorem one16 (l : List Int) : (l.map (Value.int .u16)).toArray.all (·.oneCell') = true := by simp [Value.oneCell']
set_option maxRecDepth 100000 in
theorem matOf_next (w : World) :
    Calls Try.prog 43 #[.func (.func 42) #[] #[]] w fun e w' => e = .returned (.agg ((cols 1).map (Value.int .u16)).toArray) ∧ Below w.heap.size w w' := by
  go_enter Try.func43, Try.ntmps43
  go_wp2
  go_loopw [5] (fun i wr => ∃ k : Nat, k ≤ 16 ∧ i = .int .i64 k ∧ Arr wr (w.heap.size + 1) 58 .u16 (colsK 1 k) ∧ Arr wr w.heap.size 58 .u16 (colsK 1 0) ∧ Below w.heap.size w wr) (fun i _ => 16 - (intOf i).toNat)
  case atStart =>
    refine ⟨0, by omega, rfl, ?_, (Arr.new w _ .u16 (colsK 1 0)).alloc _, ((Below.refl _ _).alloc (Nat.le_refl _) _).alloc (by simp) _⟩
    have := Arr.new (w.alloc (.cells ((colsK 1 0).map (Value.int .u16)).toArray 58)) 58 .u16 (colsK 1 0)
    simp only [World.size_alloc] at this
    exact this
  case round =>
    obtain ⟨k, hk, rfl, hA, hR, hb⟩ := hrel
    by_cases hk16 : k < 16
    · obtain ⟨P, hP⟩ : ∃ P, P = 2 ^ k := ⟨_, rfl⟩
      have hPl : P < 65536 := by rw [hP]; exact two_pow_lt hk16
      have hW : IntKind.u16.wrap (2 ^ k) = (P : Int) := by
        rw [IntKind.wrap_u16]
        have : (2 : Int) ^ k = (P : Int) := by rw [hP, Int.natCast_pow]; rfl
        rw [this]; omega
      have HP := Lib.hid hP
      have hzA := hA.lt
      have hset := Lib.hid (colsK_set 1 hk16)
      have hzb := hb.size
      clear hP
      go_wp2_with (
        go_at_call 42; refine (nextState_any P _ hPl).mono ?_; rintro e w1 ⟨rfl, rfl⟩; have hb1 := Below.refl wr.heap.size wr
        have hA1 := hA.below hb1 hzA
        have hR1 := hR.below hb1 (by omega)
        have hbb := hb.trans (hb1.mono hzb)
        have hc := hA1.cell (j := k) (by rw [colsK_length _ (by omega)]; exact hk16)
        have hf := hA1.free k
        have hA2 := hA1.set_ k ((stepN P : Nat) : Int)
        have hR2 := hR1.far (p := ⟨w.heap.size + 1, k, none⟩) (by simp) (.int .u16 ((stepN P : Nat) : Int))
        have hb2 := hbb.setCell (p := ⟨w.heap.size + 1, k, none⟩) (by simp) (.int .u16 ((stepN P : Nat) : Int))
        clear hA hR hb hA1 hR1 hbb)
      go_roundw
      case rel => exact ⟨k + 1, by omega, by go_num, by rw [← hset.out, ← HP.out]; exact hA2, hR2, hb2⟩
      case measure => simp [intOf]; omega
    · obtain rfl : k = 16 := by omega
      have hl16 := colsK_length 1 (Nat.le_refl 16)
      go_wp2_with (first
        | (refine wpList_load_row rfl 58 _ rfl _ rfl _ _ _ _ hA Try.underlying58 rfl (info16' hl16) ?_)
        | (refine wpList_store_row rfl 58 _ _ rfl _ _ rfl rfl _ _ hR (info16' hl16) (by simp [colsK_length]) (one16 _) ?_))
      rw [← colsK_all]
      exact bodyPost_ret (results_cell_row Try.results43 _ _ _ _ _ _ _ rfl (hR.row (colsK 1 16)) Try.underlying58 rfl (info16' hl16)) rfl ⟨rfl, below_setRow hb (Nat.le_refl _) _⟩
set_option maxRecDepth 100000 in
theorem matOf_twice (m : Nat) (w : World) :
    Calls Try.prog 43 #[.func (.func 45) #[.agg ((cols m).map (Value.int .u16)).toArray] #[]] w fun e w' => e = .returned (.agg ((cols (m + m)).map (Value.int .u16)).toArray) ∧ Below w.heap.size w w' := by
  have hA0 := fun (x : Nat) (W : World) (hx : x < 65536) => twice_any m x W hx
  obtain ⟨l, hl⟩ : ∃ l, l = cols m := ⟨_, rfl⟩
  rw [← hl] at hA0 ⊢
  have HA := Lib.hid hA0
  clear hl hA0
  go_enter Try.func43, Try.ntmps43
  go_wp2
  go_loopw [5] (fun i wr => ∃ k : Nat, k ≤ 16 ∧ i = .int .i64 k ∧ Arr wr (w.heap.size + 1) 58 .u16 (colsK (m + m) k) ∧ Arr wr w.heap.size 58 .u16 (colsK (m + m) 0) ∧ Below w.heap.size w wr) (fun i _ => 16 - (intOf i).toNat)
  case atStart =>
    refine ⟨0, by omega, rfl, ?_, (Arr.new w _ .u16 (colsK (m + m) 0)).alloc _, ((Below.refl _ _).alloc (Nat.le_refl _) _).alloc (by simp) _⟩
    have := Arr.new (w.alloc (.cells ((colsK (m + m) 0).map (Value.int .u16)).toArray 58)) 58 .u16 (colsK (m + m) 0)
    simp only [World.size_alloc] at this
    exact this
  case round =>
    obtain ⟨k, hk, rfl, hA, hR, hb⟩ := hrel
    by_cases hk16 : k < 16
    · obtain ⟨P, hP⟩ : ∃ P, P = 2 ^ k := ⟨_, rfl⟩
      have hPl : P < 65536 := by rw [hP]; exact two_pow_lt hk16
      have hW : IntKind.u16.wrap (2 ^ k) = (P : Int) := by
        rw [IntKind.wrap_u16]
        have : (2 : Int) ^ k = (P : Int) := by rw [hP, Int.natCast_pow]; rfl
        rw [this]; omega
      have HP := Lib.hid hP
      have hzA := hA.lt
      have hset := Lib.hid (colsK_set (m + m) hk16)
      have hzb := hb.size
      clear hP
      go_wp2_with (
        go_at_call 45; refine (HA.out P _ hPl).mono ?_; rintro e w1 ⟨rfl, hb1⟩
        have hA1 := hA.below hb1 hzA
        have hR1 := hR.below hb1 (by omega)
        have hbb := hb.trans (hb1.mono hzb)
        have hc := hA1.cell (j := k) (by rw [colsK_length _ (by omega)]; exact hk16)
        have hf := hA1.free k
        have hA2 := hA1.set_ k ((stepI P (m + m) : Nat) : Int)
        have hR2 := hR1.far (p := ⟨w.heap.size + 1, k, none⟩) (by simp) (.int .u16 ((stepI P (m + m) : Nat) : Int))
        have hb2 := hbb.setCell (p := ⟨w.heap.size + 1, k, none⟩) (by simp) (.int .u16 ((stepI P (m + m) : Nat) : Int))
        clear hA hR hb hA1 hR1 hbb)
      go_roundw
      case rel => exact ⟨k + 1, by omega, by go_num, by rw [← hset.out, ← HP.out]; exact hA2, hR2, hb2⟩
      case measure => simp [intOf]; omega
    · obtain rfl : k = 16 := by omega
      have hl16 := colsK_length (m + m) (Nat.le_refl 16)
      go_wp2_with (first
        | (refine wpList_load_row rfl 58 _ rfl _ rfl _ _ _ _ hA Try.underlying58 rfl (info16' hl16) ?_)
        | (refine wpList_store_row rfl 58 _ _ rfl _ _ rfl rfl _ _ hR (info16' hl16) (by simp [colsK_length]) (one16 _) ?_))
      rw [← colsK_all]
      exact bodyPost_ret (results_cell_row Try.results43 _ _ _ _ _ _ _ rfl (hR.row (colsK (m + m) 16)) Try.underlying58 rfl (info16' hl16)) rfl ⟨rfl, below_setRow hb (Nat.le_refl _) _⟩
end Go.Proofs.Ytopehpnelfbboaa
