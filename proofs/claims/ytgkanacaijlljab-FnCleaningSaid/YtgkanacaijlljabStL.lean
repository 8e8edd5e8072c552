/- The search of a victim in the program: the contracts. -/
import Derived.Test.YtgkanacaijlljabProg
import Derived.Test.YtgkanacaijlljabStQ
namespace Go.Proofs.Ytgkanacaijlljab
open Go.RowKit
set_option linter.unusedVariables false
set_option linter.unusedSimpArgs false
set_option maxHeartbeats 8000000 in
set_option maxRecDepth 100000 in
theorem least1_any (v : Value) (L : List St) (p : Int) (g : Nat) (w : World) (hi : Nat) (hv : StI w hi v L) (hh : hi ≤ w.heap.size) (ho : StsOk L p) (hg : Rw w g 2 #[.int .i64 p]) :
    Calls Try.prog 84 #[v, .func (.func 82) #[] #[.pointer (some ⟨g, 0, none⟩)], .func (.func 138) #[] #[]] w fun e w' => e = .returned (.int .i64 (bestTo L 1 p L.length)) ∧ Below w.heap.size w w' := by
  obtain ⟨A, cap, rfl⟩ := hv.slice
  obtain ⟨_, _, hA⟩ := hv.elem stF_len St.zero
  obtain ⟨hp, hl, hok⟩ := ho
  obtain ⟨n, hn⟩ : ∃ n, n = L.length := ⟨_, rfl⟩
  rw [← hn] at hA hl hok ⊢
  have hglt := hg.lt
  have HA := Lib.hid hA
  have HH := Lib.hid hh
  have HOK := Lib.hid hok
  have HP := Lib.hid hp
  have HG := Lib.hid (fun (W : World) (b : Below w.heap.size w W) => hg.below b hglt)
  have B0 := Lib.hid (Below.refl w.heap.size w)
  have hnm : (n : Int) ≤ 640 := by omega
  clear hv hA hh hn hl hok hp hg hglt
  go_enter Try.func84, Try.ntmps84
  go_wp2
  go_loopw [7, 12] (fun b i wr => ∃ k : Nat, k ≤ n ∧ i = .int .i64 k ∧ b = .int .i64 (bestTo L 1 p k) ∧ Hid (Below w.heap.size w wr)) (fun _ i _ => n - (intOf i).toNat)
  case atStart => exact ⟨0, by omega, rfl, rfl, B0⟩
  case round =>
    obtain ⟨k, hk, rfl, rfl, HB⟩ := hrel
    by_cases hlt : k < n
    · have hki : (k : Int) < (n : Int) := by omega
      obtain ⟨pb, po, rfl, hp2, hpx⟩ := HA.out (by omega)
      have HPB := Lib.hid (show pb < wr.heap.size by have := HH.out; have := HB.out.size; omega)
      have cell : ∀ i, i < n → ∀ j, j < 3 → wr.cell? ⟨pb, po + (i * 3 + j), none⟩ = (stF (L.getD i St.zero))[j]? := fun i hi j hj => (HB.out.cell (p := ⟨pb, po + (i * 3 + j), none⟩) (by have := HH.out; show pb < _; omega)).trans (hpx i hi j hj)
      have e0 := cell k hlt 0 (by omega)
      have e1 := cell k hlt 1 (by omega)
      have e2 := cell k hlt 2 (by omega)
      simp only [stF, List.getElem?_cons_zero, List.getElem?_cons_succ, Nat.add_zero, ← Nat.add_assoc] at e0 e1 e2
      obtain ⟨x, hx⟩ : ∃ x, x = L.getD k St.zero := ⟨_, rfl⟩
      have hbd := bestTo_bd L 1 p k
      have HYES := Lib.hid (fun h => bestTo_yes (L := L) (q := 1) (p := p) (k := k) h)
      have HNO := Lib.hid (fun h => bestTo_no (L := L) (q := 1) (p := p) (k := k) h)
      have hkx := HOK.out k hlt
      rw [← hx] at e0 e1 e2 HYES HNO hkx
      clear hx
      obtain ⟨y, hy⟩ : ∃ y, y = bestTo L 1 p k := ⟨_, rfl⟩
      rw [← hy] at HYES HNO hbd ⊢
      clear hy
      obtain ⟨rc, hrc⟩ := prop_dec' (Cand p x)
      have HCD := Lib.hid (fun (W : World) (b : Below wr.heap.size wr W) => cand_any g p x rc W (HG.out W (HB.out.trans (b.mono HB.out.size))) HP.out.2 hkx hrc)
      cases rc with
      | false =>
          have HN2 := Lib.hid (HNO.out (fun e => by have := hrc.2 e.1; cases this))
          clear HYES HNO HA cell hpx hrc hkx
          obtain ⟨C, hC⟩ : ∃ C : World → Prop, C = fun W => Below (wr.heap.size + 1) (wr.alloc (.cells #[.int .i64 x.l, .int .i64 x.a, .bool x.u] 56)) W := ⟨_, rfl⟩
          have HC2 := Lib.hid (fun (W : World) (h : C W) => show Below wr.heap.size wr W by rw [hC] at h; exact ((Below.refl wr.heap.size wr).alloc (Nat.le_refl _) _).trans (h.mono (by omega)))
          have HC1 := Lib.hid (fun (W : World) (h : C W) => show W.cell? ⟨wr.heap.size, 0, none⟩ = some (.int .i64 x.l) ∧ W.cell? ⟨wr.heap.size, 1, none⟩ = some (.int .i64 x.a) ∧ W.cell? ⟨wr.heap.size, 2, none⟩ = some (.bool x.u) by rw [hC] at h; exact ((Rw.new wr 56 #[.int .i64 x.l, .int .i64 x.a, .bool x.u]).below h (by omega)).three)
          have HC3 := Lib.hid (fun (W W' : World) (h : C W) (b : Below W.heap.size W W') => show C W' by rw [hC] at h ⊢; exact h.trans (b.mono (by have := h.size; simp at this; omega)))
          have hc0 : C (wr.alloc (.cells #[.int .i64 x.l, .int .i64 x.a, .bool x.u] 56)).drew := by rw [hC]; exact (Below.refl _ _).drew
          clear hC
          go_wp2_with fail
          refine wp_region_own (by kernel_rfl) (by kernel_rfl) hc0 ?_
          repeat (first
            | go_big_quiet_skip
            | (go_big_quiet_want
               go_big_quiet_op
               first
                 | go_big_quiet_on
                 | (apply Exists.intro
                    refine ⟨fun W hW => ?_, ?_⟩
                    · (first
                        | rfl
                        | (go_at_call 82
                           refine (HCD.out _ (HC2.out _ hW)).mono ?_
                           rintro e w1 ⟨rfl, b⟩
                           exact ⟨rfl, HC3.out _ _ hW b⟩)
                        | (obtain ⟨k0, k1, k2⟩ := (HC1.out _ hW)
                           simp only [k0, k1, k2, Result.andThen]
                           exact ⟨trivial, rfl⟩))
                    go_big_quiet_on)))
          refine wpQuiet_nil ?_
          intro w1 hw1
          have HB1 := Lib.hid (HB.out.trans ((HC2.out _ hw1).mono HB.out.size))
          clear hw1 hc0 e0 e1 e2
          go_wp2
          go_roundw
          case rel => exact ⟨k + 1, by omega, by go_num, by rw [HN2.out], HB1⟩
          case measure => simp [intOf]; omega
      | true =>
      have hc : Cand p x := hrc.1 rfl
      by_cases hy0 : y < 0
      · have HN2 := Lib.hid (HYES.out ⟨hc, .inl hy0⟩)
        have dy : decide (y < 0) = true := by simpa using hy0
        clear HYES HNO HA cell hpx hrc hkx hc
        obtain ⟨C, hC⟩ : ∃ C : World → Prop, C = fun W => Below (wr.heap.size + 1) (wr.alloc (.cells #[.int .i64 x.l, .int .i64 x.a, .bool x.u] 56)) W := ⟨_, rfl⟩
        have HC2 := Lib.hid (fun (W : World) (h : C W) => show Below wr.heap.size wr W by rw [hC] at h; exact ((Below.refl wr.heap.size wr).alloc (Nat.le_refl _) _).trans (h.mono (by omega)))
        have HC1 := Lib.hid (fun (W : World) (h : C W) => show W.cell? ⟨wr.heap.size, 0, none⟩ = some (.int .i64 x.l) ∧ W.cell? ⟨wr.heap.size, 1, none⟩ = some (.int .i64 x.a) ∧ W.cell? ⟨wr.heap.size, 2, none⟩ = some (.bool x.u) by rw [hC] at h; exact ((Rw.new wr 56 #[.int .i64 x.l, .int .i64 x.a, .bool x.u]).below h (by omega)).three)
        have HC3 := Lib.hid (fun (W W' : World) (h : C W) (b : Below W.heap.size W W') => show C W' by rw [hC] at h ⊢; exact h.trans (b.mono (by have := h.size; simp at this; omega)))
        have hc0 : C (wr.alloc (.cells #[.int .i64 x.l, .int .i64 x.a, .bool x.u] 56)).drew := by rw [hC]; exact (Below.refl _ _).drew
        clear hC
        go_wp2_with fail
        refine wp_region_own (by kernel_rfl) (by kernel_rfl) hc0 ?_
        repeat (first
          | go_big_quiet_skip
          | (go_big_quiet_want
             go_big_quiet_op
             first
               | go_big_quiet_on
               | (apply Exists.intro
                  refine ⟨fun W hW => ?_, ?_⟩
                  · (first
                      | rfl
                      | (go_at_call 82
                         refine (HCD.out _ (HC2.out _ hW)).mono ?_
                         rintro e w1 ⟨rfl, b⟩
                         exact ⟨rfl, HC3.out _ _ hW b⟩)
                      | (obtain ⟨k0, k1, k2⟩ := (HC1.out _ hW)
                         simp only [k0, k1, k2, Result.andThen]
                         exact ⟨trivial, rfl⟩))
                  go_big_quiet_on)))
        refine wpQuiet_nil ?_
        intro w1 hw1
        have HB1 := Lib.hid (HB.out.trans ((HC2.out _ hw1).mono HB.out.size))
        clear hw1 hc0 e0 e1 e2
        go_wp2
        go_roundw
        case rel => exact ⟨k + 1, by omega, by go_num, by rw [HN2.out], HB1⟩
        case measure => simp [intOf]; omega
      · have dy : decide (y < 0) = false := by simpa using hy0
        obtain ⟨j, rfl⟩ : ∃ j : Nat, y = j := ⟨y.toNat, by omega⟩
        have hjn : j < n := by omega
        have hji : (j : Int) < (n : Int) := by omega
        have dy2 : decide ((j : Int) < 0) = false := by simp
        obtain ⟨rb, hrb⟩ := prop_dec' (Bet 1 x (L.getD j St.zero) p)
        have g0 := cell j hjn 0 (by omega)
        have g1 := cell j hjn 1 (by omega)
        have g2 := cell j hjn 2 (by omega)
        simp only [stF, List.getElem?_cons_zero, List.getElem?_cons_succ, Nat.add_zero, ← Nat.add_assoc] at g0 g1 g2
        have HBT := Lib.hid (fun (W : World) (b : Below wr.heap.size wr W) => better1_any p x (L.getD j St.zero) rb W hrb)
        have HY2 := Lib.hid (fun (e : rb = true) => HYES.out ⟨hc, .inr (by rw [Int.toNat_natCast]; exact hrb.1 e)⟩)
        have HN2 := Lib.hid (fun (e : rb = false) => HNO.out (fun h => by
          rcases h.2 with h | h
          · omega
          · rw [Int.toNat_natCast] at h; have := hrb.2 h; rw [e] at this; cases this))
        clear HYES HNO cell hpx hkx hrb hrc hc
        obtain ⟨C, hC⟩ : ∃ C : World → Prop, C = fun W => Below (wr.heap.size + 1) (wr.alloc (.cells #[.int .i64 x.l, .int .i64 x.a, .bool x.u] 56)) W := ⟨_, rfl⟩
        have HC2 := Lib.hid (fun (W : World) (h : C W) => show Below wr.heap.size wr W by rw [hC] at h; exact ((Below.refl wr.heap.size wr).alloc (Nat.le_refl _) _).trans (h.mono (by omega)))
        have HC1 := Lib.hid (fun (W : World) (h : C W) => show W.cell? ⟨wr.heap.size, 0, none⟩ = some (.int .i64 x.l) ∧ W.cell? ⟨wr.heap.size, 1, none⟩ = some (.int .i64 x.a) ∧ W.cell? ⟨wr.heap.size, 2, none⟩ = some (.bool x.u) ∧ W.cell? ⟨pb, po + j * 3, none⟩ = some (.int .i64 (L.getD j St.zero).l) ∧ W.cell? ⟨pb, po + j * 3 + 1, none⟩ = some (.int .i64 (L.getD j St.zero).a) ∧ W.cell? ⟨pb, po + j * 3 + 2, none⟩ = some (.bool (L.getD j St.zero).u) by rw [hC] at h; exact ⟨(((Rw.new wr 56 #[.int .i64 x.l, .int .i64 x.a, .bool x.u]).below h (by omega)).three).1, (((Rw.new wr 56 #[.int .i64 x.l, .int .i64 x.a, .bool x.u]).below h (by omega)).three).2.1, (((Rw.new wr 56 #[.int .i64 x.l, .int .i64 x.a, .bool x.u]).below h (by omega)).three).2.2, (h.cell (p := ⟨pb, _, none⟩) (Nat.lt_succ_of_lt HPB.out)).trans (((Below.refl wr.heap.size wr).alloc (Nat.le_refl _) _).cell (p := ⟨pb, _, none⟩) HPB.out |>.trans g0), (h.cell (p := ⟨pb, _, none⟩) (Nat.lt_succ_of_lt HPB.out)).trans (((Below.refl wr.heap.size wr).alloc (Nat.le_refl _) _).cell (p := ⟨pb, _, none⟩) HPB.out |>.trans g1), (h.cell (p := ⟨pb, _, none⟩) (Nat.lt_succ_of_lt HPB.out)).trans (((Below.refl wr.heap.size wr).alloc (Nat.le_refl _) _).cell (p := ⟨pb, _, none⟩) HPB.out |>.trans g2)⟩)
        have HC3 := Lib.hid (fun (W W' : World) (h : C W) (b : Below W.heap.size W W') => show C W' by rw [hC] at h ⊢; exact h.trans (b.mono (by have := h.size; simp at this; omega)))
        have hc0 : C (wr.alloc (.cells #[.int .i64 x.l, .int .i64 x.a, .bool x.u] 56)).drew := by rw [hC]; exact (Below.refl _ _).drew
        clear hC
        obtain ⟨m, hm⟩ : ∃ m, m = wr.heap.size := ⟨_, rfl⟩
        rw [← hm] at HC1
        generalize (L.getD j St.zero).l = zl at *
        generalize (L.getD j St.zero).a = za at *
        generalize (L.getD j St.zero).u = zu at *
        generalize x.l = xl at *
        generalize x.a = xa at *
        generalize x.u = xu at *
        go_wp2_with fail
        rw [← hm]
        clear hm
        refine wp_region_own (by kernel_rfl) (by kernel_rfl) hc0 ?_
        repeat (first
          | go_big_quiet_skip
          | (go_big_quiet_want
             go_big_quiet_op
             first
               | go_big_quiet_on
               | (apply Exists.intro
                  refine ⟨fun W hW => ?_, ?_⟩
                  · (first
                      | rfl
                      | (go_at_call 82
                         refine (HCD.out _ (HC2.out _ hW)).mono ?_
                         rintro e w1 ⟨rfl, b⟩
                         exact ⟨rfl, HC3.out _ _ hW b⟩)
                      | (go_at_call 138
                         with_reducible refine (HBT.out _ (HC2.out _ hW)).mono ?_
                         rintro e w1 ⟨rfl, b⟩
                         exact ⟨rfl, HC3.out _ _ hW b⟩)
                      | (obtain ⟨k0, k1, k2, k3, k4, k5⟩ := (HC1.out _ hW)
                         simp only [k0, k1, k2, k3, k4, k5, Result.andThen]
                         exact ⟨trivial, rfl⟩))
                  go_big_quiet_on)))
        refine wpQuiet_nil ?_
        intro w1 hw1
        have HB1 := Lib.hid (HB.out.trans ((HC2.out _ hw1).mono HB.out.size))
        clear hw1 hc0 e0 e1 e2

        clear g0 g1 g2
        cases rb with
        | true =>
          have HGG := Lib.hid (HY2.out rfl)
          go_wp2
          go_roundw
          case rel => exact ⟨k + 1, by omega, by go_num, by rw [HGG.out], HB1⟩
          case measure => simp [intOf]; omega
        | false =>
          have HGG := Lib.hid (HN2.out rfl)
          go_wp2
          go_roundw
          case rel => exact ⟨k + 1, by omega, by go_num, by rw [HGG.out], HB1⟩
          case measure => simp [intOf]; omega
    · obtain rfl : k = n := by omega
      go_wp2
      go_ret
      exact ⟨rfl, HB.out⟩
set_option maxHeartbeats 8000000 in
set_option maxRecDepth 100000 in
theorem least2_any (v : Value) (L : List St) (p : Int) (g gp : Nat) (w : World) (hi : Nat) (hv : StI w hi v L) (hh : hi ≤ w.heap.size) (ho : StsOk L p) (hg : Rw w g 2 #[.int .i64 p]) (hg2 : Rw w gp 2 #[.int .i64 p]) :
    Calls Try.prog 84 #[v, .func (.func 82) #[] #[.pointer (some ⟨g, 0, none⟩)], .func (.func 139) #[] #[.pointer (some ⟨gp, 0, none⟩)]] w fun e w' => e = .returned (.int .i64 (bestTo L 2 p L.length)) ∧ Below w.heap.size w w' := by
  obtain ⟨A, cap, rfl⟩ := hv.slice
  obtain ⟨_, _, hA⟩ := hv.elem stF_len St.zero
  obtain ⟨hp, hl, hok⟩ := ho
  obtain ⟨n, hn⟩ : ∃ n, n = L.length := ⟨_, rfl⟩
  rw [← hn] at hA hl hok ⊢
  have hglt := hg.lt
  have HA := Lib.hid hA
  have HH := Lib.hid hh
  have HOK := Lib.hid hok
  have HP := Lib.hid hp
  have HG := Lib.hid (fun (W : World) (b : Below w.heap.size w W) => hg.below b hglt)
  have hgl2 := hg2.lt
  have HG2 := Lib.hid (fun (W : World) (b : Below w.heap.size w W) => hg2.below b hgl2)
  have B0 := Lib.hid (Below.refl w.heap.size w)
  have hnm : (n : Int) ≤ 640 := by omega
  clear hv hA hh hn hl hok hp hg hglt hg2 hgl2
  go_enter Try.func84, Try.ntmps84
  go_wp2
  go_loopw [7, 12] (fun b i wr => ∃ k : Nat, k ≤ n ∧ i = .int .i64 k ∧ b = .int .i64 (bestTo L 2 p k) ∧ Hid (Below w.heap.size w wr)) (fun _ i _ => n - (intOf i).toNat)
  case atStart => exact ⟨0, by omega, rfl, rfl, B0⟩
  case round =>
    obtain ⟨k, hk, rfl, rfl, HB⟩ := hrel
    by_cases hlt : k < n
    · have hki : (k : Int) < (n : Int) := by omega
      obtain ⟨pb, po, rfl, hp2, hpx⟩ := HA.out (by omega)
      have HPB := Lib.hid (show pb < wr.heap.size by have := HH.out; have := HB.out.size; omega)
      have cell : ∀ i, i < n → ∀ j, j < 3 → wr.cell? ⟨pb, po + (i * 3 + j), none⟩ = (stF (L.getD i St.zero))[j]? := fun i hi j hj => (HB.out.cell (p := ⟨pb, po + (i * 3 + j), none⟩) (by have := HH.out; show pb < _; omega)).trans (hpx i hi j hj)
      have e0 := cell k hlt 0 (by omega)
      have e1 := cell k hlt 1 (by omega)
      have e2 := cell k hlt 2 (by omega)
      simp only [stF, List.getElem?_cons_zero, List.getElem?_cons_succ, Nat.add_zero, ← Nat.add_assoc] at e0 e1 e2
      obtain ⟨x, hx⟩ : ∃ x, x = L.getD k St.zero := ⟨_, rfl⟩
      have hbd := bestTo_bd L 2 p k
      have HYES := Lib.hid (fun h => bestTo_yes (L := L) (q := 2) (p := p) (k := k) h)
      have HNO := Lib.hid (fun h => bestTo_no (L := L) (q := 2) (p := p) (k := k) h)
      have hkx := HOK.out k hlt
      rw [← hx] at e0 e1 e2 HYES HNO hkx
      clear hx
      obtain ⟨y, hy⟩ : ∃ y, y = bestTo L 2 p k := ⟨_, rfl⟩
      rw [← hy] at HYES HNO hbd ⊢
      clear hy
      obtain ⟨rc, hrc⟩ := prop_dec' (Cand p x)
      have HCD := Lib.hid (fun (W : World) (b : Below wr.heap.size wr W) => cand_any g p x rc W (HG.out W (HB.out.trans (b.mono HB.out.size))) HP.out.2 hkx hrc)
      cases rc with
      | false =>
          have HN2 := Lib.hid (HNO.out (fun e => by have := hrc.2 e.1; cases this))
          clear HYES HNO HA cell hpx hrc hkx
          obtain ⟨C, hC⟩ : ∃ C : World → Prop, C = fun W => Below (wr.heap.size + 1) (wr.alloc (.cells #[.int .i64 x.l, .int .i64 x.a, .bool x.u] 56)) W := ⟨_, rfl⟩
          have HC2 := Lib.hid (fun (W : World) (h : C W) => show Below wr.heap.size wr W by rw [hC] at h; exact ((Below.refl wr.heap.size wr).alloc (Nat.le_refl _) _).trans (h.mono (by omega)))
          have HC1 := Lib.hid (fun (W : World) (h : C W) => show W.cell? ⟨wr.heap.size, 0, none⟩ = some (.int .i64 x.l) ∧ W.cell? ⟨wr.heap.size, 1, none⟩ = some (.int .i64 x.a) ∧ W.cell? ⟨wr.heap.size, 2, none⟩ = some (.bool x.u) by rw [hC] at h; exact ((Rw.new wr 56 #[.int .i64 x.l, .int .i64 x.a, .bool x.u]).below h (by omega)).three)
          have HC3 := Lib.hid (fun (W W' : World) (h : C W) (b : Below W.heap.size W W') => show C W' by rw [hC] at h ⊢; exact h.trans (b.mono (by have := h.size; simp at this; omega)))
          have hc0 : C (wr.alloc (.cells #[.int .i64 x.l, .int .i64 x.a, .bool x.u] 56)).drew := by rw [hC]; exact (Below.refl _ _).drew
          clear hC
          go_wp2_with fail
          refine wp_region_own (by kernel_rfl) (by kernel_rfl) hc0 ?_
          repeat (first
            | go_big_quiet_skip
            | (go_big_quiet_want
               go_big_quiet_op
               first
                 | go_big_quiet_on
                 | (apply Exists.intro
                    refine ⟨fun W hW => ?_, ?_⟩
                    · (first
                        | rfl
                        | (go_at_call 82
                           refine (HCD.out _ (HC2.out _ hW)).mono ?_
                           rintro e w1 ⟨rfl, b⟩
                           exact ⟨rfl, HC3.out _ _ hW b⟩)
                        | (obtain ⟨k0, k1, k2⟩ := (HC1.out _ hW)
                           simp only [k0, k1, k2, Result.andThen]
                           exact ⟨trivial, rfl⟩))
                    go_big_quiet_on)))
          refine wpQuiet_nil ?_
          intro w1 hw1
          have HB1 := Lib.hid (HB.out.trans ((HC2.out _ hw1).mono HB.out.size))
          clear hw1 hc0 e0 e1 e2
          go_wp2
          go_roundw
          case rel => exact ⟨k + 1, by omega, by go_num, by rw [HN2.out], HB1⟩
          case measure => simp [intOf]; omega
      | true =>
      have hc : Cand p x := hrc.1 rfl
      by_cases hy0 : y < 0
      · have HN2 := Lib.hid (HYES.out ⟨hc, .inl hy0⟩)
        have dy : decide (y < 0) = true := by simpa using hy0
        clear HYES HNO HA cell hpx hrc hkx hc
        obtain ⟨C, hC⟩ : ∃ C : World → Prop, C = fun W => Below (wr.heap.size + 1) (wr.alloc (.cells #[.int .i64 x.l, .int .i64 x.a, .bool x.u] 56)) W := ⟨_, rfl⟩
        have HC2 := Lib.hid (fun (W : World) (h : C W) => show Below wr.heap.size wr W by rw [hC] at h; exact ((Below.refl wr.heap.size wr).alloc (Nat.le_refl _) _).trans (h.mono (by omega)))
        have HC1 := Lib.hid (fun (W : World) (h : C W) => show W.cell? ⟨wr.heap.size, 0, none⟩ = some (.int .i64 x.l) ∧ W.cell? ⟨wr.heap.size, 1, none⟩ = some (.int .i64 x.a) ∧ W.cell? ⟨wr.heap.size, 2, none⟩ = some (.bool x.u) by rw [hC] at h; exact ((Rw.new wr 56 #[.int .i64 x.l, .int .i64 x.a, .bool x.u]).below h (by omega)).three)
        have HC3 := Lib.hid (fun (W W' : World) (h : C W) (b : Below W.heap.size W W') => show C W' by rw [hC] at h ⊢; exact h.trans (b.mono (by have := h.size; simp at this; omega)))
        have hc0 : C (wr.alloc (.cells #[.int .i64 x.l, .int .i64 x.a, .bool x.u] 56)).drew := by rw [hC]; exact (Below.refl _ _).drew
        clear hC
        go_wp2_with fail
        refine wp_region_own (by kernel_rfl) (by kernel_rfl) hc0 ?_
        repeat (first
          | go_big_quiet_skip
          | (go_big_quiet_want
             go_big_quiet_op
             first
               | go_big_quiet_on
               | (apply Exists.intro
                  refine ⟨fun W hW => ?_, ?_⟩
                  · (first
                      | rfl
                      | (go_at_call 82
                         refine (HCD.out _ (HC2.out _ hW)).mono ?_
                         rintro e w1 ⟨rfl, b⟩
                         exact ⟨rfl, HC3.out _ _ hW b⟩)
                      | (obtain ⟨k0, k1, k2⟩ := (HC1.out _ hW)
                         simp only [k0, k1, k2, Result.andThen]
                         exact ⟨trivial, rfl⟩))
                  go_big_quiet_on)))
        refine wpQuiet_nil ?_
        intro w1 hw1
        have HB1 := Lib.hid (HB.out.trans ((HC2.out _ hw1).mono HB.out.size))
        clear hw1 hc0 e0 e1 e2
        go_wp2
        go_roundw
        case rel => exact ⟨k + 1, by omega, by go_num, by rw [HN2.out], HB1⟩
        case measure => simp [intOf]; omega
      · have dy : decide (y < 0) = false := by simpa using hy0
        obtain ⟨j, rfl⟩ : ∃ j : Nat, y = j := ⟨y.toNat, by omega⟩
        have hjn : j < n := by omega
        have hji : (j : Int) < (n : Int) := by omega
        have dy2 : decide ((j : Int) < 0) = false := by simp
        obtain ⟨rb, hrb⟩ := prop_dec' (Bet 2 x (L.getD j St.zero) p)
        have g0 := cell j hjn 0 (by omega)
        have g1 := cell j hjn 1 (by omega)
        have g2 := cell j hjn 2 (by omega)
        simp only [stF, List.getElem?_cons_zero, List.getElem?_cons_succ, Nat.add_zero, ← Nat.add_assoc] at g0 g1 g2
        have HBT := Lib.hid (fun (W : World) (b : Below wr.heap.size wr W) => better2_any gp p x (L.getD j St.zero) rb W (HG2.out W (HB.out.trans (b.mono HB.out.size))) HP.out hkx (HOK.out j hjn) hrb)
        have HY2 := Lib.hid (fun (e : rb = true) => HYES.out ⟨hc, .inr (by rw [Int.toNat_natCast]; exact hrb.1 e)⟩)
        have HN2 := Lib.hid (fun (e : rb = false) => HNO.out (fun h => by
          rcases h.2 with h | h
          · omega
          · rw [Int.toNat_natCast] at h; have := hrb.2 h; rw [e] at this; cases this))
        clear HYES HNO cell hpx hkx hrb hrc hc
        obtain ⟨C, hC⟩ : ∃ C : World → Prop, C = fun W => Below (wr.heap.size + 1) (wr.alloc (.cells #[.int .i64 x.l, .int .i64 x.a, .bool x.u] 56)) W := ⟨_, rfl⟩
        have HC2 := Lib.hid (fun (W : World) (h : C W) => show Below wr.heap.size wr W by rw [hC] at h; exact ((Below.refl wr.heap.size wr).alloc (Nat.le_refl _) _).trans (h.mono (by omega)))
        have HC1 := Lib.hid (fun (W : World) (h : C W) => show W.cell? ⟨wr.heap.size, 0, none⟩ = some (.int .i64 x.l) ∧ W.cell? ⟨wr.heap.size, 1, none⟩ = some (.int .i64 x.a) ∧ W.cell? ⟨wr.heap.size, 2, none⟩ = some (.bool x.u) ∧ W.cell? ⟨pb, po + j * 3, none⟩ = some (.int .i64 (L.getD j St.zero).l) ∧ W.cell? ⟨pb, po + j * 3 + 1, none⟩ = some (.int .i64 (L.getD j St.zero).a) ∧ W.cell? ⟨pb, po + j * 3 + 2, none⟩ = some (.bool (L.getD j St.zero).u) by rw [hC] at h; exact ⟨(((Rw.new wr 56 #[.int .i64 x.l, .int .i64 x.a, .bool x.u]).below h (by omega)).three).1, (((Rw.new wr 56 #[.int .i64 x.l, .int .i64 x.a, .bool x.u]).below h (by omega)).three).2.1, (((Rw.new wr 56 #[.int .i64 x.l, .int .i64 x.a, .bool x.u]).below h (by omega)).three).2.2, (h.cell (p := ⟨pb, _, none⟩) (Nat.lt_succ_of_lt HPB.out)).trans (((Below.refl wr.heap.size wr).alloc (Nat.le_refl _) _).cell (p := ⟨pb, _, none⟩) HPB.out |>.trans g0), (h.cell (p := ⟨pb, _, none⟩) (Nat.lt_succ_of_lt HPB.out)).trans (((Below.refl wr.heap.size wr).alloc (Nat.le_refl _) _).cell (p := ⟨pb, _, none⟩) HPB.out |>.trans g1), (h.cell (p := ⟨pb, _, none⟩) (Nat.lt_succ_of_lt HPB.out)).trans (((Below.refl wr.heap.size wr).alloc (Nat.le_refl _) _).cell (p := ⟨pb, _, none⟩) HPB.out |>.trans g2)⟩)
        have HC3 := Lib.hid (fun (W W' : World) (h : C W) (b : Below W.heap.size W W') => show C W' by rw [hC] at h ⊢; exact h.trans (b.mono (by have := h.size; simp at this; omega)))
        have hc0 : C (wr.alloc (.cells #[.int .i64 x.l, .int .i64 x.a, .bool x.u] 56)).drew := by rw [hC]; exact (Below.refl _ _).drew
        clear hC
        obtain ⟨m, hm⟩ : ∃ m, m = wr.heap.size := ⟨_, rfl⟩
        rw [← hm] at HC1
        generalize (L.getD j St.zero).l = zl at *
        generalize (L.getD j St.zero).a = za at *
        generalize (L.getD j St.zero).u = zu at *
        generalize x.l = xl at *
        generalize x.a = xa at *
        generalize x.u = xu at *
        go_wp2_with fail
        rw [← hm]
        clear hm
        refine wp_region_own (by kernel_rfl) (by kernel_rfl) hc0 ?_
        repeat (first
          | go_big_quiet_skip
          | (go_big_quiet_want
             go_big_quiet_op
             first
               | go_big_quiet_on
               | (apply Exists.intro
                  refine ⟨fun W hW => ?_, ?_⟩
                  · (first
                      | rfl
                      | (go_at_call 82
                         refine (HCD.out _ (HC2.out _ hW)).mono ?_
                         rintro e w1 ⟨rfl, b⟩
                         exact ⟨rfl, HC3.out _ _ hW b⟩)
                      | (go_at_call 139
                         with_reducible refine (HBT.out _ (HC2.out _ hW)).mono ?_
                         rintro e w1 ⟨rfl, b⟩
                         exact ⟨rfl, HC3.out _ _ hW b⟩)
                      | (obtain ⟨k0, k1, k2, k3, k4, k5⟩ := (HC1.out _ hW)
                         simp only [k0, k1, k2, k3, k4, k5, Result.andThen]
                         exact ⟨trivial, rfl⟩))
                  go_big_quiet_on)))
        refine wpQuiet_nil ?_
        intro w1 hw1
        have HB1 := Lib.hid (HB.out.trans ((HC2.out _ hw1).mono HB.out.size))
        clear hw1 hc0 e0 e1 e2

        clear g0 g1 g2
        cases rb with
        | true =>
          have HGG := Lib.hid (HY2.out rfl)
          go_wp2
          go_roundw
          case rel => exact ⟨k + 1, by omega, by go_num, by rw [HGG.out], HB1⟩
          case measure => simp [intOf]; omega
        | false =>
          have HGG := Lib.hid (HN2.out rfl)
          go_wp2
          go_roundw
          case rel => exact ⟨k + 1, by omega, by go_num, by rw [HGG.out], HB1⟩
          case measure => simp [intOf]; omega
    · obtain rfl : k = n := by omega
      go_wp2
      go_ret
      exact ⟨rfl, HB.out⟩
end Go.Proofs.Ytgkanacaijlljab
