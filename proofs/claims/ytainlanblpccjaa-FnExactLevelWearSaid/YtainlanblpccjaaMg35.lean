/- The proof's own lemmas, part 36: WrR. -/
import Derived.Test.YtainlanblpccjaaProg
import Derived.Test.YtainlanblpccjaaMg34
import Derived.Test.YtainlanblpccjaaMg26
/- The block for static levelling, in the program: the contract. -/
namespace Go.Proofs.Ytainlanblpccjaa
open Go.RowKit Go.Maps
set_option linter.unusedVariables false
set_option linter.unusedSimpArgs false
theorem ps2_any (gE : Nat) (er : List Int) (A : Option Addr) (n c : Nat) (x y : Int) (w : World) (hi : Nat) (hE : Rw w gE 22 #[.slice A n c]) (hu : NI w hi (.slice A n c) er) (hl : er.length ≤ 1048576)
    (hx : 0 ≤ x ∧ x < (er.length : Int)) (hy : 0 ≤ y ∧ y < (er.length : Int)) :
    Calls Try.prog 108 #[.int .i64 x, .int .i64 y, .pointer (some ⟨gE, 0, none⟩)] w fun e w' => e = .returned (.int .i64 (ordE er true x y)) ∧ Below w.heap.size w w' := by
  obtain ⟨A2, n2, c2, e, _, _, hn, hA⟩ := hu
  injection e with q1 q2 q3
  subst q1 q2 q3
  rw [hn] at hx hy hl
  obtain ⟨i, rfl⟩ : ∃ i : Nat, x = i := ⟨x.toNat, by omega⟩
  obtain ⟨j, rfl⟩ : ∃ j : Nat, y = j := ⟨y.toNat, by omega⟩
  obtain ⟨b, o, rfl, _, hc⟩ := hA (by omega)
  have e1 := hc i (by omega)
  have e2 := hc j (by omega)
  have hin := hx.2
  have hjn := hy.2
  have hnm : (n : Int) ≤ 1048576 := by omega
  have c1 := hE.cell 0
  simp only [List.getElem?_toArray, List.getElem?_cons_zero] at c1
  have HV := Lib.hid (show ordE er true i j = cmpI (er.getD i 0) (er.getD j 0) by unfold ordE; simp)
  generalize ordE er true i j = v at *
  generalize er.getD i 0 = ei at *
  generalize er.getD j 0 = ej at *
  clear hA hc hx hy hn hE hl
  have HC := Lib.hid (fun (W : World) => cmpC_any ei ej W)
  generalize cmpI ei ej = t at *
  go_enter Try.func108, Try.ntmps108
  go_wp2_with fail
  go_quiet (first | (go_at_call 104; refine Calls.quiet_of_same ((HC.out _).mono fun e w' h => ⟨h.1, h.2.symm⟩)))
  go_wp2
  go_ret
  exact ⟨ret_int HV.out.symm, below_drewN (Below.refl _ _) _⟩
theorem psb_any (gO gE : Nat) (er : List Int) (A : Option Addr) (n c : Nat) (x y : Int) (w : World) (hi : Nat) (hO : Rw w gO 130 #[.func (.func 108) #[] #[.pointer (some ⟨gE, 0, none⟩)]])
    (hE : Rw w gE 22 #[.slice A n c]) (hu : NI w hi (.slice A n c) er) (hh : hi ≤ w.heap.size) (hl : er.length ≤ 1048576)
    (hx : 0 ≤ x ∧ x < (er.length : Int)) (hy : 0 ≤ y ∧ y < (er.length : Int)) :
    Calls Try.prog 171 #[.int .i64 x, .int .i64 y, .pointer (some ⟨gO, 0, none⟩)] w fun e w' => e = .returned (.int .i64 (byNum (ordE er true) x y)) ∧ Below w.heap.size w w' := by
  have HP := Lib.hid (ps2_any gE er A n c x y w hi hE hu hl hx hy)
  have HC := Lib.hid (fun (W : World) => cmpC_any x y W)
  have HV := Lib.hid (show byNum (ordE er true) x y = orI (ordE er true x y) (cmpI x y) from rfl)
  have c0 := hO.cell 0
  simp only [List.getElem?_toArray, List.getElem?_cons_zero] at c0
  generalize byNum (ordE er true) x y = v at *
  generalize ordE er true x y = s at *
  generalize cmpI x y = t at *
  clear hO hE hu hh hl hx hy
  go_enter Try.func171, Try.ntmps171
  go_wp2_with fail
  refine HP.out.mono ?_
  rintro e w1 ⟨rfl, b1⟩
  have B1 := Lib.hid b1
  clear b1
  go_wp2_with fail
  refine (HC.out _).mono ?_
  rintro e w2 ⟨rfl, rfl⟩
  have RO := Lib.hid (Rw.new w1 3 #[.int .i64 s, .int .i64 t])
  have B2 := Lib.hid (B1.out.alloc B1.out.size (.cells #[.int .i64 s, .int .i64 t] 3))
  go_wp2_with fail
  refine (cmpOr_any s t _ _ _ RO.out).mono ?_
  rintro e w3 ⟨rfl, rfl⟩
  go_wp2
  go_ret
  exact ⟨ret_int HV.out.symm, B2.out⟩
theorem BSet.at_ {w w' : World} {b n : Nat} {S : Int → Bool} (h : BSet w b S n) (hs : w'.heap[b]? = w.heap[b]?) : BSet w' b S n := by
  obtain ⟨D, ⟨es, clock, h, r⟩, h2⟩ := h; exact ⟨D, ⟨es, clock, hs.trans h, r⟩, h2⟩
theorem delF_nil (fv : Value) (w : World) : Calls Try.prog 106 #[.slice none 0 0, .func (.func 105) #[] #[fv]] w fun e w' => e = .returned (.slice none 0 0) ∧ w' = w := by
  have HI := Lib.hid (fun (W : World) (u : Value) => Try.slices_IndexFunc_empty (α := Int) none 0 u W)
  go_enter Try.func106, Try.ntmps106
  go_wp2_with fail
  refine (HI.out _ _).mono ?_
  rintro e w1 ⟨rfl, rfl⟩
  go_wp2
  go_ret
  exact ⟨rfl, rfl⟩
set_option maxHeartbeats 4000000 in
set_option maxRecDepth 100000 in
theorem implStat_any (u v z : Value) (er : List Int) (bad : List Bool) (ex : List Int) (w : World) (hi : Nat) (hu : NI w hi u er) (hv : NB w hi v bad) (hz : NI w hi z ex) (hh : hi ≤ w.heap.size) (h1 : er.length ≤ 1048576) (h2 : bad.length ≤ 1048576) (h3 : ex.length ≤ 1048576) (hwf : WfL ex) :
    Calls Try.prog 34 #[u, v, z] w fun e w' => e = .returned (.int .i64 (statV er bad ex)) ∧ Below w.heap.size w w' := by
  obtain ⟨A, n, c, rfl⟩ := hu.slice
  obtain ⟨A', m, c', rfl⟩ := hv.slice
  obtain ⟨X1, n2, X3, ez, _, _, hn2, hA2⟩ := hz
  subst ez
  have hn : er.length = n := by obtain ⟨X1, X2, X3, e, _, _, hn, _⟩ := hu; injection e with q1 q2 q3; omega
  have hnm : (n : Int) ≤ 1048576 := by omega
  have hnm2 : (n2 : Int) ≤ 1048576 := by omega
  -- the boxes: erases, the map, the variable that holds it
  have b0 := (Below.refl w.heap.size w).alloc (Nat.le_refl _) (.cells #[.slice A n c] 22)
  have r0 := Rw.new w 22 #[.slice A n c]
  have b1 := b0.alloc (by simp) (.map #[] 0)
  have r1 := r0.alloc (.map #[] 0)
  have s1 := BSet.made (w.alloc (.cells #[.slice A n c] 22))
  rw [show (w.alloc (.cells #[.slice A n c] 22)).heap.size = w.heap.size + 1 by simp] at s1
  have hz2 : ((w.alloc (.cells #[.slice A n c] 22)).alloc (.map #[] 0)).heap.size = w.heap.size + 2 := by simp
  have hmm := @run_makeMap Try.prog
  have R1 := Lib.hid r1
  have S1 := Lib.hid s1
  have B1 := Lib.hid b1
  have HU := Lib.hid hu
  have HA2 := Lib.hid hA2
  have HW := Lib.hid hwf
  have HH := Lib.hid hh
  have HN2 := Lib.hid hn2
  have HV := Lib.hid hv
  clear b0 r0 b1 r1 s1 hu hA2 hwf hh hn2 hv
  go_enter Try.func34, Try.ntmps34
  go_wp2_with fail
  clear hmm
  have R2 := Lib.hid (R1.out.alloc (.cells #[.map (some (w.heap.size + 1))] 131))
  have S2 := Lib.hid (S1.out.alloc (.cells #[.map (some (w.heap.size + 1))] 131))
  have B2 := Lib.hid (B1.out.alloc (by rw [hz2]; omega) (.cells #[.map (some (w.heap.size + 1))] 131))
  have C2 := Lib.hid (Rw.new ((w.alloc (.cells #[.slice A n c] 22)).alloc (.map #[] 0)) 131 #[.map (some (w.heap.size + 1))])
  rw [hz2] at C2
  have Z2 := Lib.hid (show w.heap.size + 3 ≤ (((w.alloc (.cells #[.slice A n c] 22)).alloc (.map #[] 0)).alloc (.cells #[.map (some (w.heap.size + 1))] 131)).heap.size by simp)
  have S3 := Lib.hid (S2.out.alike (S' := fun x => (ex.take 0).contains x) (fun x _ => by simp))
  clear R1 S1 B1 S2 hz2
  go_loopw [15] (fun i wr => ∃ k : Nat, k ≤ n2 ∧ i = .int .i64 k ∧ Hid (BSet wr (w.heap.size + 1) (fun x => (ex.take k).contains x) k) ∧ Hid (Rw wr (w.heap.size + 2) 131 #[.map (some (w.heap.size + 1))]) ∧ Hid (Rw wr w.heap.size 22 #[.slice A n c]) ∧ Hid (Below w.heap.size w wr) ∧ Hid (w.heap.size + 3 ≤ wr.heap.size)) (fun i _ => n2 - (intOf i).toNat)
  case atStart => exact ⟨0, by omega, rfl, S3, C2, R2, B2, Z2⟩
  case round =>
    clear S3 C2 R2 B2 Z2
    obtain ⟨k, hk, rfl, HS, HC, HR, HB, HZ⟩ := hrel
    have q0 := HC.out.cell 0
    simp only [List.getElem?_toArray, List.getElem?_cons_zero] at q0
    by_cases hlt : k < n2
    · have hki : (k : Int) < (n2 : Int) := by omega
      obtain ⟨pb, po, rfl, hp2, hpx⟩ := HA2.out (by omega)
      have e1 := (HB.out.cell (p := ⟨pb, po + k, none⟩) (by have := HH.out; show pb < _; omega)).trans (hpx k hlt)
      have hwk := HW.out k (by rw [HN2.out]; exact hlt)
      obtain ⟨w4, hpt, hs4, hg4⟩ := HS.out.put (by omega) hwk
      have hkl : k < ex.length := by rw [HN2.out]; exact hlt
      have HTK := Lib.hid (show ∀ x, (x == ex.getD k 0 || (ex.take k).contains x) = (ex.take (k + 1)).contains x from fun x => by
        rw [List.take_succ_eq_append_getElem hkl, List.getD_eq_getElem?_getD, List.getElem?_eq_getElem hkl, Bool.eq_iff_iff]
        simp only [Option.getD_some, Bool.or_eq_true, beq_iff_eq, List.contains_iff_mem, List.mem_append, List.mem_singleton]
        exact or_comm)
      have HS4 := Lib.hid (hs4.alike (S' := fun x => (ex.take (k + 1)).contains x) (fun x _ => HTK.out x))
      have hz := HZ.out
      have HC4 := Lib.hid (show Rw w4 (w.heap.size + 2) 131 #[.map (some (w.heap.size + 1))] from (hg4.block _ (by omega) (fun e => by injection e with e; omega)).trans HC.out)
      have HR4 := Lib.hid (show Rw w4 w.heap.size 22 #[.slice A n c] from (hg4.block _ (by omega) (fun e => by injection e with e; omega)).trans HR.out)
      have HB4 := Lib.hid (HB.out.grown hg4 HB.out.size (fun j e => by injection e with e; omega))
      have HZ4 := Lib.hid (show w.heap.size + 3 ≤ w4.heap.size from Nat.le_trans hz hg4.size)
      generalize ex.getD k 0 = y at *
      clear hpx hs4 hg4 hwk HTK HS HC HR HB HZ HA2 HW hz
      go_wp2_with fail
      go_roundw
      case rel => exact ⟨k + 1, by omega, by go_num, HS4, HC4, HR4, HB4, HZ4⟩
      case measure => simp [intOf]; omega
    · obtain rfl : k = n2 := by omega
      have q1 := HR.out.cell 0
      simp only [List.getElem?_toArray, List.getElem?_cons_zero] at q1
      have hzz := HZ.out
      have hvw := HV.out.below HB.out HH.out
      have HGB := Lib.hid (goodB_any (.slice A' m c') bad n wr hi hvw (Nat.le_trans HH.out HB.out.size) h2 (by omega))
      have HSE := Lib.hid (show BSet wr (w.heap.size + 1) (fun x => ex.contains x) k by
        have := HS.out
        rw [show ex.take k = ex by rw [← HN2.out, List.take_length]] at this
        exact this)
      clear HA2 HW HS hvw
      go_wp2_with fail
      refine HGB.out.mono ?_
      rintro e w5 ⟨x, rfl, ho, b5⟩
      have HO := Lib.hid ho
      have b5' := b5
      have HB5 := Lib.hid (HB.out.trans (b5.mono HB.out.size))
      have HC5 := Lib.hid (HC.out.below b5 HC.out.lt)
      have HR5 := Lib.hid (HR.out.below b5 HR.out.lt)
      have HS5 := Lib.hid (HSE.out.below b5 (by omega))
      have hz5 := b5.size
      clear ho b5 b5' HGB HSE HB HC HR q0 q1
      have hgl := goodL_le bad n
      have HGM := Lib.hid (goodL_mem bad n)
      have HSL := Lib.hid (show statL bad ex er.length = keptL (fun x => ex.contains x) (goodL bad n) (goodL bad n).length by rw [keptL_all, hn]; rfl)
      have HMEM := Lib.hid (statL_mem bad ex n)
      rw [hn] at HSL
      have HVAL := Lib.hid (show statV er bad ex = firstV (ordE er true) (keptL (fun x => ex.contains x) (goodL bad n) (goodL bad n).length) by unfold statV; rw [hn, HSL.out])
      rw [HSL.out] at HMEM
      obtain ⟨L, hL⟩ : ∃ L, L = goodL bad n := ⟨_, rfl⟩
      rw [← hL] at HO hgl HGM HVAL HMEM
      have hnE := hn
      clear hL HSL
      rcases HO.out.shape with ⟨hx0, hl0⟩ | ⟨g, cap, hx0, hg1, hg2⟩
      · subst hx0
        subst hl0
        have HFB := Lib.hid (fun (W : World) => firstB_any 108 #[.pointer (some ⟨w.heap.size, 0, none⟩)] (.slice none 0 0) [] (ordE er true) W W.heap.size (NI.nil W _) (Nat.le_refl _) (by simp) (fun W gO i j hb hO hi1 hj1 => by simp at hi1))
        have HG := Lib.hid (show statV er bad ex = firstV (ordE er true) [] by rw [HVAL.out]; rfl)
        have HDN := Lib.hid (fun (W : World) (fv : Value) => delF_nil fv W)
        clear HO HVAL HGM HMEM HC5 HR5 HS5
        go_wp2_with fail
        refine (HDN.out _ _).mono ?_
        rintro e w6 ⟨rfl, rfl⟩
        go_wp2_with fail
        refine (HFB.out _).mono ?_
        rintro e w7 ⟨rfl, b7⟩
        have HB7 := Lib.hid (HB5.out.trans (b7.mono HB5.out.size))
        clear b7
        go_wp2
        go_ret
        exact ⟨ret_int HG.out.symm, HB7.out⟩
      · subst hx0
        obtain ⟨Y1, Y2, Y3, ey, hy1, hy2, hy3, _⟩ := HO.out.readsR
        injection ey with ey1 ey2 ey3
        subst ey1 ey2 ey3
        have HWF := Lib.hid (fun (i : Nat) (hi : i < L.length) => show WfI (L.getD i 0) from by
          have := HGM.out i hi
          exact wfI_of (by omega) (by omega))
        have HDF := Lib.hid (delF_any wr.heap.size g L.length cap L (fun x => ex.contains x) (w.heap.size + 2) (w.heap.size + 1) w5 HO.out rfl hy1 hy2 (by omega) hg2 (by omega) (by omega) (by omega) (by omega)
          (fun W i hi e1 e2 => ps1_any (w.heap.size + 2) (w.heap.size + 1) (fun x => ex.contains x) k _ W (show Rw W _ _ _ from e1.trans HC5.out) (HS5.out.at_ e2) (HWF.out i hi)))
        have hKL := keptL_le (fun x => ex.contains x) L L.length
        obtain ⟨K, hK⟩ : ∃ K, K = keptL (fun x => ex.contains x) L L.length := ⟨_, rfl⟩
        rw [← hK] at HDF HVAL HMEM hKL
        have HFB := Lib.hid (fun (W6 : World) (hg : w5.grownBy W6 (some g)) (hc : ∀ i, i < K.length → W6.cell? ⟨g, i, none⟩ = some (.int .i64 (K.getD i 0))) =>
          firstB_any 108 #[.pointer (some ⟨w.heap.size, 0, none⟩)] (.slice (some ⟨g, 0, none⟩) K.length cap) K (ordE er true) W6 W6.heap.size
            ⟨_, K.length, cap, rfl, by omega, hy2, rfl, fun h0 => ⟨g, 0, rfl, Nat.lt_of_lt_of_le hg2 hg.size, fun i hi => by rw [Nat.zero_add]; exact hc i hi⟩⟩ (Nat.le_refl _) (by omega)
            (fun W gO i j hb hO hi1 hj1 => by
              have hB6 : Below w.heap.size w W6 := HB5.out.grown hg HB5.out.size (fun j e => by injection e with e; omega)
              have hR6 : Rw W6 w.heap.size 22 #[.slice A n c] := (hg.block _ (by omega) (fun e => by injection e with e; omega)).trans HR5.out
              have hB7 := hB6.trans (hb.mono hB6.size)
              have m1 := HMEM.out i hi1
              have m2 := HMEM.out j hj1
              rw [← hnE] at m1 m2
              exact psb_any gO w.heap.size er A n c _ _ W hi hO (hR6.below hb hR6.lt) (HU.out.below hB7 HH.out) (Nat.le_trans HH.out hB7.size) h1 m1 m2))
        have HG5 := Lib.hid (fun (W6 : World) (hg : w5.grownBy W6 (some g)) => show Below w.heap.size w W6 from HB5.out.grown hg HB5.out.size (fun j e => by injection e with e; omega))
        clear HO HGM HMEM HC5 HR5 HS5 HWF hK hy3
        go_wp2_with fail
        refine HDF.out.mono ?_
        rintro e w6 ⟨rfl, hc6, hg6⟩
        have HF6 := Lib.hid (HFB.out w6 hg6 hc6)
        have HB6 := Lib.hid (HG5.out w6 hg6)
        clear HFB HG5 HDF hc6 hg6
        go_wp2_with fail
        refine HF6.out.mono ?_
        rintro e w7 ⟨rfl, b7⟩
        have HB7 := Lib.hid (HB6.out.trans (b7.mono HB6.out.size))
        clear b7
        go_wp2
        go_ret
        exact ⟨ret_int HVAL.out.symm, HB7.out⟩
end Go.Proofs.Ytainlanblpccjaa
