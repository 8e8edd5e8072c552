/- NewFlash, in the model and in the program: the contracts. -/
import Derived.Test.YtbehoeabnomlaaaProg
import Derived.Test.YtbehoeabnomlaaaNwF
import Derived.Test.YtbehoeabnomlaaaFlSz
import Derived.Test.YtbehoeabnomlaaaFlV
import Derived.Deep.Cut
import Derived.Deep.DeepCutAuto
namespace Go.Proofs.Ytbehoeabnomlaaa
open Go.RowKit
set_option linter.unusedVariables false
/-- What NewFlash answers. -/
inductive NewEnds (d b p : Int) : Fl → Int → Prop
  | invalid (h : ¬ GeoOk d b p) : NewEnds d b p Fl.zero 1
  | done (h : GeoOk d b p) : NewEnds d b p (newFl d b p) 0
theorem newEnds (d b p : Int) : ∃ G c, NewEnds d b p G c := by
  by_cases h : GeoOk d b p
  · exact ⟨_, _, .done h⟩
  · exact ⟨_, _, .invalid h⟩
theorem newFl_sz {d b p : Int} (h : GeoOk d b p) : FlSz (newFl d b p) := by
  have h1 := h.mul
  have h2 := h.p16
  have hz : ∀ m, szS (List.replicate m ByteArray.empty) = 0 := fun m => by
    induction m with
    | zero => rfl
    | succ m ih => rw [List.replicate_succ, szS, ih]; rfl
  have hb : ∀ n (x : Blk), szB (List.replicate n x) = n * szP x.pg := fun n x => by
    induction n with
    | zero => simp [szB]
    | succ n ih => rw [List.replicate_succ, szB, ih, Nat.succ_mul]; omega
  have e : szP (List.replicate p.toNat ByteArray.empty) = p.toNat := by unfold szP; rw [hz, List.length_replicate]; omega
  have hx : szB (newFl d b p).bs = (d * b).toNat * p.toNat := by
    show szB (List.replicate (d * b).toNat _) = _
    rw [hb]
    show (d * b).toNat * szP (List.replicate p.toNat ByteArray.empty) = _
    rw [e]
  have hy : (newFl d b p).bs.length = (d * b).toNat := by simp [newFl]
  unfold FlSz
  rw [hx, hy]
  have h3 : (d * b).toNat ≤ 36 := by omega
  have h4 : p.toNat ≤ 16 := by omega
  have := Nat.mul_le_mul h3 h4
  omega
set_option maxHeartbeats 4000000 in
theorem specNew_any (d b p : Int) (G : Fl) (c : Int) (w : World) (h : NewEnds d b p G c) :
    Calls Try.prog 42 #[.agg #[.int .i64 d, .int .i64 b, .int .i64 p]] w (FlPost G c w) := by
  obtain ⟨r, hr⟩ := prop_dec (GeoOk d b p)
  have HV := Lib.hid (fun (W : World) => specGeo_any d b p r W hr)
  have HN := Lib.hid (fun (W : World) (g : GeoOk d b p) => l06New_any d b p W g)
  obtain ⟨r0, r1, bb⟩ := Rw.two_new w 51 54 #[.int .i64 d, .int .i64 b, .int .i64 p] #[.int .i64 0, .int .i64 0, .int .i64 0, .slice none 0 0, .int .i64 0, .int .i64 0, .bool false, .int .i64 0]
  have hz : ((w.alloc (.cells #[.int .i64 d, .int .i64 b, .int .i64 p] 51)).alloc (.cells #[.int .i64 0, .int .i64 0, .int .i64 0, .slice none 0 0, .int .i64 0, .int .i64 0, .bool false, .int .i64 0] 54)).heap.size = w.heap.size + 2 := by simp
  rcases h with h | h
  · obtain rfl : r = false := (bool_of r hr).2 h
    have R1 := Lib.hid r1
    have BB := Lib.hid bb
    clear h hr r0 r1 bb HN
    go_enter Try.func42, Try.ntmps42
    go_wp2_with fail
    refine (HV.out _).mono ?_
    rintro e w1 ⟨rfl, b1⟩
    have S1 := Lib.hid (R1.out.below b1 (by rw [hz]; omega))
    have B1 := Lib.hid (BB.out.trans (b1.mono (by rw [hz]; omega)))
    obtain ⟨o0, o1, o2, o3, o4, o5, o6, o7⟩ := S1.out.eight
    obtain ⟨fo0, fo1, fo2, fo3, fo4, fo5, fo6, fo7⟩ := S1.out.frees
    clear b1 hz
    go_wp2
    refine bodyPost_ret (results_row_tmp Try.results42 _ _ _ _ _ _ _ rfl (S1.out.put8 _ _ _ _ _ _ _ _) Try.underlying54 rfl infoFl8N) rfl ⟨_, rfl, zeroOwn _ _ _, ?_⟩
    repeat refine bset ?_ (by omega) _
    exact B1.out
  · obtain rfl : r = true := hr.2 h
    have R0 := Lib.hid r0
    have R1 := Lib.hid r1
    have BB := Lib.hid bb
    have HN2 := Lib.hid (fun (W : World) => HN.out W h)
    clear h hr r0 r1 bb HN
    go_enter Try.func42, Try.ntmps42
    go_wp2_with fail
    refine (HV.out _).mono ?_
    rintro e w1 ⟨rfl, b1⟩
    have S0 := Lib.hid (R0.out.below b1 (by rw [hz]; omega))
    have S1 := Lib.hid (R1.out.below b1 (by rw [hz]; omega))
    have B1 := Lib.hid (BB.out.trans (b1.mono (by rw [hz]; omega)))
    have hz1 := b1.size
    rw [hz] at hz1
    obtain ⟨a0, a1, a2⟩ := S0.out.three
    clear b1 hz
    go_wp2_with fail
    refine (HN2.out w1).mono ?_
    rintro e w2 ⟨u, rfl, ho, b2⟩
    obtain ⟨g0, g1, g2, gA, gn, gc, g5, g6, g7, g8, rfl⟩ := ho.agg8
    have T1 := Lib.hid (S1.out.below b2 (by omega))
    have B2 := Lib.hid (B1.out.trans (b2.mono (by omega)))
    have hz2 := b2.size
    have HO := Lib.hid ho
    obtain ⟨o0, o1, o2, o3, o4, o5, o6, o7⟩ := T1.out.eight
    obtain ⟨fo0, fo1, fo2, fo3, fo4, fo5, fo6, fo7⟩ := T1.out.frees
    clear b2 ho
    go_wp2
    refine bodyPost_ret (results_row_tmp Try.results42 _ _ _ _ _ _ _ rfl (T1.out.put8 _ _ _ _ _ _ _ _) Try.underlying54 rfl infoFl8N) rfl ⟨_, rfl, ?_, ?_⟩
    · refine (HO.out.same ?_).wide (by omega) (by simp)
      repeat refine sset ?_ (.inl (by omega)) _
      exact Same.refl _ _ _
    · repeat refine bset ?_ (by omega) _
      exact B2.out
/-- Block k of the row gets pages. -/
theorem BO.fillPg {w : World} {lo mid hi g : Nat} {pv : Nat → Value} {L : List Blk} (h : BO w lo mid g pv L) {k : Nat} (hk : k < L.length) (l : List ByteArray) (u : Value) (hu : PgOwn w mid hi g u l) (hm : mid ≤ hi) :
    BO (w.setCell ⟨g, k * 4 + 3, none⟩ u) lo hi g (fun i => if i = k then u else pv i) (L.set k { L.getD k Blk.zero with pg := l }) := by
  have h1 := h.low
  have h2 := h.high
  refine ⟨h.low, by omega, fun j => by simp only [World.frozen?_setCell]; exact h.free j, fun i hi' => ?_, fun i hi' => ?_, fun i j hi' hj hne => ?_⟩
  · rw [List.length_set] at hi'
    have o : ∀ j t, i * 4 + j ≠ k * 4 + 3 → w.cell? ⟨g, i * 4 + j, none⟩ = some t → (w.setCell ⟨g, k * 4 + 3, none⟩ u).cell? ⟨g, i * 4 + j, none⟩ = some t := fun j t hj ht => by
      rw [World.cell?_setCell_other _ _ _ _ (addr_ne fun _ => by omega)]; exact ht
    obtain ⟨r0, r1, r2, r3⟩ := h.row i hi'
    by_cases e : i = k
    · subst e
      rw [getD_set_eq _ _ _ _ hk, if_pos rfl]
      exact ⟨o 0 _ (by omega) r0, o 1 _ (by omega) r1, o 2 _ (by omega) r2, World.cell?_setCell_same _ _ _ r3⟩
    · rw [getD_set_ne _ _ _ _ _ (fun e' => e e'.symm), if_neg e]
      exact ⟨o 0 _ (by omega) r0, o 1 _ (by omega) r1, o 2 _ (by omega) r2, o 3 _ (by omega) r3⟩
  · rw [List.length_set] at hi'
    by_cases e : i = k
    · subst e
      rw [getD_set_eq _ _ _ _ hk, if_pos rfl]
      exact (hu.far _ _).wide (by omega) (Nat.le_refl _)
    · rw [getD_set_ne _ _ _ _ _ (fun e' => e e'.symm), if_neg e]
      exact ((h.pgs i hi').wide (Nat.le_refl _) hm).far _ _
  · rw [List.length_set] at hi' hj
    by_cases e : i = k
    · by_cases e2 : j = k
      · omega
      · rw [if_pos e, if_neg e2]
        exact ((h.pgs j hj).apart hu).symm
    · by_cases e2 : j = k
      · rw [if_neg e, if_pos e2]
        exact (h.pgs i hi').apart hu
      · rw [if_neg e, if_neg e2]
        exact h.apart i j hi' hj hne
theorem set_new (n k : Nat) (x : Blk) (h : k < n) : (List.replicate k x ++ List.replicate (n - k) Blk.zero).set k x = List.replicate (k + 1) x ++ List.replicate (n - (k + 1)) Blk.zero := by
  rw [List.set_append_right _ _ (by simp), List.length_replicate, Nat.sub_self, show n - k = (n - (k + 1)) + 1 by omega, List.replicate_succ, List.set_cons_zero, List.replicate_succ', List.append_assoc]; rfl
theorem set_new' (n k m : Nat) (h : k < n) : (List.replicate k (newBlk m) ++ List.replicate (n - k) Blk.zero).set k { Blk.zero with pg := (newBlk m).pg } = List.replicate (k + 1) (newBlk m) ++ List.replicate (n - (k + 1)) Blk.zero := set_new n k (newBlk m) h
theorem get_new (n k : Nat) (x : Blk) (h : k < n) : (List.replicate k x ++ List.replicate (n - k) Blk.zero).getD k Blk.zero = Blk.zero := by
  rw [List.getD_eq_getElem?_getD, List.getElem?_append_right (by simp), List.length_replicate, Nat.sub_self, List.getElem?_replicate]; split <;> rfl
set_option maxHeartbeats 4000000 in
theorem implNew_any (d b p : Int) (G : Fl) (c : Int) (w : World) (h : NewEnds d b p G c) :
    Calls Try.prog 44 #[.agg #[.int .i64 d, .int .i64 b, .int .i64 p]] w (FlPost G c w) := by
  obtain ⟨r, hr⟩ := prop_dec (GeoOk d b p)
  have HV := Lib.hid (fun (W : World) => implGeo_any d b p r W hr)
  obtain ⟨r0, r1, bb⟩ := Rw.two_new w 51 54 #[.int .i64 d, .int .i64 b, .int .i64 p] #[.int .i64 0, .int .i64 0, .int .i64 0, .slice none 0 0, .int .i64 0, .int .i64 0, .bool false, .int .i64 0]
  have hz : ((w.alloc (.cells #[.int .i64 d, .int .i64 b, .int .i64 p] 51)).alloc (.cells #[.int .i64 0, .int .i64 0, .int .i64 0, .slice none 0 0, .int .i64 0, .int .i64 0, .bool false, .int .i64 0] 54)).heap.size = w.heap.size + 2 := by simp
  rcases h with h | h
  · obtain rfl : r = false := (bool_of r hr).2 h
    have R1 := Lib.hid r1
    have BB := Lib.hid bb
    clear h hr r0 r1 bb
    go_enter Try.func44, Try.ntmps44
    go_wp2_with fail
    refine (HV.out _).mono ?_
    rintro e w1 ⟨rfl, b1⟩
    have S1 := Lib.hid (R1.out.below b1 (by rw [hz]; omega))
    have B1 := Lib.hid (BB.out.trans (b1.mono (by rw [hz]; omega)))
    obtain ⟨o0, o1, o2, o3, o4, o5, o6, o7⟩ := S1.out.eight
    obtain ⟨fo0, fo1, fo2, fo3, fo4, fo5, fo6, fo7⟩ := S1.out.frees
    clear b1 hz
    go_wp2
    refine bodyPost_ret (results_row_tmp Try.results44 _ _ _ _ _ _ _ rfl (S1.out.put8 _ _ _ _ _ _ _ _) Try.underlying54 rfl infoFl8N) rfl ⟨_, rfl, zeroOwn _ _ _, ?_⟩
    repeat refine bset ?_ (by omega) _
    exact B1.out
  · obtain rfl : r = true := hr.2 h
    obtain ⟨n, hn, hn1, hn2⟩ : ∃ n : Nat, d * b = (n : Int) ∧ 8 ≤ n ∧ n ≤ 36 := by have := h.mul; exact ⟨(d * b).toNat, by omega, by omega, by omega⟩
    obtain ⟨m, rfl, hm1, hm2⟩ : ∃ m : Nat, p = (m : Int) ∧ 8 ≤ m ∧ m ≤ 16 := by have := h.p16; exact ⟨p.toNat, by omega, by omega, by omega⟩
    have hdb : (2 ≤ d ∧ d ≤ 3) ∧ (4 ≤ b ∧ b ≤ 12) := ⟨h.1, h.2.1⟩
    have hgeo := h
    have hmk := fun W : World => run_make_row' (P := Try.prog) 86 9 (.string ByteArray.empty) 16 Try.underlying86 infoSt rfl .i64 .i64 m (by omega) (by omega) W
    have hmb : ∀ W : World, (Instr.makeSlice 52 (.int .i64 (n : Int)) (.int .i64 (n : Int))).run Try.prog W = .ok (.slice (some ⟨W.heap.size, 0, none⟩) n n) (W.alloc (.cells (madeCells #[.int .i64 0, .int .i64 0, .bool false, .slice none 0 0] (n * 4)) 88)) := fun W => by
      obtain ⟨i0, hi, hz0, hz1, hz2⟩ := info_parts infoBkN
      have := run_make (P := Try.prog) W 52 88 i0 _ Try.underlying52 hi hz0 .i64 .i64 (n : Int) (n : Int) (by omega) (Int.le_refl _) (by rw [hz2]; omega) (by omega)
      rw [hz1] at this
      exact this
    have R0 := Lib.hid r0
    have R1 := Lib.hid r1
    have BB := Lib.hid bb
    clear h hr r0 r1 bb
    go_enter Try.func44, Try.ntmps44
    go_wp2_with fail
    refine (HV.out _).mono ?_
    rintro e w1 ⟨rfl, b1⟩
    have S0 := Lib.hid (R0.out.below b1 (by rw [hz]; omega))
    have S1 := Lib.hid (R1.out.below b1 (by rw [hz]; omega))
    have B1 := Lib.hid (BB.out.trans (b1.mono (by rw [hz]; omega)))
    have hz1 := b1.size
    rw [hz] at hz1
    obtain ⟨a0, a1, a2⟩ := S0.out.three
    have HT := Lib.hid (fun (W : World) => (show Calls Try.prog 79 #[.agg #[.int .i64 d, .int .i64 b, .int .i64 m]] W fun e w' => e = .returned (.int .i64 (n : Int)) ∧ Below W.heap.size W w' from by rw [← hn]; exact total_any d b m W hgeo))
    have KP := Lib.hid (fun (W : World) (bW : Below w1.heap.size w1 W) => show (W.cell? ⟨w.heap.size, 0, none⟩ = some (.int .i64 d) ∧ W.cell? ⟨w.heap.size, 1, none⟩ = some (.int .i64 b) ∧ W.cell? ⟨w.heap.size, 2, none⟩ = some (.int .i64 m)) ∧ Rw W w.heap.size 51 #[.int .i64 d, .int .i64 b, .int .i64 m] ∧ Rw W (w.heap.size + 1) 54 #[.int .i64 0, .int .i64 0, .int .i64 0, .slice none 0 0, .int .i64 0, .int .i64 0, .bool false, .int .i64 0] ∧ Below w.heap.size w W from
      ⟨(S0.out.below bW (by omega)).three, S0.out.below bW (by omega), S1.out.below bW (by omega), B1.out.trans (bW.mono (by omega))⟩)
    have hb0 : Below w1.heap.size w1 w1 := Below.refl _ _
    have MKB := Lib.hid (fun (W : World) => show BO (W.alloc (.cells (madeCells #[.int .i64 0, .int .i64 0, .bool false, .slice none 0 0] (n * 4)) 88)) W.heap.size (W.heap.size + 1) W.heap.size (fun _ => .slice none 0 0) (List.replicate n Blk.zero) from by
      have h0 := BO.made (B := W.heap.size) (World.ownsRow_lit (base := W.heap.size) (e := 88) (size := 4) W (madeCells #[.int .i64 0, .int .i64 0, .bool false, .slice none 0 0] (n * 4)) n (Nat.le_refl _) (by unfold maxLen; omega) (size_madeCells _ _)) (by simp) (Nat.le_refl _)
      exact BO.wide h0 (Nat.le_refl _) (by simp))
    clear b1 hz
    go_upto_region 3 with fail
    go_cut [4] (fun p4 wx => ∃ gb gf, p4 = .pointer (some ⟨gf, 0, none⟩) ∧ Hid (BO wx w1.heap.size wx.heap.size gb (fun _ => .slice none 0 0) (List.replicate n Blk.zero)) ∧ Hid (Rw wx w.heap.size 51 #[.int .i64 d, .int .i64 b, .int .i64 m]) ∧ Hid (Rw wx (w.heap.size + 1) 54 #[.int .i64 0, .int .i64 0, .int .i64 0, .slice none 0 0, .int .i64 0, .int .i64 0, .bool false, .int .i64 0]) ∧
      Hid (Rw wx gf 54 #[.int .i64 d, .int .i64 b, .int .i64 m, .slice (some ⟨gb, 0, none⟩) n n, .int .i64 (-1), .int .i64 0, .bool false, .int .i64 0]) ∧ Hid (Below w.heap.size w wx) ∧ Hid (w1.heap.size ≤ gb ∧ gb < wx.heap.size ∧ w1.heap.size ≤ gf ∧ gf < wx.heap.size ∧ gb ≠ gf))
    case first =>
      go_region_held3 (fun W => W.cell? ⟨w.heap.size, 0, none⟩ = some (.int .i64 d) ∧ W.cell? ⟨w.heap.size, 1, none⟩ = some (.int .i64 b) ∧ W.cell? ⟨w.heap.size, 2, none⟩ = some (.int .i64 m))
        (((refine (KP.out _ ?_).1); (repeat (first | with_reducible exact hb0 | with_reducible exact X1 | with_reducible refine Below.drew ?_ | with_reducible refine bset ?_ (by first | omega | (simp; omega)) _ | with_reducible refine Below.alloc ?_ (by first | omega | (simp; omega)) _))))
        (first
          | (go_at_call 79
             refine (HT.out _).mono ?_
             rintro e w2 ⟨rfl, b2⟩
             have Y1 : Below w1.heap.size w1 w1.drew := hb0.drew
             have X1 := Y1.trans (b2.mono (Nat.le_refl _))
             have zx := X1.size)
          | (go_at_call 79
             refine (HT.out _).mono ?_
             rintro e w2 ⟨rfl, b2⟩
             have X1 : Below w1.heap.size w1 w2 := ((hb0.alloc (Nat.le_refl _) _).drew).trans (b2.mono (by simp))
             have RZ := (show Rw (w1.alloc (.cells #[.int .i64 0, .int .i64 0, .int .i64 0, .slice none 0 0, .int .i64 0, .int .i64 0, .bool false, .int .i64 0] 54)).drew w1.heap.size 54 #[.int .i64 0, .int .i64 0, .int .i64 0, .slice none 0 0, .int .i64 0, .int .i64 0, .bool false, .int .i64 0] from Rw.new w1 54 #[.int .i64 0, .int .i64 0, .int .i64 0, .slice none 0 0, .int .i64 0, .int .i64 0, .bool false, .int .i64 0]).below b2 (by simp)
             have RZA := fun o : Obj => RZ.alloc o
             have dz := fun o : Obj => (RZA o).eight
             have fz := fun o : Obj => (RZA o).frees
             obtain ⟨dz0, dz1, dz2, dz3, dz4, dz5, dz6, dz7⟩ : (∀ o, (w2.alloc o).cell? ⟨w1.heap.size, 0, none⟩ = some (.int .i64 0)) ∧ (∀ o, (w2.alloc o).cell? ⟨w1.heap.size, 1, none⟩ = some (.int .i64 0)) ∧ (∀ o, (w2.alloc o).cell? ⟨w1.heap.size, 2, none⟩ = some (.int .i64 0)) ∧ (∀ o, (w2.alloc o).cell? ⟨w1.heap.size, 3, none⟩ = some (.slice none 0 0)) ∧ (∀ o, (w2.alloc o).cell? ⟨w1.heap.size, 4, none⟩ = some (.int .i64 0)) ∧ (∀ o, (w2.alloc o).cell? ⟨w1.heap.size, 5, none⟩ = some (.int .i64 0)) ∧ (∀ o, (w2.alloc o).cell? ⟨w1.heap.size, 6, none⟩ = some (.bool false)) ∧ (∀ o, (w2.alloc o).cell? ⟨w1.heap.size, 7, none⟩ = some (.int .i64 0)) := ⟨fun o => (dz o).1, fun o => (dz o).2.1, fun o => (dz o).2.2.1, fun o => (dz o).2.2.2.1, fun o => (dz o).2.2.2.2.1, fun o => (dz o).2.2.2.2.2.1, fun o => (dz o).2.2.2.2.2.2.1, fun o => (dz o).2.2.2.2.2.2.2⟩
             obtain ⟨fz0, fz1, fz2, fz3, fz4, fz5, fz6, fz7⟩ : (∀ o, (w2.alloc o).frozen? ⟨w1.heap.size, 0, none⟩ = false) ∧ (∀ o, (w2.alloc o).frozen? ⟨w1.heap.size, 1, none⟩ = false) ∧ (∀ o, (w2.alloc o).frozen? ⟨w1.heap.size, 2, none⟩ = false) ∧ (∀ o, (w2.alloc o).frozen? ⟨w1.heap.size, 3, none⟩ = false) ∧ (∀ o, (w2.alloc o).frozen? ⟨w1.heap.size, 4, none⟩ = false) ∧ (∀ o, (w2.alloc o).frozen? ⟨w1.heap.size, 5, none⟩ = false) ∧ (∀ o, (w2.alloc o).frozen? ⟨w1.heap.size, 6, none⟩ = false) ∧ (∀ o, (w2.alloc o).frozen? ⟨w1.heap.size, 7, none⟩ = false) := ⟨fun o => (fz o).1, fun o => (fz o).2.1, fun o => (fz o).2.2.1, fun o => (fz o).2.2.2.1, fun o => (fz o).2.2.2.2.1, fun o => (fz o).2.2.2.2.2.1, fun o => (fz o).2.2.2.2.2.2.1, fun o => (fz o).2.2.2.2.2.2.2⟩
             have RZ2 := Lib.hid RZ
             have zs : w1.heap.size + 1 ≤ w2.heap.size := by have := b2.size; simpa using this
             clear dz fz RZA RZ
             have zx := X1.size))
      · go_wp2_with fail
        go_meet
        case rel =>
          have BX := Lib.hid (show Below w1.heap.size w1 ((w2.alloc (.cells (madeCells #[.int .i64 0, .int .i64 0, .bool false, .slice none 0 0] (n * 4)) 88)).alloc (.cells #[.int .i64 d, .int .i64 b, .int .i64 m, .slice (some ⟨w2.heap.size, 0, none⟩) n n, .int .i64 (-1), .int .i64 0, .bool false, .int .i64 0] 54)) from (X1.alloc zx _).alloc (by simp; omega) _)
          have hbo := (MKB.out w2).same (sm ((Below.refl (w2.heap.size + 1) (w2.alloc (.cells (madeCells #[.int .i64 0, .int .i64 0, .bool false, .slice none 0 0] (n * 4)) 88))).alloc (by simp) (.cells #[.int .i64 d, .int .i64 b, .int .i64 m, .slice (some ⟨w2.heap.size, 0, none⟩) n n, .int .i64 (-1), .int .i64 0, .bool false, .int .i64 0] 54)) w2.heap.size (Nat.le_refl _))
          have HBO := Lib.hid (BO.wide (hi' := ((w2.alloc (.cells (madeCells #[.int .i64 0, .int .i64 0, .bool false, .slice none 0 0] (n * 4)) 88)).alloc (.cells #[.int .i64 d, .int .i64 b, .int .i64 m, .slice (some ⟨w2.heap.size, 0, none⟩) n n, .int .i64 (-1), .int .i64 0, .bool false, .int .i64 0] 54)).heap.size) hbo zx (by simp))
          have h0 := Rw.new (w2.alloc (.cells (madeCells #[.int .i64 0, .int .i64 0, .bool false, .slice none 0 0] (n * 4)) 88)) 54 #[.int .i64 d, .int .i64 b, .int .i64 m, .slice (some ⟨w2.heap.size, 0, none⟩) n n, .int .i64 (-1), .int .i64 0, .bool false, .int .i64 0]
          rw [World.size_alloc] at h0
          have H0 := Lib.hid h0
          obtain ⟨_, k2, k3, k4⟩ := KP.out _ BX.out
          have K2 := Lib.hid k2
          have K3 := Lib.hid k3
          have K4 := Lib.hid k4
          have hq := Lib.hid (show w1.heap.size ≤ w2.heap.size ∧ w2.heap.size < ((w2.alloc (.cells (madeCells #[.int .i64 0, .int .i64 0, .bool false, .slice none 0 0] (n * 4)) 88)).alloc (.cells #[.int .i64 d, .int .i64 b, .int .i64 m, .slice (some ⟨w2.heap.size, 0, none⟩) n n, .int .i64 (-1), .int .i64 0, .bool false, .int .i64 0] 54)).heap.size ∧ w1.heap.size ≤ w2.heap.size + 1 ∧ w2.heap.size + 1 < ((w2.alloc (.cells (madeCells #[.int .i64 0, .int .i64 0, .bool false, .slice none 0 0] (n * 4)) 88)).alloc (.cells #[.int .i64 d, .int .i64 b, .int .i64 m, .slice (some ⟨w2.heap.size, 0, none⟩) n n, .int .i64 (-1), .int .i64 0, .bool false, .int .i64 0] 54)).heap.size ∧ w2.heap.size ≠ w2.heap.size + 1 from ⟨zx, by simp <;> omega, by omega, by simp <;> omega, by omega⟩)
          exact ⟨w2.heap.size, w2.heap.size + 1, rfl, HBO, K2, K3, H0, K4, hq⟩
      · go_wp2_with fail
        go_meet
        case rel =>
          have BX := Lib.hid (show Below w1.heap.size w1 ((w2.alloc (.cells #[.int .i64 d, .int .i64 b, .int .i64 m, .slice (some ⟨w2.heap.size + 1, 0, none⟩) n n, .int .i64 (-1), .int .i64 0, .bool false, .int .i64 0] 54)).alloc (.cells (madeCells #[.int .i64 0, .int .i64 0, .bool false, .slice none 0 0] (n * 4)) 88)) from (X1.alloc zx _).alloc (by simp; omega) _)
          have hbo := MKB.out (w2.alloc (.cells #[.int .i64 d, .int .i64 b, .int .i64 m, .slice (some ⟨w2.heap.size + 1, 0, none⟩) n n, .int .i64 (-1), .int .i64 0, .bool false, .int .i64 0] 54))
          rw [World.size_alloc w2] at hbo
          have HBO := Lib.hid (BO.wide (lo' := w1.heap.size) (hi' := ((w2.alloc (.cells #[.int .i64 d, .int .i64 b, .int .i64 m, .slice (some ⟨w2.heap.size + 1, 0, none⟩) n n, .int .i64 (-1), .int .i64 0, .bool false, .int .i64 0] 54)).alloc (.cells (madeCells #[.int .i64 0, .int .i64 0, .bool false, .slice none 0 0] (n * 4)) 88)).heap.size) hbo (by omega) (by simp))
          have h0 := (Rw.new w2 54 #[.int .i64 d, .int .i64 b, .int .i64 m, .slice (some ⟨w2.heap.size + 1, 0, none⟩) n n, .int .i64 (-1), .int .i64 0, .bool false, .int .i64 0]).alloc (.cells (madeCells #[.int .i64 0, .int .i64 0, .bool false, .slice none 0 0] (n * 4)) 88)
          have H0 := Lib.hid h0
          obtain ⟨_, k2, k3, k4⟩ := KP.out _ BX.out
          have K2 := Lib.hid k2
          have K3 := Lib.hid k3
          have K4 := Lib.hid k4
          have hq := Lib.hid (show w1.heap.size ≤ w2.heap.size + 1 ∧ w2.heap.size + 1 < ((w2.alloc (.cells #[.int .i64 d, .int .i64 b, .int .i64 m, .slice (some ⟨w2.heap.size + 1, 0, none⟩) n n, .int .i64 (-1), .int .i64 0, .bool false, .int .i64 0] 54)).alloc (.cells (madeCells #[.int .i64 0, .int .i64 0, .bool false, .slice none 0 0] (n * 4)) 88)).heap.size ∧ w1.heap.size ≤ w2.heap.size ∧ w2.heap.size < ((w2.alloc (.cells #[.int .i64 d, .int .i64 b, .int .i64 m, .slice (some ⟨w2.heap.size + 1, 0, none⟩) n n, .int .i64 (-1), .int .i64 0, .bool false, .int .i64 0] 54)).alloc (.cells (madeCells #[.int .i64 0, .int .i64 0, .bool false, .slice none 0 0] (n * 4)) 88)).heap.size ∧ w2.heap.size + 1 ≠ w2.heap.size from ⟨by omega, by simp <;> omega, by omega, by simp <;> omega, by omega⟩)
          exact ⟨w2.heap.size + 1, w2.heap.size, rfl, HBO, K2, K3, H0, K4, hq⟩
      · go_wp2_with fail
        go_meet
        case rel =>
          have h0 := (RZ2.out.alloc (.cells (madeCells #[.int .i64 0, .int .i64 0, .bool false, .slice none 0 0] (n * 4)) 88)).put8 (.int .i64 d) (.int .i64 b) (.int .i64 m) (.slice (some ⟨w2.heap.size, 0, none⟩) n n) (.int .i64 (-1)) (.int .i64 0) (.bool false) (.int .i64 0)
          have hbo := MKB.out w2
          have bx : Below w1.heap.size w1 (w2.alloc (.cells (madeCells #[.int .i64 0, .int .i64 0, .bool false, .slice none 0 0] (n * 4)) 88)) := X1.alloc zx _
          have hsz : (w2.alloc (.cells (madeCells #[.int .i64 0, .int .i64 0, .bool false, .slice none 0 0] (n * 4)) 88)).heap.size = w2.heap.size + 1 := by simp
          generalize w2.alloc (.cells (madeCells #[.int .i64 0, .int .i64 0, .bool false, .slice none 0 0] (n * 4)) 88) = w3 at *
          have bx4 : Below w1.heap.size w1 ((((((((w3.setCell ⟨w1.heap.size, 0, none⟩ (.int .i64 d)).setCell ⟨w1.heap.size, 1, none⟩ (.int .i64 b)).setCell ⟨w1.heap.size, 2, none⟩ (.int .i64 m)).setCell ⟨w1.heap.size, 3, none⟩ (.slice (some ⟨w2.heap.size, 0, none⟩) n n)).setCell ⟨w1.heap.size, 4, none⟩ (.int .i64 (-1))).setCell ⟨w1.heap.size, 5, none⟩ (.int .i64 0)).setCell ⟨w1.heap.size, 6, none⟩ (.bool false)).setCell ⟨w1.heap.size, 7, none⟩ (.int .i64 0)) := bset (bset (bset (bset (bset (bset (bset (bset bx (Nat.le_refl _) _) (Nat.le_refl _) _) (Nat.le_refl _) _) (Nat.le_refl _) _) (Nat.le_refl _) _) (Nat.le_refl _) _) (Nat.le_refl _) _) (Nat.le_refl _) _
          have hl4 : w1.heap.size < w2.heap.size := by omega
          have s4 : Same w2.heap.size (w2.heap.size + 1) w3 ((((((((w3.setCell ⟨w1.heap.size, 0, none⟩ (.int .i64 d)).setCell ⟨w1.heap.size, 1, none⟩ (.int .i64 b)).setCell ⟨w1.heap.size, 2, none⟩ (.int .i64 m)).setCell ⟨w1.heap.size, 3, none⟩ (.slice (some ⟨w2.heap.size, 0, none⟩) n n)).setCell ⟨w1.heap.size, 4, none⟩ (.int .i64 (-1))).setCell ⟨w1.heap.size, 5, none⟩ (.int .i64 0)).setCell ⟨w1.heap.size, 6, none⟩ (.bool false)).setCell ⟨w1.heap.size, 7, none⟩ (.int .i64 0)) := sset (sset (sset (sset (sset (sset (sset (sset (Same.refl _ _ _) (.inl hl4) _) (.inl hl4) _) (.inl hl4) _) (.inl hl4) _) (.inl hl4) _) (.inl hl4) _) (.inl hl4) _) (.inl hl4) _
          have hz4 : (((((((((w3.setCell ⟨w1.heap.size, 0, none⟩ (.int .i64 d)).setCell ⟨w1.heap.size, 1, none⟩ (.int .i64 b)).setCell ⟨w1.heap.size, 2, none⟩ (.int .i64 m)).setCell ⟨w1.heap.size, 3, none⟩ (.slice (some ⟨w2.heap.size, 0, none⟩) n n)).setCell ⟨w1.heap.size, 4, none⟩ (.int .i64 (-1))).setCell ⟨w1.heap.size, 5, none⟩ (.int .i64 0)).setCell ⟨w1.heap.size, 6, none⟩ (.bool false)).setCell ⟨w1.heap.size, 7, none⟩ (.int .i64 0))).heap.size = w2.heap.size + 1 := by simp only [World.size_setCell]; exact hsz
          generalize ((((((((w3.setCell ⟨w1.heap.size, 0, none⟩ (.int .i64 d)).setCell ⟨w1.heap.size, 1, none⟩ (.int .i64 b)).setCell ⟨w1.heap.size, 2, none⟩ (.int .i64 m)).setCell ⟨w1.heap.size, 3, none⟩ (.slice (some ⟨w2.heap.size, 0, none⟩) n n)).setCell ⟨w1.heap.size, 4, none⟩ (.int .i64 (-1))).setCell ⟨w1.heap.size, 5, none⟩ (.int .i64 0)).setCell ⟨w1.heap.size, 6, none⟩ (.bool false)).setCell ⟨w1.heap.size, 7, none⟩ (.int .i64 0)) = w4 at *
          have H0 := Lib.hid h0
          have HBO := Lib.hid (BO.wide (lo' := w1.heap.size) (hi' := w4.heap.size) (hbo.same s4) (by omega) (by omega))
          obtain ⟨_, k2, k3, k4⟩ := KP.out _ bx4
          have K2 := Lib.hid k2
          have K3 := Lib.hid k3
          have K4 := Lib.hid k4
          have hq := Lib.hid (show w1.heap.size ≤ w2.heap.size ∧ w2.heap.size < w4.heap.size ∧ w1.heap.size ≤ w1.heap.size ∧ w1.heap.size < w4.heap.size ∧ w2.heap.size ≠ w1.heap.size from ⟨by omega, by omega, by omega, by omega, by omega⟩)
          exact ⟨w2.heap.size, w1.heap.size, rfl, HBO, K2, K3, H0, K4, hq⟩
    case rest =>
      obtain ⟨gb, gf, rfl, BO0, S0, S1, RF, BB, HGG0⟩ := hcut
      obtain ⟨z, hz⟩ : ∃ z, z = wc.heap.size := ⟨_, rfl⟩
      have HGG := Lib.hid (show w1.heap.size ≤ gb ∧ gb < z ∧ w1.heap.size ≤ gf ∧ gf < z ∧ gb ≠ gf from by rw [hz]; exact HGG0.out)
      have hzz : z ≤ wc.heap.size := Nat.le_of_eq hz
      clear HGG0 KP HT MKB hz hb0
      have ff := RF.out.cell 3
      change _ = some (Value.slice (some ⟨gb, 0, none⟩) n n) at ff
      go_wp2
      clear ff
      go_loopw [18] (fun i wr => ∃ (k : Nat) (pv : Nat → Value), k ≤ n ∧ i = .int .i64 k ∧ Hid (BO wr w1.heap.size wr.heap.size gb pv (List.replicate k (newBlk m) ++ List.replicate (n - k) Blk.zero)) ∧ Hid (Rw wr w.heap.size 51 #[.int .i64 d, .int .i64 b, .int .i64 m]) ∧ Hid (Rw wr (w.heap.size + 1) 54 #[.int .i64 0, .int .i64 0, .int .i64 0, .slice none 0 0, .int .i64 0, .int .i64 0, .bool false, .int .i64 0]) ∧
        Hid (Rw wr gf 54 #[.int .i64 d, .int .i64 b, .int .i64 m, .slice (some ⟨gb, 0, none⟩) n n, .int .i64 (-1), .int .i64 0, .bool false, .int .i64 0]) ∧ Hid (Below w.heap.size w wr) ∧ z ≤ wr.heap.size) (fun i _ => n - (intOf i).toNat)
      case atStart => exact ⟨0, _, by omega, rfl, by simpa using BO0, S0, S1, RF, BB, hzz⟩
      case round =>
        clear BO0 S0 S1 RF BB hzz R0 R1 B1
        obtain ⟨k, pv, hk, rfl, BO0, S0, S1, RF, BB, hzz⟩ := hrel
        by_cases hlt : k < n
        · have hki : (k : Int) < (n : Int) := by omega
          have hlen : (List.replicate k (newBlk m) ++ List.replicate (n - k) Blk.zero).length = n := by simp; omega
          have h5 := BO0.out.row k (by rw [hlen]; exact hlt)
          have hgf := HGG.out
          obtain ⟨d0, d1, d2, d3⟩ := h5
          have hd3 : ∀ o, (wr.alloc o).cell? ⟨gb, k * 4 + 3, none⟩ = some (pv k) := fun o => (World.cell?_alloc_lt _ _ _ (by show gb < _; omega)).trans d3
          have hf3 : ∀ o, (wr.alloc o).frozen? ⟨gb, k * 4 + 3, none⟩ = false := fun o => ((BO0.out.same (sm ((Below.refl wr.heap.size wr).alloc (Nat.le_refl _) o) _ (Nat.le_refl _))).free _)
          have pg0 := PgOwn.made wr m gb (by omega) (by omega) 9
          have e : (newBlk m).pg = List.replicate m ByteArray.empty := by simp [newBlk]
          rw [← e] at pg0
          have PG := Lib.hid pg0
          have hst := Lib.hid (((BO0.out.same (sm ((Below.refl wr.heap.size wr).alloc (Nat.le_refl _) (.cells (madeCells #[.string ByteArray.empty] m) 9)) w1.heap.size (Nat.le_refl _))).fillPg (by rw [hlen]; exact hlt) (newBlk m).pg _ PG.out (Nat.le_succ _)))
          rw [get_new n k _ hlt] at hst
          have HST := hst
          clear hst d0 d1 d2 d3 pg0 e
          go_wp2_with fail
          refine wp_region_held_drew (S := fun W => Rw W w.heap.size 51 #[.int .i64 d, .int .i64 b, .int .i64 m] ∧ Rw W gf 54 #[.int .i64 d, .int .i64 b, .int .i64 m, .slice (some ⟨gb, 0, none⟩) n n, .int .i64 (-1), .int .i64 0, .bool false, .int .i64 0]) (by kernel_rfl) ⟨S0.out, RF.out⟩ (fun hHeld => ?_)
          have hbm : k < n := hlt
          refine wpAnyH_take (i := 0) (oi := _) (v := .pointer (some ⟨gf, 3, none⟩)) rfl (by kernel_rfl) (by kernel_rfl) (by kernel_rfl) (fun _ _ _ h => h) (Or.inl ⟨by rfl, fun W hSw => by go_simp⟩) hHeld ?_
          refine wpAnyH_take (i := 1) (oi := _) (v := .slice (some ⟨gb, 0, none⟩) n n) rfl (by kernel_rfl) (by kernel_rfl) (by kernel_rfl) (fun _ _ _ h => h) (Or.inl ⟨by rfl, fun W hSw => by obtain ⟨q0, q1, q2, q3, q4, q5, q6, q7⟩ := hSw.2.eight; go_simp⟩) hHeld ?_
          refine wpAnyH_take (i := 2) (oi := _) (v := .int .i64 (k : Int)) rfl (by kernel_rfl) (by kernel_rfl) (by kernel_rfl) (fun _ _ _ h => h) (Or.inl ⟨by rfl, fun W hSw => by go_simp⟩) hHeld ?_
          refine wpAnyH_take (i := 3) (oi := _) (v := .pointer (some ⟨w.heap.size, 2, none⟩)) rfl (by kernel_rfl) (by kernel_rfl) (by kernel_rfl) (fun _ _ _ h => h) (Or.inl ⟨by rfl, fun W hSw => by go_simp⟩) hHeld ?_
          refine wpAnyH_take (i := 4) (oi := _) (v := .int .i64 (m : Int)) rfl (by kernel_rfl) (by kernel_rfl) (by kernel_rfl) (fun _ _ _ h => h) (Or.inl ⟨by rfl, fun W hSw => by obtain ⟨q0, q1, q2⟩ := hSw.1.three; go_simp⟩) hHeld ?_
          clear hbm
          refine wpAnyH_ready (rs := [5]) (by kernel_rfl) (by simp) ?_
          refine AllReadyH.cons (o := _) rfl (fun K hK => ?_) AllReadyH.nil
          go_simp
          refine hK.out _ _ ⟨S0.out.alloc _, RF.out.alloc _⟩ (fun hHeld => ?_)
          clear hK K
          refine wpAnyH_ready (rs := [6]) (by kernel_rfl) (by simp) ?_
          refine AllReadyH.cons (o := _) rfl (fun K hK => ?_) AllReadyH.nil
          have hkn1 : (k : Int) ≤ 36 := by omega
          go_simp
          refine hK.out _ _ ⟨S0.out.alloc _, RF.out.alloc _⟩ (fun hHeld => ?_)
          clear hK K
          refine wpAnyH_ready (rs := [7]) (by kernel_rfl) (by simp) ?_
          refine AllReadyH.cons (o := _) rfl (fun K hK => ?_) AllReadyH.nil
          go_simp
          refine hK.out _ _ ⟨S0.out.alloc _, RF.out.alloc _⟩ (fun hHeld => ?_)
          clear hK K
          refine wpAnyH_ready (rs := [8]) (by kernel_rfl) (by simp) ?_
          refine AllReadyH.cons (o := _) rfl (fun K hK => ?_) AllReadyH.nil
          go_simp
          refine hK.out _ _ ⟨(S0.out.alloc _).farA (by omega) _, (RF.out.alloc _).farA (by omega) _⟩ (fun hHeld => ?_)
          clear hK K
          refine wpAnyH_done (by kernel_rfl) ?_ _
          clear hHeld hd3 hf3
          go_wp2
          go_roundw
          case rel =>
            have hbo := HST.out
            rw [set_new' n k m hlt] at hbo
            have hbo2 := (hbo.wide (hi' := ((wr.alloc (.cells (madeCells #[.string ByteArray.empty] m) 9)).setCell ⟨gb, k * 4 + 3, none⟩ (.slice (some ⟨wr.heap.size, 0, none⟩) m m)).heap.size) (Nat.le_refl _) (by simp)).same (w' := ((wr.alloc (.cells (madeCells #[.string ByteArray.empty] m) 9)).setCell ⟨gb, k * 4 + 3, none⟩ (.slice (some ⟨wr.heap.size, 0, none⟩) m m)).drew) (fun _ _ _ => rfl)
            exact ⟨k + 1, _, by omega, by go_num, Lib.hid hbo2, Lib.hid ((S0.out.alloc _).farA (by omega) _), Lib.hid ((S1.out.alloc _).farA (by omega) _), Lib.hid ((RF.out.alloc _).farA (by omega) _), Lib.hid (bset (BB.out.alloc (by omega) _) (by omega) _).drew, by simp; omega⟩
          case measure => simp [intOf]; omega
        · obtain rfl : k = n := by omega
          obtain ⟨f0, f1, f2, f3, f4, f5, f6, f7⟩ := RF.out.eight
          obtain ⟨fo0, fo1, fo2, fo3, fo4, fo5, fo6, fo7⟩ := S1.out.frees
          obtain ⟨o0, o1, o2, o3, o4, o5, o6, o7⟩ := S1.out.eight
          have hgf := HGG.out
          clear hmk hmb HV
          go_wp2
          refine bodyPost_ret (results_row_tmp Try.results44 _ _ _ _ _ _ _ rfl (S1.out.put8 _ _ _ _ _ _ _ _) Try.underlying54 rfl infoFl8N) rfl ⟨_, rfl, ⟨_, rfl, ?_⟩, ?_⟩
          · have hbo := BO0.out
            rw [Nat.sub_self, List.replicate_zero, List.append_nil, show List.replicate k (newBlk m) = (newFl d b m).bs from by simp only [newFl, hn, Int.toNat_natCast]; rfl] at hbo
            refine ⟨_, _, _, rfl, Nat.le_refl _, by omega, by simp [newFl, hn], fun _ => ⟨gb, pv, rfl, ?_⟩⟩
            refine (hbo.same ?_).wide (by omega) (by simp)
            repeat refine sset ?_ (.inl (by omega)) _
            exact Same.refl _ _ _
          · repeat refine bset ?_ (by omega) _
            exact BB.out
end Go.Proofs.Ytbehoeabnomlaaa
