/- The proof's own lemmas, part 33: TpN FlP WkPt. -/
import Derived.Test.YthenilomgbnpeaaGreatDoorMg29
import Derived.Test.YthenilomgbnpeaaGreatDoorMg31
import Derived.Test.YthenilomgbnpeaaGreatDoorProg
import Derived.Test.YthenilomgbnpeaaGreatDoorMg18
import Derived.Test.YthenilomgbnpeaaGreatDoorMg13
import Derived.Test.YthenilomgbnpeaaGreatDoorMg0
import Derived.Test.YthenilomgbnpeaaGreatDoorMg3
/- Plain facts: what an interrupted program operation leaves, page by page. -/
namespace Go.Proofs.YthenilomgbnpeaaGreatDoor
open Go.RowKit
set_option linter.unusedVariables false
/-- A program operation on an array whose fuse is armed: refused, or begun and cut. -/
theorem cutp_codes {F : Fl} {block page : Int} {raw : ByteArray} {G : Fl} {c : Int} (h : ProgEnds F block page raw G c) (hok : FlOk F) (hoff : F.off = false) (hf : F.fu = 0) (hr : raw.size = 91) :
    (c = 8 ∧ ∃ k n : Nat, block = k ∧ page = n ∧ k < F.bs.length ∧ (n : Int) < F.p ∧ (F.blk k).bad = false ∧ (F.blk k).nx = n ∧ G = F.prog k raw) ∨ (c ≠ 8 ∧ c ≠ 0) := by
  rcases h with h | ⟨_, _, h1⟩ | _ | _ | _ | ⟨_, _, h1, k, n, hk, hn, hkl, hnp, h2, h3⟩
  · rcases h with h | h
    · exact absurd hok h
    · exact absurd hr h
  · rw [h1] at hoff; cases hoff
  · exact .inr ⟨by omega, by omega⟩
  · exact .inr ⟨by omega, by omega⟩
  · exact .inr ⟨by omega, by omega⟩
  · exact .inl ⟨by unfold Fl.code; rw [if_pos hf], k, n, hk, hn, hkl, by omega, h2, by omega, rfl⟩
/-- The lower page of a pair. -/
def pairLow (n : Nat) : Nat := if n % 2 = 1 then n - 1 else n
theorem pairLow_le (n : Nat) : pairLow n ≤ n := by unfold pairLow; split <;> omega
/-- What the interrupted page holds when the power is back. -/
def cutPage (raw : ByteArray) (ke : Int) : ByteArray := if ke = 0 then erasedB else tornB raw ke.toNat
theorem cutPage_size {raw : ByteArray} (hr : raw.size = 91) {ke : Int} (hke : 0 ≤ ke ∧ ke ≤ 91) : (cutPage raw ke).size = 91 := by
  unfold cutPage; split
  · exact erasedB_size
  · exact tornB_size hr (by omega)
theorem cutPage_shut {raw : ByteArray} (hr : raw.size = 91) {ke : Int} (hke : 0 ≤ ke ∧ ke ≤ 90) : Shut (cutPage raw ke) := by
  unfold cutPage; split
  · exact shut_erased
  · exact shut_torn hr (by omega)
theorem cutPage_all {raw : ByteArray} (hr : raw.size = 91) : cutPage raw 91 = raw := by
  unfold cutPage; rw [if_neg (by decide)]; exact tornB_all hr
section
variable {F : Fl} {k n : Nat} {ke : Int} {raw : ByteArray}
theorem cutp_facts (h : FlOk F) (ho : 0 ≤ F.op ∧ F.op ≤ 1000) (hoff : F.off = false) (hke : 0 ≤ ke ∧ ke ≤ 91) (hk : k < F.bs.length) (hnp : (n : Int) < F.p) (hn : (F.blk k).nx = n) (hb : (F.blk k).bad = false) (hr : raw.size = 91) :
    let G := F.arm 0 ke
    let X := G.prog k raw
    FlOk X ∧ X.off = true ∧ X.bs.length = F.bs.length ∧ X.ke = ke ∧ FlOk X.on ∧ OthEq X.bs G.bs k (pairLow n) n ∧ ReadEnds X.on k n (cutPage raw ke) 0 ∧ ReadEnds X k n ⟨#[]⟩ 8 ∧ X.on.off = false := by
  intro G X
  have hg := h.arm0 (ke := ke) hke
  have hx : FlOk X := hg.prog (k := k) (show F.op < 9223372036854775807 by omega) hk (show (F.blk k).nx < F.p by omega) hr
  have hpl := h.plen hk
  have hXe : X = if ke = 0 then G.tick else G.tick.upd k ((F.blk k).torn raw ke) := by
    show G.prog k raw = _
    unfold Fl.prog
    rw [if_pos (show G.fu = 0 from rfl)]
    rfl
  have hoffX : X.off = true := by
    rw [hXe]; split <;> (show (if G.fu = 0 then true else G.off) = true; rw [if_pos (show G.fu = 0 from rfl)])
  have hlX : X.bs.length = F.bs.length := by
    rw [hXe]; split
    · rfl
    · show (F.bs.set k _).length = _; rw [List.length_set]
  have hkX : X.ke = ke := by rw [hXe]; split <;> rfl
  have hpX : X.p = F.p := by rw [hXe]; split <;> rfl
  refine ⟨hx, hoffX, hlX, hkX, hx.on, ?_, ?_, .off hx hoffX, rfl⟩
  · by_cases h0 : ke = 0
    · rw [hXe, if_pos h0]
      exact ⟨rfl, fun i hi => ⟨rfl, fun t ht hc => rfl⟩⟩
    · rw [hXe, if_neg h0]
      show OthEq (F.bs.set k ((F.blk k).torn raw ke)) F.bs k (pairLow n) n
      have hpl2 := pairLow_le n
      refine othSet _ hk ?_ fun t ht hc => ?_
      · show (List.set (if _ then _ else _) _ _).length = _
        rw [List.length_set]; split
        · rw [List.length_set]; rfl
        · rfl
      · show (List.set (if (F.blk k).nx.toNat % 2 = 1 ∧ ke < 91 then _ else _) (F.blk k).nx.toNat _).getD t _ = _
        rw [hn, show ((n : Int)).toNat = n by omega]
        rw [getD_set_ne _ _ _ _ _ (by omega)]
        by_cases hod : n % 2 = 1 ∧ ke < 91
        · rw [if_pos hod]
          have : pairLow n = n - 1 := by unfold pairLow; rw [if_pos hod.1]
          rw [getD_set_ne _ _ _ _ _ (by omega)]
          rfl
        · rw [if_neg hod]
          rfl
  · have hkon : X.on.bs.length = F.bs.length := hlX
    have hnp' : (n : Int) < X.on.p := by show (n : Int) < X.p; omega
    by_cases h0 : ke = 0
    · have hbl : X.on.blk k = F.blk k := by
        show X.bs.getD k Blk.zero = _
        rw [hXe, if_pos h0]; rfl
      have hem : (X.on.blk k).at n = ByteArray.empty := by
        rw [hbl]
        have hbo := h.2.2.1 k hk
        have := hbo.2.2.2 n (by omega)
        have h4 : PageOk (F.blk k).nx n ((F.blk k).at n) := this
        rcases h4 with h4 | ⟨_, h4⟩
        · exact ByteArray.size_eq_zero_iff.1 h4
        · omega
      have := ReadEnds.empty (block := k) (page := n) hx.on rfl k n rfl rfl (by omega) hnp' hem
      unfold cutPage
      rw [if_pos h0]
      exact this
    · have hbl : X.on.blk k = (F.blk k).torn raw ke := by
        show X.bs.getD k Blk.zero = _
        rw [hXe, if_neg h0]
        show (F.bs.set k _).getD k Blk.zero = _
        rw [getD_set_eq _ _ _ _ hk]
      have hat : (X.on.blk k).at n = tornB raw ke.toNat := by
        rw [hbl]
        show (List.set (if (F.blk k).nx.toNat % 2 = 1 ∧ ke < 91 then _ else _) (F.blk k).nx.toNat _).getD n _ = _
        rw [hn, show ((n : Int)).toNat = n by omega]
        rw [getD_set_eq]
        split
        · rw [List.length_set]; omega
        · omega
      have hne : (X.on.blk k).at n ≠ ByteArray.empty := by rw [hat]; exact not_empty (tornB_size hr (by omega))
      have := ReadEnds.full (block := k) (page := n) hx.on rfl k n rfl rfl (by omega) hnp' hne
      rw [hat] at this
      unfold cutPage
      rw [if_neg h0]
      exact this
end
end Go.Proofs.YthenilomgbnpeaaGreatDoor
/- PowerOn and ArmFuse, in the model and in the program: the contracts. -/
namespace Go.Proofs.YthenilomgbnpeaaGreatDoor
open Go.RowKit
set_option linter.unusedVariables false
set_option maxHeartbeats 1000000 in
theorem implOn_any (v : Value) (F G : Fl) (w : World) (lo hi : Nat) (h : FlIn w lo hi v F) (hh : hi ≤ w.heap.size) (hG : OnEnds F G) (hl : FlLen F) :
    Calls Tryz.prog 13 #[v] w (OwnPost G w) := by
  obtain ⟨r, hr⟩ := prop_dec (FlOk F)
  obtain ⟨u, rfl, hb⟩ := h
  have hv : ∀ W : World, BksIn W lo hi u F.bs → FlIn W lo hi (.agg (flc F u)) F := fun W a => ⟨u, rfl, a⟩
  have HV := Lib.hid (fun (W : World) (a : BksIn W lo hi u F.bs) (c : hi ≤ W.heap.size) => implValid_any (.agg (flc F u)) F r W lo hi (hv W a) c hr hl)
  have HO := Lib.hid (fun (hok : FlOk F) (W : World) (a : BksIn W lo hi u F.bs) (c : hi ≤ W.heap.size) => clone_any (.agg (flc F u)) F W lo hi (hv W a) c hok)
  have H := Lib.hid hb
  obtain ⟨Au, nu, cu, rfl⟩ := hb.slice
  clear hb hv hl
  obtain ⟨d, b, p, bs, fu, ke, off, op⟩ := F
  unfold flc at *
  simp only at *
  obtain ⟨r0, r1, b0⟩ := Rw.two_new w 28 28 #[.int .i64 d, .int .i64 b, .int .i64 p, .slice Au nu cu, .int .i64 fu, .int .i64 ke, .bool off, .int .i64 op]
    #[.int .i64 0, .int .i64 0, .int .i64 0, .slice none 0 0, .int .i64 0, .int .i64 0, .bool false, .int .i64 0]
  have R0 := Lib.hid r0
  have R1 := Lib.hid r1
  have B0 := Lib.hid b0
  clear r0 r1 b0
  have HG := Lib.hid hG
  clear hG
  go_enter Tryz.func13, Tryz.ntmps13
  go_wp2_with fail
  refine (HV.out _ (H.out.same (sm B0.out lo hh)) (by simp; omega)).mono ?_
  rintro e w1 ⟨rfl, b1⟩
  have S0 := Lib.hid (R0.out.below b1 (by simp; omega))
  have S1 := Lib.hid (R1.out.below b1 (by simp))
  have B1 := Lib.hid (B0.out.trans (b1.mono (by simp; omega)))
  have hsz1 := b1.size
  simp only [World.size_alloc] at hsz1
  obtain ⟨a0, a1, a2, a3, a4, a5, a6, a7⟩ := S0.out.eight
  obtain ⟨z0, z1, z2, z3, z4, z5, z6, z7⟩ := S1.out.eight
  obtain ⟨fz0, fz1, fz2, fz3, fz4, fz5, fz6, fz7⟩ := S1.out.frees
  clear b1
  rcases HG.out with ⟨hok, rfl⟩ | ⟨hno, rfl⟩
  · obtain rfl : r = true := hr.2 hok
    have HO2 := Lib.hid (HO.out hok)
    clear hr hok HO
    go_wp2_with fail
    refine (HO2.out _ (H.out.same (sm B1.out lo hh)) (by omega)).mono ?_
    rintro e w2 ⟨u2, rfl, ho, b2⟩
    obtain ⟨uu, rfl, ho⟩ := ho
    obtain ⟨A2, n2, c2, rfl⟩ := ho.slice
    have T1 := Lib.hid (S1.out.below b2 (by omega))
    have B2 := Lib.hid (B1.out.trans (b2.mono (by omega)))
    have HO3 := Lib.hid ho
    have hsz2 := b2.size
    clear z0 z1 z2 z3 z4 z5 z6 z7 fz0 fz1 fz2 fz3 fz4 fz5 fz6 fz7 b2
    obtain ⟨z0, z1, z2, z3, z4, z5, z6, z7⟩ := T1.out.eightA
    obtain ⟨fz0, fz1, fz2, fz3, fz4, fz5, fz6, fz7⟩ := T1.out.freesA
    unfold flc
    simp only
    go_wp2
    refine bodyPost_ret (results_cell_row Tryz.results13 _ _ _ _ #[.int .i64 d, .int .i64 b, .int .i64 p, .slice A2 n2 c2, .int .i64 (-1), .int .i64 ke, .bool false, .int .i64 op] _ _ rfl
      ((T1.out.alloc _).put8 _ _ _ _ _ _ _ _) Tryz.underlying28 rfl infoFl8) rfl ?_
    refine ⟨_, rfl, ⟨_, rfl, (HO3.out.same ?_).wide (by omega) (by simp)⟩, ?_⟩
    · repeat refine sset ?_ (.inl (by omega)) _
      exact sm ((Below.refl _ _).alloc (Nat.le_refl _) _) _ (Nat.le_refl _)
    · repeat refine bset ?_ (by omega) _
      exact B2.out.alloc B2.out.size _
  · obtain rfl : r = false := (bool_of r hr).2 hno
    clear hr hno HO
    go_wp2
    refine bodyPost_ret (results_cell_row Tryz.results13 _ _ _ _ #[.int .i64 0, .int .i64 0, .int .i64 0, .slice none 0 0, .int .i64 0, .int .i64 0, .bool false, .int .i64 0] _ _ rfl
      (S1.out.put8 _ _ _ _ _ _ _ _) Tryz.underlying28 rfl infoFl8) rfl ?_
    refine ⟨_, rfl, zeroOwn _ _ _, ?_⟩
    repeat refine bset ?_ (by omega) _
    exact B1.out
set_option maxHeartbeats 1000000 in
theorem implArm_any (v : Value) (fuse keep : Int) (F G : Fl) (c : Int) (w : World) (lo hi : Nat) (h : FlIn w lo hi v F) (hh : hi ≤ w.heap.size) (hG : ArmEnds F fuse keep G c) (hl : FlLen F) :
    Calls Tryz.prog 6 #[v, .int .i64 fuse, .int .i64 keep] w (FlPost G c w) := by
  obtain ⟨r, hr⟩ := prop_dec (FlOk F)
  obtain ⟨u, rfl, hb⟩ := h
  have hv : ∀ W : World, BksIn W lo hi u F.bs → FlIn W lo hi (.agg (flc F u)) F := fun W a => ⟨u, rfl, a⟩
  have HV := Lib.hid (fun (W : World) (a : BksIn W lo hi u F.bs) (c : hi ≤ W.heap.size) => implValid_any (.agg (flc F u)) F r W lo hi (hv W a) c hr hl)
  have HO := Lib.hid (fun (hok : FlOk F) (W : World) (a : BksIn W lo hi u F.bs) (c : hi ≤ W.heap.size) => clone_any (.agg (flc F u)) F W lo hi (hv W a) c hok)
  have H := Lib.hid hb
  obtain ⟨Au, nu, cu, rfl⟩ := hb.slice
  clear hb hv hl
  obtain ⟨d, b, p, bs, fu, ke, off, op⟩ := F
  unfold flc at *
  simp only at *
  obtain ⟨r0, r1, b0⟩ := Rw.two_new w 28 28 #[.int .i64 d, .int .i64 b, .int .i64 p, .slice Au nu cu, .int .i64 fu, .int .i64 ke, .bool off, .int .i64 op]
    #[.int .i64 0, .int .i64 0, .int .i64 0, .slice none 0 0, .int .i64 0, .int .i64 0, .bool false, .int .i64 0]
  have R0 := Lib.hid r0
  have R1 := Lib.hid r1
  have B0 := Lib.hid b0
  clear r0 r1 b0
  have HG := Lib.hid hG
  clear hG
  go_enter Tryz.func6, Tryz.ntmps6
  go_wp2_with fail
  refine (HV.out _ (H.out.same (sm B0.out lo hh)) (by simp; omega)).mono ?_
  rintro e w1 ⟨rfl, b1⟩
  have S0 := Lib.hid (R0.out.below b1 (by simp; omega))
  have S1 := Lib.hid (R1.out.below b1 (by simp))
  have B1 := Lib.hid (B0.out.trans (b1.mono (by simp; omega)))
  have hsz1 := b1.size
  simp only [World.size_alloc] at hsz1
  obtain ⟨a0, a1, a2, a3, a4, a5, a6, a7⟩ := S0.out.eight
  obtain ⟨z0, z1, z2, z3, z4, z5, z6, z7⟩ := S1.out.eight
  obtain ⟨fz0, fz1, fz2, fz3, fz4, fz5, fz6, fz7⟩ := S1.out.frees
  clear b1
  have ZERO : Hid (∀ c : Int, FlPost Fl.zero c w (.returned (.tuple #[.agg #[.int .i64 0, .int .i64 0, .int .i64 0, .slice none 0 0, .int .i64 0, .int .i64 0, .bool false, .int .i64 0], .int .i64 c])) ((((((((w1.setCell ⟨w.heap.size + 1, 0, none⟩ (.int .i64 0)).setCell ⟨w.heap.size + 1, 1, none⟩ (.int .i64 0)).setCell ⟨w.heap.size + 1, 2, none⟩ (.int .i64 0)).setCell ⟨w.heap.size + 1, 3, none⟩ (.slice none 0 0)).setCell ⟨w.heap.size + 1, 4, none⟩ (.int .i64 0)).setCell ⟨w.heap.size + 1, 5, none⟩ (.int .i64 0)).setCell ⟨w.heap.size + 1, 6, none⟩ (.bool false)).setCell ⟨w.heap.size + 1, 7, none⟩ (.int .i64 0))) := Lib.hid (fun c => by
    refine ⟨_, rfl, zeroOwn _ _ _, ?_⟩
    repeat refine bset ?_ (by omega) _
    exact B1.out)
  rcases HG.out with hno | ⟨hok, ho⟩ | ⟨hok, ho, hrg⟩ | ⟨hok, ho, h2, h3⟩
  · obtain rfl : r = false := (bool_of r hr).2 hno
    clear hr hno HO
    go_wp2
    exact bodyPost_ret (results_row_tmp Tryz.results6 _ _ _ _ #[.int .i64 0, .int .i64 0, .int .i64 0, .slice none 0 0, .int .i64 0, .int .i64 0, .bool false, .int .i64 0] _ _ rfl
      (S1.out.put8 _ _ _ _ _ _ _ _) Tryz.underlying28 rfl infoFl8) rfl (ZERO.out 1)
  · obtain rfl : r = true := hr.2 hok
    simp only at ho
    subst ho
    clear hr hok HO
    go_wp2
    exact bodyPost_ret (results_row_tmp Tryz.results6 _ _ _ _ #[.int .i64 0, .int .i64 0, .int .i64 0, .slice none 0 0, .int .i64 0, .int .i64 0, .bool false, .int .i64 0] _ _ rfl
      (S1.out.put8 _ _ _ _ _ _ _ _) Tryz.underlying28 rfl infoFl8) rfl (ZERO.out 8)
  · obtain rfl : r = true := hr.2 hok
    simp only at ho
    subst ho
    clear hr hok HO
    by_cases g1 : -1 ≤ fuse ∧ fuse ≤ 1000000
    · have g2 : ¬ (0 ≤ keep ∧ keep ≤ 91) := by
        rcases hrg with q | q
        · exact absurd g1 q
        · exact q
      have K1 := Lib.hid (fun (W : World) => validFuse_any fuse true W (by simp; omega))
      have K2 := Lib.hid (fun (W : World) => validKeep_any keep false W (by simp; omega))
      clear hrg g1 g2
      go_wp2_with fail
      refine (K1.out _).mono ?_
      rintro e w2 ⟨rfl, rfl⟩
      go_wp2_with fail
      refine (K2.out _).mono ?_
      rintro e w2 ⟨rfl, rfl⟩
      go_wp2
      exact bodyPost_ret (results_row_tmp Tryz.results6 _ _ _ _ #[.int .i64 0, .int .i64 0, .int .i64 0, .slice none 0 0, .int .i64 0, .int .i64 0, .bool false, .int .i64 0] _ _ rfl
        (S1.out.put8 _ _ _ _ _ _ _ _) Tryz.underlying28 rfl infoFl8) rfl (ZERO.out 2)
    · have K1 := Lib.hid (fun (W : World) => validFuse_any fuse false W (by simp; omega))
      clear hrg g1
      go_wp2_with fail
      refine (K1.out _).mono ?_
      rintro e w2 ⟨rfl, rfl⟩
      go_wp2
      exact bodyPost_ret (results_row_tmp Tryz.results6 _ _ _ _ #[.int .i64 0, .int .i64 0, .int .i64 0, .slice none 0 0, .int .i64 0, .int .i64 0, .bool false, .int .i64 0] _ _ rfl
        (S1.out.put8 _ _ _ _ _ _ _ _) Tryz.underlying28 rfl infoFl8) rfl (ZERO.out 2)
  · obtain rfl : r = true := hr.2 hok
    simp only at ho
    subst ho
    have HO2 := Lib.hid (HO.out hok)
    have K1 := Lib.hid (fun (W : World) => validFuse_any fuse true W (by simp; omega))
    have K2 := Lib.hid (fun (W : World) => validKeep_any keep true W (by simp; omega))
    clear hr hok HO ZERO h2 h3
    go_wp2_with fail
    refine (K1.out _).mono ?_
    rintro e w2 ⟨rfl, rfl⟩
    go_wp2_with fail
    refine (K2.out _).mono ?_
    rintro e w2 ⟨rfl, rfl⟩
    go_wp2_with fail
    refine (HO2.out _ (H.out.same (sm B1.out lo hh)) (by omega)).mono ?_
    rintro e w2 ⟨u2, rfl, ho, b2⟩
    obtain ⟨uu, rfl, ho⟩ := ho
    obtain ⟨A2, n2, c2, rfl⟩ := ho.slice
    have T1 := Lib.hid (S1.out.below b2 (by omega))
    have B2 := Lib.hid (B1.out.trans (b2.mono (by omega)))
    have HO3 := Lib.hid ho
    have hsz2 := b2.size
    clear z0 z1 z2 z3 z4 z5 z6 z7 fz0 fz1 fz2 fz3 fz4 fz5 fz6 fz7 b2
    obtain ⟨z0, z1, z2, z3, z4, z5, z6, z7⟩ := T1.out.eightA
    obtain ⟨fz0, fz1, fz2, fz3, fz4, fz5, fz6, fz7⟩ := T1.out.freesA
    unfold flc
    simp only
    go_wp2
    refine bodyPost_ret (results_row_tmp Tryz.results6 _ _ _ _ #[.int .i64 d, .int .i64 b, .int .i64 p, .slice A2 n2 c2, .int .i64 fuse, .int .i64 keep, .bool false, .int .i64 op] _ _ rfl
      ((T1.out.alloc _).put8 _ _ _ _ _ _ _ _) Tryz.underlying28 rfl infoFl8) rfl ?_
    refine ⟨_, rfl, ⟨_, rfl, (HO3.out.same ?_).wide (by omega) (by simp)⟩, ?_⟩
    · repeat refine sset ?_ (.inl (by omega)) _
      exact sm ((Below.refl _ _).alloc (Nat.le_refl _) _) _ (Nat.le_refl _)
    · repeat refine bset ?_ (by omega) _
      exact B2.out.alloc B2.out.size _
end Go.Proofs.YthenilomgbnpeaaGreatDoor
/- A page that was torn, erased or destroyed: the walk. -/
namespace Go.Proofs.YthenilomgbnpeaaGreatDoor
open Go.RowKit
set_option linter.unusedVariables false
end Go.Proofs.YthenilomgbnpeaaGreatDoor
