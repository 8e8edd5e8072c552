/- The proof's own lemmas, part 21: FlT FlEr DrN SrcK. -/
import Derived.Test.YthenilomgbnpeaaGreatDoorProg
import Derived.Test.YthenilomgbnpeaaGreatDoorMg19
import Derived.Test.YthenilomgbnpeaaGreatDoorMg17
import Derived.Test.YthenilomgbnpeaaGreatDoorMg16
import Derived.Lib.SliceRun
import Derived.BigFrame
import Derived.Test.YthenilomgbnpeaaGreatDoorMg1
import Derived.Test.YthenilomgbnpeaaGreatDoorMg12
import Derived.Test.YthenilomgbnpeaaGreatDoorMg3
/- Programming a page, by the model: the contracts. -/
namespace Go.Proofs.YthenilomgbnpeaaGreatDoor
open Go.RowKit
set_option linter.unusedVariables false
theorem same_drew (lo hi : Nat) (w : World) : Same lo hi w w.drew := fun _ _ _ => rfl
theorem Keep.drew {lo hi : Nat} {w w' : World} (h : Keep lo hi w w') : Keep lo hi w w'.drew := ⟨h.1.drew, fun j a b => h.2 j a b⟩
theorem spBlock_any (d b p fu ke op : Int) (off : Bool) (A : Option Addr) (n c : Nat) (block : Int) (r : Bool) (w : World) (hn : n ≤ 1000) (hr : r = true ↔ (0 ≤ block ∧ block < (n : Int))) :
    Calls Tryz.prog 98 #[.agg #[.int .i64 d, .int .i64 b, .int .i64 p, .slice A n c, .int .i64 fu, .int .i64 ke, .bool off, .int .i64 op], .int .i64 block] w fun e w' => e = .returned (.bool r) ∧ Below w.heap.size w w' := by
  have hni : (n : Int) ≤ 1000 := by omega
  have HI := Lib.hid (fun (W : World) => inr_any block 0 ((n : Int) - 1) W)
  have HB := Lib.hid ((Below.refl w.heap.size w).alloc (Nat.le_refl _) (.cells #[.int .i64 d, .int .i64 b, .int .i64 p, .slice A n c, .int .i64 fu, .int .i64 ke, .bool off, .int .i64 op] 28))
  go_enter Tryz.func98, Tryz.ntmps98
  go_wp2_with fail
  refine (HI.out _).mono ?_
  rintro e w' ⟨rfl, rfl⟩
  go_wp2
  go_ret
  exact ⟨ret_bool (by rw [Bool.eq_iff_iff, hr]; simp; omega), HB.out⟩
theorem spPage_any (d b p fu ke op : Int) (off : Bool) (A : Option Addr) (n c : Nat) (block page : Int) (r : Bool) (w : World) (hn : n ≤ 1000) (hp : 0 ≤ p ∧ p ≤ 1000) (hr : r = true ↔ ((0 ≤ block ∧ block < (n : Int)) ∧ (0 ≤ page ∧ page < p))) :
    Calls Tryz.prog 100 #[.agg #[.int .i64 d, .int .i64 b, .int .i64 p, .slice A n c, .int .i64 fu, .int .i64 ke, .bool off, .int .i64 op], .int .i64 block, .int .i64 page] w fun e w' => e = .returned (.bool r) ∧ Below w.heap.size w w' := by
  have HI := Lib.hid (fun (W : World) => inr_any page 0 (p - 1) W)
  have HB := Lib.hid ((Below.refl w.heap.size w).alloc (Nat.le_refl _) (.cells #[.int .i64 d, .int .i64 b, .int .i64 p, .slice A n c, .int .i64 fu, .int .i64 ke, .bool off, .int .i64 op] 28))
  have R0 := Lib.hid (Rw.new w 28 #[.int .i64 d, .int .i64 b, .int .i64 p, .slice A n c, .int .i64 fu, .int .i64 ke, .bool off, .int .i64 op])
  by_cases hb : 0 ≤ block ∧ block < (n : Int)
  · have HK := Lib.hid (fun (W : World) => spBlock_any d b p fu ke op off A n c block true W hn (by simp [hb]))
    go_enter Tryz.func100, Tryz.ntmps100
    go_wp2_with fail
    refine (HK.out _).mono ?_
    rintro e w1 ⟨rfl, b1⟩
    have HB1 := Lib.hid (HB.out.trans (b1.mono (by simp)))
    obtain ⟨a0, a1, a2, a3, a4, a5, a6, a7⟩ := (R0.out.below b1 (by simp)).eight
    clear b1
    go_wp2_with fail
    refine (HI.out _).mono ?_
    rintro e w' ⟨rfl, rfl⟩
    go_wp2
    go_ret
    exact ⟨ret_bool (by rw [Bool.eq_iff_iff, hr]; simp [hb]; omega), HB1.out⟩
  · have HK := Lib.hid (fun (W : World) => spBlock_any d b p fu ke op off A n c block false W hn (by simp [hb]))
    go_enter Tryz.func100, Tryz.ntmps100
    go_wp2_with fail
    refine (HK.out _).mono ?_
    rintro e w1 ⟨rfl, b1⟩
    have HB1 := Lib.hid (HB.out.trans (b1.mono (by simp)))
    clear b1
    go_wp2
    go_ret
    exact ⟨ret_bool (by rw [Bool.eq_iff_iff, hr]; simp [hb]), HB1.out⟩
set_option maxRecDepth 100000 in
theorem spProg_any (w : World) (lo hi g : Nat) (F : Fl) (u : Value) (k : Nat) (raw : ByteArray) (hR : Rw w g 28 (flc F u)) (hB : BksOwn w lo hi u F.bs) (hg : hi ≤ g) (hlo : lo ≤ hi) (hok : FlOk F) (hr : raw.size = 91)
    (hk : k < F.bs.length) (hnx : (F.blk k).nx < F.p) :
    Calls Tryz.prog 101 #[.pointer (some ⟨g, 0, none⟩), .int .i64 k, .string raw] w (InPost lo hi g u (F.prog k raw) F.code w) := by
  have hn8 := hok.len
  have hRg := hR
  obtain ⟨A, n, cap, rfl, hlc, hcm, hlen, hA⟩ := hB
  rw [hlen] at hn8
  have hnm : (n : Int) ≤ 36 := by omega
  obtain ⟨gb, pv, rfl, hbo⟩ := hA (by omega)
  have hgl := hR.lt
  have hpl := hok.plen (i := k) (by omega)
  have hbk := hok.2.2.1 k (by omega)
  have hki : (k : Int) < (n : Int) := by omega
  have hS := Lib.hid (tick_any g F (.slice (some ⟨gb, 0, none⟩) n cap) w hRg hok.2.2.2.1)
  obtain ⟨c0, c1, c2, c3, c4, c5, c6, c7⟩ := hR.eight
  have HD := Lib.hid (And.intro (prog_bs (F := F) (k := k) (raw := raw) (by omega) hr) (prog_flc F k raw (.slice (some ⟨gb, 0, none⟩) n cap)))
  have HLL := Lib.hid (show (F.bs.set k ((F.blk k).takes raw F.much)).length = n by rw [List.length_set]; exact hlen)
  have HBO := Lib.hid (hbo.self (k := k) (by omega))
  have HK := Lib.hid hk
  obtain ⟨b, off, pcap, hv, hv1, hv2⟩ := hbo.somePg (k := k) (by omega) (by show 0 < (F.blk k).pg.length; omega)
  have HV := Lib.hid hv
  have hke := hok.2.2.2.2.1
  have hlow := hbo.low
  have hhigh := hbo.high
  obtain ⟨hn0, hn1⟩ := hbk.2.1
  change Hid (BO w lo hi gb pv (F.bs.set k (F.blk k))) at HBO
  change (F.blk k).pg.length ≤ pcap at hv1
  change Hid (pv k = .slice (some ⟨b, off, none⟩) (F.blk k).pg.length pcap) at HV
  have HTK := Lib.hid (show F.tick.ke = F.ke from rfl)
  clear hA hR hRg hlen hbo hv hok hbk
  by_cases hf : F.fu = 0
  · rw [show decide (F.fu = 0) = true by simp [hf]] at hS
    have hmu : F.much = F.ke := by unfold Fl.much; rw [if_pos hf]
    have hco : F.code = 8 := by unfold Fl.code; rw [if_pos hf]
    rw [hco]
    rw [hmu] at HD HLL
    have hxx : ∀ u, (flc F.tick u)[5]? = some (.int .i64 F.ke) := fun u => rfl
    have HXX := Lib.hid hxx
    generalize F.prog k raw = G' at *
    generalize F.blk k = y at *
    generalize F.ke = ke at *
    obtain ⟨er, nx, bad, pg⟩ := y
    simp only at hpl hnx hn0 hn1 hv1 HV
    obtain ⟨p, rfl⟩ := Int.eq_ofNat_of_zero_le hn0
    obtain ⟨P, hP⟩ : ∃ P, P = pg.length := ⟨_, rfl⟩
    rw [← hP] at hpl hv1 HV
    have hpP : (p : Int) < (P : Int) := by omega
    have hP16 : (P : Int) ≤ 16 := by omega
    clear hpl
    obtain ⟨kk, rfl⟩ := Int.eq_ofNat_of_zero_le hke.1
    have hk91 : kk ≤ 91 := by omega
    clear hf hco hP hnx hn1 hmu hxx hke HTK
    by_cases hz : kk = 0
    · subst hz
      go_enter Tryz.func101, Tryz.ntmps101
      go_wp2_with fail
      refine hS.out.mono ?_
      rintro e w1 ⟨rfl, r1, gr1⟩
      have k3 : w1.cell? ⟨g, 3, none⟩ = some (.slice (some ⟨gb, 0, none⟩) n cap) := r1.cell 3
      have k5 : w1.cell? ⟨g, 5, none⟩ = some (.int .i64 ((0 : Nat) : Int)) := (r1.cell 5).trans (HXX.out _)
      have s1 := gr1.size
      have O1 := Lib.hid (HBO.out.same (same_grown gr1 hg (by omega)))
      have hb1 := Lib.hid (grown_keep gr1 (B := lo) (by omega) (by omega))
      have R1 := Lib.hid r1
      clear r1 gr1 c0 c1 c2 c3 c4 c5 c6 c7
      go_wp2
      go_ret
      refine ⟨rfl, hb1.out, fun _ => ⟨?_, ?_⟩⟩
      · rw [HD.out.2]; exact R1.out
      · exact ⟨_, n, cap, rfl, hlc, hcm, by rw [HD.out.1]; exact HLL.out, fun _ => ⟨gb, pv, rfl, by rw [HD.out.1]; exact O1.out⟩⟩
    · have hz' : (((kk : Int)) == 0) = false := by simp; omega
      have HTO := Lib.hid (fun (W : World) => torn_any raw kk W hr hk91)
      have HTS := Lib.hid (tornB_size (k := kk) hr hk91)
      generalize htt : tornB raw kk = t at *
      have HTT := Lib.hid htt
      clear htt
      have hd := Lib.hid (fun (W : World) => specDestroyed_any W)
      go_enter Tryz.func101, Tryz.ntmps101
      go_wp2_with fail
      refine hS.out.mono ?_
      rintro e w1 ⟨rfl, r1, gr1⟩
      have k3 : w1.cell? ⟨g, 3, none⟩ = some (.slice (some ⟨gb, 0, none⟩) n cap) := r1.cell 3
      have k5 : w1.cell? ⟨g, 5, none⟩ = some (.int .i64 (kk : Int)) := (r1.cell 5).trans (HXX.out _)
      have s1 := gr1.size
      have O1 := Lib.hid (HBO.out.same (same_grown gr1 hg (by omega)))
      have hb1 := Lib.hid (grown_keep gr1 (B := lo) (by omega) (by omega))
      have R1 := Lib.hid r1
      obtain ⟨q0, q1, q2, q3⟩ := O1.out.cells HK.out
      rw [HV.out] at q3
      simp only at q0 q1 q2
      obtain ⟨e0, e1, e2, e3, e4⟩ := O1.out.pageS HK.out HV.out (t := p) (by omega)
      have hbg : b ≠ g := by omega
      clear r1 gr1 c0 c1 c2 c3 c4 c5 c6 c7
      go_wp2
      go_region_held3 (fun W => W.cell? ⟨gb, k * 4 + 3, none⟩ = some (.slice (some ⟨b, off, none⟩) P pcap) ∧ W.cell? ⟨gb, k * 4 + 1, none⟩ = some (.int .i64 (p : Int)) ∧ W.cell? ⟨g, 5, none⟩ = some (.int .i64 (kk : Int)))
        (first
          | exact ⟨q3, q1, k5⟩
          | exact ⟨q3', q1', k5'⟩
          | exact ⟨(World.cell?_setCell_other _ _ _ _ (addr_ne fun e => absurd e e4)).trans q3', (World.cell?_setCell_other _ _ _ _ (addr_ne fun e => absurd e e4)).trans q1', (World.cell?_setCell_other _ _ _ _ (addr_ne fun e => absurd e hbg)).trans k5'⟩)
        (first
          | (go_at_call 46
             refine (HTO.out _).mono ?_
             rintro e w2 ⟨rfl, hb0⟩
             have hb2 : Below w1.heap.size w1 w2 := (Below.refl w1.heap.size w1).drew.trans hb0
             have e0' := (hb2.cell (p := ⟨b, off + p, none⟩) (by show b < _; omega)).trans e0
             have e1' := (hb2.frozen (p := ⟨b, off + p, none⟩) (by show b < _; omega)).trans e1
             have q3' := (hb2.cell (p := ⟨gb, k * 4 + 3, none⟩) (by show gb < _; omega)).trans q3
             have q1' := (hb2.cell (p := ⟨gb, k * 4 + 1, none⟩) (by show gb < _; omega)).trans q1
             have k5' := (hb2.cell (p := ⟨g, 5, none⟩) (by show g < _; omega)).trans k5))
      have O2 := Lib.hid ((O1.out.same (sm hb2 lo (by omega))).storePgS HK.out HV.out (t := p) (by omega) t (by have := HTS.out; omega))
      have K2 := Lib.hid (((Keep.refl lo hi w1).call hb2 (by omega)).set_ (g := b) (k := off + p) e2 e3 (.string t))
      have k5x := (K2.out.2 g hg R1.out.lt)
      have R2 := Lib.hid (R1.out.kept K2.out hg)
      generalize w2.setCell ⟨b, off + p, none⟩ (.string t) = w3 at *
      have k5 : w3.cell? ⟨g, 5, none⟩ = some (.int .i64 (kk : Int)) := (R2.out.cell 5).trans (HXX.out _)
      obtain ⟨u0, u1, u2, u3⟩ := O2.out.cells HK.out
      simp only [Blk.pages] at u1
      rw [HV.out] at u3
      have v1 := O2.out.free (k * 4 + 1)
      clear q0 q1 q2 q3 k3 e0 e1 u0 u2 e0' e1' q3' q1' k5' k5x
      by_cases hodd : kk < 91 ∧ p % 2 = 1
      · obtain ⟨hk9, hp2⟩ := hodd
        have hk9i : (kk : Int) < 91 := by omega
        have hp2i : (p : Int) % 2 = 1 := by omega
        obtain ⟨m, hm⟩ : ∃ m, m = p - 1 := ⟨_, rfl⟩
        obtain ⟨e0, e1, e2', e3', _⟩ := O2.out.pageS HK.out HV.out (t := m) (by omega)
        have i2 : (m : Int) < (P : Int) := by omega
        have i4 : IntKind.i64.wrap ((p : Int) - 1) = (m : Int) := by rw [IntWalk.i64_in _ (by omega)]; omega
        have HM := Lib.hid hm
        have s3 := K2.out.size
        clear hm
        go_wp2
        go_region_held3 (fun W => W.cell? ⟨gb, k * 4 + 3, none⟩ = some (.slice (some ⟨b, off, none⟩) P pcap) ∧ W.cell? ⟨gb, k * 4 + 1, none⟩ = some (.int .i64 (p : Int)))
          (first
            | exact ⟨u3, u1⟩
            | exact ⟨u3', u1'⟩
            | exact ⟨(World.cell?_setCell_other _ _ _ _ (addr_ne fun e => absurd e e4)).trans u3', (World.cell?_setCell_other _ _ _ _ (addr_ne fun e => absurd e e4)).trans u1'⟩)
          (first
            | (go_at_call 113
               refine (hd.out _).mono ?_
               rintro e w4 ⟨rfl, hb0⟩
               have hb4 : Below w3.heap.size w3 w4 := (Below.refl w3.heap.size w3).drew.trans hb0
               have e0' := (hb4.cell (p := ⟨b, off + m, none⟩) (by show b < _; omega)).trans e0
               have e1' := (hb4.frozen (p := ⟨b, off + m, none⟩) (by show b < _; omega)).trans e1
               have u3' := (hb4.cell (p := ⟨gb, k * 4 + 3, none⟩) (by show gb < _; omega)).trans u3
               have u1' := (hb4.cell (p := ⟨gb, k * 4 + 1, none⟩) (by show gb < _; omega)).trans u1))
        have O4 := Lib.hid ((O2.out.same (sm hb4 lo (by omega))).storePgS HK.out HV.out (t := m) (by omega) (fillB 0 91) (by rw [fillB_size]; omega))
        have K4 := Lib.hid ((K2.out.call hb4 (by omega)).set_ (g := b) (k := off + m) e2 e3 (.string (fillB 0 91)))
        generalize w4.setCell ⟨b, off + m, none⟩ (.string (fillB 0 91)) = w5 at *
        obtain ⟨t0, t1, t2, t3⟩ := O4.out.cells HK.out
        simp only [Blk.pages] at t1
        have x1 := O4.out.free (k * 4 + 1)
        clear u1 u3 v1 e0 e1 e0' e1' u3' u1' t0 t2 t3
        go_wp2
        go_ret
        have O5 := O4.out.storeS (c := 1) HK.out (.int .i64 ((p : Int) + 1)) (.inr (.inl ⟨rfl, _, rfl⟩))
        have K5 := K4.out.set_ (g := gb) (k := k * 4 + 1) hlow hhigh (.int .i64 ((p : Int) + 1))
        have e9 : Blk.takes ⟨er, (p : Int), bad, pg⟩ raw (kk : Int) = (((Blk.mk er (p : Int) bad pg).pages (pg.set p t)).pages ((pg.set p t).set m (fillB 0 91))).put 1 (.int .i64 ((p : Int) + 1)) := by
          unfold Blk.takes Blk.torn
          rw [if_neg (by omega)]
          rw [if_pos ⟨by simp only [Int.toNat_natCast]; exact hp2, hk9i⟩]
          simp only [Int.toNat_natCast] at *
          rw [HTT.out, ← HM.out, List.set_comm _ _ (by have := HM.out; omega)]; rfl
        refine ⟨rfl, hb1.out.trans K5.1, fun _ => ⟨?_, ?_⟩⟩
        · rw [HD.out.2]; exact R1.out.kept K5 hg
        · exact ⟨_, n, cap, rfl, hlc, hcm, by rw [HD.out.1]; exact HLL.out, fun _ => ⟨gb, pv, rfl, by rw [HD.out.1, e9]; exact O5⟩⟩
      · have e9 : Blk.takes ⟨er, (p : Int), bad, pg⟩ raw (kk : Int) = ((Blk.mk er (p : Int) bad pg).pages (pg.set p t)).put 1 (.int .i64 ((p : Int) + 1)) := by
          unfold Blk.takes Blk.torn
          rw [if_neg (by omega)]
          rw [if_neg (fun hc => hodd ⟨by have := hc.2; omega, by have := hc.1; simp only [Int.toNat_natCast] at this; exact this⟩)]
          simp only [Int.toNat_natCast] at *
          rw [HTT.out]; rfl
        have HE9 := Lib.hid e9
        have O5 := Lib.hid (O2.out.storeS (c := 1) HK.out (.int .i64 ((p : Int) + 1)) (.inr (.inl ⟨rfl, _, rfl⟩)))
        have K5 := Lib.hid (K2.out.set_ (g := gb) (k := k * 4 + 1) hlow hhigh (.int .i64 ((p : Int) + 1)))
        have FIN : Hid (InPost lo hi g (.slice (some ⟨gb, 0, none⟩) n cap) G' 8 w (.returned (.int .i64 8)) (w3.setCell ⟨gb, k * 4 + 1, none⟩ (.int .i64 ((p : Int) + 1)))) := Lib.hid (by
          refine ⟨rfl, hb1.out.trans K5.out.1, fun _ => ⟨?_, ?_⟩⟩
          · rw [HD.out.2]; exact R1.out.kept K5.out hg
          · exact ⟨_, n, cap, rfl, hlc, hcm, by rw [HD.out.1]; exact HLL.out, fun _ => ⟨gb, pv, rfl, by rw [HD.out.1, HE9.out]; exact O5.out⟩⟩)
        clear e9 HE9 O5 K5
        by_cases hp2 : p % 2 = 1
        · have hp2i : (p : Int) % 2 = 1 := by omega
          have hk9i : ¬ (kk : Int) < 91 := by intro a; exact hodd ⟨by omega, hp2⟩
          clear hodd
          go_wp2
          go_ret
          exact FIN.out
        · have hp2i : ((p : Int) % 2 == 1) = false := by simp; omega
          clear hodd
          go_wp2
          go_ret
          exact FIN.out
  · rw [show decide (F.fu = 0) = false by simp [hf]] at hS
    have HTT := Lib.hid (show (F.blk k).takes raw F.much = (F.blk k).prog raw from by unfold Blk.takes Fl.much; rw [if_neg hf, if_neg (by decide), Blk.torn_whole hr])
    have hco : F.code = 0 := by unfold Fl.code; rw [if_neg hf]
    rw [hco]
    rw [HTT.out] at HD HLL
    generalize F.prog k raw = G' at *
    generalize F.blk k = y at *
    obtain ⟨er, nx, bad, pg⟩ := y
    simp only at hpl hnx hn0 hn1 hv1 HV
    obtain ⟨p, rfl⟩ := Int.eq_ofNat_of_zero_le hn0
    obtain ⟨P, hP⟩ : ∃ P, P = pg.length := ⟨_, rfl⟩
    rw [← hP] at hpl hv1 HV
    have hpP : (p : Int) < (P : Int) := by omega
    have hP16 : (P : Int) ≤ 16 := by omega
    clear hpl
    clear hf hco hP hnx hn1
    go_enter Tryz.func101, Tryz.ntmps101
    go_wp2_with fail
    refine hS.out.mono ?_
    rintro e w1 ⟨rfl, r1, gr1⟩
    have k3 : w1.cell? ⟨g, 3, none⟩ = some (.slice (some ⟨gb, 0, none⟩) n cap) := r1.cell 3
    have s1 := gr1.size
    have O1 := Lib.hid (HBO.out.same (same_grown gr1 hg (by omega)))
    have hb1 := Lib.hid (grown_keep gr1 (B := lo) (by omega) (by omega))
    have R1 := Lib.hid r1
    obtain ⟨q0, q1, q2, q3⟩ := O1.out.cells HK.out
    rw [HV.out] at q3
    simp only at q0 q1 q2
    obtain ⟨e0, e1, e2, e3, e4⟩ := O1.out.pageS HK.out HV.out (t := p) (by omega)
    clear r1 gr1 c0 c1 c2 c3 c4 c5 c6 c7
    go_wp2
    go_region
    have O2 := Lib.hid ((O1.out.storePgS HK.out HV.out (t := p) (by omega) raw (by omega)).same (same_drew lo hi _))
    have K2 := Lib.hid ((Keep.refl lo hi w1).set_ (g := b) (k := off + p) e2 e3 (.string raw)).drew
    generalize (w1.setCell ⟨b, off + p, none⟩ (.string raw)).drew = w2 at *
    obtain ⟨u0, u1, u2, u3⟩ := O2.out.cells HK.out
    simp only [Blk.pages] at u1
    have v1 := O2.out.free (k * 4 + 1)
    clear q0 q1 q2 q3 k3 e0 e1 u0 u2 u3
    go_wp2
    go_ret
    have O3 := O2.out.storeS (c := 1) HK.out (.int .i64 ((p : Int) + 1)) (.inr (.inl ⟨rfl, _, rfl⟩))
    have K3 := K2.out.set_ (g := gb) (k := k * 4 + 1) hlow hhigh (.int .i64 ((p : Int) + 1))
    refine ⟨rfl, hb1.out.trans K3.1, fun _ => ⟨?_, ?_⟩⟩
    · rw [HD.out.2]; exact R1.out.kept K3 hg
    · exact ⟨_, n, cap, rfl, hlc, hcm, by rw [HD.out.1]; exact HLL.out, fun _ => ⟨gb, pv, rfl, by rw [HD.out.1]; exact O3⟩⟩
end Go.Proofs.YthenilomgbnpeaaGreatDoor
/- Erasing a block, in the model and in the program: the contracts. -/
namespace Go.Proofs.YthenilomgbnpeaaGreatDoor
open Go.RowKit
set_option linter.unusedVariables false
theorem emptied_zero (l : List ByteArray) : emptied l 0 = l := by simp [emptied]
theorem emptied_step (l : List ByteArray) (t : Nat) (h : t < l.length) : (emptied l t).set t ByteArray.empty = emptied l (t + 1) := by
  unfold emptied
  rw [Nat.min_eq_left (by omega), Nat.min_eq_left (by omega), List.set_append_right _ _ (by simp), List.length_replicate, Nat.sub_self, List.drop_eq_getElem_cons h, List.set_cons_zero, List.replicate_succ', List.append_assoc]; rfl
theorem emptied_min (l : List ByteArray) (m : Nat) : emptied l (min m l.length) = emptied l m := by
  unfold emptied
  rcases Nat.le_total m l.length with h | h
  · rw [Nat.min_eq_left h, Nat.min_eq_left h]
  · rw [Nat.min_eq_right h, Nat.min_self, List.drop_eq_nil_of_le h, List.drop_eq_nil_of_le (Nat.le_refl _)]
theorem bo_clear {g k b off n cap : Nat} {lo hi : Nat} {pv : Nat → Value} {L : List Blk} {a : Blk} (hk : k < L.length) (hv : pv k = .slice (some ⟨b, off, none⟩) n cap) (hn : a.pg.length = n) :
    ∀ (m t : Nat) (w : World), t + m ≤ n → BO w lo hi g pv (L.set k (a.pages (emptied a.pg t))) → BO (w.setCells b (off + t) (List.replicate m (.string ByteArray.empty))) lo hi g pv (L.set k (a.pages (emptied a.pg (t + m))))
  | 0, t, w, _, h => h
  | m + 1, t, w, hm, h => by
    have h1 := h.storePgS hk hv (t := t) (by omega) ByteArray.empty (by show 0 ≤ _; omega)
    have e : (a.pages (emptied a.pg t)).pages ((a.pages (emptied a.pg t)).pg.set t ByteArray.empty) = a.pages (emptied a.pg (t + 1)) := by
      show a.pages ((emptied a.pg t).set t ByteArray.empty) = _
      rw [emptied_step _ _ (by omega)]
    rw [e] at h1
    have h2 := bo_clear hk hv hn m (t + 1) _ (by omega) h1
    rw [show t + (m + 1) = t + 1 + m by omega]
    exact h2
theorem bo_clear0 {w : World} {g k b off n cap : Nat} {lo hi : Nat} {pv : Nat → Value} {L : List Blk} {a : Blk} (h : BO w lo hi g pv (L.set k a)) (hk : k < L.length) (hv : pv k = .slice (some ⟨b, off, none⟩) n cap) (hn : a.pg.length = n) (m : Nat) (hm : m ≤ n) :
    BO (w.setCells b off (List.replicate m (.string ByteArray.empty))) lo hi g pv (L.set k (a.pages (emptied a.pg m))) := by
  have := bo_clear (a := a) hk hv hn m 0 w (by omega) (by rw [emptied_zero]; exact h)
  rwa [Nat.zero_add] at this
theorem Keep.sets {lo hi b : Nat} {w0 : World} (h1 : lo ≤ b) (h2 : b < hi) : ∀ (vs : List Value) (o : Nat) (w : World), Keep lo hi w0 w → Keep lo hi w0 (w.setCells b o vs)
  | [], _, _, h => h
  | v :: vs, o, w, h => Keep.sets h1 h2 vs (o + 1) _ (h.set_ h1 h2 v)
theorem zeroStr (w : World) : (zeroValue 9).run Tryz.prog w = .ok (.string ByteArray.empty) w := by kernel_rfl
/-- The built-in clear over the first m pages of a block. -/
theorem run_clear_pages {w : World} {g k b off n cap lo hi : Nat} {pv : Nat → Value} {L : List Blk} {a : Blk} (h : BO w lo hi g pv (L.set k a)) (hk : k < L.length) (hv : pv k = .slice (some ⟨b, off, none⟩) n cap) (m : Nat) (hm : m ≤ n) (ty : TypeId) :
    (Builtin.clear_ #[49] ty #[.slice (some ⟨b, off, none⟩) m cap]).run Tryz.prog w = .ok (.tuple #[]) (w.setCells b off (List.replicate m (.string ByteArray.empty))) := by
  rcases Nat.eq_zero_or_pos m with h0 | h0
  · subst h0
    simp [Builtin.clear_, run_underlying Tryz.underlying49, World.setCells]
  · exact Lib.run_clear_slice w 49 9 ty (.string ByteArray.empty) Tryz.underlying49 zeroStr rfl rfl b off m cap h0
      (fun j hj => by rw [(h.pageS hk hv (t := j) (by omega)).1]; rfl) (fun j hj => (h.pageS hk hv (t := j) (by omega)).2.1)
theorem erase_bs (F : Fl) (k : Nat) : (F.erase k).bs = F.bs.set k ((F.blk k).erase F.much.toNat) := by
  have e : (if F.fu = 0 then F.ke.toNat else 91) = F.much.toNat := by unfold Fl.much; split <;> rfl
  show F.bs.set k ((F.blk k).erase (if F.fu = 0 then F.ke.toNat else 91)) = _
  rw [e]
theorem EraEnds.codes {F : Fl} {block : Int} {G : Fl} {c : Int} (h : EraEnds F block G c) (hn : ¬ (c = 0 ∨ c = 8)) : G = Fl.zero := by
  rcases h with _ | _ | _ | _ | _
  · rfl
  · exact absurd (.inr rfl) hn
  · rfl
  · rfl
  · exact absurd (by unfold Fl.code; split <;> simp) hn
end Go.Proofs.YthenilomgbnpeaaGreatDoor
/- Plain facts: the shape of a generated array, and what each operation keeps of it; how facts about memory pass a choice. -/
namespace Go.Proofs.YthenilomgbnpeaaGreatDoor
open Go.RowKit
set_option linter.unusedVariables false
/-- A generated array: its geometry, its blocks and pages, how many operations it has seen. -/
def Shape (F : Fl) (K : Nat) : Prop := ((2 ≤ F.d ∧ F.d ≤ 3) ∧ (4 ≤ F.b ∧ F.b ≤ 5) ∧ (F.p = 8 ∨ F.p = 16)) ∧ (F.bs.length : Int) = F.d * F.b ∧ (∀ i, i < F.bs.length → ((F.blk i).pg.length : Int) = F.p) ∧ (0 ≤ F.op ∧ F.op ≤ K)
theorem Shape.geo {F : Fl} {K : Nat} (h : Shape F K) : GeoOk F.d F.b F.p := ⟨h.1.1, ⟨h.1.2.1.1, by have := h.1.2.1.2; omega⟩, h.1.2.2⟩
theorem Shape.len {F : Fl} {K : Nat} (h : Shape F K) : 8 ≤ F.bs.length ∧ F.bs.length ≤ 36 ∧ (F.d = 3 → 12 ≤ F.bs.length) := by
  have h1 := h.geo.mul
  have h2 := h.2.1
  refine ⟨by omega, by omega, fun e => ?_⟩
  rw [e] at h2
  have := h.1.2.1.1
  omega
theorem Shape.plen {F : Fl} {K : Nat} (h : Shape F K) {i : Nat} (hi : i < F.bs.length) : 8 ≤ (F.blk i).pg.length ∧ (F.blk i).pg.length ≤ 16 := by
  have h1 := h.2.2.1 i hi
  have h2 := h.1.2.2
  omega
theorem Shape.lens {F : Fl} {K : Nat} (h : Shape F K) : FlLen F := ⟨by have := h.len; omega, fun i hi => by have := h.plen hi; omega⟩
theorem Shape.more {F : Fl} {K K' : Nat} (h : Shape F K) (hk : K ≤ K') : Shape F K' := ⟨h.1, h.2.1, h.2.2.1, h.2.2.2.1, by have := h.2.2.2.2; omega⟩
theorem Shape.tickOp {F : Fl} {K : Nat} (h : Shape F K) (hK : K ≤ 1000000) : 0 ≤ F.tick.op ∧ F.tick.op ≤ ((K + 1 : Nat) : Int) := by
  have h1 := h.2.2.2
  show 0 ≤ wrap64 (F.op + 1) ∧ wrap64 (F.op + 1) ≤ _
  rw [IntWalk.wrap64_in _ (by omega)]
  omega
theorem takes_len (x : Blk) (raw : ByteArray) (ke : Int) : (x.takes raw ke).pg.length = x.pg.length := by
  unfold Blk.takes Blk.torn
  split
  · rfl
  · simp only [List.length_set]
    split <;> simp
/-- A block replaced by one with as many pages. -/
theorem Shape.set {F G : Fl} {K K' : Nat} (h : Shape F K) (k : Nat) (x : Blk) (hx : x.pg.length = (F.blk k).pg.length) (hd : G.d = F.d) (hb : G.b = F.b) (hp : G.p = F.p) (hs : G.bs = F.bs.set k x) (ho : 0 ≤ G.op ∧ G.op ≤ (K' : Int)) : Shape G K' := by
  refine ⟨by rw [hd, hb, hp]; exact h.1, by rw [hs, hd, hb, List.length_set]; exact h.2.1, fun i hi => ?_, ho⟩
  rw [hs, List.length_set] at hi
  unfold Fl.blk
  rw [hs, hp]
  by_cases e : k = i
  · subst e
    rw [getD_set_eq _ _ _ _ hi, hx]
    exact h.2.2.1 k hi
  · rw [getD_set_ne _ _ _ _ _ e]
    exact h.2.2.1 i hi
theorem prog_geo (F : Fl) (k : Nat) (raw : ByteArray) : (F.prog k raw).d = F.d ∧ (F.prog k raw).b = F.b ∧ (F.prog k raw).p = F.p ∧ (F.prog k raw).op = F.tick.op := by
  unfold Fl.prog
  split
  · split <;> exact ⟨rfl, rfl, rfl, rfl⟩
  · exact ⟨rfl, rfl, rfl, rfl⟩
theorem Shape.prog {F G : Fl} {K : Nat} {block page c : Int} {raw : ByteArray} (h : Shape F K) (hK : K ≤ 1000000) (hG : ProgEnds F block page raw G c) (hc : c = 0 ∨ c = 8) : Shape G (K + 1) := by
  rcases hG with _ | _ | _ | _ | _ | ⟨hok, hr, h1, k, n, hk, hn, hkl, hnp, h2, h3⟩
  · omega
  · exact h.more (by omega)
  · omega
  · omega
  · omega
  · obtain ⟨a, b, c, d⟩ := prog_geo F k raw
    exact h.set k _ (takes_len _ _ _) a b c (prog_bs hkl hr) (by rw [d]; exact h.tickOp hK)
theorem Shape.erase {F G : Fl} {K : Nat} {block c : Int} (h : Shape F K) (hK : K ≤ 1000000) (hG : EraEnds F block G c) (hc : c = 0 ∨ c = 8) : Shape G (K + 1) := by
  rcases hG with _ | _ | _ | _ | ⟨hok, h1, k, hk, hkl, h2, h3⟩
  · omega
  · exact h.more (by omega)
  · omega
  · omega
  · exact h.set k _ (emptied_length _ _) rfl rfl rfl (erase_bs F k) (h.tickOp hK)
theorem Shape.new {d b p : Int} (h : (2 ≤ d ∧ d ≤ 3) ∧ (4 ≤ b ∧ b ≤ 5) ∧ (p = 8 ∨ p = 16)) : Shape (newFl d b p) 0 := by
  have hg : GeoOk d b p := ⟨h.1, ⟨h.2.1.1, by have := h.2.1.2; omega⟩, h.2.2⟩
  have hm := hg.mul
  refine ⟨h, ?_, fun i hi => ?_, by simp [newFl]⟩
  · show ((List.replicate (d * b).toNat _).length : Int) = d * b
    rw [List.length_replicate]; omega
  · have hi' : i < (d * b).toNat := by simpa [newFl] using hi
    show (((List.replicate (d * b).toNat (⟨0, 0, false, List.replicate p.toNat ByteArray.empty⟩ : Blk)).getD i Blk.zero).pg.length : Int) = p
    rw [List.getD_eq_getElem?_getD, List.getElem?_replicate, if_pos hi']
    show ((List.replicate p.toNat ByteArray.empty).length : Int) = p
    rw [List.length_replicate]
    have := h.2.2
    omega
/-! What lies in memory, behind a choice. -/
theorem same_above {w w' : World} {g lo hi : Nat} (h : w.grownBy w' (some g)) (hg : g < lo) (hh : hi ≤ w.heap.size) : Same lo hi w w' := fun j a b => h.block j (by omega) (fun e => by injection e with e; omega)
theorem grown_drewL {w w' : World} {row : Option Nat} (h : w.drew.grownBy w' row) : w.grownBy w' row := ⟨h.os, h.tape, h.output, h.size, h.block⟩
end Go.Proofs.YthenilomgbnpeaaGreatDoor
/- The source of choices and rows of memory, kept through calls and stores. -/
namespace Go.Proofs.YthenilomgbnpeaaGreatDoor
open Go.RowKit
set_option linter.unusedVariables false
theorem grown_out {w w' : World} {g g' k : Nat} (h : w.grownBy w' (some g)) (hg : w.heap.size ≤ g') (u : Value) : w.grownBy (w'.setCell ⟨g', k, none⟩ u) (some g) :=
  ⟨h.os, h.tape, h.output, by simpa using h.size, fun j hj hr => (Below.heap_setCell w' ⟨g', k, none⟩ u j (by show j ≠ g'; omega)).trans (h.block j hj hr)⟩
theorem Src.keepS {w w' : World} {B g n : Nat} (h : Src w B g n) (hs : Same 0 (g + 1) w w') (hz : w.heap.size ≤ w'.heap.size) : Src w' B g n := by
  have hlt := h.lt
  obtain ⟨v, a, s, h1, h2, h3, h4⟩ := h
  exact ⟨v, a, s, (hs g (Nat.zero_le _) (Nat.lt_succ_self _)).trans h1, h2, h3.keep fun b hb' => hs b (Nat.zero_le _) (by omega), h4⟩
theorem Rw.grown {w w' : World} {g g' : Nat} {t : TypeId} {cs : Array Value} (h : Rw w g' t cs) (hg : w.grownBy w' (some g)) (hne : g' ≠ g) : Rw w' g' t cs :=
  (hg.block g' h.lt (fun e => hne (by injection e))).trans h
end Go.Proofs.YthenilomgbnpeaaGreatDoor
