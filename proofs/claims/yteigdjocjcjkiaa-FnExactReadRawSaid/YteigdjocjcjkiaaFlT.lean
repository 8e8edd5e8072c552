/- Programming a page, by the model: the contracts. -/
import Derived.Test.YteigdjocjcjkiaaProg
import Derived.Test.YteigdjocjcjkiaaFlS
import Derived.Test.YteigdjocjcjkiaaFlD
namespace Go.Proofs.Yteigdjocjcjkiaa
open Go.RowKit
set_option linter.unusedVariables false
theorem same_drew (lo hi : Nat) (w : World) : Same lo hi w w.drew := fun _ _ _ => rfl
theorem Keep.drew {lo hi : Nat} {w w' : World} (h : Keep lo hi w w') : Keep lo hi w w'.drew := ⟨h.1.drew, fun j a b => h.2 j a b⟩
theorem spBlock_any (d b p fu ke op : Int) (off : Bool) (A : Option Addr) (n c : Nat) (block : Int) (r : Bool) (w : World) (hn : n ≤ 1000) (hr : r = true ↔ (0 ≤ block ∧ block < (n : Int))) :
    Calls Try.prog 63 #[.agg #[.int .i64 d, .int .i64 b, .int .i64 p, .slice A n c, .int .i64 fu, .int .i64 ke, .bool off, .int .i64 op], .int .i64 block] w fun e w' => e = .returned (.bool r) ∧ Below w.heap.size w w' := by
  have hni : (n : Int) ≤ 1000 := by omega
  have HI := Lib.hid (fun (W : World) => inr_any block 0 ((n : Int) - 1) W)
  have HB := Lib.hid ((Below.refl w.heap.size w).alloc (Nat.le_refl _) (.cells #[.int .i64 d, .int .i64 b, .int .i64 p, .slice A n c, .int .i64 fu, .int .i64 ke, .bool off, .int .i64 op] 31))
  go_enter Try.func63, Try.ntmps63
  go_wp2_with fail
  refine (HI.out _).mono ?_
  rintro e w' ⟨rfl, rfl⟩
  go_wp2
  go_ret
  exact ⟨ret_bool (by rw [Bool.eq_iff_iff, hr]; simp; omega), HB.out⟩
theorem spPage_any (d b p fu ke op : Int) (off : Bool) (A : Option Addr) (n c : Nat) (block page : Int) (r : Bool) (w : World) (hn : n ≤ 1000) (hp : 0 ≤ p ∧ p ≤ 1000) (hr : r = true ↔ ((0 ≤ block ∧ block < (n : Int)) ∧ (0 ≤ page ∧ page < p))) :
    Calls Try.prog 32 #[.agg #[.int .i64 d, .int .i64 b, .int .i64 p, .slice A n c, .int .i64 fu, .int .i64 ke, .bool off, .int .i64 op], .int .i64 block, .int .i64 page] w fun e w' => e = .returned (.bool r) ∧ Below w.heap.size w w' := by
  have HI := Lib.hid (fun (W : World) => inr_any page 0 (p - 1) W)
  have HB := Lib.hid ((Below.refl w.heap.size w).alloc (Nat.le_refl _) (.cells #[.int .i64 d, .int .i64 b, .int .i64 p, .slice A n c, .int .i64 fu, .int .i64 ke, .bool off, .int .i64 op] 31))
  have R0 := Lib.hid (Rw.new w 31 #[.int .i64 d, .int .i64 b, .int .i64 p, .slice A n c, .int .i64 fu, .int .i64 ke, .bool off, .int .i64 op])
  by_cases hb : 0 ≤ block ∧ block < (n : Int)
  · have HK := Lib.hid (fun (W : World) => spBlock_any d b p fu ke op off A n c block true W hn (by simp [hb]))
    go_enter Try.func32, Try.ntmps32
    go_wp2_with fail
    refine (HK.out _).mono ?_
    rintro e w1 ⟨rfl, b1⟩
    have HB1 := Lib.hid (HB.out.trans (b1.mono (by simp)))
    obtain ⟨a0, a1, a2, a3, a4, a5, a6, a7⟩ := (R0.out.below b1 (by simp)).eight
    clear b1
    go_wp2_with fail
    refine (HI.out _).mono ?_
    rintro e w' ⟨rfl, rfl⟩
    go_wp2
    go_ret
    exact ⟨ret_bool (by rw [Bool.eq_iff_iff, hr]; simp [hb]; omega), HB1.out⟩
  · have HK := Lib.hid (fun (W : World) => spBlock_any d b p fu ke op off A n c block false W hn (by simp [hb]))
    go_enter Try.func32, Try.ntmps32
    go_wp2_with fail
    refine (HK.out _).mono ?_
    rintro e w1 ⟨rfl, b1⟩
    have HB1 := Lib.hid (HB.out.trans (b1.mono (by simp)))
    clear b1
    go_wp2
    go_ret
    exact ⟨ret_bool (by rw [Bool.eq_iff_iff, hr]; simp [hb]), HB1.out⟩
set_option maxRecDepth 100000 in
theorem spProg_any (w : World) (lo hi g : Nat) (F : Fl) (u : Value) (k : Nat) (raw : ByteArray) (hR : Rw w g 31 (flc F u)) (hB : BksOwn w lo hi u F.bs) (hg : hi ≤ g) (hlo : lo ≤ hi) (hok : FlOk F) (hr : raw.size = 91)
    (hk : k < F.bs.length) (hnx : (F.blk k).nx < F.p) :
    Calls Try.prog 33 #[.pointer (some ⟨g, 0, none⟩), .int .i64 k, .string raw] w (InPost lo hi g u (F.prog k raw) F.code w) := by
  have hn8 := hok.len
  have hRg := hR
  obtain ⟨A, n, cap, rfl, hlc, hcm, hlen, hA⟩ := hB
  rw [hlen] at hn8
  have hnm : (n : Int) ≤ 36 := by omega
  obtain ⟨gb, pv, rfl, hbo⟩ := hA (by omega)
  have hgl := hR.lt
  have hpl := hok.plen (i := k) (by omega)
  have hbk := hok.2.2.1 k (by omega)
  have hki : (k : Int) < (n : Int) := by omega
  have hS := Lib.hid (tick_any g F (.slice (some ⟨gb, 0, none⟩) n cap) w hRg hok.2.2.2.1)
  obtain ⟨c0, c1, c2, c3, c4, c5, c6, c7⟩ := hR.eight
  have HD := Lib.hid (And.intro (prog_bs (F := F) (k := k) (raw := raw) (by omega) hr) (prog_flc F k raw (.slice (some ⟨gb, 0, none⟩) n cap)))
  have HLL := Lib.hid (show (F.bs.set k ((F.blk k).takes raw F.much)).length = n by rw [List.length_set]; exact hlen)
  have HBO := Lib.hid (hbo.self (k := k) (by omega))
  have HK := Lib.hid hk
  obtain ⟨b, off, pcap, hv, hv1, hv2⟩ := hbo.somePg (k := k) (by omega) (by show 0 < (F.blk k).pg.length; omega)
  have HV := Lib.hid hv
  have hke := hok.2.2.2.2.1
  have hlow := hbo.low
  have hhigh := hbo.high
  obtain ⟨hn0, hn1⟩ := hbk.2.1
  change Hid (BO w lo hi gb pv (F.bs.set k (F.blk k))) at HBO
  change (F.blk k).pg.length ≤ pcap at hv1
  change Hid (pv k = .slice (some ⟨b, off, none⟩) (F.blk k).pg.length pcap) at HV
  have HTK := Lib.hid (show F.tick.ke = F.ke from rfl)
  clear hA hR hRg hlen hbo hv hok hbk
  by_cases hf : F.fu = 0
  · rw [show decide (F.fu = 0) = true by simp [hf]] at hS
    have hmu : F.much = F.ke := by unfold Fl.much; rw [if_pos hf]
    have hco : F.code = 8 := by unfold Fl.code; rw [if_pos hf]
    rw [hco]
    rw [hmu] at HD HLL
    have hxx : ∀ u, (flc F.tick u)[5]? = some (.int .i64 F.ke) := fun u => rfl
    have HXX := Lib.hid hxx
    generalize F.prog k raw = G' at *
    generalize F.blk k = y at *
    generalize F.ke = ke at *
    obtain ⟨er, nx, bad, pg⟩ := y
    simp only at hpl hnx hn0 hn1 hv1 HV
    obtain ⟨p, rfl⟩ := Int.eq_ofNat_of_zero_le hn0
    obtain ⟨P, hP⟩ : ∃ P, P = pg.length := ⟨_, rfl⟩
    rw [← hP] at hpl hv1 HV
    have hpP : (p : Int) < (P : Int) := by omega
    have hP16 : (P : Int) ≤ 16 := by omega
    clear hpl
    obtain ⟨kk, rfl⟩ := Int.eq_ofNat_of_zero_le hke.1
    have hk91 : kk ≤ 91 := by omega
    clear hf hco hP hnx hn1 hmu hxx hke HTK
    by_cases hz : kk = 0
    · subst hz
      go_enter Try.func33, Try.ntmps33
      go_wp2_with fail
      refine hS.out.mono ?_
      rintro e w1 ⟨rfl, r1, gr1⟩
      have k3 : w1.cell? ⟨g, 3, none⟩ = some (.slice (some ⟨gb, 0, none⟩) n cap) := r1.cell 3
      have k5 : w1.cell? ⟨g, 5, none⟩ = some (.int .i64 ((0 : Nat) : Int)) := (r1.cell 5).trans (HXX.out _)
      have s1 := gr1.size
      have O1 := Lib.hid (HBO.out.same (same_grown gr1 hg (by omega)))
      have hb1 := Lib.hid (grown_keep gr1 (B := lo) (by omega) (by omega))
      have R1 := Lib.hid r1
      clear r1 gr1 c0 c1 c2 c3 c4 c5 c6 c7
      go_wp2
      go_ret
      refine ⟨rfl, hb1.out, fun _ => ⟨?_, ?_⟩⟩
      · rw [HD.out.2]; exact R1.out
      · exact ⟨_, n, cap, rfl, hlc, hcm, by rw [HD.out.1]; exact HLL.out, fun _ => ⟨gb, pv, rfl, by rw [HD.out.1]; exact O1.out⟩⟩
    · have hz' : (((kk : Int)) == 0) = false := by simp; omega
      have HTO := Lib.hid (fun (W : World) => torn_any raw kk W hr hk91)
      have HTS := Lib.hid (tornB_size (k := kk) hr hk91)
      generalize htt : tornB raw kk = t at *
      have HTT := Lib.hid htt
      clear htt
      have hd := Lib.hid (fun (W : World) => specDestroyed_any W)
      go_enter Try.func33, Try.ntmps33
      go_wp2_with fail
      refine hS.out.mono ?_
      rintro e w1 ⟨rfl, r1, gr1⟩
      have k3 : w1.cell? ⟨g, 3, none⟩ = some (.slice (some ⟨gb, 0, none⟩) n cap) := r1.cell 3
      have k5 : w1.cell? ⟨g, 5, none⟩ = some (.int .i64 (kk : Int)) := (r1.cell 5).trans (HXX.out _)
      have s1 := gr1.size
      have O1 := Lib.hid (HBO.out.same (same_grown gr1 hg (by omega)))
      have hb1 := Lib.hid (grown_keep gr1 (B := lo) (by omega) (by omega))
      have R1 := Lib.hid r1
      obtain ⟨q0, q1, q2, q3⟩ := O1.out.cells HK.out
      rw [HV.out] at q3
      simp only at q0 q1 q2
      obtain ⟨e0, e1, e2, e3, e4⟩ := O1.out.pageS HK.out HV.out (t := p) (by omega)
      have hbg : b ≠ g := by omega
      clear r1 gr1 c0 c1 c2 c3 c4 c5 c6 c7
      go_wp2
      go_region_held3 (fun W => W.cell? ⟨gb, k * 4 + 3, none⟩ = some (.slice (some ⟨b, off, none⟩) P pcap) ∧ W.cell? ⟨gb, k * 4 + 1, none⟩ = some (.int .i64 (p : Int)) ∧ W.cell? ⟨g, 5, none⟩ = some (.int .i64 (kk : Int)))
        (first
          | exact ⟨q3, q1, k5⟩
          | exact ⟨q3', q1', k5'⟩
          | exact ⟨(World.cell?_setCell_other _ _ _ _ (addr_ne fun e => absurd e e4)).trans q3', (World.cell?_setCell_other _ _ _ _ (addr_ne fun e => absurd e e4)).trans q1', (World.cell?_setCell_other _ _ _ _ (addr_ne fun e => absurd e hbg)).trans k5'⟩)
        (first
          | (go_at_call 65
             refine (HTO.out _).mono ?_
             rintro e w2 ⟨rfl, hb0⟩
             have hb2 : Below w1.heap.size w1 w2 := (Below.refl w1.heap.size w1).drew.trans hb0
             have e0' := (hb2.cell (p := ⟨b, off + p, none⟩) (by show b < _; omega)).trans e0
             have e1' := (hb2.frozen (p := ⟨b, off + p, none⟩) (by show b < _; omega)).trans e1
             have q3' := (hb2.cell (p := ⟨gb, k * 4 + 3, none⟩) (by show gb < _; omega)).trans q3
             have q1' := (hb2.cell (p := ⟨gb, k * 4 + 1, none⟩) (by show gb < _; omega)).trans q1
             have k5' := (hb2.cell (p := ⟨g, 5, none⟩) (by show g < _; omega)).trans k5))
      have O2 := Lib.hid ((O1.out.same (sm hb2 lo (by omega))).storePgS HK.out HV.out (t := p) (by omega) t (by have := HTS.out; omega))
      have K2 := Lib.hid (((Keep.refl lo hi w1).call hb2 (by omega)).set_ (g := b) (k := off + p) e2 e3 (.string t))
      have k5x := (K2.out.2 g hg R1.out.lt)
      have R2 := Lib.hid (R1.out.kept K2.out hg)
      generalize w2.setCell ⟨b, off + p, none⟩ (.string t) = w3 at *
      have k5 : w3.cell? ⟨g, 5, none⟩ = some (.int .i64 (kk : Int)) := (R2.out.cell 5).trans (HXX.out _)
      obtain ⟨u0, u1, u2, u3⟩ := O2.out.cells HK.out
      simp only [Blk.pages] at u1
      rw [HV.out] at u3
      have v1 := O2.out.free (k * 4 + 1)
      clear q0 q1 q2 q3 k3 e0 e1 u0 u2 e0' e1' q3' q1' k5' k5x
      by_cases hodd : kk < 91 ∧ p % 2 = 1
      · obtain ⟨hk9, hp2⟩ := hodd
        have hk9i : (kk : Int) < 91 := by omega
        have hp2i : (p : Int) % 2 = 1 := by omega
        obtain ⟨m, hm⟩ : ∃ m, m = p - 1 := ⟨_, rfl⟩
        obtain ⟨e0, e1, e2', e3', _⟩ := O2.out.pageS HK.out HV.out (t := m) (by omega)
        have i2 : (m : Int) < (P : Int) := by omega
        have i4 : IntKind.i64.wrap ((p : Int) - 1) = (m : Int) := by rw [IntWalk.i64_in _ (by omega)]; omega
        have HM := Lib.hid hm
        have s3 := K2.out.size
        clear hm
        go_wp2
        go_region_held3 (fun W => W.cell? ⟨gb, k * 4 + 3, none⟩ = some (.slice (some ⟨b, off, none⟩) P pcap) ∧ W.cell? ⟨gb, k * 4 + 1, none⟩ = some (.int .i64 (p : Int)))
          (first
            | exact ⟨u3, u1⟩
            | exact ⟨u3', u1'⟩
            | exact ⟨(World.cell?_setCell_other _ _ _ _ (addr_ne fun e => absurd e e4)).trans u3', (World.cell?_setCell_other _ _ _ _ (addr_ne fun e => absurd e e4)).trans u1'⟩)
          (first
            | (go_at_call 66
               refine (hd.out _).mono ?_
               rintro e w4 ⟨rfl, hb0⟩
               have hb4 : Below w3.heap.size w3 w4 := (Below.refl w3.heap.size w3).drew.trans hb0
               have e0' := (hb4.cell (p := ⟨b, off + m, none⟩) (by show b < _; omega)).trans e0
               have e1' := (hb4.frozen (p := ⟨b, off + m, none⟩) (by show b < _; omega)).trans e1
               have u3' := (hb4.cell (p := ⟨gb, k * 4 + 3, none⟩) (by show gb < _; omega)).trans u3
               have u1' := (hb4.cell (p := ⟨gb, k * 4 + 1, none⟩) (by show gb < _; omega)).trans u1))
        have O4 := Lib.hid ((O2.out.same (sm hb4 lo (by omega))).storePgS HK.out HV.out (t := m) (by omega) (fillB 0 91) (by rw [fillB_size]; omega))
        have K4 := Lib.hid ((K2.out.call hb4 (by omega)).set_ (g := b) (k := off + m) e2 e3 (.string (fillB 0 91)))
        generalize w4.setCell ⟨b, off + m, none⟩ (.string (fillB 0 91)) = w5 at *
        obtain ⟨t0, t1, t2, t3⟩ := O4.out.cells HK.out
        simp only [Blk.pages] at t1
        have x1 := O4.out.free (k * 4 + 1)
        clear u1 u3 v1 e0 e1 e0' e1' u3' u1' t0 t2 t3
        go_wp2
        go_ret
        have O5 := O4.out.storeS (c := 1) HK.out (.int .i64 ((p : Int) + 1)) (.inr (.inl ⟨rfl, _, rfl⟩))
        have K5 := K4.out.set_ (g := gb) (k := k * 4 + 1) hlow hhigh (.int .i64 ((p : Int) + 1))
        have e9 : Blk.takes ⟨er, (p : Int), bad, pg⟩ raw (kk : Int) = (((Blk.mk er (p : Int) bad pg).pages (pg.set p t)).pages ((pg.set p t).set m (fillB 0 91))).put 1 (.int .i64 ((p : Int) + 1)) := by
          unfold Blk.takes Blk.torn
          rw [if_neg (by omega)]
          rw [if_pos ⟨by simp only [Int.toNat_natCast]; exact hp2, hk9i⟩]
          simp only [Int.toNat_natCast] at *
          rw [HTT.out, ← HM.out, List.set_comm _ _ (by have := HM.out; omega)]; rfl
        refine ⟨rfl, hb1.out.trans K5.1, fun _ => ⟨?_, ?_⟩⟩
        · rw [HD.out.2]; exact R1.out.kept K5 hg
        · exact ⟨_, n, cap, rfl, hlc, hcm, by rw [HD.out.1]; exact HLL.out, fun _ => ⟨gb, pv, rfl, by rw [HD.out.1, e9]; exact O5⟩⟩
      · have e9 : Blk.takes ⟨er, (p : Int), bad, pg⟩ raw (kk : Int) = ((Blk.mk er (p : Int) bad pg).pages (pg.set p t)).put 1 (.int .i64 ((p : Int) + 1)) := by
          unfold Blk.takes Blk.torn
          rw [if_neg (by omega)]
          rw [if_neg (fun hc => hodd ⟨by have := hc.2; omega, by have := hc.1; simp only [Int.toNat_natCast] at this; exact this⟩)]
          simp only [Int.toNat_natCast] at *
          rw [HTT.out]; rfl
        have HE9 := Lib.hid e9
        have O5 := Lib.hid (O2.out.storeS (c := 1) HK.out (.int .i64 ((p : Int) + 1)) (.inr (.inl ⟨rfl, _, rfl⟩)))
        have K5 := Lib.hid (K2.out.set_ (g := gb) (k := k * 4 + 1) hlow hhigh (.int .i64 ((p : Int) + 1)))
        have FIN : Hid (InPost lo hi g (.slice (some ⟨gb, 0, none⟩) n cap) G' 8 w (.returned (.int .i64 8)) (w3.setCell ⟨gb, k * 4 + 1, none⟩ (.int .i64 ((p : Int) + 1)))) := Lib.hid (by
          refine ⟨rfl, hb1.out.trans K5.out.1, fun _ => ⟨?_, ?_⟩⟩
          · rw [HD.out.2]; exact R1.out.kept K5.out hg
          · exact ⟨_, n, cap, rfl, hlc, hcm, by rw [HD.out.1]; exact HLL.out, fun _ => ⟨gb, pv, rfl, by rw [HD.out.1, HE9.out]; exact O5.out⟩⟩)
        clear e9 HE9 O5 K5
        by_cases hp2 : p % 2 = 1
        · have hp2i : (p : Int) % 2 = 1 := by omega
          have hk9i : ¬ (kk : Int) < 91 := by intro a; exact hodd ⟨by omega, hp2⟩
          clear hodd
          go_wp2
          go_ret
          exact FIN.out
        · have hp2i : ((p : Int) % 2 == 1) = false := by simp; omega
          clear hodd
          go_wp2
          go_ret
          exact FIN.out
  · rw [show decide (F.fu = 0) = false by simp [hf]] at hS
    have HTT := Lib.hid (show (F.blk k).takes raw F.much = (F.blk k).prog raw from by unfold Blk.takes Fl.much; rw [if_neg hf, if_neg (by decide), Blk.torn_whole hr])
    have hco : F.code = 0 := by unfold Fl.code; rw [if_neg hf]
    rw [hco]
    rw [HTT.out] at HD HLL
    generalize F.prog k raw = G' at *
    generalize F.blk k = y at *
    obtain ⟨er, nx, bad, pg⟩ := y
    simp only at hpl hnx hn0 hn1 hv1 HV
    obtain ⟨p, rfl⟩ := Int.eq_ofNat_of_zero_le hn0
    obtain ⟨P, hP⟩ : ∃ P, P = pg.length := ⟨_, rfl⟩
    rw [← hP] at hpl hv1 HV
    have hpP : (p : Int) < (P : Int) := by omega
    have hP16 : (P : Int) ≤ 16 := by omega
    clear hpl
    clear hf hco hP hnx hn1
    go_enter Try.func33, Try.ntmps33
    go_wp2_with fail
    refine hS.out.mono ?_
    rintro e w1 ⟨rfl, r1, gr1⟩
    have k3 : w1.cell? ⟨g, 3, none⟩ = some (.slice (some ⟨gb, 0, none⟩) n cap) := r1.cell 3
    have s1 := gr1.size
    have O1 := Lib.hid (HBO.out.same (same_grown gr1 hg (by omega)))
    have hb1 := Lib.hid (grown_keep gr1 (B := lo) (by omega) (by omega))
    have R1 := Lib.hid r1
    obtain ⟨q0, q1, q2, q3⟩ := O1.out.cells HK.out
    rw [HV.out] at q3
    simp only at q0 q1 q2
    obtain ⟨e0, e1, e2, e3, e4⟩ := O1.out.pageS HK.out HV.out (t := p) (by omega)
    clear r1 gr1 c0 c1 c2 c3 c4 c5 c6 c7
    go_wp2
    go_region
    have O2 := Lib.hid ((O1.out.storePgS HK.out HV.out (t := p) (by omega) raw (by omega)).same (same_drew lo hi _))
    have K2 := Lib.hid ((Keep.refl lo hi w1).set_ (g := b) (k := off + p) e2 e3 (.string raw)).drew
    generalize (w1.setCell ⟨b, off + p, none⟩ (.string raw)).drew = w2 at *
    obtain ⟨u0, u1, u2, u3⟩ := O2.out.cells HK.out
    simp only [Blk.pages] at u1
    have v1 := O2.out.free (k * 4 + 1)
    clear q0 q1 q2 q3 k3 e0 e1 u0 u2 u3
    go_wp2
    go_ret
    have O3 := O2.out.storeS (c := 1) HK.out (.int .i64 ((p : Int) + 1)) (.inr (.inl ⟨rfl, _, rfl⟩))
    have K3 := K2.out.set_ (g := gb) (k := k * 4 + 1) hlow hhigh (.int .i64 ((p : Int) + 1))
    refine ⟨rfl, hb1.out.trans K3.1, fun _ => ⟨?_, ?_⟩⟩
    · rw [HD.out.2]; exact R1.out.kept K3 hg
    · exact ⟨_, n, cap, rfl, hlc, hcm, by rw [HD.out.1]; exact HLL.out, fun _ => ⟨gb, pv, rfl, by rw [HD.out.1]; exact O3⟩⟩
end Go.Proofs.Yteigdjocjcjkiaa
