/- The proof's own lemmas, part 23: FlEs FlEt FlSz. -/
import Derived.Test.YthenilomgbnpeaaGreatDoorProg
import Derived.Test.YthenilomgbnpeaaGreatDoorMg21
import Derived.Test.YthenilomgbnpeaaGreatDoorMg20
import Derived.Test.YthenilomgbnpeaaGreatDoorMg13
import Derived.Test.YthenilomgbnpeaaGreatDoorMg16
/- EraseBlock, in the model and in the program: the contracts. -/
namespace Go.Proofs.YthenilomgbnpeaaGreatDoor
open Go.RowKit
set_option linter.unusedVariables false
theorem Fl.code_of (F : Fl) : F.code = 0 ∨ F.code = 8 := by unfold Fl.code; split <;> simp
set_option maxRecDepth 100000 in
theorem spErase_bad (w : World) (g : Nat) (F : Fl) (lo hi : Nat) (u : Value) (k : Nat) (hR : Rw w g 28 (flc F u)) (hB : BksOwn w lo hi u F.bs) (hok : FlOk F) (hk : k < F.bs.length) (hbad : (F.blk k).bad = true ∨ (F.blk k).er = 1000) :
    Calls Tryz.prog 99 #[.pointer (some ⟨g, 0, none⟩), .int .i64 k] w fun e w' => e = .returned (.int .i64 7) ∧ w = w' := by
  have hn8 := hok.len
  obtain ⟨A, n, cap, rfl, hlc, hcm, hlen, hA⟩ := hB
  rw [hlen] at hn8
  have hnm : (n : Int) ≤ 36 := by omega
  obtain ⟨gb, pv, rfl, hbo⟩ := hA (by omega)
  obtain ⟨c0, c1, c2, c3, c4, c5, c6, c7⟩ := hR.eight
  obtain ⟨q0, q1, q2, q3⟩ := hbo.row k (by omega)
  change w.cell? ⟨gb, k * 4 + 2, none⟩ = some (.bool (F.blk k).bad) at q2
  change w.cell? ⟨gb, k * 4, none⟩ = some (.int .i64 (F.blk k).er) at q0
  have hki : (k : Int) < (n : Int) := by omega
  clear hA hR hlen hbo hok
  generalize (F.blk k).bad = bb at *
  generalize (F.blk k).er = er at *
  cases bb with
  | true =>
    clear hbad
    go_enter Tryz.func99, Tryz.ntmps99
    go_wp2
    go_ret
    exact ⟨rfl, rfl⟩
  | false =>
    obtain rfl : er = 1000 := by rcases hbad with h2 | h2; cases h2; exact h2
    clear hbad
    go_enter Tryz.func99, Tryz.ntmps99
    go_wp2
    go_ret
    exact ⟨rfl, rfl⟩
set_option maxHeartbeats 1000000 in
set_option maxRecDepth 100000 in
theorem spErase_any (w : World) (lo hi g : Nat) (F : Fl) (u : Value) (k : Nat) (hR : Rw w g 28 (flc F u)) (hB : BksOwn w lo hi u F.bs) (hg : hi ≤ g) (hlo : lo ≤ hi) (hok : FlOk F)
    (hk : k < F.bs.length) (hbad : (F.blk k).bad = false) (her : (F.blk k).er ≠ 1000) :
    Calls Tryz.prog 99 #[.pointer (some ⟨g, 0, none⟩), .int .i64 k] w (InPost lo hi g u (F.erase k) F.code w) := by
  have hn8 := hok.len
  have hRg := hR
  obtain ⟨A, n, cap, rfl, hlc, hcm, hlen, hA⟩ := hB
  rw [hlen] at hn8
  have hnm : (n : Int) ≤ 36 := by omega
  obtain ⟨gb, pv, rfl, hbo⟩ := hA (by omega)
  have hgl := hR.lt
  have hpl := hok.plen (i := k) (by omega)
  have hbk := hok.2.2.1 k (by omega)
  have hki : (k : Int) < (n : Int) := by omega
  have hS := Lib.hid (tick_any g F (.slice (some ⟨gb, 0, none⟩) n cap) w hRg hok.2.2.2.1)
  obtain ⟨c0, c1, c2, c3, c4, c5, c6, c7⟩ := hR.eight
  have HD := Lib.hid (And.intro (erase_bs F k) (show flc (F.erase k) (.slice (some ⟨gb, 0, none⟩) n cap) = flc F.tick (.slice (some ⟨gb, 0, none⟩) n cap) from rfl))
  have HLL := Lib.hid (show (F.bs.set k ((F.blk k).erase F.much.toNat)).length = n by rw [List.length_set]; exact hlen)
  have HBO := Lib.hid (hbo.self (k := k) (by omega))
  have HK := Lib.hid hk
  obtain ⟨b, off, pcap, hv, hv1, hv2⟩ := hbo.somePg (k := k) (by omega) (by show 0 < (F.blk k).pg.length; omega)
  have HV := Lib.hid hv
  have hke := hok.2.2.2.2.1
  have hlow := hbo.low
  have hhigh := hbo.high
  have her2 := hbk.1
  have hgg : ¬ gb = g := by omega
  have hgg2 : ¬ g = gb := by omega
  change Hid (BO w lo hi gb pv (F.bs.set k (F.blk k))) at HBO
  change (F.blk k).pg.length ≤ pcap at hv1
  change Hid (pv k = .slice (some ⟨b, off, none⟩) (F.blk k).pg.length pcap) at HV
  have HXX := Lib.hid (fun u => show (flc F.tick u)[5]? = some (.int .i64 F.ke) ∧ (flc F.tick u)[2]? = some (.int .i64 F.p) from ⟨rfl, rfl⟩)
  have HMU := Lib.hid (show F.much = if F.fu = 0 then F.ke else 91 from rfl)
  have HCO := Lib.hid (show F.code = if F.fu = 0 then 8 else 0 from rfl)
  obtain ⟨q0, q1, q2, q3⟩ := HBO.out.cells HK.out
  have hp := hpl.2.2
  rw [hbad] at q2
  have hki' := hok.1.p16
  generalize hF : F.fu = fu at *
  generalize F.erase k = G' at *
  generalize F.blk k = y at *
  generalize F.ke = ke at *
  generalize F.much = mu at *
  generalize F.code = co at *
  obtain ⟨er, nx, bad, pg⟩ := y
  simp only at hpl hp hbad her her2 hv1 HV q0 q1
  subst hbad
  obtain ⟨P, hP⟩ : ∃ P, P = pg.length := ⟨_, rfl⟩
  have HP := Lib.hid hP
  rw [← hP] at hpl hp hv1 HV
  rw [← hp] at HXX
  obtain ⟨kk, rfl⟩ := Int.eq_ofNat_of_zero_le hke.1
  have hP8 : 8 ≤ P := by omega
  have hP16 : (P : Int) ≤ 16 := by omega
  have hk91 : kk ≤ 91 := by omega
  clear hA hR hRg hlen hbo hv hok hbk hpl hp hP hke hki' hF
  by_cases hf : fu = 0
  · subst hf
    obtain rfl : mu = (kk : Int) := HMU.out.trans (if_pos rfl)
    obtain rfl : co = 8 := HCO.out.trans (if_pos rfl)
    have hM := Lib.hid (show min (kk : Int) (P : Int) = ((min kk P : Nat) : Int) by omega)
    obtain ⟨M, hMM⟩ : ∃ M, M = min kk P := ⟨_, rfl⟩
    rw [← hMM] at hM
    have hMP : M ≤ P := by omega
    have HE := Lib.hid (show emptied pg M = emptied pg kk by rw [hMM, HP.out, emptied_min])
    have HMN := Lib.hid (show (M < P ↔ kk < P) by omega)
    clear hMM
    go_enter Tryz.func99, Tryz.ntmps99
    go_wp2_with fail
    refine hS.out.mono ?_
    rintro e w1 ⟨rfl, r1, gr1⟩
    have k5 : w1.cell? ⟨g, 5, none⟩ = some (.int .i64 (kk : Int)) := (r1.cell 5).trans (HXX.out _).1
    have k2 : w1.cell? ⟨g, 2, none⟩ = some (.int .i64 (P : Int)) := (r1.cell 2).trans (HXX.out _).2
    have s1 := gr1.size
    have o1 := HBO.out.same (same_grown gr1 hg (by omega))
    have O1 := Lib.hid o1
    have hb1 := Lib.hid (grown_keep gr1 (B := lo) (by omega) (by omega))
    have R1 := Lib.hid r1
    obtain ⟨t0, t1, t2, t3⟩ := O1.out.cells HK.out
    simp only at t0 t1 t2
    have f0 := O1.out.free (k * 4)
    clear r1 gr1 o1 c0 c1 c2 c3 c4 c5 c6 c7 q0 q1 q2 q3
    go_wp2_with fail
    refine (min_any _ _ _).mono ?_
    rintro e wz ⟨rfl, rfl⟩
    rw [hM.out]
    have o2 := O1.out.storeS (c := 0) HK.out (.int .i64 (er + 1)) (.inl ⟨rfl, _, rfl⟩)
    rw [Nat.add_zero] at o2
    have O2 := Lib.hid o2
    have K2 := Lib.hid ((Keep.refl lo hi w1).set_ (g := gb) (k := k * 4) hlow hhigh (.int .i64 (er + 1)))
    generalize w1.setCell ⟨gb, k * 4, none⟩ (.int .i64 (er + 1)) = w2 at *
    obtain ⟨a, ha⟩ : ∃ a, a = (Blk.mk er nx false pg).put 0 (.int .i64 (er + 1)) := ⟨_, rfl⟩
    rw [← ha] at O2
    have HA := Lib.hid ha
    have HPA := Lib.hid (show a.pg = pg by rw [ha]; rfl)
    clear ha o2 t0 t1 t2 t3 f0 k5 k2
    go_wp2
    go_loopw [8] (fun i wr => ∃ t : Nat, t ≤ M ∧ i = .int .i64 t ∧ Hid (BO wr lo hi gb pv (F.bs.set k (a.pages (emptied pg t)))) ∧ Hid (Keep lo hi w1 wr)) (fun i _ => M - (intOf i).toNat)
    case atStart => exact ⟨0, by omega, rfl, Lib.hid (by rw [emptied_zero, ← HPA.out]; exact O2.out), K2⟩
    case round =>
      obtain ⟨t, ht, rfl, OT, KT⟩ := hrel
      have k2 : wr.cell? ⟨g, 2, none⟩ = some (.int .i64 (P : Int)) := ((R1.out.kept KT.out hg).cell 2).trans (HXX.out _).2
      obtain ⟨t0, t1, t2, t3⟩ := OT.out.cells HK.out
      rw [HV.out] at t3
      have fn := OT.out.free (k * 4 + 1)
      by_cases hlt : t < M
      · have hti : (t : Int) < (M : Int) := by omega
        have htP : (t : Int) < (P : Int) := by omega
        obtain ⟨e0, e1, e2, e3, e4⟩ := OT.out.pageS HK.out HV.out (t := t) (by omega)
        have o3 := OT.out.storePgS HK.out HV.out (t := t) (by omega) ByteArray.empty (by show 0 ≤ _; omega)
        have ee : (a.pages (emptied pg t)).pages ((a.pages (emptied pg t)).pg.set t ByteArray.empty) = a.pages (emptied pg (t + 1)) := by
          show a.pages ((emptied pg t).set t ByteArray.empty) = _
          rw [emptied_step _ _ (by have := HP.out; omega)]
        rw [ee] at o3
        have O3 := Lib.hid o3
        have K3 := Lib.hid (KT.out.set_ (g := b) (k := off + t) e2 e3 (.string ByteArray.empty))
        clear o3 ee t0 t1 t2 fn k2
        go_wp2
        go_roundw
        case rel => exact ⟨t + 1, by omega, by go_num, O3, K3⟩
        case measure => simp [intOf]; omega
      · obtain rfl : t = M := by omega
        have o4 := OT.out.storeS (c := 1) HK.out (.int .i64 0) (.inr (.inl ⟨rfl, _, rfl⟩))
        have K4 := Lib.hid (KT.out.set_ (g := gb) (k := k * 4 + 1) hlow hhigh (.int .i64 0))
        have k2' : (wr.setCell ⟨gb, k * 4 + 1, none⟩ (.int .i64 0)).cell? ⟨g, 2, none⟩ = some (.int .i64 (P : Int)) := ((R1.out.kept K4.out hg).cell 2).trans (HXX.out _).2
        clear k2
        by_cases hlt2 : t < P
        · have hti2 : (t : Int) < (P : Int) := by omega
          have O5 := Lib.hid (o4.storeS (c := 1) HK.out (.int .i64 (P : Int)) (.inr (.inl ⟨rfl, _, rfl⟩)))
          have K5 := Lib.hid (K4.out.set_ (g := gb) (k := k * 4 + 1) hlow hhigh (.int .i64 (P : Int)))
          have HEE := Lib.hid (show Blk.erase ⟨er, nx, false, pg⟩ kk = ((a.pages (emptied pg t)).put 1 (.int .i64 0)).put 1 (.int .i64 (P : Int)) from by
            unfold Blk.erase
            rw [if_pos (by rw [← HP.out]; exact HMN.out.1 hlt2), HE.out, HA.out, HP.out]; rfl)
          clear o4 t0 t2 t3 K4
          go_wp2
          go_ret
          refine ⟨rfl, hb1.out.trans K5.out.1, fun _ => ⟨?_, ?_⟩⟩
          · rw [HD.out.2]; exact R1.out.kept K5.out hg
          · exact ⟨_, n, cap, rfl, hlc, hcm, by rw [HD.out.1]; exact HLL.out, fun _ => ⟨gb, pv, rfl, by rw [HD.out.1]; refine (congrArg (fun q => BO _ lo hi gb pv (F.bs.set k q)) HEE.out).mpr O5.out⟩⟩
        · have hti2 : ¬ (t : Int) < (P : Int) := by omega
          have O4 := Lib.hid o4
          have HEE := Lib.hid (show Blk.erase ⟨er, nx, false, pg⟩ kk = (a.pages (emptied pg t)).put 1 (.int .i64 0) from by
            unfold Blk.erase
            rw [if_neg (by rw [← HP.out]; exact fun h => hlt2 (HMN.out.2 h)), HE.out, HA.out]; rfl)
          clear o4 t0 t2 t3
          go_wp2
          go_ret
          refine ⟨rfl, hb1.out.trans K4.out.1, fun _ => ⟨?_, ?_⟩⟩
          · rw [HD.out.2]; exact R1.out.kept K4.out hg
          · exact ⟨_, n, cap, rfl, hlc, hcm, by rw [HD.out.1]; exact HLL.out, fun _ => ⟨gb, pv, rfl, by rw [HD.out.1]; refine (congrArg (fun q => BO _ lo hi gb pv (F.bs.set k q)) HEE.out).mpr O4.out⟩⟩
  · obtain rfl : mu = 91 := HMU.out.trans (if_neg hf)
    obtain rfl : co = 0 := HCO.out.trans (if_neg hf)
    rw [show decide (fu = 0) = false by simp [hf]] at hS
    have HE := Lib.hid (show emptied pg P = emptied pg 91 by rw [← emptied_min pg 91, ← HP.out, Nat.min_eq_right (by omega)])
    go_enter Tryz.func99, Tryz.ntmps99
    go_wp2_with fail
    refine hS.out.mono ?_
    rintro e w1 ⟨rfl, r1, gr1⟩
    have k5 : w1.cell? ⟨g, 5, none⟩ = some (.int .i64 (kk : Int)) := (r1.cell 5).trans (HXX.out _).1
    have k2 : w1.cell? ⟨g, 2, none⟩ = some (.int .i64 (P : Int)) := (r1.cell 2).trans (HXX.out _).2
    have s1 := gr1.size
    have o1 := HBO.out.same (same_grown gr1 hg (by omega))
    have O1 := Lib.hid o1
    have hb1 := Lib.hid (grown_keep gr1 (B := lo) (by omega) (by omega))
    have R1 := Lib.hid r1
    obtain ⟨t0, t1, t2, t3⟩ := O1.out.cells HK.out
    simp only at t0 t1 t2
    have f0 := O1.out.free (k * 4)
    clear r1 gr1 o1 c0 c1 c2 c3 c4 c5 c6 c7 q0 q1 q2 q3
    go_wp2
    have o2 := O1.out.storeS (c := 0) HK.out (.int .i64 (er + 1)) (.inl ⟨rfl, _, rfl⟩)
    rw [Nat.add_zero] at o2
    have O2 := Lib.hid o2
    have K2 := Lib.hid ((Keep.refl lo hi w1).set_ (g := gb) (k := k * 4) hlow hhigh (.int .i64 (er + 1)))
    generalize w1.setCell ⟨gb, k * 4, none⟩ (.int .i64 (er + 1)) = w2 at *
    obtain ⟨a, ha⟩ : ∃ a, a = (Blk.mk er nx false pg).put 0 (.int .i64 (er + 1)) := ⟨_, rfl⟩
    rw [← ha] at O2
    have HA := Lib.hid ha
    have HPA := Lib.hid (show a.pg = pg by rw [ha]; rfl)
    clear ha o2 t0 t1 t2 t3 f0 k5 k2
    
    go_loopw [8] (fun i wr => ∃ t : Nat, t ≤ P ∧ i = .int .i64 t ∧ Hid (BO wr lo hi gb pv (F.bs.set k (a.pages (emptied pg t)))) ∧ Hid (Keep lo hi w1 wr)) (fun i _ => P - (intOf i).toNat)
    case atStart => exact ⟨0, by omega, rfl, Lib.hid (by rw [emptied_zero, ← HPA.out]; exact O2.out), K2⟩
    case round =>
      obtain ⟨t, ht, rfl, OT, KT⟩ := hrel
      have k2 : wr.cell? ⟨g, 2, none⟩ = some (.int .i64 (P : Int)) := ((R1.out.kept KT.out hg).cell 2).trans (HXX.out _).2
      obtain ⟨t0, t1, t2, t3⟩ := OT.out.cells HK.out
      rw [HV.out] at t3
      have fn := OT.out.free (k * 4 + 1)
      by_cases hlt : t < P
      · have hti : (t : Int) < (P : Int) := by omega
        have htP : (t : Int) < (P : Int) := by omega
        obtain ⟨e0, e1, e2, e3, e4⟩ := OT.out.pageS HK.out HV.out (t := t) (by omega)
        have o3 := OT.out.storePgS HK.out HV.out (t := t) (by omega) ByteArray.empty (by show 0 ≤ _; omega)
        have ee : (a.pages (emptied pg t)).pages ((a.pages (emptied pg t)).pg.set t ByteArray.empty) = a.pages (emptied pg (t + 1)) := by
          show a.pages ((emptied pg t).set t ByteArray.empty) = _
          rw [emptied_step _ _ (by have := HP.out; omega)]
        rw [ee] at o3
        have O3 := Lib.hid o3
        have K3 := Lib.hid (KT.out.set_ (g := b) (k := off + t) e2 e3 (.string ByteArray.empty))
        clear o3 ee t0 t1 t2 fn k2
        go_wp2
        go_roundw
        case rel => exact ⟨t + 1, by omega, by go_num, O3, K3⟩
        case measure => simp [intOf]; omega
      · have htM : t = P := by omega
        have hti : ¬ (t : Int) < (P : Int) := by omega
        have o4 := OT.out.storeS (c := 1) HK.out (.int .i64 0) (.inr (.inl ⟨rfl, _, rfl⟩))
        have K4 := Lib.hid (KT.out.set_ (g := gb) (k := k * 4 + 1) hlow hhigh (.int .i64 0))
        have k2' : (wr.setCell ⟨gb, k * 4 + 1, none⟩ (.int .i64 0)).cell? ⟨g, 2, none⟩ = some (.int .i64 (P : Int)) := ((R1.out.kept K4.out hg).cell 2).trans (HXX.out _).2
        have O4 := Lib.hid o4
        have HEE := Lib.hid (show Blk.erase ⟨er, nx, false, pg⟩ 91 = (a.pages (emptied pg t)).put 1 (.int .i64 0) from by
          unfold Blk.erase
          rw [if_neg (by rw [← HP.out]; omega), ← HE.out, HA.out, htM]; rfl)
        clear o4 t0 t2 t3 htM k2
        go_wp2
        go_ret
        refine ⟨rfl, hb1.out.trans K4.out.1, fun _ => ⟨?_, ?_⟩⟩
        · rw [HD.out.2]; exact R1.out.kept K4.out hg
        · exact ⟨_, n, cap, rfl, hlc, hcm, by rw [HD.out.1]; exact HLL.out, fun _ => ⟨gb, pv, rfl, by rw [HD.out.1]; refine (congrArg (fun q => BO _ lo hi gb pv (F.bs.set k q)) HEE.out).mpr O4.out⟩⟩
end Go.Proofs.YthenilomgbnpeaaGreatDoor
/- EraseBlock, the model's: the contract. -/
namespace Go.Proofs.YthenilomgbnpeaaGreatDoor
open Go.RowKit
set_option linter.unusedVariables false
set_option maxHeartbeats 4000000 in
theorem specEra_any (v : Value) (block : Int) (F G : Fl) (c : Int) (w : World) (lo hi : Nat) (h : FlIn w lo hi v F) (hh : hi ≤ w.heap.size) (hG : EraEnds F block G c) (hl : FlLen F) :
    Calls Tryz.prog 79 #[v, .int .i64 block] w (FlPost G c w) := by
  obtain ⟨r, hr⟩ := prop_dec (FlOk F)
  obtain ⟨u, rfl, hb⟩ := h
  have hv : ∀ W : World, BksIn W lo hi u F.bs → FlIn W lo hi (.agg (flc F u)) F := fun W a => ⟨u, rfl, a⟩
  have HV := Lib.hid (fun (W : World) (a : BksIn W lo hi u F.bs) (c : hi ≤ W.heap.size) => specValid_any (.agg (flc F u)) F r W lo hi (hv W a) c hr hl)
  have HO := Lib.hid (fun (hok : FlOk F) (W : World) (a : BksIn W lo hi u F.bs) (c : hi ≤ W.heap.size) => l06Own_any (.agg (flc F u)) F W lo hi (hv W a) c (by have := hok.len; omega) (fun i hi => by have := hok.plen hi; omega))
  have HPG := Lib.hid (fun (hok : FlOk F) (k : Nat) (hk : k < F.bs.length) (h1 : (F.blk k).bad = false) (h2 : (F.blk k).er ≠ 1000) (W : World) (u2 : Value) (lo hi g : Nat) (a : Rw W g 28 (flc F u2)) (b : BksOwn W lo hi u2 F.bs) (c1 : hi ≤ g) (c2 : lo ≤ hi) => spErase_any W lo hi g F u2 k a b c1 c2 hok hk h1 h2)
  have HPB := Lib.hid (fun (hok : FlOk F) (k : Nat) (hk : k < F.bs.length) (h1 : (F.blk k).bad = true ∨ (F.blk k).er = 1000) (W : World) (u2 : Value) (lo hi g : Nat) (a : Rw W g 28 (flc F u2)) (b : BksOwn W lo hi u2 F.bs) => spErase_bad W g F lo hi u2 k a b hok hk h1)
  have H := Lib.hid hb
  have hbb := hb
  obtain ⟨Au, nu, cu, rfl, hu1, hu2, hu3, hu4⟩ := hb
  clear hbb hv hl hu4
  have hFl : flc F (.slice Au nu cu) = #[.int .i64 F.d, .int .i64 F.b, .int .i64 F.p, .slice Au nu cu, .int .i64 F.fu, .int .i64 F.ke, .bool F.off, .int .i64 F.op] := rfl
  have hFo : ∀ u, flc F u = #[.int .i64 F.d, .int .i64 F.b, .int .i64 F.p, u, .int .i64 F.fu, .int .i64 F.ke, .bool F.off, .int .i64 F.op] := fun u => rfl
  rw [hFl] at HV HO ⊢
  have HFO := Lib.hid hFo
  clear hFl hFo
  have HPgs := Lib.hid (fun (r : Bool) (hn : nu ≤ 1000) (hr : r = true ↔ (0 ≤ block ∧ block < (nu : Int))) (W : World) => spBlock_any F.d F.b F.p F.fu F.ke F.op F.off Au nu cu block r W hn hr)
  have HOFF : Hid (∀ b : Bool, F.off = b → F.off = b) := Lib.hid fun _ h => h
  have HP1 := Lib.hid (fun (hok : FlOk F) => hok.1.p16)
  have HL1 := Lib.hid (fun (hok : FlOk F) => hok.len)
  have HGG := Lib.hid hG
  clear hG
  have HPF : Hid (∀ q : Int, q < F.p → q < F.p) := Lib.hid fun _ h => h
  generalize hd : F.d = d at *
  generalize hbn : F.b = b at *
  generalize hp : F.p = p at *
  generalize hfu : F.fu = fu at *
  generalize hke : F.ke = ke at *
  generalize hoff : F.off = off at *
  generalize hop : F.op = op at *
  have HEQ := Lib.hid (And.intro hp hoff)
  clear hd hbn hp hfu hke hoff hop
  obtain ⟨r0, r1, b0⟩ := Rw.two_new w 28 28 #[.int .i64 d, .int .i64 b, .int .i64 p, .slice Au nu cu, .int .i64 fu, .int .i64 ke, .bool off, .int .i64 op]
    #[.int .i64 0, .int .i64 0, .int .i64 0, .slice none 0 0, .int .i64 0, .int .i64 0, .bool false, .int .i64 0]
  have R0 := Lib.hid r0
  have R1 := Lib.hid r1
  have B0 := Lib.hid b0
  clear r0 r1 b0
  go_enter Tryz.func79, Tryz.ntmps79
  go_wp2_with fail
  refine (HV.out _ (H.out.same (sm B0.out lo hh)) (by simp; omega)).mono ?_
  rintro e w1 ⟨rfl, b1⟩
  have S0 := Lib.hid (R0.out.below b1 (by simp; omega))
  have S1 := Lib.hid (R1.out.below b1 (by simp))
  have B1 := Lib.hid (B0.out.trans (b1.mono (by simp; omega)))
  have hsz1 := b1.size
  simp only [World.size_alloc] at hsz1
  clear b1
  have ZEROS : Hid (∀ (wz : World) (c : Int), Rw wz (w.heap.size + 1) 28 #[.int .i64 0, .int .i64 0, .int .i64 0, .slice none 0 0, .int .i64 0, .int .i64 0, .bool false, .int .i64 0] → Below w.heap.size w wz → FlPost Fl.zero c w (.returned (.tuple #[.agg #[.int .i64 0, .int .i64 0, .int .i64 0, .slice none 0 0, .int .i64 0, .int .i64 0, .bool false, .int .i64 0], .int .i64 c])) ((((((((wz.setCell ⟨w.heap.size + 1, 0, none⟩ (.int .i64 0)).setCell ⟨w.heap.size + 1, 1, none⟩ (.int .i64 0)).setCell ⟨w.heap.size + 1, 2, none⟩ (.int .i64 0)).setCell ⟨w.heap.size + 1, 3, none⟩ (.slice none 0 0)).setCell ⟨w.heap.size + 1, 4, none⟩ (.int .i64 0)).setCell ⟨w.heap.size + 1, 5, none⟩ (.int .i64 0)).setCell ⟨w.heap.size + 1, 6, none⟩ (.bool false)).setCell ⟨w.heap.size + 1, 7, none⟩ (.int .i64 0))) := Lib.hid (fun wz c hz bz => by
    refine ⟨_, rfl, zeroOwn _ _ _, ?_⟩
    repeat refine bset ?_ (by omega) _
    exact bz)
  rcases HGG.out with hno | ⟨hok, h1⟩ | ⟨hok, h1, h2⟩ | ⟨hok, h1, k, rfl, hkl, h2⟩ | ⟨hok, h1, k, rfl, hkl, h2, h3⟩
  · obtain ⟨z0, z1, z2, z3, z4, z5, z6, z7⟩ := S1.out.eight
    obtain ⟨fz0, fz1, fz2, fz3, fz4, fz5, fz6, fz7⟩ := S1.out.frees
    obtain rfl : r = false := (bool_of r hr).2 hno
    clear hr hno HO HPG HPB HPgs
    go_wp2
    exact bodyPost_ret (results_row_tmp Tryz.results79 _ _ _ _ #[.int .i64 0, .int .i64 0, .int .i64 0, .slice none 0 0, .int .i64 0, .int .i64 0, .bool false, .int .i64 0] _ _ rfl
      (S1.out.put8 _ _ _ _ _ _ _ _) Tryz.underlying28 rfl infoFl8) rfl (ZEROS.out _ 1 S1.out B1.out)
  all_goals
    obtain rfl : r = true := hr.2 hok
    rw [HEQ.out.2] at h1
    subst h1
    clear hr
  · have HO2 := Lib.hid (HO.out hok)
    obtain ⟨a0, a1, a2, a3, a4, a5, a6, a7⟩ := S0.out.eight
    clear HO HPG HPB HPgs hok
    go_wp2_with fail
    refine (HO2.out _ (H.out.same (sm B1.out lo hh)) (by omega)).mono ?_
    rintro e w2 ⟨u2, rfl, ho, b2⟩
    obtain ⟨uu, rfl, ho⟩ := ho
    obtain ⟨A2, n2, c2, rfl⟩ := ho.slice
    have T1 := Lib.hid (S1.out.below b2 (by omega))
    have B2 := Lib.hid (B1.out.trans (b2.mono (by omega)))
    have HO3 := Lib.hid ho
    have hsz2 := b2.size
    rw [HFO.out]
    clear a0 a1 a2 a3 a4 a5 a6 a7 b2 ho HO2
    obtain ⟨z0, z1, z2, z3, z4, z5, z6, z7⟩ := T1.out.eight
    obtain ⟨fz0, fz1, fz2, fz3, fz4, fz5, fz6, fz7⟩ := T1.out.frees
    go_wp2
    refine bodyPost_ret (results_row_tmp Tryz.results79 _ _ _ _ #[.int .i64 d, .int .i64 b, .int .i64 p, .slice A2 n2 c2, .int .i64 fu, .int .i64 ke, .bool true, .int .i64 op] _ _ rfl
      (T1.out.put8 _ _ _ _ _ _ _ _) Tryz.underlying28 rfl infoFl8) rfl ?_
    refine ⟨_, rfl, ⟨_, by rw [HFO.out], (HO3.out.same ?_).wide (by omega) (by simp)⟩, ?_⟩
    · repeat refine sset ?_ (.inl (by omega)) _
      exact Same.refl _ _ _
    · repeat refine bset ?_ (by omega) _
      exact B2.out
  · have HPF := Lib.hid (HPgs.out false (by have := HL1.out hok; omega) (by
      rw [hu3] at h2
      simp only [Bool.false_eq_true, false_iff]
      exact h2))
    obtain ⟨a0, a1, a2, a3, a4, a5, a6, a7⟩ := S0.out.eight
    clear HO HPG HPB HPgs hok h2
    go_wp2_with fail
    refine (HPF.out _).mono ?_
    rintro e w2 ⟨rfl, b2⟩
    have T1 := Lib.hid (S1.out.below b2 (by omega))
    have B2 := Lib.hid (B1.out.trans (b2.mono (by omega)))
    clear a0 a1 a2 a3 a4 a5 a6 a7 b2
    obtain ⟨z0, z1, z2, z3, z4, z5, z6, z7⟩ := T1.out.eight
    obtain ⟨fz0, fz1, fz2, fz3, fz4, fz5, fz6, fz7⟩ := T1.out.frees
    go_wp2
    exact bodyPost_ret (results_row_tmp Tryz.results79 _ _ _ _ #[.int .i64 0, .int .i64 0, .int .i64 0, .slice none 0 0, .int .i64 0, .int .i64 0, .bool false, .int .i64 0] _ _ rfl
      (T1.out.put8 _ _ _ _ _ _ _ _) Tryz.underlying28 rfl infoFl8) rfl (ZEROS.out _ 2 T1.out B2.out)
  · have HPF := Lib.hid (HPgs.out true (by have := HL1.out hok; omega) (by simp; omega))
    obtain ⟨a0, a1, a2, a3, a4, a5, a6, a7⟩ := S0.out.eight
    have HO2 := Lib.hid (HO.out hok)
    have HPB2 := Lib.hid (HPB.out hok k hkl h2)
    clear HO HPG HPB HPgs hok h2
    go_wp2_with fail
    refine (HPF.out _).mono ?_
    rintro e w2 ⟨rfl, b2⟩
    have T0 := Lib.hid (S0.out.below b2 (by omega))
    have T1 := Lib.hid (S1.out.below b2 (by omega))
    have B2 := Lib.hid (B1.out.trans (b2.mono (by omega)))
    have hsz2 := b2.size
    clear a0 a1 a2 a3 a4 a5 a6 a7 b2
    obtain ⟨a0, a1, a2, a3, a4, a5, a6, a7⟩ := T0.out.eight
    go_wp2_with fail
    refine (HO2.out _ (H.out.same (sm B2.out lo hh)) (by omega)).mono ?_
    rintro e w3 ⟨u2, rfl, ho, b3⟩
    obtain ⟨uu, rfl, ho⟩ := ho
    obtain ⟨A2, n2, c2, rfl⟩ := ho.slice
    have V1 := Lib.hid (T1.out.below b3 (by omega))
    have B3 := Lib.hid (B2.out.trans (b3.mono (by omega)))
    have HO3 := Lib.hid ho
    have hsz3 := b3.size
    rw [HFO.out]
    have L3 := Lib.hid (Rw.new w3 28 #[.int .i64 d, .int .i64 b, .int .i64 p, .slice A2 n2 c2, .int .i64 fu, .int .i64 ke, .bool false, .int .i64 op])
    have AL := Lib.hid ((Below.refl w3.heap.size w3).alloc (Nat.le_refl _) (.cells #[.int .i64 d, .int .i64 b, .int .i64 p, .slice A2 n2 c2, .int .i64 fu, .int .i64 ke, .bool false, .int .i64 op] 28))
    clear a0 a1 a2 a3 a4 a5 a6 a7 b3 ho
    go_wp2_with fail
    refine (HPB2.out _ (.slice A2 n2 c2) w2.heap.size w3.heap.size w3.heap.size (by rw [HFO.out]; exact L3.out) (HO3.out.same (sm AL.out _ (Nat.le_refl _)))).mono ?_
    rintro e w4 ⟨rfl, rfl⟩
    have T4 := Lib.hid (V1.out.below AL.out (by omega))
    have B4 := Lib.hid (B3.out.trans (AL.out.mono (by omega)))
    obtain ⟨z0, z1, z2, z3, z4, z5, z6, z7⟩ := T4.out.eight
    obtain ⟨fz0, fz1, fz2, fz3, fz4, fz5, fz6, fz7⟩ := T4.out.frees
    go_wp2
    exact bodyPost_ret (results_row_tmp Tryz.results79 _ _ _ _ #[.int .i64 0, .int .i64 0, .int .i64 0, .slice none 0 0, .int .i64 0, .int .i64 0, .bool false, .int .i64 0] _ _ rfl
      (T4.out.put8 _ _ _ _ _ _ _ _) Tryz.underlying28 rfl infoFl8) rfl (ZEROS.out _ 7 T4.out B4.out)
  · have HPF := Lib.hid (HPgs.out true (by have := HL1.out hok; omega) (by simp; omega))
    obtain ⟨a0, a1, a2, a3, a4, a5, a6, a7⟩ := S0.out.eight
    have HO2 := Lib.hid (HO.out hok)
    have HPG2 := Lib.hid (HPG.out hok k hkl h2 h3)
    have hcc := F.code_of
    generalize F.erase k = G' at *
    generalize F.code = co at *
    clear HO HPG HPB HPgs hok h2 h3
    go_wp2_with fail
    refine (HPF.out _).mono ?_
    rintro e w2 ⟨rfl, b2⟩
    have T0 := Lib.hid (S0.out.below b2 (by omega))
    have T1 := Lib.hid (S1.out.below b2 (by omega))
    have B2 := Lib.hid (B1.out.trans (b2.mono (by omega)))
    have hsz2 := b2.size
    clear a0 a1 a2 a3 a4 a5 a6 a7 b2
    obtain ⟨a0, a1, a2, a3, a4, a5, a6, a7⟩ := T0.out.eight
    go_wp2_with fail
    refine (HO2.out _ (H.out.same (sm B2.out lo hh)) (by omega)).mono ?_
    rintro e w3 ⟨u2, rfl, ho, b3⟩
    obtain ⟨uu, rfl, ho⟩ := ho
    obtain ⟨A2, n2, c2, rfl⟩ := ho.slice
    have V1 := Lib.hid (T1.out.below b3 (by omega))
    have B3 := Lib.hid (B2.out.trans (b3.mono (by omega)))
    have HO3 := Lib.hid ho
    have hsz3 := b3.size
    rw [HFO.out]
    have L3 := Lib.hid (Rw.new w3 28 #[.int .i64 d, .int .i64 b, .int .i64 p, .slice A2 n2 c2, .int .i64 fu, .int .i64 ke, .bool false, .int .i64 op])
    have AL := Lib.hid ((Below.refl w3.heap.size w3).alloc (Nat.le_refl _) (.cells #[.int .i64 d, .int .i64 b, .int .i64 p, .slice A2 n2 c2, .int .i64 fu, .int .i64 ke, .bool false, .int .i64 op] 28))
    clear a0 a1 a2 a3 a4 a5 a6 a7 b3 ho
    go_wp2_with fail
    refine (HPG2.out _ (.slice A2 n2 c2) w2.heap.size w3.heap.size w3.heap.size (by rw [HFO.out]; exact L3.out) (HO3.out.same (sm AL.out _ (Nat.le_refl _))) (Nat.le_refl _) hsz3).mono ?_
    rintro e w4 ⟨rfl, b4, hx4⟩
    obtain ⟨hr4, ho4⟩ := hx4 hcc
    have b4' : Below w2.heap.size w3 w4 := (AL.out.mono hsz3).trans b4
    have T4 := Lib.hid (V1.out.below b4' (by omega))
    have B4 := Lib.hid (B3.out.trans (b4'.mono (by omega)))
    have s4 := b4.size
    simp only [World.size_alloc] at s4
    have HO4 := Lib.hid ho4
    obtain ⟨gd, gb2, gp, gbs, gfu, gke, goff, gop⟩ := G'
    unfold flc at hr4
    simp only at hr4
    obtain ⟨a0, a1, a2, a3, a4, a5, a6, a7⟩ := hr4.eight
    clear b4 b4' hx4 hr4 ho4 AL L3
    obtain ⟨z0, z1, z2, z3, z4, z5, z6, z7⟩ := T4.out.eight
    obtain ⟨fz0, fz1, fz2, fz3, fz4, fz5, fz6, fz7⟩ := T4.out.frees
    rcases hcc with rfl | rfl
    · go_wp2
      refine bodyPost_ret (results_row_tmp Tryz.results79 _ _ _ _ #[.int .i64 gd, .int .i64 gb2, .int .i64 gp, .slice A2 n2 c2, .int .i64 gfu, .int .i64 gke, .bool goff, .int .i64 gop] _ _ rfl
        (T4.out.put8 _ _ _ _ _ _ _ _) Tryz.underlying28 rfl infoFl8) rfl ?_
      refine ⟨_, rfl, ⟨_, rfl, (HO4.out.same ?_).wide (by omega) (by simp; omega)⟩, ?_⟩
      · repeat refine sset ?_ (.inl (by omega)) _
        exact Same.refl _ _ _
      · repeat refine bset ?_ (by omega) _
        exact B4.out
    · go_wp2
      refine bodyPost_ret (results_row_tmp Tryz.results79 _ _ _ _ #[.int .i64 gd, .int .i64 gb2, .int .i64 gp, .slice A2 n2 c2, .int .i64 gfu, .int .i64 gke, .bool goff, .int .i64 gop] _ _ rfl
        (T4.out.put8 _ _ _ _ _ _ _ _) Tryz.underlying28 rfl infoFl8) rfl ?_
      refine ⟨_, rfl, ⟨_, rfl, (HO4.out.same ?_).wide (by omega) (by simp; omega)⟩, ?_⟩
      · repeat refine sset ?_ (.inl (by omega)) _
        exact Same.refl _ _ _
      · repeat refine bset ?_ (by omega) _
        exact B4.out
end Go.Proofs.YthenilomgbnpeaaGreatDoor
/- An array that fits has not too many blocks and pages. -/
namespace Go.Proofs.YthenilomgbnpeaaGreatDoor
open Go.RowKit
theorem FlIn.agg8 {w : World} {lo hi : Nat} {v : Value} {F : Fl} (h : FlIn w lo hi v F) : ∃ (d b p : Int) (A : Option Addr) (n c : Nat) (fu ke : Int) (off : Bool) (op : Int), v = .agg #[.int .i64 d, .int .i64 b, .int .i64 p, .slice A n c, .int .i64 fu, .int .i64 ke, .bool off, .int .i64 op] := by
  obtain ⟨u, rfl, A, n, c, rfl, _⟩ := h; exact ⟨_, _, _, _, _, _, _, _, _, _, rfl⟩
theorem FlOwn.agg8 {w : World} {lo hi : Nat} {v : Value} {F : Fl} (h : FlOwn w lo hi v F) : ∃ (d b p : Int) (A : Option Addr) (n c : Nat) (fu ke : Int) (off : Bool) (op : Int), v = .agg #[.int .i64 d, .int .i64 b, .int .i64 p, .slice A n c, .int .i64 fu, .int .i64 ke, .bool off, .int .i64 op] := h.reads.agg8
theorem FlSz.lens {F : Fl} (h : FlSz F) : FlLen F := ⟨by unfold FlSz at h; omega, fun i hi => (h.pages hi).1⟩
end Go.Proofs.YthenilomgbnpeaaGreatDoor
