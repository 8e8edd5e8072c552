/- Erasing a block, in the model and in the program: the contracts. -/
import Derived.Test.YtbehoeabnomlaaaProg
import Derived.Test.YtbehoeabnomlaaaFlT
import Derived.Test.YtbehoeabnomlaaaFlW
import Derived.Lib.SliceRun
import Derived.BigFrame
namespace Go.Proofs.Ytbehoeabnomlaaa
open Go.RowKit
set_option linter.unusedVariables false
theorem emptied_zero (l : List ByteArray) : emptied l 0 = l := by simp [emptied]
theorem emptied_step (l : List ByteArray) (t : Nat) (h : t < l.length) : (emptied l t).set t ByteArray.empty = emptied l (t + 1) := by
  unfold emptied
  rw [Nat.min_eq_left (by omega), Nat.min_eq_left (by omega), List.set_append_right _ _ (by simp), List.length_replicate, Nat.sub_self, List.drop_eq_getElem_cons h, List.set_cons_zero, List.replicate_succ', List.append_assoc]; rfl
theorem emptied_min (l : List ByteArray) (m : Nat) : emptied l (min m l.length) = emptied l m := by
  unfold emptied
  rcases Nat.le_total m l.length with h | h
  · rw [Nat.min_eq_left h, Nat.min_eq_left h]
  · rw [Nat.min_eq_right h, Nat.min_self, List.drop_eq_nil_of_le h, List.drop_eq_nil_of_le (Nat.le_refl _)]
theorem bo_clear {g k b off n cap : Nat} {lo hi : Nat} {pv : Nat → Value} {L : List Blk} {a : Blk} (hk : k < L.length) (hv : pv k = .slice (some ⟨b, off, none⟩) n cap) (hn : a.pg.length = n) :
    ∀ (m t : Nat) (w : World), t + m ≤ n → BO w lo hi g pv (L.set k (a.pages (emptied a.pg t))) → BO (w.setCells b (off + t) (List.replicate m (.string ByteArray.empty))) lo hi g pv (L.set k (a.pages (emptied a.pg (t + m))))
  | 0, t, w, _, h => h
  | m + 1, t, w, hm, h => by
    have h1 := h.storePgS hk hv (t := t) (by omega) ByteArray.empty (by show 0 ≤ _; omega)
    have e : (a.pages (emptied a.pg t)).pages ((a.pages (emptied a.pg t)).pg.set t ByteArray.empty) = a.pages (emptied a.pg (t + 1)) := by
      show a.pages ((emptied a.pg t).set t ByteArray.empty) = _
      rw [emptied_step _ _ (by omega)]
    rw [e] at h1
    have h2 := bo_clear hk hv hn m (t + 1) _ (by omega) h1
    rw [show t + (m + 1) = t + 1 + m by omega]
    exact h2
theorem bo_clear0 {w : World} {g k b off n cap : Nat} {lo hi : Nat} {pv : Nat → Value} {L : List Blk} {a : Blk} (h : BO w lo hi g pv (L.set k a)) (hk : k < L.length) (hv : pv k = .slice (some ⟨b, off, none⟩) n cap) (hn : a.pg.length = n) (m : Nat) (hm : m ≤ n) :
    BO (w.setCells b off (List.replicate m (.string ByteArray.empty))) lo hi g pv (L.set k (a.pages (emptied a.pg m))) := by
  have := bo_clear (a := a) hk hv hn m 0 w (by omega) (by rw [emptied_zero]; exact h)
  rwa [Nat.zero_add] at this
theorem Keep.sets {lo hi b : Nat} {w0 : World} (h1 : lo ≤ b) (h2 : b < hi) : ∀ (vs : List Value) (o : Nat) (w : World), Keep lo hi w0 w → Keep lo hi w0 (w.setCells b o vs)
  | [], _, _, h => h
  | v :: vs, o, w, h => Keep.sets h1 h2 vs (o + 1) _ (h.set_ h1 h2 v)
theorem zeroStr (w : World) : (zeroValue 9).run Try.prog w = .ok (.string ByteArray.empty) w := by kernel_rfl
/-- The built-in clear over the first m pages of a block. -/
theorem run_clear_pages {w : World} {g k b off n cap lo hi : Nat} {pv : Nat → Value} {L : List Blk} {a : Blk} (h : BO w lo hi g pv (L.set k a)) (hk : k < L.length) (hv : pv k = .slice (some ⟨b, off, none⟩) n cap) (m : Nat) (hm : m ≤ n) (ty : TypeId) :
    (Builtin.clear_ #[86] ty #[.slice (some ⟨b, off, none⟩) m cap]).run Try.prog w = .ok (.tuple #[]) (w.setCells b off (List.replicate m (.string ByteArray.empty))) := by
  rcases Nat.eq_zero_or_pos m with h0 | h0
  · subst h0
    simp [Builtin.clear_, run_underlying Try.underlying86, World.setCells]
  · exact Lib.run_clear_slice w 86 9 ty (.string ByteArray.empty) Try.underlying86 zeroStr rfl rfl b off m cap h0
      (fun j hj => by rw [(h.pageS hk hv (t := j) (by omega)).1]; rfl) (fun j hj => (h.pageS hk hv (t := j) (by omega)).2.1)
set_option maxRecDepth 100000 in
theorem blkErase_any (w : World) (lo hi g : Nat) (pv : Nat → Value) (L : List Blk) (k : Nat) (ke : Int) (h : BO w lo hi g pv L) (hk : k < L.length) (hh : hi ≤ w.heap.size)
    (h0 : 0 ≤ (L.getD k Blk.zero).er ∧ (L.getD k Blk.zero).er ≤ 1000) (h1 : 0 < (L.getD k Blk.zero).pg.length) (h2 : (L.getD k Blk.zero).pg.length ≤ 16) (hke : 0 ≤ ke ∧ ke ≤ 91) :
    Calls Try.prog 105 #[.pointer (some ⟨g, k * 4, none⟩), .int .i64 ke] w
      (UnitPost fun w' => BO w' lo hi g pv (L.set k ((L.getD k Blk.zero).erase ke.toNat)) ∧ Keep lo hi w w') := by
  have o0 := h.self hk
  obtain ⟨b, off, cap, hv, hv1, hv2⟩ := h.somePg hk (by omega)
  generalize L.getD k Blk.zero = y at *
  obtain ⟨q0, q1, q2, q3⟩ := o0.cells hk
  rw [hv] at q3
  have f0 := o0.free (k * 4)
  have f1 := o0.free (k * 4 + 1)
  have O0 := Lib.hid o0
  have HK := Lib.hid hk
  obtain ⟨er, nx, bad, pg⟩ := y
  simp only at h0 h1 h2 q0 q1 q2 q3 hv hv1
  obtain ⟨n, hn⟩ : ∃ n, n = pg.length := ⟨_, rfl⟩
  have HN := Lib.hid hn
  rw [← hn] at h1 h2 q3 hv hv1
  have HV := Lib.hid hv
  have hlow := h.low
  have hhigh := h.high
  have hn16 : (n : Int) ≤ 16 := by omega
  obtain ⟨m, rfl⟩ := Int.eq_ofNat_of_zero_le hke.1
  have hcapi : (n : Int) ≤ (cap : Int) := by omega
  clear h o0 hn hk hv
  have O1 := O0.out.storeS (c := 0) HK.out (.int .i64 (er + 1)) (.inl ⟨rfl, _, rfl⟩)
  have O2 := O1.storeS (c := 1) HK.out (.int .i64 0) (.inr (.inl ⟨rfl, _, rfl⟩))
  have K2 := (((Keep.refl lo hi w).set_ (g := g) (k := k * 4) hlow hhigh (.int .i64 (er + 1))).set_ (g := g) (k := k * 4 + 1) hlow hhigh (.int .i64 0))
  rw [Nat.add_zero] at O1 O2
  obtain ⟨_, _, hb1, hb2, _⟩ := O0.out.pageS HK.out HV.out (t := 0) h1
  by_cases hz : m < n
  · have hzi : (m : Int) < (n : Int) := by omega
    have hmin : min (m : Int) (n : Int) = (m : Int) := by omega
    have O3 := O2.storeS (c := 1) HK.out (.int .i64 (n : Int)) (.inr (.inl ⟨rfl, _, rfl⟩))
    have K3 := K2.set_ (g := g) (k := k * 4 + 1) hlow hhigh (.int .i64 (n : Int))
    have hcl := fun ty => run_clear_pages O3 HK.out HV.out m (by omega) ty
    have O4 := Lib.hid (bo_clear0 O3 HK.out HV.out HN.out.symm m (by omega))
    have K4 := Lib.hid (Keep.sets hb1 hb2 (List.replicate m (.string ByteArray.empty)) off _ K3)
    have HE := Lib.hid (show Blk.erase ⟨er, nx, bad, pg⟩ m = (Blk.put (Blk.put (Blk.put ⟨er, nx, bad, pg⟩ 0 (.int .i64 (er + 1))) 1 (.int .i64 0)) 1 (.int .i64 (n : Int))).pages (emptied pg m) from by
      unfold Blk.erase; rw [if_pos (by rw [← HN.out]; exact hz), ← HN.out]; rfl)
    rw [Int.toNat_natCast]
    clear O0 O1 O2 O3 K2 K3
    go_enter Try.func105, Try.ntmps105
    go_wp2_with (simp only [hcl])
    go_end0
    exact ⟨rfl, by rw [HE.out]; exact O4.out, K4.out⟩
  · have hzi : ¬ (m : Int) < (n : Int) := by omega
    have hmin : min (m : Int) (n : Int) = (n : Int) := by omega
    have hcl := fun ty => run_clear_pages O2 HK.out HV.out n (Nat.le_refl _) ty
    have O4 := Lib.hid (bo_clear0 O2 HK.out HV.out HN.out.symm n (Nat.le_refl _))
    have K4 := Lib.hid (Keep.sets hb1 hb2 (List.replicate n (.string ByteArray.empty)) off _ K2)
    have HE := Lib.hid (show Blk.erase ⟨er, nx, bad, pg⟩ m = (Blk.put (Blk.put ⟨er, nx, bad, pg⟩ 0 (.int .i64 (er + 1))) 1 (.int .i64 0)).pages (emptied pg n) from by
      unfold Blk.erase; rw [if_neg (by rw [← HN.out]; exact hz), ← emptied_min, show min m pg.length = n by rw [← HN.out]; omega]; rfl)
    rw [Int.toNat_natCast]
    clear O0 O1 O2 K2
    rcases Nat.lt_or_eq_of_le (Nat.le_of_not_lt hz) with h9 | h9
    · have h9i : (n : Int) < (m : Int) := by omega
      go_enter Try.func105, Try.ntmps105
      go_wp2_with (simp only [hcl])
      go_end0
      exact ⟨rfl, by rw [HE.out]; exact O4.out, K4.out⟩
    · subst h9
      have hmin2 : min (n : Int) (n : Int) = (n : Int) := by omega
      go_enter Try.func105, Try.ntmps105
      go_wp2_with (simp only [hcl])
      go_end0
      exact ⟨rfl, by rw [HE.out]; exact O4.out, K4.out⟩
theorem erase_bs (F : Fl) (k : Nat) : (F.erase k).bs = F.bs.set k ((F.blk k).erase F.much.toNat) := by
  have e : (if F.fu = 0 then F.ke.toNat else 91) = F.much.toNat := by unfold Fl.much; split <;> rfl
  show F.bs.set k ((F.blk k).erase (if F.fu = 0 then F.ke.toNat else 91)) = _
  rw [e]
theorem EraEnds.codes {F : Fl} {block : Int} {G : Fl} {c : Int} (h : EraEnds F block G c) (hn : ¬ (c = 0 ∨ c = 8)) : G = Fl.zero := by
  rcases h with _ | _ | _ | _ | _
  · rfl
  · exact absurd (.inr rfl) hn
  · rfl
  · rfl
  · exact absurd (by unfold Fl.code; split <;> simp) hn
set_option maxRecDepth 100000 in
theorem flErase_any (w : World) (lo hi g : Nat) (F G : Fl) (u : Value) (block : Int) (c : Int) (hR : Rw w g 54 (flc F u)) (hB : BksOwn w lo hi u F.bs) (hg : hi ≤ g) (hlo : lo ≤ hi) (hok : FlOk F)
    (hE : EraEnds F block G c) :
    Calls Try.prog 92 #[.pointer (some ⟨g, 0, none⟩), .int .i64 block] w (InPost lo hi g u G c w) := by
  have hn8 := hok.len
  have hRg := hR
  obtain ⟨A, n, cap, rfl, hlc, hcm, hlen, hA⟩ := hB
  have hgl := hR.lt
  have RR := Lib.hid hR
  obtain ⟨c0, c1, c2, c3, c4, c5, c6, c7⟩ := hR.eight
  rw [hlen] at hn8
  have hnm : (n : Int) ≤ 36 := by omega
  have bl := Below.refl lo w
  have hLB : (n : Int) = F.d * F.b := by have := hok.2.1; rw [hlen] at this; exact this
  have HP := Lib.hid (fun (W : World) (r : Bool) (hr : r = true ↔ (0 ≤ block ∧ block < (n : Int))) => geoBlock_any F.d F.b F.p block r W hok.1 (by rw [← hLB]; exact hr))
  have hhi : hi ≤ w.heap.size := by omega
  clear hLB
  rcases hE with hE | ⟨_, h1⟩ | ⟨_, h1, h2⟩ | ⟨_, h1, k, rfl, hkl, h2⟩ | ⟨_, h1, k, rfl, hkl, h2, h3⟩
  · exact absurd hok hE
  · have HB := Lib.hid (show BksOwn w lo hi (.slice A n cap) F.bs from ⟨A, n, cap, rfl, hlc, hcm, hlen, hA⟩)
    rw [h1] at c6
    clear hA hRg hR hok hlen
    go_enter Try.func92, Try.ntmps92
    go_wp2
    go_ret
    exact ⟨rfl, bl, fun _ => ⟨RR.out, HB.out⟩⟩
  · rw [h1] at c6
    have HF := Lib.hid (fun (W : World) => HP.out W false (by rw [hlen] at h2; simp only [Bool.false_eq_true, false_iff]; exact h2))
    clear hA hRg hR hok hlen h2
    go_enter Try.func92, Try.ntmps92
    go_wp2_with fail
    refine (HF.out _).mono ?_
    rintro e w' ⟨rfl, bx⟩
    clear c0 c1 c2 c3 c4 c5 c6 c7
    have RX := Lib.hid (RR.out.below bx hgl)
    obtain ⟨c0, c1, c2, c3, c4, c5, c6, c7⟩ := RX.out.eight
    rw [h1] at c6
    have BX := Lib.hid (show Below lo w w' from bx.mono (by omega))
    clear bx
    go_wp2
    go_ret
    exact ⟨rfl, BX.out, fun h => by omega⟩
  · rw [h1] at c6
    rw [hlen] at hkl
    obtain ⟨gb, pv, rfl, hbo⟩ := hA (by omega)
    have HF := Lib.hid (fun (W : World) => HP.out W true (by simp; omega))
    have HQ := Lib.hid (show ∀ W, Below w.heap.size w W → W.cell? ⟨gb, k * 4, none⟩ = some (.int .i64 (F.blk k).er) ∧ W.cell? ⟨gb, k * 4 + 1, none⟩ = some (.int .i64 (F.blk k).nx) ∧ W.cell? ⟨gb, k * 4 + 2, none⟩ = some (.bool (F.blk k).bad) from fun W b => by
      obtain ⟨q0, q1, q2, q3⟩ := (hbo.same (sm b lo hhi)).row k (by omega)
      exact ⟨q0, q1, q2⟩)
    have hki : (k : Int) < (n : Int) := by omega
    clear hA hRg hR hlen hbo hok
    generalize (F.blk k).bad = bb at *
    generalize (F.blk k).er = er at *
    cases bb with
    | true =>
      clear h2
      go_enter Try.func92, Try.ntmps92
      go_wp2_with fail
      refine (HF.out _).mono ?_
      rintro e w' ⟨rfl, bx⟩
      clear c0 c1 c2 c3 c4 c5 c6 c7
      have RX := Lib.hid (RR.out.below bx hgl)
      obtain ⟨c0, c1, c2, c3, c4, c5, c6, c7⟩ := RX.out.eight
      rw [h1] at c6
      have BX := Lib.hid (show Below lo w w' from bx.mono (by omega))
      obtain ⟨q0, q1, q2⟩ := HQ.out _ bx
      go_wp2
      go_ret
      exact ⟨rfl, BX.out, fun h => by omega⟩
    | false =>
      obtain rfl : er = 1000 := by rcases h2 with h2 | h2; cases h2; exact h2
      clear h2
      go_enter Try.func92, Try.ntmps92
      go_wp2_with fail
      refine (HF.out _).mono ?_
      rintro e w' ⟨rfl, bx⟩
      clear c0 c1 c2 c3 c4 c5 c6 c7
      have RX := Lib.hid (RR.out.below bx hgl)
      obtain ⟨c0, c1, c2, c3, c4, c5, c6, c7⟩ := RX.out.eight
      rw [h1] at c6
      have BX := Lib.hid (show Below lo w w' from bx.mono (by omega))
      obtain ⟨q0, q1, q2⟩ := HQ.out _ bx
      go_wp2
      go_ret
      exact ⟨rfl, BX.out, fun h => by omega⟩
  · rw [h1] at c6
    rw [hlen] at hkl
    obtain ⟨gb, pv, rfl, hbo⟩ := hA (by omega)
    have HF := Lib.hid (fun (W : World) => HP.out W true (by simp; omega))
    have HQ := Lib.hid (show ∀ W, Below w.heap.size w W → W.cell? ⟨gb, k * 4, none⟩ = some (.int .i64 (F.blk k).er) ∧ W.cell? ⟨gb, k * 4 + 1, none⟩ = some (.int .i64 (F.blk k).nx) ∧ W.cell? ⟨gb, k * 4 + 2, none⟩ = some (.bool (F.blk k).bad) from fun W b => by
      obtain ⟨q0, q1, q2, q3⟩ := (hbo.same (sm b lo hhi)).row k (by omega)
      exact ⟨q0, q1, q2⟩)
    have hki : (k : Int) < (n : Int) := by omega
    rw [h2] at HQ
    have hpl := hok.plen (i := k) (by omega)
    have hbk := hok.2.2.1 k (by omega)
    have hS := Lib.hid (fun (W : World) (k : Rw W g 54 (flc F (.slice (some ⟨gb, 0, none⟩) n cap))) => start_any g F (.slice (some ⟨gb, 0, none⟩) n cap) W k hok.2.2.2.1)
    have hmu := Fl.much_ok hok
    have HD := Lib.hid (And.intro (erase_bs F k) (show flc (F.erase k) (.slice (some ⟨gb, 0, none⟩) n cap) = flc F.tick (.slice (some ⟨gb, 0, none⟩) n cap) from rfl))
    have HBO := Lib.hid hbo
    have HLN := Lib.hid hlen
    have HPR := Lib.hid (fun (W : World) (o : BO W lo hi gb pv F.bs) (hh : hi ≤ W.heap.size) => blkErase_any W lo hi gb pv F.bs k F.much o (by omega) hh hbk.1 (by show 0 < (F.blk k).pg.length; omega) (by show (F.blk k).pg.length ≤ 16; omega) hmu)
    have hd : ((F.blk k).er == 1000) = false := by simp [h3]
    have HLL := Lib.hid (show (F.bs.set k ((F.blk k).erase F.much.toNat)).length = n by rw [List.length_set]; exact hlen)
    generalize (F.blk k).er = er at *
    generalize F.much = mu at *
    generalize F.code = co at *
    generalize F.erase k = G' at *
    clear hA hRg hR hlen hbo h3 hok hpl hbk hmu
    go_enter Try.func92, Try.ntmps92
    go_wp2_with fail
    refine (HF.out _).mono ?_
    rintro e w' ⟨rfl, bx⟩
    clear c0 c1 c2 c3 c4 c5 c6 c7
    have RX := Lib.hid (RR.out.below bx hgl)
    obtain ⟨c0, c1, c2, c3, c4, c5, c6, c7⟩ := RX.out.eight
    rw [h1] at c6
    have BX := Lib.hid (show Below lo w w' from bx.mono (by omega))
    obtain ⟨q0, q1, q2⟩ := HQ.out _ bx
    have hs1 := bx.size
    have OX := Lib.hid (HBO.out.same (sm bx lo hhi))
    clear bx
    go_wp2_with fail
    refine (hS.out _ RX.out).mono ?_
    rintro e w1 ⟨rfl, r1, gr1⟩
    have k3 : w1.cell? ⟨g, 3, none⟩ = some (.slice (some ⟨gb, 0, none⟩) n cap) := r1.cell 3
    have s1 := gr1.size
    have o1 := Lib.hid (OX.out.same (same_grown gr1 hg (by omega)))
    have hb1 := Lib.hid (grown_keep gr1 (B := lo) (by omega) (by omega))
    have R1 := Lib.hid r1
    clear r1 gr1 c0 c1 c2 c3 c4 c5 c6 c7 q0 q1 q2
    go_wp2_with fail
    refine (HPR.out w1 o1.out (by omega)).mono ?_
    rintro e w2 ⟨rfl, o2, k2⟩
    have O2 := Lib.hid o2
    have K2 := Lib.hid k2
    clear o2 k2 k3
    go_wp2
    go_ret
    refine ⟨rfl, BX.out.trans (hb1.out.trans K2.out.1), fun _ => ⟨?_, ?_⟩⟩
    · rw [HD.out.2]; exact R1.out.kept K2.out hg
    · exact ⟨_, n, cap, rfl, hlc, hcm, by rw [HD.out.1]; exact HLL.out, fun _ => ⟨gb, pv, rfl, by rw [HD.out.1]; exact O2.out⟩⟩
end Go.Proofs.Ytbehoeabnomlaaa
