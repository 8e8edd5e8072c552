/- The blocks that are bad or worn, in the model and in the program: the contracts. -/
import Derived.Test.YtbdfdkhkamonpabProg
import Derived.Test.YtbdfdkhkamonpabFlW
import Derived.Test.YtbdfdkhkamonpabIntsR
import Derived.Test.YtbdfdkhkamonpabTbM
import Derived.Test.YtbdfdkhkamonpabApp
namespace Go.Proofs.Ytbdfdkhkamonpab
open Go.RowKit
set_option linter.unusedVariables false
set_option linter.unusedSimpArgs false
/-- Of the first k blocks those that are bad or have at least so many erases. -/
def scanL (F : Fl) (lim : Int) : Nat → List Int
  | 0 => []
  | k + 1 => if (F.bs.getD k Blk.zero).bad = true ∨ lim ≤ (F.bs.getD k Blk.zero).er then scanL F lim k ++ [(k : Int)] else scanL F lim k
theorem scanL_le (F : Fl) (lim : Int) (k : Nat) : (scanL F lim k).length ≤ k := by
  induction k with
  | zero => simp [scanL]
  | succ k ih =>
    unfold scanL
    split
    · rw [List.length_append, List.length_singleton]; omega
    · omega
def scanV (F : Fl) (lim : Int) (r : Bool) : List Int := if r = true then scanL F lim F.bs.length else []
theorem scanV_le {F : Fl} {lim : Int} {r : Bool} (hr : r = true ↔ FlOk F) : (scanV F lim r).length ≤ 36 := by
  unfold scanV
  split
  · rename_i h
    have := (hr.1 h).len
    have := scanL_le F lim F.bs.length
    omega
  · simp
set_option maxHeartbeats 2000000 in
set_option maxRecDepth 100000 in
theorem specScan_any (v : Value) (F : Fl) (lim : Int) (r : Bool) (w : World) (lo hi : Nat) (h : FlIn w lo hi v F) (hh : hi ≤ w.heap.size) (hr : r = true ↔ FlOk F) (hl : FlLen F) :
    Calls Try.prog 62 #[v, .int .i64 lim] w (CopyPostI (scanV F lim r) w) := by
  have HV := Lib.hid (fun (W : World) (b : Below w.heap.size w W) => specValid_any v F r W lo hi (h.same (sm b lo hh)) (Nat.le_trans hh b.size) hr hl)
  obtain ⟨u, rfl, hb⟩ := h
  obtain ⟨A, n, cap, rfl, hlc, hcm, hlen, hA⟩ := hb
  have hl1 := hl.1
  rw [hlen] at hl1
  have hnm : (n : Int) ≤ 1048576 := by omega
  have HLE := Lib.hid (scanL_le F lim)
  have HN0 := Lib.hid (fun (k : Nat) (q : (F.bs.getD k Blk.zero).bad = true ∨ lim ≤ (F.bs.getD k Blk.zero).er) => show scanL F lim (k + 1) = scanL F lim k ++ [(k : Int)] by rw [scanL, if_pos q])
  have HN1 := Lib.hid (fun (k : Nat) (q : ¬ ((F.bs.getD k Blk.zero).bad = true ∨ lim ≤ (F.bs.getD k Blk.zero).er)) => show scanL F lim (k + 1) = scanL F lim k by rw [scanL, if_neg q])
  have HE := Lib.hid (show scanV F lim r = if r = true then scanL F lim n else [] by unfold scanV; rw [hlen])
  obtain ⟨d, b, p, bs, fu, ke, off, op⟩ := F
  unfold flc at *
  simp only at *
  obtain ⟨G, hG⟩ : ∃ G, G = scanL ⟨d, b, p, bs, fu, ke, off, op⟩ lim := ⟨_, rfl⟩
  have HG0 := Lib.hid (show G 0 = [] by rw [hG]; rfl)
  rw [← hG] at HLE HN0 HN1 HE
  have r0 := Rw.new w 92 #[.int .i64 d, .int .i64 b, .int .i64 p, .slice A n cap, .int .i64 fu, .int .i64 ke, .bool off, .int .i64 op]
  have b0 := (Below.refl w.heap.size w).alloc (Nat.le_refl _) (.cells #[.int .i64 d, .int .i64 b, .int .i64 p, .slice A n cap, .int .i64 fu, .int .i64 ke, .bool off, .int .i64 op] 92)
  have R0 := Lib.hid (r0.alloc (.cells #[] 2))
  have B0 := Lib.hid (b0.alloc (by simp) (.cells #[] 2))
  have I0 := Lib.hid (IntsOwn.made (w.alloc (.cells #[.int .i64 d, .int .i64 b, .int .i64 p, .slice A n cap, .int .i64 fu, .int .i64 ke, .bool off, .int .i64 op] 92)) (B := w.heap.size + 1) (by simp))
  have HA := Lib.hid hA
  have HH := Lib.hid hh
  clear hA hh hr hl hl1 hlen r0 b0 hG
  cases r with
  | false =>
    have HE1 := Lib.hid (show scanV ⟨d, b, p, bs, fu, ke, off, op⟩ lim false = [] by rw [HE.out]; rfl)
    obtain ⟨c0, c1, c2, c3, c4, c5, c6, c7⟩ := R0.out.eight
    clear HE HN0 HN1 HLE HA
    go_enter Try.func62, Try.ntmps62
    go_wp2_with fail
    go_loopw [5, 6] (fun v i wr => v = .slice (some ⟨w.heap.size + 1, 0, none⟩) 0 0 ∧ i = .int .i64 0 ∧ wr = (w.alloc (.cells #[.int .i64 d, .int .i64 b, .int .i64 p, .slice A n cap, .int .i64 fu, .int .i64 ke, .bool off, .int .i64 op] 92)).alloc (.cells #[] 2)) (fun _ i _ => 0)
    case atStart => exact ⟨by simp, rfl, rfl⟩
    case round =>
      obtain ⟨rfl, rfl, rfl⟩ := hrel
      by_cases h0 : 0 < n
      · have hn0 : (0 : Int) < (n : Int) := by omega
        go_wp2_with fail
        refine (HV.out _ B0.out).mono ?_
        rintro e w1 ⟨rfl, b1⟩
        have B1 := Lib.hid (B0.out.trans (b1.mono (by simp; omega)))
        have I1 := Lib.hid (I0.out.later b1 (Nat.le_refl _))
        clear b1 c0 c1 c2 c3 c4 c5 c6 c7
        go_wp2
        go_ret
        exact ⟨_, rfl, by rw [HE1.out]; exact IntsOwn.low (by simpa using I1.out) (Nat.le_succ _), B1.out⟩
      · obtain rfl : n = 0 := by omega
        go_wp2
        go_ret
        exact ⟨_, rfl, by rw [HE1.out]; exact IntsOwn.low (by simpa using I0.out) (Nat.le_succ _), B0.out⟩
  | true =>
    have HE1 := Lib.hid (show scanV ⟨d, b, p, bs, fu, ke, off, op⟩ lim true = G n by rw [HE.out]; rfl)
    obtain ⟨c0, c1, c2, c3, c4, c5, c6, c7⟩ := R0.out.eight
    have I1 := Lib.hid (show IntsOwn _ (w.heap.size + 1) (.slice (some ⟨w.heap.size + 1, 0, none⟩) 0 0) (G 0) by rw [HG0.out]; simpa using I0.out)
    clear HE I0
    go_enter Try.func62, Try.ntmps62
    go_wp2_with fail
    go_loopw [5, 6] (fun v i wr => ∃ k : Nat, k ≤ n ∧ i = .int .i64 k ∧ Hid (IntsOwn wr (w.heap.size + 1) v (G k)) ∧ Hid (Below w.heap.size w wr) ∧ Hid (Rw wr w.heap.size 92 #[.int .i64 d, .int .i64 b, .int .i64 p, .slice A n cap, .int .i64 fu, .int .i64 ke, .bool off, .int .i64 op])) (fun _ i _ => n - (intOf i).toNat)
    case atStart => exact ⟨0, by omega, rfl, I1, B0, R0⟩
    case round =>
      clear c0 c1 c2 c3 c4 c5 c6 c7 I1 B0 R0
      obtain ⟨k, hk, rfl, HO, HB, HR⟩ := hrel
      obtain ⟨c0, c1, c2, c3, c4, c5, c6, c7⟩ := HR.out.eight
      by_cases hlt : k < n
      · have hki : (k : Int) < (n : Int) := by omega
        obtain ⟨g, o, rfl, hg1, hg2, hx⟩ := HA.out (by omega)
        obtain ⟨pv, hbk, hpg⟩ := hx k hlt
        have HBK := Lib.hid (fun (W : World) (q : Below w.heap.size w W) => hbk.same (sm q lo HH.out) hg1 hg2)
        have H1 := Lib.hid (HN0.out k)
        have H2 := Lib.hid (HN1.out k)
        have hlen := HLE.out k
        generalize bs.getD k Blk.zero = x at *
        obtain ⟨er, nx, bad, pg⟩ := x
        simp only at H1 H2
        clear hx hbk hpg HN0 HN1 HLE HA
        go_wp2_with fail
        refine (HV.out _ HB.out).mono ?_
        rintro e w1 ⟨rfl, b1⟩
        have HB1 := Lib.hid (HB.out.trans (b1.mono HB.out.size))
        have HR1 := Lib.hid (HR.out.below b1 HR.out.lt)
        have HO1 := Lib.hid (HO.out.later b1 (Nat.le_refl _))
        clear b1 c0 c1 c2 c3 c4 c5 c6 c7 HB HR HO
        obtain ⟨c0, c1, c2, c3, c4, c5, c6, c7⟩ := HR1.out.eight
        obtain ⟨e0, e1, e2, e3⟩ := HBK.out _ HB1.out
        simp only at e0 e1 e2 e3
        have hb' := HB1.out
        have hz' := HB1.out.size
        have hown := HO1.out
        have hne := HO1.out.ne (Nat.lt_succ_self w.heap.size)
        have hz1 : w.heap.size + 1 ≤ w1.heap.size := by have := HR1.out.lt; omega
        clear HV HBK HO1 HB1 HH
        cases bad with
        | true =>
          have HX := Lib.hid (H1.out (.inl rfl))
          clear H1 H2
          go_wp2_with (at_builtin; refine wpList_append_int3 rfl _ _ rfl _ _ rfl hown hb' hz1 (Nat.le_succ _) _ _ rfl (by omega) ?_; intro v' w2 hown3 hb2 hs hz; clear hown hb')
          go_roundw
          case rel => exact ⟨k + 1, by omega, by go_num, Lib.hid (by rw [HX.out]; exact hown3), Lib.hid hb2, Lib.hid (HR1.out.at_ (hs _ HR1.out.lt hne))⟩
          case measure => simp [intOf]; omega
        | false =>
          by_cases he : lim ≤ er
          · have d1 : decide (lim ≤ er) = true := by simpa using he
            have d2 : decide (er ≥ lim) = true := by simpa using he
            have HX := Lib.hid (H1.out (.inr he))
            clear H1 H2 he
            go_wp2_with (at_builtin; refine wpList_append_int3 rfl _ _ rfl _ _ rfl hown hb' hz1 (Nat.le_succ _) _ _ rfl (by omega) ?_; intro v' w2 hown3 hb2 hs hz; clear hown hb')
            go_roundw
            case rel => exact ⟨k + 1, by omega, by go_num, Lib.hid (by rw [HX.out]; exact hown3), Lib.hid hb2, Lib.hid (HR1.out.at_ (hs _ HR1.out.lt hne))⟩
            case measure => simp [intOf]; omega
          · have d1 : decide (lim ≤ er) = false := by simpa using he
            have d2 : decide (er ≥ lim) = false := by simpa using he
            have HX := Lib.hid (H2.out (fun q => by
              rcases q with q | q
              · cases q
              · exact he q))
            have HOO := Lib.hid hown
            have HBB := Lib.hid hb'
            clear H1 H2 he hown hb'
            go_wp2
            go_roundw
            case rel => exact ⟨k + 1, by omega, by go_num, Lib.hid (by rw [HX.out]; exact HOO.out), HBB, HR1⟩
            case measure => simp [intOf]; omega
      · obtain rfl : k = n := by omega
        go_wp2
        go_ret
        exact ⟨_, rfl, by rw [HE1.out]; exact HO.out.low (Nat.le_succ _), HB.out⟩
set_option maxHeartbeats 2000000 in
set_option maxRecDepth 100000 in
theorem implScan_any (v : Value) (F : Fl) (lim : Int) (r : Bool) (w : World) (lo hi : Nat) (h : FlIn w lo hi v F) (hh : hi ≤ w.heap.size) (hr : r = true ↔ FlOk F) (hl : FlLen F) :
    Calls Try.prog 63 #[v, .int .i64 lim] w (CopyPostI (scanV F lim r) w) := by
  have HV := Lib.hid (fun (W : World) (b : Below w.heap.size w W) => implValid_any v F r W lo hi (h.same (sm b lo hh)) (Nat.le_trans hh b.size) hr hl)
  obtain ⟨u, rfl, hb⟩ := h
  obtain ⟨A, n, cap, rfl, hlc, hcm, hlen, hA⟩ := hb
  have hl1 := hl.1
  rw [hlen] at hl1
  have hnm : (n : Int) ≤ 1048576 := by omega
  have HLE := Lib.hid (scanL_le F lim)
  have HN0 := Lib.hid (fun (k : Nat) (q : (F.bs.getD k Blk.zero).bad = true ∨ lim ≤ (F.bs.getD k Blk.zero).er) => show scanL F lim (k + 1) = scanL F lim k ++ [(k : Int)] by rw [scanL, if_pos q])
  have HN1 := Lib.hid (fun (k : Nat) (q : ¬ ((F.bs.getD k Blk.zero).bad = true ∨ lim ≤ (F.bs.getD k Blk.zero).er)) => show scanL F lim (k + 1) = scanL F lim k by rw [scanL, if_neg q])
  have HE := Lib.hid (show scanV F lim r = if r = true then scanL F lim n else [] by unfold scanV; rw [hlen])
  obtain ⟨d, b, p, bs, fu, ke, off, op⟩ := F
  unfold flc at *
  simp only at *
  obtain ⟨G, hG⟩ : ∃ G, G = scanL ⟨d, b, p, bs, fu, ke, off, op⟩ lim := ⟨_, rfl⟩
  have HG0 := Lib.hid (show G 0 = [] by rw [hG]; rfl)
  rw [← hG] at HLE HN0 HN1 HE
  have R0 := Lib.hid (Rw.new w 92 #[.int .i64 d, .int .i64 b, .int .i64 p, .slice A n cap, .int .i64 fu, .int .i64 ke, .bool off, .int .i64 op])
  have B0 := Lib.hid ((Below.refl w.heap.size w).alloc (Nat.le_refl _) (.cells #[.int .i64 d, .int .i64 b, .int .i64 p, .slice A n cap, .int .i64 fu, .int .i64 ke, .bool off, .int .i64 op] 92))
  have HA := Lib.hid hA
  have HH := Lib.hid hh
  clear hA hh hr hl hl1 hlen hG
  obtain ⟨c0, c1, c2, c3, c4, c5, c6, c7⟩ := R0.out.eight
  cases r with
  | false =>
    have HE1 := Lib.hid (show scanV ⟨d, b, p, bs, fu, ke, off, op⟩ lim false = [] by rw [HE.out]; rfl)
    clear HE HN0 HN1 HLE HA
    go_enter Try.func63, Try.ntmps63
    go_wp2_with fail
    refine (HV.out _ B0.out).mono ?_
    rintro e w1 ⟨rfl, b1⟩
    have B1 := Lib.hid (B0.out.trans (b1.mono (by simp)))
    clear b1 c0 c1 c2 c3 c4 c5 c6 c7
    go_wp2
    go_ret
    exact ⟨_, rfl, by rw [HE1.out]; exact World.ownsRow_nil _ _ _ 1, B1.out⟩
  | true =>
    have HE1 := Lib.hid (show scanV ⟨d, b, p, bs, fu, ke, off, op⟩ lim true = G n by rw [HE.out]; rfl)
    clear HE
    go_enter Try.func63, Try.ntmps63
    go_wp2_with fail
    refine (HV.out _ B0.out).mono ?_
    rintro e w1 ⟨rfl, b1⟩
    have B1 := B0.out.trans (b1.mono (by simp))
    have R1 := R0.out.below b1 R0.out.lt
    have hR1 := R1.lt
    have B2 := Lib.hid (B1.alloc B1.size (.cells #[] 2))
    have I1 := Lib.hid (show IntsOwn (w1.alloc (.cells #[] 2)) (w.heap.size + 1) (.slice (some ⟨w1.heap.size, 0, none⟩) 0 0) (G 0) by rw [HG0.out]; exact IntsOwn.made w1 (by omega))
    have S2 := Lib.hid (show w.heap.size + 1 ≤ (w1.alloc (.cells #[] 2)).heap.size by simp; omega)
    obtain ⟨_, _, _, q3, _⟩ := (R1.alloc (.cells #[] 2)).eight
    clear b1 c0 c1 c2 c3 c4 c5 c6 c7 B1 R1 HV B0 R0
    go_wp2_with fail
    go_loopw [5, 15] (fun v i wr => ∃ k : Nat, k ≤ n ∧ i = .int .i64 k ∧ Hid (IntsOwn wr (w.heap.size + 1) v (G k)) ∧ Hid (Below w.heap.size w wr) ∧ Hid (w.heap.size + 1 ≤ wr.heap.size)) (fun _ i _ => n - (intOf i).toNat)
    case atStart => exact ⟨0, by omega, rfl, I1, B2, S2⟩
    case round =>
      clear I1 B2 S2 q3
      obtain ⟨k, hk, rfl, HO, HB, HS⟩ := hrel
      by_cases hlt : k < n
      · have hki : (k : Int) < (n : Int) := by omega
        obtain ⟨g, o, rfl, hg1, hg2, hx⟩ := HA.out (by omega)
        obtain ⟨pv, hbk, hpg⟩ := hx k hlt
        have hbk2 := hbk.same (sm HB.out lo HH.out) hg1 hg2
        have H1 := Lib.hid (HN0.out k)
        have H2 := Lib.hid (HN1.out k)
        have hlen := HLE.out k
        generalize bs.getD k Blk.zero = x at *
        obtain ⟨A2, n2, c2, rfl, _⟩ := hpg
        obtain ⟨er, nx, bad, pg⟩ := x
        obtain ⟨e0, e1, e2, e3⟩ := hbk2
        simp only at H1 H2 e0 e1 e2 e3
        have hb' := HB.out.alloc HB.out.size (.cells #[.int .i64 er, .int .i64 nx, .bool bad, .slice A2 n2 c2] 181)
        have hz1 : w.heap.size + 1 ≤ (wr.alloc (.cells #[.int .i64 er, .int .i64 nx, .bool bad, .slice A2 n2 c2] 181)).heap.size := by have := HS.out; simp; omega
        have hown : IntsOwn (wr.alloc (.cells #[.int .i64 er, .int .i64 nx, .bool bad, .slice A2 n2 c2] 181)) (w.heap.size + 1) u5 (G k) := World.ownsRow.alloc HO.out _
        have HS2 := Lib.hid hz1
        clear hx hbk HN0 HN1 HLE HA HO HB HH
        cases bad with
        | true =>
          have HX := Lib.hid (H1.out (.inl rfl))
          clear H1 H2
          go_wp2_with (at_builtin; refine wpList_append_int4 rfl _ _ rfl _ _ rfl hown hb' hz1 (Nat.le_succ _) _ _ _ rfl (by simp) (by omega) ?_; intro v' w2 hown3 hb2 hs hz; clear hown hb')
          go_roundw
          case rel => exact ⟨k + 1, by omega, by go_num, Lib.hid (by rw [HX.out]; exact hown3), Lib.hid hb2, Lib.hid (Nat.le_trans HS2.out hz)⟩
          case measure => simp [intOf]; omega
        | false =>
          by_cases he : lim ≤ er
          · have d1 : decide (lim ≤ er) = true := by simpa using he
            have d2 : decide (er ≥ lim) = true := by simpa using he
            have HX := Lib.hid (H1.out (.inr he))
            clear H1 H2 he
            go_wp2_with (at_builtin; refine wpList_append_int4 rfl _ _ rfl _ _ rfl hown hb' hz1 (Nat.le_succ _) _ _ _ rfl (by simp) (by omega) ?_; intro v' w2 hown3 hb2 hs hz; clear hown hb')
            go_roundw
            case rel => exact ⟨k + 1, by omega, by go_num, Lib.hid (by rw [HX.out]; exact hown3), Lib.hid hb2, Lib.hid (Nat.le_trans HS2.out hz)⟩
            case measure => simp [intOf]; omega
          · have d1 : decide (lim ≤ er) = false := by simpa using he
            have d2 : decide (er ≥ lim) = false := by simpa using he
            have HX := Lib.hid (H2.out (fun q => by
              rcases q with q | q
              · cases q
              · exact he q))
            have HOO := Lib.hid hown
            have HBB := Lib.hid hb'
            clear H1 H2 he hown hb'
            go_wp2
            go_roundw
            case rel => exact ⟨k + 1, by omega, by go_num, Lib.hid (by rw [HX.out]; exact HOO.out), HBB, HS2⟩
            case measure => simp [intOf]; omega
      · obtain rfl : k = n := by omega
        go_wp2
        go_ret
        exact ⟨_, rfl, by rw [HE1.out]; exact HO.out.low (Nat.le_succ _), HB.out⟩
end Go.Proofs.Ytbdfdkhkamonpab
