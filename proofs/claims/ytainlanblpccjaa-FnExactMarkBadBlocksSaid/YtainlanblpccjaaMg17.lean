/- The proof's own lemmas, part 18: WoF WoN FlE. -/
import Derived.Test.YtainlanblpccjaaProg
import Derived.Test.YtainlanblpccjaaMg14
import Derived.Test.YtainlanblpccjaaMg16
import Derived.Test.YtainlanblpccjaaMg12
import Derived.Test.YtainlanblpccjaaMg5
import Derived.StillTailTactics
/- The free good blocks, in the model (l12Free): the contract. -/
namespace Go.Proofs.Ytainlanblpccjaa
open Go.RowKit
set_option linter.unusedVariables false
set_option linter.unusedSimpArgs false
def usedP (c : List Int) (x : Int) : Bool := !(decide (c.getD x.toNat 0 = 0))
def freeL (b : List Bool) (c : List Int) (k : Nat) : List Int := (goodL b k).filter fun x => !usedP c x
theorem freeL_le (b : List Bool) (c : List Int) (k : Nat) : (freeL b c k).length ≤ k := Nat.le_trans (List.length_filter_le _ _) (goodL_le b k)
theorem freeL_bad {b : List Bool} {c : List Int} {k : Nat} (h : b.getD k false = true) : freeL b c (k + 1) = freeL b c k := by unfold freeL; rw [show goodL b (k + 1) = goodL b k by rw [goodL, if_pos h]]
theorem freeL_used {b : List Bool} {c : List Int} {k : Nat} (h : b.getD k false = false) (hc : c.getD k 0 ≠ 0) : freeL b c (k + 1) = freeL b c k := by
  unfold freeL
  rw [show goodL b (k + 1) = goodL b k ++ [(k : Int)] by rw [goodL, if_neg (by rw [h]; decide)], List.filter_append]
  simp [usedP, hc, -List.getD_eq_getElem?_getD]
theorem freeL_free {b : List Bool} {c : List Int} {k : Nat} (h : b.getD k false = false) (hc : c.getD k 0 = 0) : freeL b c (k + 1) = freeL b c k ++ [(k : Int)] := by
  unfold freeL
  rw [show goodL b (k + 1) = goodL b k ++ [(k : Int)] by rw [goodL, if_neg (by rw [h]; decide)], List.filter_append]
  simp [usedP, hc, -List.getD_eq_getElem?_getD]
set_option maxHeartbeats 4000000 in
set_option maxRecDepth 100000 in
theorem specFree_any (u : Value) (M : We) (w : World) (hi : Nat) (h : WeIn w hi u M) (hh : hi ≤ w.heap.size) (h1 : 1 ≤ M.e.length) (h2 : M.b.length = M.e.length) (h3 : M.c.length = M.e.length) (hz : M.e.length ≤ 36) :
    Calls Try.prog 91 #[u] w (CopyPostI (freeL M.b M.c M.e.length) w) := by
  obtain ⟨ae, ab, ac, rfl, i1, i2, i3⟩ := h
  obtain ⟨A1, n1, k1, rfl, _, _, hn1, _⟩ := i1
  obtain ⟨A2, n2, k2, rfl, _, _, hn2, hA2⟩ := i2
  obtain ⟨A3, n3, k3, rfl, _, _, hn3, hA3⟩ := i3
  obtain ⟨pb, po, rfl, hpb, hxb⟩ := hA2 (by omega)
  obtain ⟨pc, oc, rfl, hpc, hxc⟩ := hA3 (by omega)
  obtain ⟨e, b, c, nb⟩ := M
  unfold wec
  simp only at *
  rw [hn1]
  have hbn : n2 = n1 := by omega
  have hcn : n3 = n1 := by omega
  subst hbn
  subst hcn
  obtain ⟨W0, hW0⟩ : ∃ W0, W0 = w.alloc (.cells #[.slice A1 n3 k1, .slice (some ⟨pb, po, none⟩) n3 k2, .slice (some ⟨pc, oc, none⟩) n3 k3, .int .i64 nb] 27) := ⟨_, rfl⟩
  have bb : Below w.heap.size w W0 := by rw [hW0]; exact (Below.refl _ w).alloc (Nat.le_refl _) _
  have r0 : Rw W0 w.heap.size 27 #[.slice A1 n3 k1, .slice (some ⟨pb, po, none⟩) n3 k2, .slice (some ⟨pc, oc, none⟩) n3 k3, .int .i64 nb] := by rw [hW0]; exact Rw.new w _ _
  have hz0 : W0.heap.size = w.heap.size + 1 := by rw [hW0]; simp
  have HK := Lib.hid (fun (W : World) (q : Below (w.heap.size + 1) W0 W) => show Rw W w.heap.size 27 #[.slice A1 n3 k1, .slice (some ⟨pb, po, none⟩) n3 k2, .slice (some ⟨pc, oc, none⟩) n3 k3, .int .i64 nb] ∧ (∀ k, k < n3 → W.cell? ⟨pb, po + k, none⟩ = some (.bool (b.getD k false))) ∧ (∀ k, k < n3 → W.cell? ⟨pc, oc + k, none⟩ = some (.int .i64 (c.getD k 0))) ∧ Below w.heap.size w W from
    ⟨r0.below q (by omega), fun k hk => ((bb.trans (q.mono (by omega))).cell (p := ⟨pb, po + k, none⟩) (by show pb < _; omega)).trans (hxb k hk), fun k hk => ((bb.trans (q.mono (by omega))).cell (p := ⟨pc, oc + k, none⟩) (by show pc < _; omega)).trans (hxc k hk), bb.trans (q.mono (by omega))⟩)
  have HT1 := Lib.hid (show IntsOwn (W0.alloc (.cells #[] 2)) (w.heap.size + 1) (.slice (some ⟨w.heap.size + 1, 0, none⟩) 0 0) (freeL b c 0) by have e := IntsOwn.made W0 (B := w.heap.size + 1) (by omega); rw [hz0] at e; exact e)
  have HT2 := Lib.hid (show Below (w.heap.size + 1) W0 (W0.alloc (.cells #[] 2)) from (Below.refl _ W0).alloc (by omega) _)
  have q0 := r0.four
  have HZ := Lib.hid hz0
  have hn36 : n3 ≤ 36 := by omega
  clear hA2 hA3 hxb hxc hh h1 h2 h3 hz hn1 hn2 hn3 bb r0 hz0
  go_enter Try.func91, Try.ntmps91
  go_wp2_with fail
  rw [← hW0]
  clear hW0 q0
  go_loopw [3, 4] (fun v i wr => ∃ (k : Nat) (A9 : Option Addr) (n9 c9 : Nat), v = .slice A9 n9 c9 ∧ i = .int .i64 (k : Int) ∧ k ≤ n3 ∧ Hid (IntsOwn wr (w.heap.size + 1) (.slice A9 n9 c9) (freeL b c k)) ∧ Hid (Below (w.heap.size + 1) W0 wr)) (fun _ i _ => n3 - (intOf i).toNat)
  case atStart => exact ⟨0, _, _, _, rfl, rfl, by omega, HT1, HT2⟩
  case round =>
    clear HT1 HT2
    obtain ⟨k, A9, n9, c9, rfl, rfl, hk, T1, T2⟩ := hrel
    obtain ⟨p0, p1, p2, p3⟩ := (HK.out _ T2.out).1.four
    have hzr : w.heap.size + 1 ≤ wr.heap.size := by have := T2.out.size; have := HZ.out; omega
    by_cases hlt : k < n3
    · have hki : (k : Int) < (n3 : Int) := by omega
      have e1 := (HK.out _ T2.out).2.1 k hlt
      have e2 := (HK.out _ T2.out).2.2.1 k hlt
      have HB := Lib.hid (fun h => freeL_bad (b := b) (c := c) (k := k) h)
      have HU := Lib.hid (fun h h' => freeL_used (b := b) (c := c) (k := k) h h')
      have HF := Lib.hid (fun h h' => freeL_free (b := b) (c := c) (k := k) h h')
      generalize b.getD k false = y at *
      generalize c.getD k 0 = x at *
      cases y with
      | true =>
        have HG := Lib.hid (HB.out rfl)
        clear HU HF HB
        go_wp2
        go_roundw
        case rel => exact ⟨k + 1, A9, n9, c9, rfl, by go_num, by omega, by rw [HG.out]; exact T1, T2⟩
        case measure => simp [intOf]; omega
      | false =>
        by_cases hx : x = 0
        · subst hx
          have HG := Lib.hid (HF.out rfl rfl)
          have hown := T1.out
          have hbq := Below.refl (w.heap.size + 1) wr
          have hl9 : (freeL b c k).length + 1 ≤ 1048577 := by have := freeL_le b c k; omega
          clear HU HF HB
          go_wp2_with (at_builtin; refine wpList_append_intH rfl _ _ rfl _ _ rfl hown hbq hzr _ _ rfl hl9 ?_; intro v' w2 ho2 hb2; obtain ⟨A8, n8, c8, rfl⟩ := ho2.sliceOf'; clear hown hbq)
          go_roundw
          case rel => exact ⟨k + 1, A8, n8, c8, rfl, by go_num, by omega, by rw [HG.out]; exact Lib.hid ho2, Lib.hid (T2.out.trans hb2)⟩
          case measure => simp [intOf]; omega
        · have d1 : (x == 0) = false := by simpa using hx
          have HG := Lib.hid (HU.out rfl hx)
          clear HU HF HB
          go_wp2
          go_roundw
          case rel => exact ⟨k + 1, A9, n9, c9, rfl, by go_num, by omega, by rw [HG.out]; exact T1, T2⟩
          case measure => simp [intOf]; omega
    · obtain rfl : k = n3 := by omega
      go_wp2
      go_ret
      exact ⟨_, rfl, T1.out.low (by omega), (HK.out _ T2.out).2.2.2⟩
end Go.Proofs.Ytainlanblpccjaa
/- Plain facts of PlaceData. -/
namespace Go.Proofs.Ytainlanblpccjaa
open Go.RowKit
set_option linter.unusedVariables false
/-- The free good blocks of a state. -/
def freeW (M : We) : List Int := freeL M.b M.c M.e.length
/-- The block that data are placed in. -/
def plcV (M : We) (hot : Bool) : Int := pickV M.e (freeW M) hot true
/-- The state behind a placing. -/
def plcM (M : We) (hot : Bool) (v : Int) : We := ⟨M.e, M.b, M.c.set (plcV M hot).toNat v, M.n⟩
def heatV (hot : Bool) : Int := bif hot then 2 else 1
theorem mem_getD {l : List Int} {i : Nat} (h : i < l.length) : l.getD i 0 ∈ l := by
  rw [List.getD_eq_getElem?_getD, List.getElem?_eq_getElem h]; exact List.getElem_mem h
theorem freeL_in (b : List Bool) (c : List Int) (k : Nat) : ∀ i, i < (freeL b c k).length → 0 ≤ (freeL b c k).getD i 0 ∧ (freeL b c k).getD i 0 < (k : Int) := by
  intro i hi
  have h := mem_getD hi
  unfold freeL at h ⊢
  have h2 := (List.mem_filter.1 h).1
  obtain ⟨j, hj, e⟩ := List.mem_iff_getElem.1 h2
  have g := goodL_mem b k j hj
  rw [List.getD_eq_getElem?_getD, List.getElem?_eq_getElem hj] at g
  simp only [Option.getD_some] at g
  rw [e] at g
  exact g
theorem freeW_ok (M : We) : FreeOk M.e (freeW M) := freeL_in M.b M.c M.e.length
theorem plc_in (M : We) (hot : Bool) : (freeW M = [] ∧ plcV M hot = -1) ∨ (freeW M ≠ [] ∧ 0 ≤ plcV M hot ∧ plcV M hot < (M.e.length : Int)) := by
  unfold plcV pickV
  rw [if_pos rfl]
  unfold firstV
  rcases bestF_in (er := M.e) (c := byNum (ordE M.e hot)) (k := (freeW M).length) (freeW_ok M) with ⟨h0, h⟩ | ⟨h0, h1, h2⟩
  · exact .inl ⟨List.eq_nil_of_length_eq_zero h0, h⟩
  · exact .inr ⟨fun e => by rw [e] at h0; simp at h0, h1, h2⟩
/-- What PlaceData answers. -/
def PlcIs (M : We) (r hot : Bool) (G : We) (p c : Int) : Prop :=
  (r = false ∧ G = We.zero ∧ p = 0 ∧ c = 1) ∨ (r = true ∧ plcV M hot = -1 ∧ G = We.zero ∧ p = 0 ∧ c = 4) ∨ (r = true ∧ 0 ≤ plcV M hot ∧ plcV M hot < (M.e.length : Int) ∧ G = plcM M hot (heatV hot) ∧ p = plcV M hot ∧ c = 0)
theorem plcIs (M : We) (r hot : Bool) : ∃ G p c, PlcIs M r hot G p c := by
  cases r with
  | false => exact ⟨_, _, _, .inl ⟨rfl, rfl, rfl, rfl⟩⟩
  | true =>
    rcases plc_in M hot with ⟨_, h⟩ | ⟨_, h1, h2⟩
    · exact ⟨_, _, _, .inr (.inl ⟨rfl, h, rfl, rfl, rfl⟩)⟩
    · exact ⟨_, _, _, .inr (.inr ⟨rfl, h1, h2, rfl, rfl, rfl⟩)⟩
theorem plcIs_sz {M : We} {r hot : Bool} {G : We} {p c : Int} (h : PlcIs M r hot G p c) (z : WeSz M) : WeSz G := by
  rcases h with ⟨_, rfl, _⟩ | ⟨_, _, rfl, _⟩ | ⟨_, _, _, rfl, _⟩
  · exact We.zero_sz
  · exact We.zero_sz
  · unfold WeSz plcM at *; simpa using z
end Go.Proofs.Ytainlanblpccjaa
/- The laws' helper eqFlash: of what reads alike the answer is true. -/
namespace Go.Proofs.Ytainlanblpccjaa
open Go.RowKit
set_option linter.unusedVariables false

/-! Comparisons: of what reads alike the answer is true. -/
theorem eqPages_any (u v : Value) (L : List ByteArray) (w : World) (lo hi lo' hi' : Nat) (hu : PgIn w lo hi u L) (hv : PgIn w lo' hi' v L) (h1 : hi ≤ w.heap.size) (h2 : hi' ≤ w.heap.size) (hl : L.length ≤ 1048576) :
    Calls Try.prog 221 #[u, v] w fun e w' => e = .returned (.bool true) ∧ Below w.heap.size w w' := eqStrs_any u v L w (hu.strs h1) (hv.strs h2) hl
theorem eqBlock_any (x : Blk) (u v : Value) (w : World) (lo hi lo' hi' : Nat) (hu : PgIn w lo hi u x.pg) (hv : PgIn w lo' hi' v x.pg) (h1 : hi ≤ w.heap.size) (h2 : hi' ≤ w.heap.size) (hl : x.pg.length ≤ 1048576) :
    Calls Try.prog 187 #[.agg #[.int .i64 x.er, .int .i64 x.nx, .bool x.bad, u], .agg #[.int .i64 x.er, .int .i64 x.nx, .bool x.bad, v]] w fun e w' => e = .returned (.bool true) ∧ Below w.heap.size w w' := by
  have HS := Lib.hid (fun (W : World) (a : PgIn W lo hi u x.pg) (b : PgIn W lo' hi' v x.pg) (c : hi ≤ W.heap.size) (d : hi' ≤ W.heap.size) => eqPages_any u v x.pg W lo hi lo' hi' a b c d hl)
  have HU := Lib.hid hu
  have HV := Lib.hid hv
  clear hu hv
  obtain ⟨er, nx, bad, pg⟩ := x
  simp only
  have n1 : (er != er) = false := by simp
  have n2 : (nx != nx) = false := by simp
  have n3 : (bad != bad) = false := by simp
  obtain ⟨_, _, b0⟩ := Rw.two_new w 147 147 #[.int .i64 er, .int .i64 nx, .bool bad, u] #[.int .i64 er, .int .i64 nx, .bool bad, v]
  have HB := Lib.hid b0
  clear b0
  go_enter Try.func187, Try.ntmps187
  go_wp2_with fail
  refine (HS.out _ (HU.out.same (sm HB.out lo h1)) (HV.out.same (sm HB.out lo' h2)) (by simp; omega) (by simp; omega)).mono ?_
  rintro e w1 ⟨rfl, hb1⟩
  have HB1 := Lib.hid (HB.out.trans (hb1.mono (by simp; omega)))
  clear hb1
  go_wp2
  go_ret
  exact ⟨rfl, HB1.out⟩
set_option maxRecDepth 100000 in
theorem eqBlocks_any (u v : Value) (L : List Blk) (w : World) (lo hi lo' hi' : Nat) (hu : BksIn w lo hi u L) (hv : BksIn w lo' hi' v L) (h1 : hi ≤ w.heap.size) (h2 : hi' ≤ w.heap.size) (hl : L.length ≤ 1048576) (hp : ∀ i, i < L.length → (L.getD i Blk.zero).pg.length ≤ 1048576) :
    Calls Try.prog 127 #[u, v] w fun e w' => e = .returned (.bool true) ∧ Below w.heap.size w w' := by
  obtain ⟨A, n, cap, rfl, _, _, hn, hA⟩ := hu
  obtain ⟨A', n', cap', rfl, _, _, hn', hA'⟩ := hv
  obtain rfl : n = n' := by omega
  have hnm : (n : Int) ≤ 1048576 := by omega
  rcases Nat.eq_zero_or_pos n with h0 | h0
  · subst h0
    clear hA hA' hn hn' hp
    go_enter Try.func127, Try.ntmps127
    go_wp2
    go_loopw [5] (fun i wr => i = .int .i64 0 ∧ wr = w) (fun _ _ => 0)
    case atStart => exact ⟨rfl, rfl⟩
    case round =>
      obtain ⟨rfl, rfl⟩ := hrel
      go_wp2
      go_ret
      exact ⟨rfl, Below.refl _ _⟩
  · obtain ⟨g, off, rfl, hg1, hg2, hx⟩ := hA h0
    obtain ⟨g', off', rfl, hg1', hg2', hx'⟩ := hA' h0
    have HX := Lib.hid hx
    have HX' := Lib.hid hx'
    have HP := Lib.hid hp
    have HN := Lib.hid hn
    clear hA hA' hx hx' hn hn' hp
    go_enter Try.func127, Try.ntmps127
    go_wp2
    go_loopw [5] (fun i wr => ∃ k : Nat, k ≤ n ∧ i = .int .i64 k ∧ Below w.heap.size w wr) (fun i _ => n - (intOf i).toNat)
    case atStart => exact ⟨0, by omega, rfl, Below.refl _ _⟩
    case round =>
      obtain ⟨k, hk, rfl, hb⟩ := hrel
      by_cases hlt : k < n
      · have hki : (k : Int) < (n : Int) := by omega
        obtain ⟨pu, ⟨c0, c1, c2, c3⟩, hpu⟩ := HX.out k hlt
        obtain ⟨pv, ⟨d0, d1, d2, d3⟩, hpv⟩ := HX'.out k hlt
        have q0 := (hb.cell (p := ⟨g, off + k * 4, none⟩) (by simp; omega)).trans c0
        have q1 := (hb.cell (p := ⟨g, off + k * 4 + 1, none⟩) (by simp; omega)).trans c1
        have q2 := (hb.cell (p := ⟨g, off + k * 4 + 2, none⟩) (by simp; omega)).trans c2
        have q3 := (hb.cell (p := ⟨g, off + k * 4 + 3, none⟩) (by simp; omega)).trans c3
        have t0 := (hb.cell (p := ⟨g', off' + k * 4, none⟩) (by simp; omega)).trans d0
        have t1 := (hb.cell (p := ⟨g', off' + k * 4 + 1, none⟩) (by simp; omega)).trans d1
        have t2 := (hb.cell (p := ⟨g', off' + k * 4 + 2, none⟩) (by simp; omega)).trans d2
        have t3 := (hb.cell (p := ⟨g', off' + k * 4 + 3, none⟩) (by simp; omega)).trans d3
        have HU := Lib.hid (hpu.same (sm hb lo h1))
        have HV := Lib.hid (hpv.same (sm hb lo' h2))
        have HQ := HP.out k (by have := HN.out; omega)
        have hsz := hb.size
        generalize L.getD k Blk.zero = y at *
        have HC := Lib.hid (fun (W : World) (a : PgIn W lo hi pu y.pg) (b : PgIn W lo' hi' pv y.pg) (c : hi ≤ W.heap.size) (d : hi' ≤ W.heap.size) => eqBlock_any y pu pv W lo hi lo' hi' a b c d HQ)
        have HB := Lib.hid hb
        clear c0 c1 c2 c3 d0 d1 d2 d3 hpu hpv hb
        go_wp2_with fail
        go_still_tail 8, (by kernel_rfl)
        change wpList _ _ _ _ _ wr.drew
        go_wp2_with fail
        refine (HC.out _ (show PgIn wr.drew lo hi pu y.pg from HU.out) (show PgIn wr.drew lo' hi' pv y.pg from HV.out) (by simp; omega) (by simp; omega)).mono ?_
        rintro e w1 ⟨rfl, hb1⟩
        have HB1 := Lib.hid (HB.out.drew.trans (hb1.mono (by simpa using hsz)))
        clear hb1 HB
        go_wp2
        go_roundw
        case rel => exact ⟨k + 1, by omega, by go_num, HB1.out⟩
        case measure => simp [intOf]; omega
      · obtain rfl : k = n := by omega
        go_wp2
        go_ret
        exact ⟨rfl, hb⟩
theorem eqGeometry_any (d b p : Int) (w : World) : Calls Try.prog 126 #[.agg #[.int .i64 d, .int .i64 b, .int .i64 p], .agg #[.int .i64 d, .int .i64 b, .int .i64 p]] w fun e w' => e = .returned (.bool true) ∧ Below w.heap.size w w' := by
  have n1 : (d != d) = false := by simp
  have n2 : (b != b) = false := by simp
  have n3 : (p != p) = false := by simp
  obtain ⟨_, _, b0⟩ := Rw.two_new w 64 64 #[.int .i64 d, .int .i64 b, .int .i64 p] #[.int .i64 d, .int .i64 b, .int .i64 p]
  have HB := Lib.hid b0
  clear b0
  go_enter Try.func126, Try.ntmps126
  go_wp2
  go_ret
  exact ⟨rfl, HB.out⟩
theorem eqFlash_any (u v : Value) (F : Fl) (w : World) (lo hi lo' hi' : Nat) (hu : FlIn w lo hi u F) (hv : FlIn w lo' hi' v F) (h1 : hi ≤ w.heap.size) (h2 : hi' ≤ w.heap.size) (hz : FlSz F) :
    Calls Try.prog 48 #[u, v] w fun e w' => e = .returned (.bool true) ∧ Below w.heap.size w w' := by
  obtain ⟨u, rfl, hu⟩ := hu
  obtain ⟨v, rfl, hv⟩ := hv
  have HS := Lib.hid (fun (W : World) (a : BksIn W lo hi u F.bs) (b : BksIn W lo' hi' v F.bs) (c : hi ≤ W.heap.size) (d : hi' ≤ W.heap.size) => eqBlocks_any u v F.bs W lo hi lo' hi' a b c d (by unfold FlSz at hz; omega) (fun i hi => (hz.pages hi).1))
  have HU := Lib.hid hu
  have HV := Lib.hid hv
  clear hu hv hz
  obtain ⟨d, b, p, bs, fu, ke, off, op⟩ := F
  unfold flc
  simp only at *
  have n1 : (fu != fu) = false := by simp
  have n2 : (ke != ke) = false := by simp
  have n3 : (off != off) = false := by simp
  have n4 : (op != op) = false := by simp
  obtain ⟨r0, r1, b0⟩ := Rw.two_new w 67 67 #[.int .i64 d, .int .i64 b, .int .i64 p, u, .int .i64 fu, .int .i64 ke, .bool off, .int .i64 op] #[.int .i64 d, .int .i64 b, .int .i64 p, v, .int .i64 fu, .int .i64 ke, .bool off, .int .i64 op]
  have R0 := Lib.hid r0
  have R1 := Lib.hid r1
  have HB := Lib.hid b0
  clear b0 r0 r1
  go_enter Try.func48, Try.ntmps48
  go_wp2_with fail
  refine (eqGeometry_any d b p _).mono ?_
  rintro e w1 ⟨rfl, hb1⟩
  simp only [World.size_alloc] at hb1
  have r0 := R0.out.below hb1 (by omega)
  have r1 := R1.out.below hb1 (by omega)
  have HB1 := Lib.hid (HB.out.trans (hb1.mono (by omega)))
  have hsz := hb1.size
  simp only [World.size_alloc] at hsz
  obtain ⟨c0, c1, c2, c3, c4, c5, c6, c7⟩ := r0.eight
  obtain ⟨d0, d1, d2, d3, d4, d5, d6, d7⟩ := r1.eight
  clear hb1 R0 R1 HB
  have S0 := Lib.hid r0
  have S1 := Lib.hid r1
  clear r0 r1
  go_wp2_with fail
  refine (HS.out _ (HU.out.same (sm HB1.out lo h1)) (HV.out.same (sm HB1.out lo' h2)) (by omega) (by omega)).mono ?_
  rintro e w2 ⟨rfl, hb2⟩
  have r0 := S0.out.below hb2 (by omega)
  have r1 := S1.out.below hb2 (by omega)
  have HB2 := Lib.hid (HB1.out.trans (hb2.mono (by omega)))
  clear c0 c1 c2 c3 c4 c5 c6 c7 d0 d1 d2 d3 d4 d5 d6 d7 hb2 S0 S1 HB1
  obtain ⟨c0, c1, c2, c3, c4, c5, c6, c7⟩ := r0.eight
  obtain ⟨d0, d1, d2, d3, d4, d5, d6, d7⟩ := r1.eight
  clear r0 r1
  go_wp2
  go_ret
  exact ⟨rfl, HB2.out⟩
end Go.Proofs.Ytainlanblpccjaa
