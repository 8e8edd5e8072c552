/- The proof's own lemmas, part 6: FlA. -/
import Derived.Test.YtainlanblpccjaaProg
import Derived.Test.YtainlanblpccjaaMg1
import Derived.Test.YtainlanblpccjaaMg4
import Derived.WalkKit
import Derived.ProofKit
import Derived.Lib.Hide
import Derived.BigQuiet
import Derived.Deep.QuietTactic
/- The laws' helpers over arrays: szFlash, toFlash, eqFlash: their contracts. -/
namespace Go.Proofs.Ytainlanblpccjaa
open Go.RowKit
set_option linter.unusedVariables false

theorem PgIn.strs {w : World} {lo hi : Nat} {v : Value} {L : List ByteArray} (h : PgIn w lo hi v L) (hh : hi ≤ w.heap.size) : StrsIn w v L := by
  obtain ⟨A, len, cap, e, h1, h2, h3, h4, hc⟩ := h
  refine ⟨A, len, cap, e, h1, h2, h3, fun h0 => ?_⟩
  obtain ⟨b, off, e, h5, h6, hx⟩ := hc h0
  exact ⟨b, off, e, by omega, hx⟩
theorem PgIn.small {w : World} {lo hi : Nat} {v : Value} {L : List ByteArray} (h : PgIn w lo hi v L) : ∀ i, i < L.length → (L.getD i ByteArray.empty).size ≤ 9223372036854775807 := by
  obtain ⟨A, len, cap, e, h1, h2, h3, h4, hc⟩ := h
  exact fun i hi => h4 i (by omega)
theorem StrsOwn.pages {w : World} {B g : Nat} {v : Value} {L : List ByteArray} (h : StrsOwn w B v L) (hg : g < B) (hL : ∀ i, i < L.length → (L.getD i ByteArray.empty).size ≤ 9223372036854775807) : PgOwn w B w.heap.size g v L := by
  rcases h.shape with ⟨rfl, rfl⟩ | ⟨k, cap, rfl, h1, h2, h3, h4⟩
  · exact ⟨none, 0, 0, rfl, Nat.le_refl _, by omega, rfl, fun i hi => by omega, fun h => by omega⟩
  · exact ⟨_, _, _, rfl, h1, h2, rfl, hL, fun _ => ⟨k, 0, rfl, h3, h4, by omega, h.free rfl, fun i hi => by rw [Nat.zero_add]; exact h.cell rfl hi⟩⟩

/-! Sizes. -/
def szS : List ByteArray → Nat
  | [] => 0
  | s :: L => s.size + szS L
theorem szS_append : ∀ L M : List ByteArray, szS (L ++ M) = szS L + szS M
  | [], M => by simp [szS]
  | s :: L, M => by simp only [List.cons_append, szS, szS_append L M]; omega
theorem szS_take {L : List ByteArray} {i : Nat} (h : i < L.length) : szS (L.take (i + 1)) = szS (L.take i) + (L.getD i ByteArray.empty).size := by
  rw [List.take_succ_eq_append_getElem h, szS_append, List.getD_eq_getElem?_getD, List.getElem?_eq_getElem h]
  simp [szS]
theorem szS_one {L : List ByteArray} {i : Nat} (h : i < L.length) : (L.getD i ByteArray.empty).size ≤ szS L := by
  have e := szS_append (L.take (i + 1)) (L.drop (i + 1))
  rw [List.take_append_drop, szS_take h] at e
  omega
theorem szS_le {L : List ByteArray} (i : Nat) : szS (L.take i) ≤ szS L := by
  have e := szS_append (L.take i) (L.drop i)
  rw [List.take_append_drop] at e
  omega
def szP (L : List ByteArray) : Nat := L.length + szS L
def szB : List Blk → Nat
  | [] => 0
  | x :: L => szP x.pg + szB L
theorem szB_append : ∀ L M : List Blk, szB (L ++ M) = szB L + szB M
  | [], M => by simp [szB]
  | s :: L, M => by simp only [List.cons_append, szB, szB_append L M]; omega
theorem szB_take {L : List Blk} {i : Nat} (h : i < L.length) : szB (L.take (i + 1)) = szB (L.take i) + szP (L.getD i Blk.zero).pg := by
  rw [List.take_succ_eq_append_getElem h, szB_append, List.getD_eq_getElem?_getD, List.getElem?_eq_getElem h]
  simp [szB]
theorem szB_one {L : List Blk} {i : Nat} (h : i < L.length) : szP (L.getD i Blk.zero).pg ≤ szB L := by
  have e := szB_append (L.take (i + 1)) (L.drop (i + 1))
  rw [List.take_append_drop, szB_take h] at e
  omega
theorem szB_le {L : List Blk} (i : Nat) : szB (L.take i) ≤ szB L := by
  have e := szB_append (L.take i) (L.drop i)
  rw [List.take_append_drop] at e
  omega
theorem markN_sz : ∀ L : List Blk, markN L ≤ 3 * L.length + szB L
  | [] => by simp [markN]
  | x :: L => by have := markN_sz L; simp only [markN, szB, szP, List.length_cons]; omega
/-- The array fits: blocks, pages and bytes together are few. -/
def FlSz (F : Fl) : Prop := F.bs.length + szB F.bs ≤ 1048576
theorem FlSz.pages {F : Fl} (h : FlSz F) {i : Nat} (hi : i < F.bs.length) : (F.blk i).pg.length ≤ 1048576 ∧ ∀ j, j < (F.blk i).pg.length → ((F.blk i).at j).size ≤ 1048576 := by
  unfold FlSz at h
  have h1 := szB_one hi
  unfold szP at h1
  refine ⟨by show (F.bs.getD i Blk.zero).pg.length ≤ _; omega, fun j hj => ?_⟩
  have := szS_one (L := (F.bs.getD i Blk.zero).pg) hj
  show ((F.bs.getD i Blk.zero).pg.getD j ByteArray.empty).size ≤ _
  omega
/-- What is left of n behind t: the rest, or -1. -/
def Left (n : Int) (t : Nat) (x : Int) : Prop := ((t : Int) ≤ n ∧ x = n - (t : Int)) ∨ (n < (t : Int) ∧ x = -1)
def LeftPost (n : Int) (t : Nat) (w : World) (e : Ending) (w' : World) : Prop := ∃ x : Int, e = .returned (.int .i64 x) ∧ Left n t x ∧ Below w.heap.size w w'
theorem szStrings_any (v : Value) (L : List ByteArray) (w : World) (lo hi : Nat) (m : Int) (h : PgIn w lo hi v L) (h0 : 0 ≤ m) (h1 : m ≤ 1048576) :
    Calls Try.prog 216 #[v, .int .i64 m] w (LeftPost m (szP L) w) := by
  obtain ⟨A, n, cap, rfl, hlc, hcm, hn, hsm, hA⟩ := h
  have hnm : (n : Int) ≤ 9223372036854775807 := by omega
  have HT := Lib.hid (show szP L = n + szS L by unfold szP; omega)
  have HN := Lib.hid hn
  by_cases hbig : m < (n : Int)
  · clear hA hsm hn
    go_enter Try.func216, Try.ntmps216
    go_wp2
    go_ret
    exact ⟨_, rfl, .inr ⟨by have := HT.out; omega, rfl⟩, Below.refl _ _⟩
  · have hsmall : (n : Int) ≤ m := by omega
    rcases Nat.eq_zero_or_pos n with hz | hz
    · subst hz
      have HE := Lib.hid (show szS L = 0 by rw [List.eq_nil_of_length_eq_zero hn]; rfl)
      clear hA hsm hn
      go_enter Try.func216, Try.ntmps216
      go_wp2
      go_loop [1, 5] (fun u i => u = .int .i64 m ∧ i = .int .i64 0) (fun _ _ => 0)
      case atStart => exact ⟨by go_num, rfl⟩
      case round =>
        obtain ⟨rfl, rfl⟩ := hrel
        go_wp2
        go_ret
        exact ⟨_, rfl, .inl ⟨by have := HT.out; have := HE.out; omega, by have := HT.out; have := HE.out; omega⟩, Below.refl _ _⟩
    · obtain ⟨b, off, rfl, hb1, hb2, hx⟩ := hA hz
      have HX := Lib.hid hx
      have HS := Lib.hid hsm
      clear hA hsm hx hn
      go_enter Try.func216, Try.ntmps216
      go_wp2
      go_loop [1, 5] (fun u i => ∃ (k : Nat) (x : Int), k ≤ n ∧ 0 ≤ x ∧ x ≤ m ∧ i = .int .i64 k ∧ u = .int .i64 x ∧ Hid (x = m - (n : Int) - (szS (L.take k) : Nat))) (fun _ i => n - (intOf i).toNat)
      case atStart => exact ⟨0, m - (n : Int), by omega, by omega, by omega, rfl, rfl, Lib.hid (by simp [szS])⟩
      case round =>
        obtain ⟨k, x, hk, hx0, hx1, rfl, rfl, HE⟩ := hrel
        by_cases hlt : k < n
        · have hki : (k : Int) < (n : Int) := by omega
          have hc := HX.out k hlt
          have hsz := HS.out k hlt
          have HA := Lib.hid (szS_take (L := L) (i := k) (by have := HN.out; omega))
          have HB := Lib.hid (szS_le (L := L) (k + 1))
          obtain ⟨y, hy⟩ : ∃ y, y = L.getD k ByteArray.empty := ⟨_, rfl⟩
          rw [← hy] at hc hsz HA
          clear hy
          by_cases hneg : x < (y.size : Int)
          · go_wp2
            go_ret
            exact ⟨_, rfl, .inr ⟨by have := HT.out; have := HE.out; have := HA.out; have := HB.out; omega, rfl⟩, Below.refl _ _⟩
          · have hpos : (y.size : Int) ≤ x := by omega
            go_wp2
            go_round
            case rel => exact ⟨k + 1, x - (y.size : Int), by omega, by omega, by omega, by go_num, rfl, Lib.hid (by have := HE.out; have := HA.out; omega)⟩
            case measure => simp [intOf]; omega
        · obtain rfl : k = n := by omega
          have HF := Lib.hid (show szS (L.take k) = szS L by rw [List.take_of_length_le (by have := HN.out; omega)])
          go_wp2
          go_ret
          exact ⟨_, rfl, .inl ⟨by have := HT.out; have := HE.out; have := HF.out; omega, by have := HT.out; have := HE.out; have := HF.out; omega⟩, Below.refl _ _⟩
theorem szBlock_any (x : Blk) (pv : Value) (w : World) (lo hi : Nat) (m : Int) (h : PgIn w lo hi pv x.pg) (hh : hi ≤ w.heap.size) (h0 : 0 ≤ m) (h1 : m ≤ 1048576) :
    Calls Try.prog 175 #[.agg #[.int .i64 x.er, .int .i64 x.nx, .bool x.bad, pv], .int .i64 m] w (LeftPost m (szP x.pg) w) := by
  have HS := Lib.hid (fun (W : World) (hW : PgIn W lo hi pv x.pg) => szStrings_any pv x.pg W lo hi m hW h0 h1)
  have H := Lib.hid h
  obtain ⟨er, nx, bad, pg⟩ := x
  clear h
  generalize szP pg = t at *
  go_enter Try.func175, Try.ntmps175
  go_wp2_with fail
  refine (HS.out _ (H.out.same (sm ((Below.refl w.heap.size w).alloc (Nat.le_refl _) _) lo hh))).mono ?_
  rintro e w1 ⟨y, rfl, hy, hb⟩
  have HB := Lib.hid (((Below.refl w.heap.size w).alloc (Nat.le_refl _) (.cells #[.int .i64 er, .int .i64 nx, .bool bad, pv] 192)).trans (hb.mono (by simp)))
  clear hb
  by_cases hneg : y < 0
  · go_wp2
    go_ret
    rcases hy with hy | hy
    · omega
    · exact ⟨_, rfl, .inr ⟨hy.1, rfl⟩, HB.out⟩
  · have hn : ¬ y < 0 := hneg
    go_wp2
    go_ret
    exact ⟨_, rfl, hy, HB.out⟩
theorem szBlocks_any (v : Value) (L : List Blk) (w : World) (lo hi : Nat) (m : Int) (h : BksIn w lo hi v L) (hh : hi ≤ w.heap.size) (h0 : 0 ≤ m) (h1 : m ≤ 1048576) :
    Calls Try.prog 116 #[v, .int .i64 m] w (LeftPost m (L.length + szB L) w) := by
  obtain ⟨A, n, cap, rfl, hlc, hcm, hn, hA⟩ := h
  have hnm : (n : Int) ≤ 9223372036854775807 := by omega
  have HT := Lib.hid (show L.length + szB L = n + szB L by omega)
  have HN := Lib.hid hn
  by_cases hbig : m < (n : Int)
  · clear hA hn
    go_enter Try.func116, Try.ntmps116
    go_wp2
    go_ret
    exact ⟨_, rfl, .inr ⟨by have := HT.out; omega, rfl⟩, Below.refl _ _⟩
  · have hsmall : (n : Int) ≤ m := by omega
    rcases Nat.eq_zero_or_pos n with hz | hz
    · subst hz
      have HE := Lib.hid (show szB L = 0 by rw [List.eq_nil_of_length_eq_zero hn]; rfl)
      clear hA hn
      go_enter Try.func116, Try.ntmps116
      go_wp2
      go_loopw [1, 5] (fun u i wr => u = .int .i64 m ∧ i = .int .i64 0 ∧ wr = w) (fun _ _ _ => 0)
      case atStart => exact ⟨by go_num, rfl, rfl⟩
      case round =>
        obtain ⟨rfl, rfl, rfl⟩ := hrel
        go_wp2
        go_ret
        exact ⟨_, rfl, .inl ⟨by have := HT.out; have := HE.out; omega, by have := HT.out; have := HE.out; omega⟩, Below.refl _ _⟩
    · obtain ⟨g, off, rfl, hb1, hb2, hx⟩ := hA hz
      have HX := Lib.hid hx
      clear hA hx hn
      go_enter Try.func116, Try.ntmps116
      go_wp2
      go_loopw [1, 5] (fun u i wr => ∃ (k : Nat) (x : Int), k ≤ n ∧ 0 ≤ x ∧ x ≤ m ∧ i = .int .i64 k ∧ u = .int .i64 x ∧ Hid (x = m - (n : Int) - (szB (L.take k) : Nat)) ∧ Below w.heap.size w wr) (fun _ i _ => n - (intOf i).toNat)
      case atStart => exact ⟨0, m - (n : Int), by omega, by omega, by omega, rfl, by go_num, Lib.hid (by simp [szB]), Below.refl _ _⟩
      case round =>
        obtain ⟨k, x, hk, hx0, hx1, rfl, rfl, HE, hb⟩ := hrel
        by_cases hlt : k < n
        · have hki : (k : Int) < (n : Int) := by omega
          obtain ⟨pv, ⟨c0, c1, c2, c3⟩, hp⟩ := HX.out k hlt
          have q0 := (hb.cell (p := ⟨g, off + k * 4, none⟩) (by simp; omega)).trans c0
          have q1 := (hb.cell (p := ⟨g, off + k * 4 + 1, none⟩) (by simp; omega)).trans c1
          have q2 := (hb.cell (p := ⟨g, off + k * 4 + 2, none⟩) (by simp; omega)).trans c2
          have q3 := (hb.cell (p := ⟨g, off + k * 4 + 3, none⟩) (by simp; omega)).trans c3
          have HP := Lib.hid (hp.same (sm hb lo hh))
          have HA := Lib.hid (szB_take (L := L) (i := k) (by have := HN.out; omega))
          have HB := Lib.hid (szB_le (L := L) (k + 1))
          generalize hy : L.getD k Blk.zero = y at *
          clear hy c0 c1 c2 c3 hp
          have HC := Lib.hid (fun (W : World) (hW : PgIn W lo hi pv y.pg) (hs : hi ≤ W.heap.size) => szBlock_any y pv W lo hi x hW hs hx0 (by omega))
          have hsz := hb.size
          go_wp2_with fail
          refine (HC.out _ HP.out (by omega)).mono ?_
          rintro e w1 ⟨z, rfl, hz, hb1⟩
          have hb2 := hb.trans (hb1.mono hsz)
          clear hb1 q0 q1 q2 q3 hb
          by_cases hneg : z < 0
          · go_wp2
            go_ret
            rcases hz with hz | hz
            · omega
            · exact ⟨_, rfl, .inr ⟨by have := HT.out; have := HE.out; have := HA.out; have := HB.out; omega, rfl⟩, hb2⟩
          · have hz2 : (szP y.pg : Int) ≤ x ∧ z = x - (szP y.pg : Int) := by
              rcases hz with hz | hz <;> omega
            have hn0 : 0 ≤ z := by omega
            clear hz
            go_wp2
            go_roundw
            case rel => exact ⟨k + 1, z, by omega, by omega, by omega, by go_num, by rw [hz2.2], Lib.hid (by have := HE.out; have := HA.out; omega), hb2⟩
            case measure => simp [intOf]; omega
        · obtain rfl : k = n := by omega
          have HF := Lib.hid (show szB (L.take k) = szB L by rw [List.take_of_length_le (by have := HN.out; omega)])
          go_wp2
          go_ret
          exact ⟨_, rfl, .inl ⟨by have := HT.out; have := HE.out; have := HF.out; omega, by have := HT.out; have := HE.out; have := HF.out; omega⟩, hb⟩
theorem szFlash_any (v : Value) (F : Fl) (w : World) (hi : Nat) (h : FlIn w 0 hi v F) (hh : hi ≤ w.heap.size) :
    Calls Try.prog 44 #[v, .int .i64 1048576] w (LeftPost 1048576 (F.bs.length + szB F.bs) w) := by
  obtain ⟨u, rfl, h⟩ := h
  obtain ⟨d, b, p, bs, fu, ke, off, op⟩ := F
  simp only at h
  have HS := Lib.hid (fun (W : World) (hW : BksIn W 0 hi u bs) (hs : hi ≤ W.heap.size) => szBlocks_any u bs W 0 hi 1048576 hW hs (by omega) (by omega))
  have H := Lib.hid h
  clear h
  unfold flc
  simp only
  generalize bs.length + szB bs = t at *
  go_enter Try.func44, Try.ntmps44
  go_wp2_with fail
  refine (HS.out _ (H.out.same (sm ((Below.refl w.heap.size w).alloc (Nat.le_refl _) _) 0 hh)) (by simp; omega)).mono ?_
  rintro e w1 ⟨y, rfl, hy, hb⟩
  have HB := Lib.hid (((Below.refl w.heap.size w).alloc (Nat.le_refl _) (.cells #[.int .i64 d, .int .i64 b, .int .i64 p, u, .int .i64 fu, .int .i64 ke, .bool off, .int .i64 op] 62)).trans (hb.mono (by simp)))
  clear hb
  by_cases hneg : y < 0
  · go_wp2
    go_ret
    rcases hy with hy | hy
    · omega
    · exact ⟨_, rfl, .inr ⟨hy.1, rfl⟩, HB.out⟩
  · have hn : ¬ y < 0 := hneg
    go_wp2
    go_ret
    exact ⟨_, rfl, hy, HB.out⟩
theorem Left.small {F : Fl} {x : Int} (h : Left 1048576 (F.bs.length + szB F.bs) x) (h0 : ¬ x < 0) : FlSz F := by
  unfold FlSz
  rcases h with h | h <;> omega

/-! Copies. -/
theorem toPages_any (v : Value) (L : List ByteArray) (w : World) (lo hi : Nat) (h : PgIn w lo hi v L) (hh : hi ≤ w.heap.size) (hl : L.length ≤ 1048576) :
    Calls Try.prog 220 #[v] w fun e w' => ∃ A c, e = .returned (.slice A L.length c) ∧ (∀ g, g < w.heap.size → PgOwn w' w.heap.size w'.heap.size g (.slice A L.length c) L) ∧ Below w.heap.size w w' := by
  refine (toStrs_any v L w (h.strs hh) hl).mono ?_
  rintro e w' ⟨u, rfl, h1, h2⟩
  obtain ⟨A, c, rfl⟩ : ∃ A c, u = .slice A L.length c := by
    rcases h1.shape with ⟨rfl, rfl⟩ | ⟨k, cap, rfl, _⟩
    · exact ⟨_, _, rfl⟩
    · exact ⟨_, _, rfl⟩
  exact ⟨A, c, rfl, fun g hg => h1.pages hg h.small, h2⟩
theorem infoBk : (Try.prog.info? 147).map (·.size) = some 4 := by kernel_rfl
def ToBk (x : Blk) (w : World) (e : Ending) (w' : World) : Prop := ∃ A c, e = .returned (.agg #[.int .i64 x.er, .int .i64 x.nx, .bool x.bad, .slice A x.pg.length c]) ∧ (∀ g, g < w.heap.size → PgOwn w' w.heap.size w'.heap.size g (.slice A x.pg.length c) x.pg) ∧ Below w.heap.size w w'
theorem toBlock_any (x : Blk) (pv : Value) (w : World) (lo hi : Nat) (h : PgIn w lo hi pv x.pg) (hh : hi ≤ w.heap.size) (hl : x.pg.length ≤ 1048576) :
    Calls Try.prog 183 #[.agg #[.int .i64 x.er, .int .i64 x.nx, .bool x.bad, pv]] w (ToBk x w) := by
  have HS := Lib.hid (fun (W : World) (hW : PgIn W lo hi pv x.pg) (hs : hi ≤ W.heap.size) => toPages_any pv x.pg W lo hi hW hs hl)
  have H := Lib.hid h
  obtain ⟨er, nx, bad, pg⟩ := x
  clear h
  go_enter Try.func183, Try.ntmps183
  go_wp2_with fail
  have b0 : Below w.heap.size w (((w.alloc (.cells #[.int .i64 er, .int .i64 nx, .bool bad, pv] 192)).alloc (.cells #[.int .i64 0, .int .i64 0, .bool false, .slice none 0 0] 147)).alloc (.cells #[.int .i64 er, .int .i64 nx, .bool bad, .slice none 0 0] 147)) :=
    (((Below.refl w.heap.size w).alloc (Nat.le_refl _) _).alloc (by simp) _).alloc (by simp; omega) _
  have r0 : Rw (((w.alloc (.cells #[.int .i64 er, .int .i64 nx, .bool bad, pv] 192)).alloc (.cells #[.int .i64 0, .int .i64 0, .bool false, .slice none 0 0] 147)).alloc (.cells #[.int .i64 er, .int .i64 nx, .bool bad, .slice none 0 0] 147)) (w.heap.size + 1 + 1) 147 #[.int .i64 er, .int .i64 nx, .bool bad, .slice none 0 0] := by
    have := Rw.new ((w.alloc (.cells #[.int .i64 er, .int .i64 nx, .bool bad, pv] 192)).alloc (.cells #[.int .i64 0, .int .i64 0, .bool false, .slice none 0 0] 147)) 147 #[.int .i64 er, .int .i64 nx, .bool bad, .slice none 0 0]
    simpa using this
  have z0 : Rw (((w.alloc (.cells #[.int .i64 er, .int .i64 nx, .bool bad, pv] 192)).alloc (.cells #[.int .i64 0, .int .i64 0, .bool false, .slice none 0 0] 147)).alloc (.cells #[.int .i64 er, .int .i64 nx, .bool bad, .slice none 0 0] 147)) (w.heap.size + 1) 147 #[.int .i64 0, .int .i64 0, .bool false, .slice none 0 0] := by
    have := (Rw.new (w.alloc (.cells #[.int .i64 er, .int .i64 nx, .bool bad, pv] 192)) 147 #[.int .i64 0, .int .i64 0, .bool false, .slice none 0 0]).alloc (.cells #[.int .i64 er, .int .i64 nx, .bool bad, .slice none 0 0] 147)
    simpa using this
  refine (HS.out _ (H.out.same (sm b0 lo hh)) (by simp; omega)).mono ?_
  rintro e w1 ⟨A, cp, rfl, ho, hb⟩
  simp only [World.size_alloc] at ho hb
  have r1 := r0.below hb (by omega)
  have z1 := z0.below hb (by omega)
  obtain ⟨c0, c1, c2, c3⟩ := r1.four
  obtain ⟨d0, d1, d2, d3⟩ := z1.four
  obtain ⟨f0, f1, f2, f3, _⟩ := r1.frees
  obtain ⟨g0, g1, g2, g3, _⟩ := z1.frees
  have R1 := Lib.hid z1
  have HB := Lib.hid (b0.trans (hb.mono (by omega)))
  have HO := Lib.hid ho
  have hsz := hb.size
  clear r0 r1 b0 ho hb
  go_wp2
  have fin : ToBk ⟨er, nx, bad, pg⟩ w (.returned (.agg #[.int .i64 er, .int .i64 nx, .bool bad, .slice A pg.length cp])) ((((((w1.setCell ⟨w.heap.size + 1 + 1, 3, none⟩ (.slice A pg.length cp)).setCell ⟨w.heap.size + 1, 0, none⟩ (.int .i64 er)).setCell ⟨w.heap.size + 1, 1, none⟩ (.int .i64 nx)).setCell ⟨w.heap.size + 1, 2, none⟩ (.bool bad)).setCell ⟨w.heap.size + 1, 3, none⟩ (.slice A pg.length cp))) := by
    refine ⟨A, cp, rfl, fun g hg => ?_, (((((HB.out.setCell (by simp; omega) _).setCell (by simp) _).setCell (by simp) _).setCell (by simp) _).setCell (by simp) _)⟩
    exact ((HO.out g (by omega)).same ((((((Same.refl _ _ _).setCell (.inl (by simp)) _).setCell (.inl (by simp)) _).setCell (.inl (by simp)) _).setCell (.inl (by simp)) _).setCell (.inl (by simp)) _)).wide (by omega) (by simp)
  exact bodyPost_ret (results_cell_row Try.results183 _ _ _ _ _ _ _ rfl (((((R1.out.far (by simp) _).set_ 0 _).set_ 1 _).set_ 2 _).set_ 3 _) Try.underlying147 rfl infoBk) rfl fin
theorem infoBkZ : (Try.prog.info? 147).map (fun i => (i.zero, i.size, i.bytes)) = some (some (.agg #[.int .i64 0, .int .i64 0, .bool false, .slice none 0 0]), 4, 48) := by kernel_rfl
theorem wpList_make_blocks {Q : Exit → Act → World → Prop} {ops : Array Oper} {rest : List Oper} {o : Oper} {a : Act} {w0 w : World} {B : Nat} (hgd : o.guard = none) (l c : Operand)
    (ho : o.op = Op.makeSlice 65 l c) (n : Nat) (hl : a.eval l = .int .i64 (n : Int)) (hc : a.eval c = .int .i64 (n : Int)) (hn : n ≤ 1048576)
    (hb : Below B w0 w) (hB : B ≤ w.heap.size)
    (h : ∀ w', BO w' B w'.heap.size w.heap.size (fun _ => .slice none 0 0) (List.replicate n Blk.zero) → Below B w0 w' → wpList Try.prog ops Q rest (a.put o.dst (.slice (some ⟨w.heap.size, 0, none⟩) n n)) w') :
    wpList Try.prog ops Q (o :: rest) a w := by
  obtain ⟨i0, hi, hz0, hz1, hz2⟩ := info_parts infoBkZ
  refine wpList_make_full w hgd l c _ ho B 147 i0 (.agg #[.int .i64 0, .int .i64 0, .bool false, .slice none 0 0]) 4 Try.underlying65 hi hz0 hz1 .i64 .i64 (n : Int) (n : Int) n hl hc rfl rfl (by rw [hz2]; omega) (by unfold maxLen; omega) hB ?_
  intro w' h1 h2
  refine h w' ?_ (hb.grown h2 hB fun k hk => by simp at hk)
  have h3 := World.ownsRow.lt h1 w.heap.size rfl
  exact BO.made h1 h3.2 h3.1
theorem toBlocks_any (v : Value) (L : List Blk) (w : World) (lo hi : Nat) (h : BksIn w lo hi v L) (hh : hi ≤ w.heap.size) (hl : L.length ≤ 1048576) (hp : ∀ i, i < L.length → (L.getD i Blk.zero).pg.length ≤ 1048576) :
    Calls Try.prog 122 #[v] w fun e w' => ∃ u, e = .returned u ∧ BksOwn w' w.heap.size w'.heap.size u L ∧ Below w.heap.size w w' := by
  obtain ⟨A, n, cap, rfl, hlc, hcm, hn, hA⟩ := h
  have hnm : (n : Int) ≤ 1048576 := by omega
  rcases Nat.eq_zero_or_pos n with hz | hz
  · subst hz
    obtain rfl : L = [] := List.eq_nil_of_length_eq_zero hn
    clear hA hn hlc hcm hp
    go_enter Try.func122, Try.ntmps122
    go_wp2_with (refine wpList_make_blocks rfl _ _ rfl 0 rfl rfl (by omega) (Below.refl w.heap.size w) (Nat.le_refl _) ?_; intro w1 hown hb)
    go_loop [4] (fun i => i = .int .i64 0) (fun _ => 0)
    case atStart => rfl
    case round =>
      obtain rfl := hrel
      go_wp2
      go_ret
      exact ⟨_, rfl, ⟨_, 0, 0, rfl, Nat.le_refl _, by omega, rfl, fun h => by omega⟩, hb⟩
  · obtain ⟨g, off, rfl, hb1, hb2, hx⟩ := hA hz
    have HX := Lib.hid hx
    have HN := Lib.hid hn
    have HP := Lib.hid hp
    clear hA hx hn hp hlc hcm
    go_enter Try.func122, Try.ntmps122
    go_wp2_with (refine wpList_make_blocks rfl _ _ rfl n rfl rfl (by omega) (Below.refl w.heap.size w) (Nat.le_refl _) ?_; intro w1 hown hb)
    go_loopw [4] (fun i wr => ∃ (k : Nat) (pv : Nat → Value), k ≤ n ∧ i = .int .i64 k ∧ BO wr w.heap.size wr.heap.size w.heap.size pv (L.take k ++ List.replicate (n - k) Blk.zero) ∧ Below w.heap.size w wr) (fun i _ => n - (intOf i).toNat)
    case atStart => exact ⟨0, _, by omega, rfl, by simpa using hown, hb⟩
    case round =>
      clear hown hb
      obtain ⟨k, pv, hk, rfl, hown, hb⟩ := hrel
      have hN := HN.out
      have hlen : (L.take k ++ List.replicate (n - k) Blk.zero).length = n := by simp; omega
      by_cases hlt : k < n
      · have hki : (k : Int) < (n : Int) := by omega
        obtain ⟨pu, ⟨c0, c1, c2, c3⟩, hpg⟩ := HX.out k hlt
        have q0 := (hb.cell (p := ⟨g, off + k * 4, none⟩) (by simp; omega)).trans c0
        have q1 := (hb.cell (p := ⟨g, off + k * 4 + 1, none⟩) (by simp; omega)).trans c1
        have q2 := (hb.cell (p := ⟨g, off + k * 4 + 2, none⟩) (by simp; omega)).trans c2
        have q3 := (hb.cell (p := ⟨g, off + k * 4 + 3, none⟩) (by simp; omega)).trans c3
        have HG := Lib.hid (hpg.same (sm hb lo hh))
        have HQ := HP.out k (by omega)
        have HS := Lib.hid (set_fill L n k hN hlt)
        have hsz := hb.size
        generalize L.getD k Blk.zero = y at *
        have HC := Lib.hid (fun (W : World) (hW : PgIn W lo hi pu y.pg) (hs : hi ≤ W.heap.size) => toBlock_any y pu W lo hi hW hs HQ)
        have HOWN := Lib.hid hown
        have HB := Lib.hid hb
        have HL := Lib.hid hlen
        clear c0 c1 c2 c3 hpg hown hlen hN hb
        go_wp2_with fail
        refine (HC.out _ HG.out (by omega)).mono ?_
        rintro e w1 ⟨A1, cp1, rfl, hu, hb1⟩
        have o2 := HOWN.out.same (sm hb1 w.heap.size (Nat.le_refl _))
        have hsz1 := hb1.size
        have hu2 := hu w.heap.size (by have := HOWN.out.high; omega)
        have f0 := o2.free (k * 4)
        have f1 := o2.free (k * 4 + 1)
        have f2 := o2.free (k * 4 + 2)
        have f3 := o2.free (k * 4 + 3)
        obtain ⟨d0, d1, d2, d3⟩ := o2.row k (by have := HL.out; omega)
        have O3 := Lib.hid (o2.fill (k := k) (by have := HL.out; omega) y _ hu2 hsz1)
        have HB2 := Lib.hid (HB.out.trans (hb1.mono hsz))
        clear o2 hu hu2 hb1 HOWN HB
        go_wp2
        go_roundw
        case rel =>
          have o3 := O3.out
          rw [HS.out] at o3
          exact ⟨k + 1, _, by omega, by go_num, by simpa using o3, (((HB2.out.setCell (by simp) _).setCell (by simp) _).setCell (by simp) _).setCell (by simp) _⟩
        case measure => simp [intOf]; omega
      · obtain rfl : k = n := by omega
        rw [Nat.sub_self, List.replicate_zero, List.append_nil, List.take_of_length_le (by omega)] at hown
        have HO := Lib.hid hown
        clear hown hN hlen
        go_wp2
        go_ret
        exact ⟨_, rfl, ⟨_, _, _, rfl, Nat.le_refl _, by omega, HN.out, fun _ => ⟨_, pv, rfl, HO.out⟩⟩, hb⟩
theorem infoGeo : (Try.prog.info? 64).map (·.size) = some 3 := by kernel_rfl
theorem infoFl : (Try.prog.info? 67).map (·.size) = some 8 := by kernel_rfl
theorem toGeometry_any (d b p : Int) (w : World) : Calls Try.prog 52 #[.agg #[.int .i64 d, .int .i64 b, .int .i64 p]] w fun e w' => e = .returned (.agg #[.int .i64 d, .int .i64 b, .int .i64 p]) ∧ Below w.heap.size w w' := by
  obtain ⟨_, r1, _, hb⟩ := Rw.three_new w 59 64 64 #[.int .i64 d, .int .i64 b, .int .i64 p] #[.int .i64 d, .int .i64 b, .int .i64 p] #[.int .i64 d, .int .i64 b, .int .i64 p]
  have R1 := Lib.hid r1
  have HB := Lib.hid hb
  clear r1 hb
  go_enter Try.func52, Try.ntmps52
  go_wp2
  exact bodyPost_ret (results_cell_row Try.results52 _ _ _ _ _ _ _ rfl R1.out Try.underlying64 rfl infoGeo) rfl ⟨rfl, HB.out⟩
set_option maxHeartbeats 1000000 in
theorem toFlash_any (v : Value) (F : Fl) (w : World) (hi : Nat) (h : FlIn w 0 hi v F) (hh : hi ≤ w.heap.size) (hz : FlSz F) :
    Calls Try.prog 46 #[v] w fun e w' => ∃ u, e = .returned u ∧ FlOwn w' w.heap.size w'.heap.size u F ∧ Below w.heap.size w w' := by
  obtain ⟨u, rfl, h⟩ := h
  have HS := Lib.hid (fun (W : World) (hW : BksIn W 0 hi u F.bs) (hs : hi ≤ W.heap.size) => toBlocks_any u F.bs W 0 hi hW hs (by unfold FlSz at hz; omega) (fun i hi => (hz.pages hi).1))
  have H := Lib.hid h
  clear h hz
  obtain ⟨d, b, p, bs, fu, ke, off, op⟩ := F
  unfold flc
  simp only at *
  go_enter Try.func46, Try.ntmps46
  go_wp2_with fail
  refine (toGeometry_any d b p _).mono ?_
  rintro e w1 ⟨rfl, hb1⟩
  obtain ⟨r0, r1, r2, b0⟩ := Rw.three_new w 62 67 67 #[.int .i64 d, .int .i64 b, .int .i64 p, u, .int .i64 fu, .int .i64 ke, .bool off, .int .i64 op]
    #[.int .i64 0, .int .i64 0, .int .i64 0, .slice none 0 0, .int .i64 0, .int .i64 0, .bool false, .int .i64 0] #[.int .i64 0, .int .i64 0, .int .i64 0, .slice none 0 0, .int .i64 0, .int .i64 0, .bool false, .int .i64 0]
  simp only [World.size_alloc] at hb1
  have r0 := r0.below hb1 (by omega)
  have r1 := r1.below hb1 (by omega)
  have r2 := r2.below hb1 (by omega)
  have B1 := b0.trans (hb1.mono (by omega))
  have hsz1 := hb1.size
  simp only [World.size_alloc] at hsz1
  clear b0 hb1
  obtain ⟨c0, c1, c2, c3, c4, c5, c6, c7⟩ := r0.eight
  obtain ⟨d0, d1, d2, d3, d4, d5, d6, d7⟩ := r2.eight
  obtain ⟨f0, f1, f2, f3, f4, f5, f6, f7⟩ := r2.frees
  have R0 := Lib.hid r0
  have R1 := Lib.hid r1
  have R2 := Lib.hid r2
  have HB1 := Lib.hid B1
  clear r0 r1 r2 B1
  go_wp2_with fail
  clear c0 c1 c2 c3 c4 c5 c6 c7 d0 d1 d2 d3 d4 d5 d6 d7 f0 f1 f2 f3 f4 f5 f6 f7
  have k2 := ((R2.out.set_ 0 (.int .i64 d)).set_ 1 (.int .i64 b)).set_ 2 (.int .i64 p)
  have k0 := ((R0.out.far (p := ⟨w.heap.size + 1 + 1, 0, none⟩) (by simp; omega) (.int .i64 d)).far (p := ⟨w.heap.size + 1 + 1, 1, none⟩) (by simp; omega) (.int .i64 b)).far (p := ⟨w.heap.size + 1 + 1, 2, none⟩) (by simp; omega) (.int .i64 p)
  have k1 := ((R1.out.far (p := ⟨w.heap.size + 1 + 1, 0, none⟩) (by simp) (.int .i64 d)).far (p := ⟨w.heap.size + 1 + 1, 1, none⟩) (by simp) (.int .i64 b)).far (p := ⟨w.heap.size + 1 + 1, 2, none⟩) (by simp) (.int .i64 p)
  have kb := ((HB1.out.setCell (p := ⟨w.heap.size + 1 + 1, 0, none⟩) (by simp; omega) (.int .i64 d)).setCell (p := ⟨w.heap.size + 1 + 1, 1, none⟩) (by simp; omega) (.int .i64 b)).setCell (p := ⟨w.heap.size + 1 + 1, 2, none⟩) (by simp; omega) (.int .i64 p)
  refine (HS.out _ (H.out.same (sm kb 0 hh)) (by simp; omega)).mono ?_
  rintro e w2 ⟨u2, rfl, ho, hb2⟩
  simp only [World.size_setCell] at hb2 ho
  have k0 := k0.below hb2 (by omega)
  have k1 := k1.below hb2 (by omega)
  have k2 := k2.below hb2 (by omega)
  have hsz2 := hb2.size
  have kb := kb.trans (hb2.mono (by omega))
  clear hb2
  obtain ⟨A, n, cp, rfl⟩ : ∃ A n c, u2 = .slice A n c := by obtain ⟨A, n, c, e, _⟩ := ho; exact ⟨A, n, c, e⟩
  simp only [List.setIfInBounds_toArray, List.set_cons_zero, List.set_cons_succ] at k2
  obtain ⟨c0, c1, c2, c3, c4, c5, c6, c7⟩ := k0.eight
  obtain ⟨d0, d1, d2, d3, d4, d5, d6, d7⟩ := k2.eight
  obtain ⟨f0, f1, f2, f3, f4, f5, f6, f7⟩ := k2.frees
  obtain ⟨e0, e1, e2, e3, e4, e5, e6, e7⟩ := k1.eight
  obtain ⟨g0, g1, g2, g3, g4, g5, g6, g7⟩ := k1.frees
  have K1 := Lib.hid k1
  have KB := Lib.hid kb
  have HO := Lib.hid ho
  clear k0 k1 k2 kb ho HB1 R0 R1 R2 HS H
  go_wp2
  refine bodyPost_ret (results_cell_row Try.results46 _ _ _ _ #[.int .i64 d, .int .i64 b, .int .i64 p, .slice A n cp, .int .i64 fu, .int .i64 ke, .bool off, .int .i64 op] _ _ rfl
    (((((((((((((K1.out.farA (by omega) _).farA (by omega) _).farA (by omega) _).farA (by omega) _).farA (by omega) _).set_ 0 _).set_ 1 _).set_ 2 _).set_ 3 _).set_ 4 _).set_ 5 _).set_ 6 _).set_ 7 _) Try.underlying67 rfl infoFl) rfl ?_
  refine ⟨_, rfl, ⟨_, rfl, (HO.out.same ?_).wide (by omega) (by simp)⟩, ?_⟩
  · repeat refine sset ?_ (.inl (by omega)) _
    exact Same.refl _ _ _
  · repeat refine bset ?_ (by omega) _
    exact KB.out

end Go.Proofs.Ytainlanblpccjaa
