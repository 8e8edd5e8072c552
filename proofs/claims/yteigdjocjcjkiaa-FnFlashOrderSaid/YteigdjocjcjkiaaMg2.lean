/- The proof's own lemmas, part 3: FlA FlG FlF FlQ FlK FlR FlV OwnR FlW FlC. -/
import Derived.Test.YteigdjocjcjkiaaProg
import Derived.Test.YteigdjocjcjkiaaMg1
import Derived.Test.YteigdjocjcjkiaaMg0
import Derived.WalkKit
import Derived.ProofKit
import Derived.Lib.Hide
import Derived.BigQuiet
import Derived.Deep.QuietTactic
import Derived.Deep.DeepMust
import Derived.Deep.RegionHeld3
import Derived.StillTailTactics
import Derived.Maps.AppendAt
import Derived.Deep.DeepAppendRoom
/- The laws' helpers over arrays: szFlash, toFlash, eqFlash: their contracts. -/
namespace Go.Proofs.Yteigdjocjcjkiaa
open Go.RowKit
set_option linter.unusedVariables false

theorem PgIn.strs {w : World} {lo hi : Nat} {v : Value} {L : List ByteArray} (h : PgIn w lo hi v L) (hh : hi ≤ w.heap.size) : StrsIn w v L := by
  obtain ⟨A, len, cap, e, h1, h2, h3, h4, hc⟩ := h
  refine ⟨A, len, cap, e, h1, h2, h3, fun h0 => ?_⟩
  obtain ⟨b, off, e, h5, h6, hx⟩ := hc h0
  exact ⟨b, off, e, by omega, hx⟩
theorem PgIn.small {w : World} {lo hi : Nat} {v : Value} {L : List ByteArray} (h : PgIn w lo hi v L) : ∀ i, i < L.length → (L.getD i ByteArray.empty).size ≤ 9223372036854775807 := by
  obtain ⟨A, len, cap, e, h1, h2, h3, h4, hc⟩ := h
  exact fun i hi => h4 i (by omega)
theorem StrsOwn.pages {w : World} {B g : Nat} {v : Value} {L : List ByteArray} (h : StrsOwn w B v L) (hg : g < B) (hL : ∀ i, i < L.length → (L.getD i ByteArray.empty).size ≤ 9223372036854775807) : PgOwn w B w.heap.size g v L := by
  rcases h.shape with ⟨rfl, rfl⟩ | ⟨k, cap, rfl, h1, h2, h3, h4⟩
  · exact ⟨none, 0, 0, rfl, Nat.le_refl _, by omega, rfl, fun i hi => by omega, fun h => by omega⟩
  · exact ⟨_, _, _, rfl, h1, h2, rfl, hL, fun _ => ⟨k, 0, rfl, h3, h4, by omega, h.free rfl, fun i hi => by rw [Nat.zero_add]; exact h.cell rfl hi⟩⟩

/-! Sizes. -/
def szS : List ByteArray → Nat
  | [] => 0
  | s :: L => s.size + szS L
theorem szS_append : ∀ L M : List ByteArray, szS (L ++ M) = szS L + szS M
  | [], M => by simp [szS]
  | s :: L, M => by simp only [List.cons_append, szS, szS_append L M]; omega
theorem szS_take {L : List ByteArray} {i : Nat} (h : i < L.length) : szS (L.take (i + 1)) = szS (L.take i) + (L.getD i ByteArray.empty).size := by
  rw [List.take_succ_eq_append_getElem h, szS_append, List.getD_eq_getElem?_getD, List.getElem?_eq_getElem h]
  simp [szS]
theorem szS_one {L : List ByteArray} {i : Nat} (h : i < L.length) : (L.getD i ByteArray.empty).size ≤ szS L := by
  have e := szS_append (L.take (i + 1)) (L.drop (i + 1))
  rw [List.take_append_drop, szS_take h] at e
  omega
theorem szS_le {L : List ByteArray} (i : Nat) : szS (L.take i) ≤ szS L := by
  have e := szS_append (L.take i) (L.drop i)
  rw [List.take_append_drop] at e
  omega
def szP (L : List ByteArray) : Nat := L.length + szS L
def szB : List Blk → Nat
  | [] => 0
  | x :: L => szP x.pg + szB L
theorem szB_append : ∀ L M : List Blk, szB (L ++ M) = szB L + szB M
  | [], M => by simp [szB]
  | s :: L, M => by simp only [List.cons_append, szB, szB_append L M]; omega
theorem szB_take {L : List Blk} {i : Nat} (h : i < L.length) : szB (L.take (i + 1)) = szB (L.take i) + szP (L.getD i Blk.zero).pg := by
  rw [List.take_succ_eq_append_getElem h, szB_append, List.getD_eq_getElem?_getD, List.getElem?_eq_getElem h]
  simp [szB]
theorem szB_one {L : List Blk} {i : Nat} (h : i < L.length) : szP (L.getD i Blk.zero).pg ≤ szB L := by
  have e := szB_append (L.take (i + 1)) (L.drop (i + 1))
  rw [List.take_append_drop, szB_take h] at e
  omega
theorem szB_le {L : List Blk} (i : Nat) : szB (L.take i) ≤ szB L := by
  have e := szB_append (L.take i) (L.drop i)
  rw [List.take_append_drop] at e
  omega
theorem markN_sz : ∀ L : List Blk, markN L ≤ 3 * L.length + szB L
  | [] => by simp [markN]
  | x :: L => by have := markN_sz L; simp only [markN, szB, szP, List.length_cons]; omega
/-- The array fits: blocks, pages and bytes together are few. -/
def FlSz (F : Fl) : Prop := F.bs.length + szB F.bs ≤ 1048576
theorem FlSz.pages {F : Fl} (h : FlSz F) {i : Nat} (hi : i < F.bs.length) : (F.blk i).pg.length ≤ 1048576 ∧ ∀ j, j < (F.blk i).pg.length → ((F.blk i).at j).size ≤ 1048576 := by
  unfold FlSz at h
  have h1 := szB_one hi
  unfold szP at h1
  refine ⟨by show (F.bs.getD i Blk.zero).pg.length ≤ _; omega, fun j hj => ?_⟩
  have := szS_one (L := (F.bs.getD i Blk.zero).pg) hj
  show ((F.bs.getD i Blk.zero).pg.getD j ByteArray.empty).size ≤ _
  omega
/-- What is left of n behind t: the rest, or -1. -/
def Left (n : Int) (t : Nat) (x : Int) : Prop := ((t : Int) ≤ n ∧ x = n - (t : Int)) ∨ (n < (t : Int) ∧ x = -1)
def LeftPost (n : Int) (t : Nat) (w : World) (e : Ending) (w' : World) : Prop := ∃ x : Int, e = .returned (.int .i64 x) ∧ Left n t x ∧ Below w.heap.size w w'
theorem szStrings_any (v : Value) (L : List ByteArray) (w : World) (lo hi : Nat) (m : Int) (h : PgIn w lo hi v L) (h0 : 0 ≤ m) (h1 : m ≤ 1048576) :
    Calls Try.prog 93 #[v, .int .i64 m] w (LeftPost m (szP L) w) := by
  obtain ⟨A, n, cap, rfl, hlc, hcm, hn, hsm, hA⟩ := h
  have hnm : (n : Int) ≤ 9223372036854775807 := by omega
  have HT := Lib.hid (show szP L = n + szS L by unfold szP; omega)
  have HN := Lib.hid hn
  by_cases hbig : m < (n : Int)
  · clear hA hsm hn
    go_enter Try.func93, Try.ntmps93
    go_wp2
    go_ret
    exact ⟨_, rfl, .inr ⟨by have := HT.out; omega, rfl⟩, Below.refl _ _⟩
  · have hsmall : (n : Int) ≤ m := by omega
    rcases Nat.eq_zero_or_pos n with hz | hz
    · subst hz
      have HE := Lib.hid (show szS L = 0 by rw [List.eq_nil_of_length_eq_zero hn]; rfl)
      clear hA hsm hn
      go_enter Try.func93, Try.ntmps93
      go_wp2
      go_loop [1, 5] (fun u i => u = .int .i64 m ∧ i = .int .i64 0) (fun _ _ => 0)
      case atStart => exact ⟨by go_num, rfl⟩
      case round =>
        obtain ⟨rfl, rfl⟩ := hrel
        go_wp2
        go_ret
        exact ⟨_, rfl, .inl ⟨by have := HT.out; have := HE.out; omega, by have := HT.out; have := HE.out; omega⟩, Below.refl _ _⟩
    · obtain ⟨b, off, rfl, hb1, hb2, hx⟩ := hA hz
      have HX := Lib.hid hx
      have HS := Lib.hid hsm
      clear hA hsm hx hn
      go_enter Try.func93, Try.ntmps93
      go_wp2
      go_loop [1, 5] (fun u i => ∃ (k : Nat) (x : Int), k ≤ n ∧ 0 ≤ x ∧ x ≤ m ∧ i = .int .i64 k ∧ u = .int .i64 x ∧ Hid (x = m - (n : Int) - (szS (L.take k) : Nat))) (fun _ i => n - (intOf i).toNat)
      case atStart => exact ⟨0, m - (n : Int), by omega, by omega, by omega, rfl, rfl, Lib.hid (by simp [szS])⟩
      case round =>
        obtain ⟨k, x, hk, hx0, hx1, rfl, rfl, HE⟩ := hrel
        by_cases hlt : k < n
        · have hki : (k : Int) < (n : Int) := by omega
          have hc := HX.out k hlt
          have hsz := HS.out k hlt
          have HA := Lib.hid (szS_take (L := L) (i := k) (by have := HN.out; omega))
          have HB := Lib.hid (szS_le (L := L) (k + 1))
          obtain ⟨y, hy⟩ : ∃ y, y = L.getD k ByteArray.empty := ⟨_, rfl⟩
          rw [← hy] at hc hsz HA
          clear hy
          by_cases hneg : x < (y.size : Int)
          · go_wp2
            go_ret
            exact ⟨_, rfl, .inr ⟨by have := HT.out; have := HE.out; have := HA.out; have := HB.out; omega, rfl⟩, Below.refl _ _⟩
          · have hpos : (y.size : Int) ≤ x := by omega
            go_wp2
            go_round
            case rel => exact ⟨k + 1, x - (y.size : Int), by omega, by omega, by omega, by go_num, rfl, Lib.hid (by have := HE.out; have := HA.out; omega)⟩
            case measure => simp [intOf]; omega
        · obtain rfl : k = n := by omega
          have HF := Lib.hid (show szS (L.take k) = szS L by rw [List.take_of_length_le (by have := HN.out; omega)])
          go_wp2
          go_ret
          exact ⟨_, rfl, .inl ⟨by have := HT.out; have := HE.out; have := HF.out; omega, by have := HT.out; have := HE.out; have := HF.out; omega⟩, Below.refl _ _⟩
theorem szBlock_any (x : Blk) (pv : Value) (w : World) (lo hi : Nat) (m : Int) (h : PgIn w lo hi pv x.pg) (hh : hi ≤ w.heap.size) (h0 : 0 ≤ m) (h1 : m ≤ 1048576) :
    Calls Try.prog 62 #[.agg #[.int .i64 x.er, .int .i64 x.nx, .bool x.bad, pv], .int .i64 m] w (LeftPost m (szP x.pg) w) := by
  have HS := Lib.hid (fun (W : World) (hW : PgIn W lo hi pv x.pg) => szStrings_any pv x.pg W lo hi m hW h0 h1)
  have H := Lib.hid h
  obtain ⟨er, nx, bad, pg⟩ := x
  clear h
  generalize szP pg = t at *
  go_enter Try.func62, Try.ntmps62
  go_wp2_with fail
  refine (HS.out _ (H.out.same (sm ((Below.refl w.heap.size w).alloc (Nat.le_refl _) _) lo hh))).mono ?_
  rintro e w1 ⟨y, rfl, hy, hb⟩
  have HB := Lib.hid (((Below.refl w.heap.size w).alloc (Nat.le_refl _) (.cells #[.int .i64 er, .int .i64 nx, .bool bad, pv] 89)).trans (hb.mono (by simp)))
  clear hb
  by_cases hneg : y < 0
  · go_wp2
    go_ret
    rcases hy with hy | hy
    · omega
    · exact ⟨_, rfl, .inr ⟨hy.1, rfl⟩, HB.out⟩
  · have hn : ¬ y < 0 := hneg
    go_wp2
    go_ret
    exact ⟨_, rfl, hy, HB.out⟩
theorem szBlocks_any (v : Value) (L : List Blk) (w : World) (lo hi : Nat) (m : Int) (h : BksIn w lo hi v L) (hh : hi ≤ w.heap.size) (h0 : 0 ≤ m) (h1 : m ≤ 1048576) :
    Calls Try.prog 30 #[v, .int .i64 m] w (LeftPost m (L.length + szB L) w) := by
  obtain ⟨A, n, cap, rfl, hlc, hcm, hn, hA⟩ := h
  have hnm : (n : Int) ≤ 9223372036854775807 := by omega
  have HT := Lib.hid (show L.length + szB L = n + szB L by omega)
  have HN := Lib.hid hn
  by_cases hbig : m < (n : Int)
  · clear hA hn
    go_enter Try.func30, Try.ntmps30
    go_wp2
    go_ret
    exact ⟨_, rfl, .inr ⟨by have := HT.out; omega, rfl⟩, Below.refl _ _⟩
  · have hsmall : (n : Int) ≤ m := by omega
    rcases Nat.eq_zero_or_pos n with hz | hz
    · subst hz
      have HE := Lib.hid (show szB L = 0 by rw [List.eq_nil_of_length_eq_zero hn]; rfl)
      clear hA hn
      go_enter Try.func30, Try.ntmps30
      go_wp2
      go_loopw [1, 5] (fun u i wr => u = .int .i64 m ∧ i = .int .i64 0 ∧ wr = w) (fun _ _ _ => 0)
      case atStart => exact ⟨by go_num, rfl, rfl⟩
      case round =>
        obtain ⟨rfl, rfl, rfl⟩ := hrel
        go_wp2
        go_ret
        exact ⟨_, rfl, .inl ⟨by have := HT.out; have := HE.out; omega, by have := HT.out; have := HE.out; omega⟩, Below.refl _ _⟩
    · obtain ⟨g, off, rfl, hb1, hb2, hx⟩ := hA hz
      have HX := Lib.hid hx
      clear hA hx hn
      go_enter Try.func30, Try.ntmps30
      go_wp2
      go_loopw [1, 5] (fun u i wr => ∃ (k : Nat) (x : Int), k ≤ n ∧ 0 ≤ x ∧ x ≤ m ∧ i = .int .i64 k ∧ u = .int .i64 x ∧ Hid (x = m - (n : Int) - (szB (L.take k) : Nat)) ∧ Below w.heap.size w wr) (fun _ i _ => n - (intOf i).toNat)
      case atStart => exact ⟨0, m - (n : Int), by omega, by omega, by omega, rfl, by go_num, Lib.hid (by simp [szB]), Below.refl _ _⟩
      case round =>
        obtain ⟨k, x, hk, hx0, hx1, rfl, rfl, HE, hb⟩ := hrel
        by_cases hlt : k < n
        · have hki : (k : Int) < (n : Int) := by omega
          obtain ⟨pv, ⟨c0, c1, c2, c3⟩, hp⟩ := HX.out k hlt
          have q0 := (hb.cell (p := ⟨g, off + k * 4, none⟩) (by simp; omega)).trans c0
          have q1 := (hb.cell (p := ⟨g, off + k * 4 + 1, none⟩) (by simp; omega)).trans c1
          have q2 := (hb.cell (p := ⟨g, off + k * 4 + 2, none⟩) (by simp; omega)).trans c2
          have q3 := (hb.cell (p := ⟨g, off + k * 4 + 3, none⟩) (by simp; omega)).trans c3
          have HP := Lib.hid (hp.same (sm hb lo hh))
          have HA := Lib.hid (szB_take (L := L) (i := k) (by have := HN.out; omega))
          have HB := Lib.hid (szB_le (L := L) (k + 1))
          generalize hy : L.getD k Blk.zero = y at *
          clear hy c0 c1 c2 c3 hp
          have HC := Lib.hid (fun (W : World) (hW : PgIn W lo hi pv y.pg) (hs : hi ≤ W.heap.size) => szBlock_any y pv W lo hi x hW hs hx0 (by omega))
          have hsz := hb.size
          go_wp2_with fail
          refine (HC.out _ HP.out (by omega)).mono ?_
          rintro e w1 ⟨z, rfl, hz, hb1⟩
          have hb2 := hb.trans (hb1.mono hsz)
          clear hb1 q0 q1 q2 q3 hb
          by_cases hneg : z < 0
          · go_wp2
            go_ret
            rcases hz with hz | hz
            · omega
            · exact ⟨_, rfl, .inr ⟨by have := HT.out; have := HE.out; have := HA.out; have := HB.out; omega, rfl⟩, hb2⟩
          · have hz2 : (szP y.pg : Int) ≤ x ∧ z = x - (szP y.pg : Int) := by
              rcases hz with hz | hz <;> omega
            have hn0 : 0 ≤ z := by omega
            clear hz
            go_wp2
            go_roundw
            case rel => exact ⟨k + 1, z, by omega, by omega, by omega, by go_num, by rw [hz2.2], Lib.hid (by have := HE.out; have := HA.out; omega), hb2⟩
            case measure => simp [intOf]; omega
        · obtain rfl : k = n := by omega
          have HF := Lib.hid (show szB (L.take k) = szB L by rw [List.take_of_length_le (by have := HN.out; omega)])
          go_wp2
          go_ret
          exact ⟨_, rfl, .inl ⟨by have := HT.out; have := HE.out; have := HF.out; omega, by have := HT.out; have := HE.out; have := HF.out; omega⟩, hb⟩
theorem szFlash_any (v : Value) (F : Fl) (w : World) (hi : Nat) (h : FlIn w 0 hi v F) (hh : hi ≤ w.heap.size) :
    Calls Try.prog 8 #[v, .int .i64 1048576] w (LeftPost 1048576 (F.bs.length + szB F.bs) w) := by
  obtain ⟨u, rfl, h⟩ := h
  obtain ⟨d, b, p, bs, fu, ke, off, op⟩ := F
  simp only at h
  have HS := Lib.hid (fun (W : World) (hW : BksIn W 0 hi u bs) (hs : hi ≤ W.heap.size) => szBlocks_any u bs W 0 hi 1048576 hW hs (by omega) (by omega))
  have H := Lib.hid h
  clear h
  unfold flc
  simp only
  generalize bs.length + szB bs = t at *
  go_enter Try.func8, Try.ntmps8
  go_wp2_with fail
  refine (HS.out _ (H.out.same (sm ((Below.refl w.heap.size w).alloc (Nat.le_refl _) _) 0 hh)) (by simp; omega)).mono ?_
  rintro e w1 ⟨y, rfl, hy, hb⟩
  have HB := Lib.hid (((Below.refl w.heap.size w).alloc (Nat.le_refl _) (.cells #[.int .i64 d, .int .i64 b, .int .i64 p, u, .int .i64 fu, .int .i64 ke, .bool off, .int .i64 op] 26)).trans (hb.mono (by simp)))
  clear hb
  by_cases hneg : y < 0
  · go_wp2
    go_ret
    rcases hy with hy | hy
    · omega
    · exact ⟨_, rfl, .inr ⟨hy.1, rfl⟩, HB.out⟩
  · have hn : ¬ y < 0 := hneg
    go_wp2
    go_ret
    exact ⟨_, rfl, hy, HB.out⟩
theorem Left.small {F : Fl} {x : Int} (h : Left 1048576 (F.bs.length + szB F.bs) x) (h0 : ¬ x < 0) : FlSz F := by
  unfold FlSz
  rcases h with h | h <;> omega

/-! Copies. -/
theorem toPages_any (v : Value) (L : List ByteArray) (w : World) (lo hi : Nat) (h : PgIn w lo hi v L) (hh : hi ≤ w.heap.size) (hl : L.length ≤ 1048576) :
    Calls Try.prog 95 #[v] w fun e w' => ∃ A c, e = .returned (.slice A L.length c) ∧ (∀ g, g < w.heap.size → PgOwn w' w.heap.size w'.heap.size g (.slice A L.length c) L) ∧ Below w.heap.size w w' := by
  refine (toStrs_any v L w (h.strs hh) hl).mono ?_
  rintro e w' ⟨u, rfl, h1, h2⟩
  obtain ⟨A, c, rfl⟩ : ∃ A c, u = .slice A L.length c := by
    rcases h1.shape with ⟨rfl, rfl⟩ | ⟨k, cap, rfl, _⟩
    · exact ⟨_, _, rfl⟩
    · exact ⟨_, _, rfl⟩
  exact ⟨A, c, rfl, fun g hg => h1.pages hg h.small, h2⟩
theorem infoBk : (Try.prog.info? 51).map (·.size) = some 4 := by kernel_rfl
def ToBk (x : Blk) (w : World) (e : Ending) (w' : World) : Prop := ∃ A c, e = .returned (.agg #[.int .i64 x.er, .int .i64 x.nx, .bool x.bad, .slice A x.pg.length c]) ∧ (∀ g, g < w.heap.size → PgOwn w' w.heap.size w'.heap.size g (.slice A x.pg.length c) x.pg) ∧ Below w.heap.size w w'
theorem toBlock_any (x : Blk) (pv : Value) (w : World) (lo hi : Nat) (h : PgIn w lo hi pv x.pg) (hh : hi ≤ w.heap.size) (hl : x.pg.length ≤ 1048576) :
    Calls Try.prog 67 #[.agg #[.int .i64 x.er, .int .i64 x.nx, .bool x.bad, pv]] w (ToBk x w) := by
  have HS := Lib.hid (fun (W : World) (hW : PgIn W lo hi pv x.pg) (hs : hi ≤ W.heap.size) => toPages_any pv x.pg W lo hi hW hs hl)
  have H := Lib.hid h
  obtain ⟨er, nx, bad, pg⟩ := x
  clear h
  go_enter Try.func67, Try.ntmps67
  go_wp2_with fail
  have b0 : Below w.heap.size w (((w.alloc (.cells #[.int .i64 er, .int .i64 nx, .bool bad, pv] 89)).alloc (.cells #[.int .i64 0, .int .i64 0, .bool false, .slice none 0 0] 51)).alloc (.cells #[.int .i64 er, .int .i64 nx, .bool bad, .slice none 0 0] 51)) :=
    (((Below.refl w.heap.size w).alloc (Nat.le_refl _) _).alloc (by simp) _).alloc (by simp; omega) _
  have r0 : Rw (((w.alloc (.cells #[.int .i64 er, .int .i64 nx, .bool bad, pv] 89)).alloc (.cells #[.int .i64 0, .int .i64 0, .bool false, .slice none 0 0] 51)).alloc (.cells #[.int .i64 er, .int .i64 nx, .bool bad, .slice none 0 0] 51)) (w.heap.size + 1 + 1) 51 #[.int .i64 er, .int .i64 nx, .bool bad, .slice none 0 0] := by
    have := Rw.new ((w.alloc (.cells #[.int .i64 er, .int .i64 nx, .bool bad, pv] 89)).alloc (.cells #[.int .i64 0, .int .i64 0, .bool false, .slice none 0 0] 51)) 51 #[.int .i64 er, .int .i64 nx, .bool bad, .slice none 0 0]
    simpa using this
  have z0 : Rw (((w.alloc (.cells #[.int .i64 er, .int .i64 nx, .bool bad, pv] 89)).alloc (.cells #[.int .i64 0, .int .i64 0, .bool false, .slice none 0 0] 51)).alloc (.cells #[.int .i64 er, .int .i64 nx, .bool bad, .slice none 0 0] 51)) (w.heap.size + 1) 51 #[.int .i64 0, .int .i64 0, .bool false, .slice none 0 0] := by
    have := (Rw.new (w.alloc (.cells #[.int .i64 er, .int .i64 nx, .bool bad, pv] 89)) 51 #[.int .i64 0, .int .i64 0, .bool false, .slice none 0 0]).alloc (.cells #[.int .i64 er, .int .i64 nx, .bool bad, .slice none 0 0] 51)
    simpa using this
  refine (HS.out _ (H.out.same (sm b0 lo hh)) (by simp; omega)).mono ?_
  rintro e w1 ⟨A, cp, rfl, ho, hb⟩
  simp only [World.size_alloc] at ho hb
  have r1 := r0.below hb (by omega)
  have z1 := z0.below hb (by omega)
  obtain ⟨c0, c1, c2, c3⟩ := r1.four
  obtain ⟨d0, d1, d2, d3⟩ := z1.four
  obtain ⟨f0, f1, f2, f3, _⟩ := r1.frees
  obtain ⟨g0, g1, g2, g3, _⟩ := z1.frees
  have R1 := Lib.hid z1
  have HB := Lib.hid (b0.trans (hb.mono (by omega)))
  have HO := Lib.hid ho
  have hsz := hb.size
  clear r0 r1 b0 ho hb
  go_wp2
  have fin : ToBk ⟨er, nx, bad, pg⟩ w (.returned (.agg #[.int .i64 er, .int .i64 nx, .bool bad, .slice A pg.length cp])) ((((((w1.setCell ⟨w.heap.size + 1 + 1, 3, none⟩ (.slice A pg.length cp)).setCell ⟨w.heap.size + 1, 0, none⟩ (.int .i64 er)).setCell ⟨w.heap.size + 1, 1, none⟩ (.int .i64 nx)).setCell ⟨w.heap.size + 1, 2, none⟩ (.bool bad)).setCell ⟨w.heap.size + 1, 3, none⟩ (.slice A pg.length cp))) := by
    refine ⟨A, cp, rfl, fun g hg => ?_, (((((HB.out.setCell (by simp; omega) _).setCell (by simp) _).setCell (by simp) _).setCell (by simp) _).setCell (by simp) _)⟩
    exact ((HO.out g (by omega)).same ((((((Same.refl _ _ _).setCell (.inl (by simp)) _).setCell (.inl (by simp)) _).setCell (.inl (by simp)) _).setCell (.inl (by simp)) _).setCell (.inl (by simp)) _)).wide (by omega) (by simp)
  exact bodyPost_ret (results_cell_row Try.results67 _ _ _ _ _ _ _ rfl (((((R1.out.far (by simp) _).set_ 0 _).set_ 1 _).set_ 2 _).set_ 3 _) Try.underlying51 rfl infoBk) rfl fin
theorem infoBkZ : (Try.prog.info? 51).map (fun i => (i.zero, i.size, i.bytes)) = some (some (.agg #[.int .i64 0, .int .i64 0, .bool false, .slice none 0 0]), 4, 48) := by kernel_rfl
theorem wpList_make_blocks {Q : Exit → Act → World → Prop} {ops : Array Oper} {rest : List Oper} {o : Oper} {a : Act} {w0 w : World} {B : Nat} (hgd : o.guard = none) (l c : Operand)
    (ho : o.op = Op.makeSlice 29 l c) (n : Nat) (hl : a.eval l = .int .i64 (n : Int)) (hc : a.eval c = .int .i64 (n : Int)) (hn : n ≤ 1048576)
    (hb : Below B w0 w) (hB : B ≤ w.heap.size)
    (h : ∀ w', BO w' B w'.heap.size w.heap.size (fun _ => .slice none 0 0) (List.replicate n Blk.zero) → Below B w0 w' → wpList Try.prog ops Q rest (a.put o.dst (.slice (some ⟨w.heap.size, 0, none⟩) n n)) w') :
    wpList Try.prog ops Q (o :: rest) a w := by
  obtain ⟨i0, hi, hz0, hz1, hz2⟩ := info_parts infoBkZ
  refine wpList_make_full w hgd l c _ ho B 51 i0 (.agg #[.int .i64 0, .int .i64 0, .bool false, .slice none 0 0]) 4 Try.underlying29 hi hz0 hz1 .i64 .i64 (n : Int) (n : Int) n hl hc rfl rfl (by rw [hz2]; omega) (by unfold maxLen; omega) hB ?_
  intro w' h1 h2
  refine h w' ?_ (hb.grown h2 hB fun k hk => by simp at hk)
  have h3 := World.ownsRow.lt h1 w.heap.size rfl
  exact BO.made h1 h3.2 h3.1
theorem toBlocks_any (v : Value) (L : List Blk) (w : World) (lo hi : Nat) (h : BksIn w lo hi v L) (hh : hi ≤ w.heap.size) (hl : L.length ≤ 1048576) (hp : ∀ i, i < L.length → (L.getD i Blk.zero).pg.length ≤ 1048576) :
    Calls Try.prog 35 #[v] w fun e w' => ∃ u, e = .returned u ∧ BksOwn w' w.heap.size w'.heap.size u L ∧ Below w.heap.size w w' := by
  obtain ⟨A, n, cap, rfl, hlc, hcm, hn, hA⟩ := h
  have hnm : (n : Int) ≤ 1048576 := by omega
  rcases Nat.eq_zero_or_pos n with hz | hz
  · subst hz
    obtain rfl : L = [] := List.eq_nil_of_length_eq_zero hn
    clear hA hn hlc hcm hp
    go_enter Try.func35, Try.ntmps35
    go_wp2_with (refine wpList_make_blocks rfl _ _ rfl 0 rfl rfl (by omega) (Below.refl w.heap.size w) (Nat.le_refl _) ?_; intro w1 hown hb)
    go_loop [4] (fun i => i = .int .i64 0) (fun _ => 0)
    case atStart => rfl
    case round =>
      obtain rfl := hrel
      go_wp2
      go_ret
      exact ⟨_, rfl, ⟨_, 0, 0, rfl, Nat.le_refl _, by omega, rfl, fun h => by omega⟩, hb⟩
  · obtain ⟨g, off, rfl, hb1, hb2, hx⟩ := hA hz
    have HX := Lib.hid hx
    have HN := Lib.hid hn
    have HP := Lib.hid hp
    clear hA hx hn hp hlc hcm
    go_enter Try.func35, Try.ntmps35
    go_wp2_with (refine wpList_make_blocks rfl _ _ rfl n rfl rfl (by omega) (Below.refl w.heap.size w) (Nat.le_refl _) ?_; intro w1 hown hb)
    go_loopw [4] (fun i wr => ∃ (k : Nat) (pv : Nat → Value), k ≤ n ∧ i = .int .i64 k ∧ BO wr w.heap.size wr.heap.size w.heap.size pv (L.take k ++ List.replicate (n - k) Blk.zero) ∧ Below w.heap.size w wr) (fun i _ => n - (intOf i).toNat)
    case atStart => exact ⟨0, _, by omega, rfl, by simpa using hown, hb⟩
    case round =>
      clear hown hb
      obtain ⟨k, pv, hk, rfl, hown, hb⟩ := hrel
      have hN := HN.out
      have hlen : (L.take k ++ List.replicate (n - k) Blk.zero).length = n := by simp; omega
      by_cases hlt : k < n
      · have hki : (k : Int) < (n : Int) := by omega
        obtain ⟨pu, ⟨c0, c1, c2, c3⟩, hpg⟩ := HX.out k hlt
        have q0 := (hb.cell (p := ⟨g, off + k * 4, none⟩) (by simp; omega)).trans c0
        have q1 := (hb.cell (p := ⟨g, off + k * 4 + 1, none⟩) (by simp; omega)).trans c1
        have q2 := (hb.cell (p := ⟨g, off + k * 4 + 2, none⟩) (by simp; omega)).trans c2
        have q3 := (hb.cell (p := ⟨g, off + k * 4 + 3, none⟩) (by simp; omega)).trans c3
        have HG := Lib.hid (hpg.same (sm hb lo hh))
        have HQ := HP.out k (by omega)
        have HS := Lib.hid (set_fill L n k hN hlt)
        have hsz := hb.size
        generalize L.getD k Blk.zero = y at *
        have HC := Lib.hid (fun (W : World) (hW : PgIn W lo hi pu y.pg) (hs : hi ≤ W.heap.size) => toBlock_any y pu W lo hi hW hs HQ)
        have HOWN := Lib.hid hown
        have HB := Lib.hid hb
        have HL := Lib.hid hlen
        clear c0 c1 c2 c3 hpg hown hlen hN hb
        go_wp2_with fail
        refine (HC.out _ HG.out (by omega)).mono ?_
        rintro e w1 ⟨A1, cp1, rfl, hu, hb1⟩
        have o2 := HOWN.out.same (sm hb1 w.heap.size (Nat.le_refl _))
        have hsz1 := hb1.size
        have hu2 := hu w.heap.size (by have := HOWN.out.high; omega)
        have f0 := o2.free (k * 4)
        have f1 := o2.free (k * 4 + 1)
        have f2 := o2.free (k * 4 + 2)
        have f3 := o2.free (k * 4 + 3)
        obtain ⟨d0, d1, d2, d3⟩ := o2.row k (by have := HL.out; omega)
        have O3 := Lib.hid (o2.fill (k := k) (by have := HL.out; omega) y _ hu2 hsz1)
        have HB2 := Lib.hid (HB.out.trans (hb1.mono hsz))
        clear o2 hu hu2 hb1 HOWN HB
        go_wp2
        go_roundw
        case rel =>
          have o3 := O3.out
          rw [HS.out] at o3
          exact ⟨k + 1, _, by omega, by go_num, by simpa using o3, (((HB2.out.setCell (by simp) _).setCell (by simp) _).setCell (by simp) _).setCell (by simp) _⟩
        case measure => simp [intOf]; omega
      · obtain rfl : k = n := by omega
        rw [Nat.sub_self, List.replicate_zero, List.append_nil, List.take_of_length_le (by omega)] at hown
        have HO := Lib.hid hown
        clear hown hN hlen
        go_wp2
        go_ret
        exact ⟨_, rfl, ⟨_, _, _, rfl, Nat.le_refl _, by omega, HN.out, fun _ => ⟨_, pv, rfl, HO.out⟩⟩, hb⟩
theorem infoGeo : (Try.prog.info? 28).map (·.size) = some 3 := by kernel_rfl
theorem infoFl : (Try.prog.info? 31).map (·.size) = some 8 := by kernel_rfl
theorem toGeometry_any (d b p : Int) (w : World) : Calls Try.prog 34 #[.agg #[.int .i64 d, .int .i64 b, .int .i64 p]] w fun e w' => e = .returned (.agg #[.int .i64 d, .int .i64 b, .int .i64 p]) ∧ Below w.heap.size w w' := by
  obtain ⟨_, r1, _, hb⟩ := Rw.three_new w 23 28 28 #[.int .i64 d, .int .i64 b, .int .i64 p] #[.int .i64 d, .int .i64 b, .int .i64 p] #[.int .i64 d, .int .i64 b, .int .i64 p]
  have R1 := Lib.hid r1
  have HB := Lib.hid hb
  clear r1 hb
  go_enter Try.func34, Try.ntmps34
  go_wp2
  exact bodyPost_ret (results_cell_row Try.results34 _ _ _ _ _ _ _ rfl R1.out Try.underlying28 rfl infoGeo) rfl ⟨rfl, HB.out⟩
set_option maxHeartbeats 1000000 in
theorem toFlash_any (v : Value) (F : Fl) (w : World) (hi : Nat) (h : FlIn w 0 hi v F) (hh : hi ≤ w.heap.size) (hz : FlSz F) :
    Calls Try.prog 10 #[v] w fun e w' => ∃ u, e = .returned u ∧ FlOwn w' w.heap.size w'.heap.size u F ∧ Below w.heap.size w w' := by
  obtain ⟨u, rfl, h⟩ := h
  have HS := Lib.hid (fun (W : World) (hW : BksIn W 0 hi u F.bs) (hs : hi ≤ W.heap.size) => toBlocks_any u F.bs W 0 hi hW hs (by unfold FlSz at hz; omega) (fun i hi => (hz.pages hi).1))
  have H := Lib.hid h
  clear h hz
  obtain ⟨d, b, p, bs, fu, ke, off, op⟩ := F
  unfold flc
  simp only at *
  go_enter Try.func10, Try.ntmps10
  go_wp2_with fail
  refine (toGeometry_any d b p _).mono ?_
  rintro e w1 ⟨rfl, hb1⟩
  obtain ⟨r0, r1, r2, b0⟩ := Rw.three_new w 26 31 31 #[.int .i64 d, .int .i64 b, .int .i64 p, u, .int .i64 fu, .int .i64 ke, .bool off, .int .i64 op]
    #[.int .i64 0, .int .i64 0, .int .i64 0, .slice none 0 0, .int .i64 0, .int .i64 0, .bool false, .int .i64 0] #[.int .i64 0, .int .i64 0, .int .i64 0, .slice none 0 0, .int .i64 0, .int .i64 0, .bool false, .int .i64 0]
  simp only [World.size_alloc] at hb1
  have r0 := r0.below hb1 (by omega)
  have r1 := r1.below hb1 (by omega)
  have r2 := r2.below hb1 (by omega)
  have B1 := b0.trans (hb1.mono (by omega))
  have hsz1 := hb1.size
  simp only [World.size_alloc] at hsz1
  clear b0 hb1
  obtain ⟨c0, c1, c2, c3, c4, c5, c6, c7⟩ := r0.eight
  obtain ⟨d0, d1, d2, d3, d4, d5, d6, d7⟩ := r2.eight
  obtain ⟨f0, f1, f2, f3, f4, f5, f6, f7⟩ := r2.frees
  have R0 := Lib.hid r0
  have R1 := Lib.hid r1
  have R2 := Lib.hid r2
  have HB1 := Lib.hid B1
  clear r0 r1 r2 B1
  go_wp2_with fail
  clear c0 c1 c2 c3 c4 c5 c6 c7 d0 d1 d2 d3 d4 d5 d6 d7 f0 f1 f2 f3 f4 f5 f6 f7
  have k2 := ((R2.out.set_ 0 (.int .i64 d)).set_ 1 (.int .i64 b)).set_ 2 (.int .i64 p)
  have k0 := ((R0.out.far (p := ⟨w.heap.size + 1 + 1, 0, none⟩) (by simp; omega) (.int .i64 d)).far (p := ⟨w.heap.size + 1 + 1, 1, none⟩) (by simp; omega) (.int .i64 b)).far (p := ⟨w.heap.size + 1 + 1, 2, none⟩) (by simp; omega) (.int .i64 p)
  have k1 := ((R1.out.far (p := ⟨w.heap.size + 1 + 1, 0, none⟩) (by simp) (.int .i64 d)).far (p := ⟨w.heap.size + 1 + 1, 1, none⟩) (by simp) (.int .i64 b)).far (p := ⟨w.heap.size + 1 + 1, 2, none⟩) (by simp) (.int .i64 p)
  have kb := ((HB1.out.setCell (p := ⟨w.heap.size + 1 + 1, 0, none⟩) (by simp; omega) (.int .i64 d)).setCell (p := ⟨w.heap.size + 1 + 1, 1, none⟩) (by simp; omega) (.int .i64 b)).setCell (p := ⟨w.heap.size + 1 + 1, 2, none⟩) (by simp; omega) (.int .i64 p)
  refine (HS.out _ (H.out.same (sm kb 0 hh)) (by simp; omega)).mono ?_
  rintro e w2 ⟨u2, rfl, ho, hb2⟩
  simp only [World.size_setCell] at hb2 ho
  have k0 := k0.below hb2 (by omega)
  have k1 := k1.below hb2 (by omega)
  have k2 := k2.below hb2 (by omega)
  have hsz2 := hb2.size
  have kb := kb.trans (hb2.mono (by omega))
  clear hb2
  obtain ⟨A, n, cp, rfl⟩ : ∃ A n c, u2 = .slice A n c := by obtain ⟨A, n, c, e, _⟩ := ho; exact ⟨A, n, c, e⟩
  simp only [List.setIfInBounds_toArray, List.set_cons_zero, List.set_cons_succ] at k2
  obtain ⟨c0, c1, c2, c3, c4, c5, c6, c7⟩ := k0.eight
  obtain ⟨d0, d1, d2, d3, d4, d5, d6, d7⟩ := k2.eight
  obtain ⟨f0, f1, f2, f3, f4, f5, f6, f7⟩ := k2.frees
  obtain ⟨e0, e1, e2, e3, e4, e5, e6, e7⟩ := k1.eight
  obtain ⟨g0, g1, g2, g3, g4, g5, g6, g7⟩ := k1.frees
  have K1 := Lib.hid k1
  have KB := Lib.hid kb
  have HO := Lib.hid ho
  clear k0 k1 k2 kb ho HB1 R0 R1 R2 HS H
  go_wp2
  refine bodyPost_ret (results_cell_row Try.results10 _ _ _ _ #[.int .i64 d, .int .i64 b, .int .i64 p, .slice A n cp, .int .i64 fu, .int .i64 ke, .bool off, .int .i64 op] _ _ rfl
    (((((((((((((K1.out.farA (by omega) _).farA (by omega) _).farA (by omega) _).farA (by omega) _).farA (by omega) _).set_ 0 _).set_ 1 _).set_ 2 _).set_ 3 _).set_ 4 _).set_ 5 _).set_ 6 _).set_ 7 _) Try.underlying31 rfl infoFl) rfl ?_
  refine ⟨_, rfl, ⟨_, rfl, (HO.out.same ?_).wide (by omega) (by simp)⟩, ?_⟩
  · repeat refine sset ?_ (.inl (by omega)) _
    exact Same.refl _ _ _
  · repeat refine bset ?_ (by omega) _
    exact KB.out

end Go.Proofs.Yteigdjocjcjkiaa
/- What a call that hands back an array leaves behind: plain helpers. -/
namespace Go.Proofs.Yteigdjocjcjkiaa
open Go.RowKit
set_option linter.unusedVariables false
def OwnPost (G : Fl) (w : World) (e : Ending) (w' : World) : Prop := ∃ u, e = .returned u ∧ FlOwn w' w.heap.size w'.heap.size u G ∧ Below w.heap.size w w'
/-- What PowerOn answers. -/
def OnEnds (F G : Fl) : Prop := (FlOk F ∧ G = F.on) ∨ (¬ FlOk F ∧ G = Fl.zero)
theorem onEnds (F : Fl) : ∃ G, OnEnds F G := by
  by_cases h : FlOk F
  · exact ⟨_, .inl ⟨h, rfl⟩⟩
  · exact ⟨_, .inr ⟨h, rfl⟩⟩
theorem zeroOwn (w : World) (lo hi : Nat) : FlOwn w lo hi (.agg #[.int .i64 0, .int .i64 0, .int .i64 0, .slice none 0 0, .int .i64 0, .int .i64 0, .bool false, .int .i64 0]) Fl.zero := FlOwn.zero w lo hi
/-- The eight cells of a result laid anew. -/
theorem Rw.put8 {w : World} {g : Nat} {t : TypeId} {c0 c1 c2 c3 c4 c5 c6 c7 : Value} (h : Rw w g t #[c0, c1, c2, c3, c4, c5, c6, c7]) (a b c d e f i j : Value) :
    Rw ((((((((w.setCell ⟨g, 0, none⟩ a).setCell ⟨g, 1, none⟩ b).setCell ⟨g, 2, none⟩ c).setCell ⟨g, 3, none⟩ d).setCell ⟨g, 4, none⟩ e).setCell ⟨g, 5, none⟩ f).setCell ⟨g, 6, none⟩ i).setCell ⟨g, 7, none⟩ j) g t #[a, b, c, d, e, f, i, j] := by
  have k := (((((((h.set_ 0 a).set_ 1 b).set_ 2 c).set_ 3 d).set_ 4 e).set_ 5 f).set_ 6 i).set_ 7 j
  simp only [List.setIfInBounds_toArray, List.set_cons_zero, List.set_cons_succ] at k
  exact k
theorem Rw.eightA {w : World} {g : Nat} {t : TypeId} {a b c d e f i j : Value} (h : Rw w g t #[a, b, c, d, e, f, i, j]) : (∀ o, (w.alloc o).cell? ⟨g, 0, none⟩ = some a) ∧ (∀ o, (w.alloc o).cell? ⟨g, 1, none⟩ = some b) ∧ (∀ o, (w.alloc o).cell? ⟨g, 2, none⟩ = some c) ∧ (∀ o, (w.alloc o).cell? ⟨g, 3, none⟩ = some d) ∧
    (∀ o, (w.alloc o).cell? ⟨g, 4, none⟩ = some e) ∧ (∀ o, (w.alloc o).cell? ⟨g, 5, none⟩ = some f) ∧ (∀ o, (w.alloc o).cell? ⟨g, 6, none⟩ = some i) ∧ (∀ o, (w.alloc o).cell? ⟨g, 7, none⟩ = some j) :=
  ⟨fun o => (h.alloc o).cell 0, fun o => (h.alloc o).cell 1, fun o => (h.alloc o).cell 2, fun o => (h.alloc o).cell 3, fun o => (h.alloc o).cell 4, fun o => (h.alloc o).cell 5, fun o => (h.alloc o).cell 6, fun o => (h.alloc o).cell 7⟩
theorem Rw.freesA {w : World} {g : Nat} {t : TypeId} {cs : Array Value} (h : Rw w g t cs) : (∀ o, (w.alloc o).frozen? ⟨g, 0, none⟩ = false) ∧ (∀ o, (w.alloc o).frozen? ⟨g, 1, none⟩ = false) ∧ (∀ o, (w.alloc o).frozen? ⟨g, 2, none⟩ = false) ∧ (∀ o, (w.alloc o).frozen? ⟨g, 3, none⟩ = false) ∧
    (∀ o, (w.alloc o).frozen? ⟨g, 4, none⟩ = false) ∧ (∀ o, (w.alloc o).frozen? ⟨g, 5, none⟩ = false) ∧ (∀ o, (w.alloc o).frozen? ⟨g, 6, none⟩ = false) ∧ (∀ o, (w.alloc o).frozen? ⟨g, 7, none⟩ = false) :=
  ⟨fun o => (h.alloc o).free 0, fun o => (h.alloc o).free 1, fun o => (h.alloc o).free 2, fun o => (h.alloc o).free 3, fun o => (h.alloc o).free 4, fun o => (h.alloc o).free 5, fun o => (h.alloc o).free 6, fun o => (h.alloc o).free 7⟩
theorem BksOwn.slice {w : World} {lo hi : Nat} {v : Value} {L : List Blk} (h : BksOwn w lo hi v L) : ∃ A n c, v = .slice A n c := by
  obtain ⟨A, n, c, e, _⟩ := h; exact ⟨A, n, c, e⟩
theorem BksIn.slice {w : World} {lo hi : Nat} {v : Value} {L : List Blk} (h : BksIn w lo hi v L) : ∃ A n c, v = .slice A n c := by
  obtain ⟨A, n, c, e, _⟩ := h; exact ⟨A, n, c, e⟩
def FlPost (G : Fl) (c : Int) (w : World) (e : Ending) (w' : World) : Prop := ∃ u, e = .returned (.tuple #[u, .int .i64 c]) ∧ FlOwn w' w.heap.size w'.heap.size u G ∧ Below w.heap.size w w'
theorem grown_refl (w : World) (row : Option Nat) : w.grownBy w row := ⟨rfl, rfl, rfl, Nat.le_refl _, fun _ _ _ => rfl⟩
theorem grown_set {w w' : World} {g k : Nat} (h : w.grownBy w' (some g)) (u : Value) : w.grownBy (w'.setCell ⟨g, k, none⟩ u) (some g) :=
  ⟨h.os, h.tape, h.output, by simpa using h.size, fun j hj hr => (Below.heap_setCell w' ⟨g, k, none⟩ u j (fun e => hr (by rw [e]))).trans (h.block j hj hr)⟩
theorem grown_keep {w w' : World} {g : Nat} (h : w.grownBy w' (some g)) {B : Nat} (hB : B ≤ g) (hw : B ≤ w.heap.size) : Below B w w' :=
  (Below.refl B w).grown h hw (fun k hk => by injection hk with hk; omega)
end Go.Proofs.Yteigdjocjcjkiaa
/- The operations keep an array valid. No program in it. -/
namespace Go.Proofs.Yteigdjocjcjkiaa
open Go.RowKit
set_option linter.unusedVariables false

theorem PageOk.more {a b : Int} {i : Nat} {s : ByteArray} (h : PageOk a i s) (hab : a ≤ b) : PageOk b i s := by
  rcases h with h | ⟨h, h2⟩
  · exact .inl h
  · exact .inr ⟨h, by omega⟩
theorem BlkOk.prog {p : Int} {x : Blk} (h : BlkOk p x) (hn : x.nx < p) {raw : ByteArray} (hr : raw.size = 91) : BlkOk p (x.prog raw) := by
  obtain ⟨h1, h2, h3, h4⟩ := h
  refine ⟨h1, ⟨by show 0 ≤ x.nx + 1; omega, by show x.nx + 1 ≤ p; omega⟩, by show ((x.pg.set _ _).length : Int) = p; rw [List.length_set]; exact h3, fun i hi => ?_⟩
  change i < (x.pg.set _ _).length at hi
  rw [List.length_set] at hi
  show PageOk (x.nx + 1) i ((x.pg.set x.nx.toNat raw).getD i ByteArray.empty)
  by_cases e : x.nx.toNat = i
  · subst e; rw [getD_set_eq _ _ _ _ hi]; exact .inr ⟨hr, by omega⟩
  · rw [getD_set_ne _ _ _ _ _ e]; exact (h4 i hi).more (by omega)
theorem BlkOk.torn {p : Int} {x : Blk} (h : BlkOk p x) (hn : x.nx < p) {raw : ByteArray} (hr : raw.size = 91) {ke : Int} (hk : 0 ≤ ke ∧ ke ≤ 91) : BlkOk p (x.torn raw ke) := by
  obtain ⟨h1, h2, h3, h4⟩ := h
  have ht := tornB_size (k := ke.toNat) hr (by omega)
  have key : ∀ L : List ByteArray, L.length = x.pg.length → (∀ i, i < L.length → PageOk (x.nx + 1) i (L.getD i ByteArray.empty)) → BlkOk p { x with pg := L.set x.nx.toNat (tornB raw ke.toNat), nx := x.nx + 1 } := by
    intro L hL hp
    refine ⟨h1, ⟨by show 0 ≤ x.nx + 1; omega, by show x.nx + 1 ≤ p; omega⟩, by show ((L.set _ _).length : Int) = p; rw [List.length_set, hL]; exact h3, fun i hi => ?_⟩
    change i < (L.set _ _).length at hi
    rw [List.length_set] at hi
    show PageOk (x.nx + 1) i ((L.set x.nx.toNat (tornB raw ke.toNat)).getD i ByteArray.empty)
    by_cases e : x.nx.toNat = i
    · subst e; rw [getD_set_eq _ _ _ _ hi]; exact .inr ⟨ht, by omega⟩
    · rw [getD_set_ne _ _ _ _ _ e]; exact hp i hi
  unfold Blk.torn
  by_cases hc : x.nx.toNat % 2 = 1 ∧ ke < 91
  · rw [if_pos hc]
    refine key _ (List.length_set) fun i hi => ?_
    rw [List.length_set] at hi
    by_cases e : x.nx.toNat - 1 = i
    · subst e; rw [getD_set_eq _ _ _ _ hi]; exact .inr ⟨destB_size, by omega⟩
    · rw [getD_set_ne _ _ _ _ _ e]; exact (h4 i hi).more (by omega)
  · rw [if_neg hc]
    exact key _ rfl fun i hi => (h4 i hi).more (by omega)
theorem emptied_at (l : List ByteArray) (m i : Nat) (hi : i < l.length) : (emptied l m).getD i ByteArray.empty = if i < m then ByteArray.empty else l.getD i ByteArray.empty := by
  unfold emptied
  rw [List.getD_eq_getElem?_getD]
  by_cases h : i < m
  · rw [if_pos h, List.getElem?_append_left (by simp; omega), List.getElem?_replicate]
    split <;> rfl
  · rw [if_neg h, List.getElem?_append_right (by simp; omega), List.length_replicate, Nat.min_eq_left (by omega), List.getElem?_drop, List.getD_eq_getElem?_getD]
    rw [show m + (i - m) = i by omega]
theorem BlkOk.erase {p : Int} {x : Blk} (h : BlkOk p x) (he : x.er ≠ 1000) (m : Nat) : BlkOk p (x.erase m) := by
  obtain ⟨h1, h2, h3, h4⟩ := h
  refine ⟨⟨by show 0 ≤ x.er + 1; omega, by show x.er + 1 ≤ 1000; omega⟩, ?_, by show ((emptied _ _).length : Int) = p; rw [emptied_length]; exact h3, fun i hi => ?_⟩
  · show 0 ≤ (if m < x.pg.length then (x.pg.length : Int) else 0) ∧ (if m < x.pg.length then (x.pg.length : Int) else 0) ≤ p
    split <;> omega
  · change i < (emptied _ _).length at hi
    rw [emptied_length] at hi
    show PageOk (if m < x.pg.length then (x.pg.length : Int) else 0) i ((emptied x.pg m).getD i ByteArray.empty)
    rw [emptied_at _ _ _ hi]
    by_cases h : i < m
    · rw [if_pos h]; exact .inl rfl
    · rw [if_neg h, if_pos (by omega)]; exact (h4 i hi).more (by omega)
theorem FlOk.upd {F : Fl} (h : FlOk F) (k : Nat) {x : Blk} (hx : BlkOk F.p x) : FlOk (F.upd k x) := by
  obtain ⟨a, b, c, d, e, f⟩ := h
  refine ⟨a, by show ((F.bs.set k x).length : Int) = _; rw [List.length_set]; exact b, fun i hi => ?_, d, e, f⟩
  change i < (F.bs.set k x).length at hi
  rw [List.length_set] at hi
  show BlkOk F.p ((F.bs.set k x).getD i Blk.zero)
  by_cases e : k = i
  · subst e; rw [getD_set_eq _ _ _ _ hi]; exact hx
  · rw [getD_set_ne _ _ _ _ _ e]; exact c i hi
theorem FlOk.tick {F : Fl} (h : FlOk F) (ho : F.op < 9223372036854775807) : FlOk F.tick := by
  obtain ⟨a, b, c, d, e, f⟩ := h
  refine ⟨a, b, c, ?_, e, ?_⟩
  · show -1 ≤ (if F.fu = 0 then -1 else if 0 < F.fu then F.fu - 1 else F.fu) ∧ (if F.fu = 0 then -1 else if 0 < F.fu then F.fu - 1 else F.fu) ≤ 1000000
    split
    · omega
    · split <;> omega
  · show 0 ≤ wrap64 (F.op + 1)
    rw [IntWalk.wrap64_in _ (by omega)]; omega
theorem FlOk.prog {F : Fl} (h : FlOk F) (ho : F.op < 9223372036854775807) {k : Nat} (hk : k < F.bs.length) (hn : (F.blk k).nx < F.p) {raw : ByteArray} (hr : raw.size = 91) : FlOk (F.prog k raw) := by
  have hb := h.2.2.1 k hk
  unfold Fl.prog
  split
  · split
    · exact h.tick ho
    · exact (h.tick ho).upd k (x := (F.blk k).torn raw F.ke) (hb.torn hn hr h.2.2.2.2.1)
  · exact (h.tick ho).upd k (x := (F.blk k).prog raw) (hb.prog hn hr)
theorem FlOk.erase {F : Fl} (h : FlOk F) (ho : F.op < 9223372036854775807) {k : Nat} (hk : k < F.bs.length) (he : (F.blk k).er ≠ 1000) : FlOk (F.erase k) :=
  (h.tick ho).upd k (x := (F.blk k).erase _) ((h.2.2.1 k hk).erase he _)
end Go.Proofs.Yteigdjocjcjkiaa
/- The start of an operation, in the model and in the program: the contracts. -/
namespace Go.Proofs.Yteigdjocjcjkiaa
open Go.RowKit
set_option linter.unusedVariables false

/-- How much of an operation takes effect. -/
def Fl.much (F : Fl) : Int := if F.fu = 0 then F.ke else 91
theorem tick_zero {F : Fl} (h : F.fu = 0) : F.tick = { F with op := wrap64 (F.op + 1), off := true, fu := -1 } := by
  unfold Fl.tick; simp [h]
theorem tick_pos {F : Fl} (h : 0 < F.fu) : F.tick = { F with op := wrap64 (F.op + 1), fu := F.fu - 1 } := by
  unfold Fl.tick; simp [show ¬ F.fu = 0 by omega, h]
theorem tick_neg {F : Fl} (h : F.fu < 0) : F.tick = { F with op := wrap64 (F.op + 1) } := by
  unfold Fl.tick; simp [show ¬ F.fu = 0 by omega, show ¬ 0 < F.fu by omega]
def StartPost (g : Nat) (F : Fl) (u : Value) (v : Value) (w : World) (e : Ending) (w' : World) : Prop := e = .returned v ∧ Rw w' g 31 (flc F.tick u) ∧ w.grownBy w' (some g)
set_option maxRecDepth 100000 in
theorem start_any (g : Nat) (F : Fl) (u : Value) (w : World) (h : Rw w g 31 (flc F u)) (hf : -1 ≤ F.fu ∧ F.fu ≤ 1000000) :
    Calls Try.prog 71 #[.pointer (some ⟨g, 0, none⟩)] w (StartPost g F u (.tuple #[.int .i64 F.much, .int .i64 F.code]) w) := by
  unfold StartPost Fl.much Fl.code
  rcases Int.lt_trichotomy F.fu 0 with h0 | h0 | h0
  · rw [tick_neg h0, if_neg (by omega), if_neg (by omega)]
    obtain ⟨d, b, p, bs, fu, ke, off, op⟩ := F
    unfold flc at *
    simp only at *
    obtain ⟨c0, c1, c2, c3, c4, c5, c6, c7⟩ := h.eight
    obtain ⟨f0, f1, f2, f3, f4, f5, f6, f7⟩ := h.frees
    have H := Lib.hid h
    clear h
    go_enter Try.func71, Try.ntmps71
    go_wp2
    go_ret2
    have k := H.out.set_ 7 (.int .i64 (wrap64 (op + 1)))
    simp only [List.setIfInBounds_toArray, List.set_cons_zero, List.set_cons_succ] at k
    exact ⟨rfl, k, grown_set (grown_refl _ _) _⟩
  · rw [tick_zero h0, if_pos h0, if_pos h0]
    obtain ⟨d, b, p, bs, fu, ke, off, op⟩ := F
    unfold flc at *
    simp only at *
    subst h0
    obtain ⟨c0, c1, c2, c3, c4, c5, c6, c7⟩ := h.eight
    obtain ⟨f0, f1, f2, f3, f4, f5, f6, f7⟩ := h.frees
    have H := Lib.hid h
    clear h
    go_enter Try.func71, Try.ntmps71
    go_wp2
    go_ret2
    have k := ((H.out.set_ 7 (.int .i64 (wrap64 (op + 1)))).set_ 6 (.bool true)).set_ 4 (.int .i64 (-1))
    simp only [List.setIfInBounds_toArray, List.set_cons_zero, List.set_cons_succ] at k
    exact ⟨rfl, k, grown_set (grown_set (grown_set (grown_refl _ _) _) _) _⟩
  · rw [tick_pos h0, if_neg (by omega), if_neg (by omega)]
    obtain ⟨d, b, p, bs, fu, ke, off, op⟩ := F
    unfold flc at *
    simp only at *
    obtain ⟨c0, c1, c2, c3, c4, c5, c6, c7⟩ := h.eight
    obtain ⟨f0, f1, f2, f3, f4, f5, f6, f7⟩ := h.frees
    have H := Lib.hid h
    have hz : ¬ fu = 0 := by omega
    clear h
    go_enter Try.func71, Try.ntmps71
    go_wp2
    go_ret2
    have k := (H.out.set_ 7 (.int .i64 (wrap64 (op + 1)))).set_ 4 (.int .i64 (fu - 1))
    simp only [List.setIfInBounds_toArray, List.set_cons_zero, List.set_cons_succ] at k
    exact ⟨rfl, k, grown_set (grown_set (grown_refl _ _) _) _⟩
set_option maxRecDepth 100000 in
theorem tick_any (g : Nat) (F : Fl) (u : Value) (w : World) (h : Rw w g 31 (flc F u)) (hf : -1 ≤ F.fu ∧ F.fu ≤ 1000000) :
    Calls Try.prog 64 #[.pointer (some ⟨g, 0, none⟩)] w (StartPost g F u (.bool (decide (F.fu = 0))) w) := by
  unfold StartPost
  rcases Int.lt_trichotomy F.fu 0 with h0 | h0 | h0
  · rw [tick_neg h0, decide_eq_false (by omega)]
    obtain ⟨d, b, p, bs, fu, ke, off, op⟩ := F
    unfold flc at *
    simp only at *
    obtain ⟨c0, c1, c2, c3, c4, c5, c6, c7⟩ := h.eight
    obtain ⟨f0, f1, f2, f3, f4, f5, f6, f7⟩ := h.frees
    have H := Lib.hid h
    clear h
    go_enter Try.func64, Try.ntmps64
    go_wp2
    go_ret
    have k := H.out.set_ 7 (.int .i64 (wrap64 (op + 1)))
    simp only [List.setIfInBounds_toArray, List.set_cons_zero, List.set_cons_succ] at k
    exact ⟨rfl, k, grown_set (grown_refl _ _) _⟩
  · rw [tick_zero h0, decide_eq_true h0]
    obtain ⟨d, b, p, bs, fu, ke, off, op⟩ := F
    unfold flc at *
    simp only at *
    subst h0
    obtain ⟨c0, c1, c2, c3, c4, c5, c6, c7⟩ := h.eight
    obtain ⟨f0, f1, f2, f3, f4, f5, f6, f7⟩ := h.frees
    have H := Lib.hid h
    clear h
    go_enter Try.func64, Try.ntmps64
    go_wp2
    go_ret
    have k := ((H.out.set_ 7 (.int .i64 (wrap64 (op + 1)))).set_ 6 (.bool true)).set_ 4 (.int .i64 (-1))
    simp only [List.setIfInBounds_toArray, List.set_cons_zero, List.set_cons_succ] at k
    exact ⟨rfl, k, grown_set (grown_set (grown_set (grown_refl _ _) _) _) _⟩
  · rw [tick_pos h0, decide_eq_false (by omega)]
    obtain ⟨d, b, p, bs, fu, ke, off, op⟩ := F
    unfold flc at *
    simp only at *
    obtain ⟨c0, c1, c2, c3, c4, c5, c6, c7⟩ := h.eight
    obtain ⟨f0, f1, f2, f3, f4, f5, f6, f7⟩ := h.frees
    have H := Lib.hid h
    have hz : ¬ fu = 0 := by omega
    clear h
    go_enter Try.func64, Try.ntmps64
    go_wp2
    go_ret
    have k := (H.out.set_ 7 (.int .i64 (wrap64 (op + 1)))).set_ 4 (.int .i64 (fu - 1))
    simp only [List.setIfInBounds_toArray, List.set_cons_zero, List.set_cons_succ] at k
    exact ⟨rfl, k, grown_set (grown_set (grown_refl _ _) _) _⟩
end Go.Proofs.Yteigdjocjcjkiaa
/- The laws' helpers markFlash and heldFlash: their contracts. -/
namespace Go.Proofs.Yteigdjocjcjkiaa
open Go.RowKit
set_option linter.unusedVariables false
theorem strOfNums_join (a b : List Int) : strOfNums a ++ strOfNums b = strOfNums (a ++ b) := by
  apply ByteArray.ext
  simp [strOfNums, ByteArray.data_append]
theorem wpList_one_byte {Q : Exit → Act → World → Prop} {ops : Array Oper} {rest : List Oper} {o : Oper} {a : Act} {w : World} (hgd : o.guard = none) (x : Operand)
    (ho : o.op = .convert 43 9 x) (n : Nat) (b : Int) (s : ByteArray) (hx : a.eval x = .slice (some ⟨w.heap.size, 0, none⟩) 1 n) (hs : s = strOfNums [b])
    (h : wpList Try.prog ops Q rest (a.put o.dst (.string s)) (w.alloc (.cells #[.int .u8 b] 5))) : wpList Try.prog ops Q (o :: rest) a (w.alloc (.cells #[.int .u8 b] 5)) := by
  refine wpList_plain hgd fun K hK' => ?_
  have hrun := arr_str (Arr.new w 5 .u8 [b]) 1 n (by simp)
  unfold Oper.wp
  simp only [List.map_cons, List.map_nil, List.take_succ_cons, List.take_zero] at hrun
  simp only [execOp, ho, hx, hrun, Sem.run_bind, Sem.run_pure, Result.andThen]
  rw [← hs]
  exact hK' _ _ h
set_option maxRecDepth 100000 in
theorem markText_any (k : Nat) (w : World) (h0 : 0 < k) (h1 : k ≤ 10000000) :
    Calls Try.prog 98 #[.int .i64 k] w fun e w' => e = .returned (.string (markT k)) ∧ Below w.heap.size w w' := by
  have hk : (k : Int) ≤ 10000000 := by omega
  have hk0 : ¬ (k : Int) ≤ 0 := by omega
  go_enter Try.func98, Try.ntmps98
  go_wp2
  go_loopw [0, 3] (fun u s wr => ∃ (m : Nat) (t : ByteArray), (m : Int) ≤ 10000000 ∧ u = .int .i64 m ∧ s = .string t ∧ Hid (∃ l, t = strOfNums l ∧ digs m ++ l = digs k) ∧ Below w.heap.size w wr ∧ t.size + m ≤ 10000000) (fun u _ _ => (intOf u).toNat)
  case atStart => exact ⟨k, ⟨#[]⟩, hk, rfl, rfl, Lib.hid ⟨[], rfl, by simp⟩, Below.refl _ _, by show 0 + k ≤ _; omega⟩
  case round =>
    obtain ⟨m, t, hm, rfl, rfl, HD, hb, hl⟩ := hrel
    rcases Nat.eq_zero_or_pos m with hz | hz
    · subst hz
      have hs : ¬ 9223372036854775807 < 1 + t.size := by omega
      go_wp2
      go_ret
      obtain ⟨l, rfl, hd⟩ := HD.out
      rw [digs_zero, List.nil_append] at hd
      exact ⟨ret_str (by unfold markT; rw [← hd]; exact strOfNums_join [109] l), hb⟩
    · have hm0 : (0 : Int) < (m : Int) := by omega
      have hr0 : 0 ≤ (m : Int) % 10 := by omega
      have hr1 : (m : Int) % 10 < 10 := by omega
      have hs : ¬ 9223372036854775807 < 1 + t.size := by omega
      obtain ⟨d, hd⟩ : ∃ d, d = strOfNums [48 + (m : Int) % 10] := ⟨_, rfl⟩
      have hds : d.size = 1 := by rw [hd, strOfNums_size]; rfl
      have HE := Lib.hid hd
      have hs2 : ¬ 9223372036854775807 < d.size + t.size := by omega
      have HZ := Lib.hid hds
      have hq : ((m : Int)) / 10 = ((m / 10 : Nat) : Int) := by omega
      clear hd hds hq
      go_wp2_with (with_reducible show wpList _ _ _ (⟨some 13, _, _, _, _, _⟩ :: _) _ _; go_must (refine wpList_one_byte rfl _ rfl 1 _ d rfl HE.out ?_))
      go_roundw
      case rel => exact ⟨m / 10, d ++ t, by omega, congrArg (Value.int .i64) (by omega), rfl, Lib.hid (by
        obtain ⟨l, rfl, hl2⟩ := HD.out
        refine ⟨(48 + (m : Int) % 10) :: l, by rw [HE.out]; exact strOfNums_join [_] l, ?_⟩
        rw [← hl2, digs_pos hz, List.append_assoc]
        congr 1), hb.alloc hb.size _, by rw [ByteArray.size_append, HZ.out]; omega⟩
      case measure => simp [intOf]; omega
/-- Outside the blocks from lo up to hi nothing turned (new blocks may lie behind). -/
def Keep (lo hi : Nat) (w w' : World) : Prop := Below lo w w' ∧ Same hi w.heap.size w w'
section
variable {w w' w'' : World} {lo hi : Nat}
theorem Keep.refl (lo hi : Nat) (w : World) : Keep lo hi w w := ⟨Below.refl _ _, Same.refl _ _ _⟩
theorem Keep.trans (h : Keep lo hi w w') (k : Keep lo hi w' w'') : Keep lo hi w w'' := ⟨h.1.trans k.1, h.2.trans (k.2.mono (Nat.le_refl _) h.1.size)⟩
theorem Keep.set_ (h : Keep lo hi w w') {g k : Nat} (h1 : lo ≤ g) (h2 : g < hi) (u : Value) : Keep lo hi w (w'.setCell ⟨g, k, none⟩ u) := ⟨bset h.1 h1 u, sset h.2 (.inl h2) u⟩
theorem Keep.call (h : Keep lo hi w w') (hb : Below w'.heap.size w' w'') (hl : lo ≤ w.heap.size) : Keep lo hi w w'' := ⟨h.1.trans (hb.mono (by have := h.1.size; omega)), h.2.trans (sm hb hi h.1.size)⟩
theorem Keep.size (h : Keep lo hi w w') : w.heap.size ≤ w'.heap.size := h.1.size
theorem Keep.high (h : Keep lo hi w w') {hi' : Nat} (a : hi' ≤ w.heap.size) : Same hi hi' w w' := h.2.mono (Nat.le_refl _) a
theorem Keep.low (h : Keep lo hi w w') (b : Nat) : Same b lo w w' := sm h.1 b (Nat.le_refl _)
end
theorem markText_int (k : Nat) (a : Int) (w : World) (ha : a = (k : Int)) (h0 : 0 < k) (h1 : k ≤ 10000000) :
    Calls Try.prog 98 #[.int .i64 a] w fun e w' => e = .returned (.string (markT k)) ∧ Below w.heap.size w w' := by rw [ha]; exact markText_any k w h0 h1
theorem markT_size (k : Nat) (h : k ≤ 10000000) : (markT k).size ≤ 9223372036854775807 := by
  have hd : ∀ n k, k ≤ n → (digs k).length ≤ k := by
    intro n
    induction n with
    | zero => intro k hk; obtain rfl : k = 0 := by omega
              rw [digs_zero]; simp
    | succ n ih =>
      intro k hk
      rcases Nat.eq_zero_or_pos k with h0 | h0
      · subst h0; rw [digs_zero]; simp
      · rw [digs_pos h0, List.length_append]
        have := ih (k / 10) (by omega)
        simp only [List.length_cons, List.length_nil]
        omega
  unfold markT
  rw [strOfNums_size, List.length_cons]
  have := hd k k (Nat.le_refl _)
  omega
/-- Texts, the first of them marked. -/
def mks (m : Nat) (l : List ByteArray) (i : Nat) : List ByteArray := (List.range i).map (fun t => markT (m + t)) ++ l.drop i
theorem mks_length (m : Nat) (l : List ByteArray) (i : Nat) (h : i ≤ l.length) : (mks m l i).length = l.length := by simp [mks]; omega
theorem mks_set (m : Nat) (l : List ByteArray) (i : Nat) (h : i < l.length) : (mks m l i).set i (markT (m + i)) = mks m l (i + 1) := by
  unfold mks
  rw [List.set_append_right _ _ (by simp), List.length_map, List.length_range, Nat.sub_self, List.drop_eq_getElem_cons h, List.set_cons_zero, List.range_succ, List.map_append, List.append_assoc]; rfl
theorem mks_all (m : Nat) (l : List ByteArray) : mks m l l.length = (List.range l.length).map fun t => markT (m + t) := by simp [mks]
def Blk.pages (x : Blk) (l : List ByteArray) : Blk := { x with pg := l }
theorem set_set_pages (L : List Blk) (k : Nat) (l l' : List ByteArray) (hk : k < L.length) : (L.set k ((L.getD k Blk.zero).pages l)).set k (((L.set k ((L.getD k Blk.zero).pages l)).getD k Blk.zero).pages l') = L.set k ((L.getD k Blk.zero).pages l') := by
  rw [List.set_set, getD_set_eq _ _ _ _ hk]; rfl
def MkPost (B lo hi g : Nat) (pv : Nat → Value) (L : List Blk) (n : Nat) (w : World) (e : Ending) (w' : World) : Prop := e = .returned (.int .i64 n) ∧ BO w' lo hi g pv L ∧ Keep B hi w w'
set_option maxRecDepth 100000 in
theorem markPages_any (w : World) (lo hi g : Nat) (pv : Nat → Value) (L : List Blk) (k m : Nat) (h : BO w lo hi g pv L) (hk : k < L.length) (hh : hi ≤ w.heap.size) (hm : 0 < m) (hl : m + (L.getD k Blk.zero).pg.length ≤ 10000000) :
    Calls Try.prog 74 #[pv k, .int .i64 m] w (MkPost lo lo hi g pv (L.set k ((L.getD k Blk.zero).pages ((List.range (L.getD k Blk.zero).pg.length).map fun t => markT (m + t)))) (m + (L.getD k Blk.zero).pg.length) w) := by
  obtain ⟨A, n, cap, hv, hlc, hcm, hn, hsm, hA⟩ := h.pgs k hk
  rw [hn] at hl ⊢
  have hnm : (n : Int) ≤ 10000000 := by omega
  have hmm : (m : Int) + n ≤ 10000000 := by omega
  rcases Nat.eq_zero_or_pos n with h0 | h0
  · subst h0
    have hst : L.set k ((L.getD k Blk.zero).pages ((List.range 0).map fun t => markT (m + t))) = L := by
      have e : (L.getD k Blk.zero).pg = [] := List.eq_nil_of_length_eq_zero hn
      have e2 : (L.getD k Blk.zero).pages ((List.range 0).map fun t => markT (m + t)) = L.getD k Blk.zero := by unfold Blk.pages; rw [List.range_zero, List.map_nil, ← e]
      rw [e2, List.getD_eq_getElem?_getD, List.getElem?_eq_getElem hk]
      exact List.set_getElem_self hk
    have H := Lib.hid h
    rw [hv, hst]
    clear hA hn hsm hst h hv hl
    go_enter Try.func74, Try.ntmps74
    go_wp2
    go_loopw [1, 5] (fun u i wr => u = .int .i64 m ∧ i = .int .i64 0 ∧ wr = w) (fun _ _ _ => 0)
    case atStart => exact ⟨rfl, rfl, rfl⟩
    case round =>
      obtain ⟨rfl, rfl, rfl⟩ := hrel
      go_wp2
      go_ret
      exact ⟨rfl, H.out, Keep.refl _ _ _⟩
  · obtain ⟨b, off, rfl, hb1, hb2, hbg, hf, hx⟩ := hA h0
    have hst : L.set k ((L.getD k Blk.zero).pages (mks m (L.getD k Blk.zero).pg 0)) = L := by
      have e2 : (L.getD k Blk.zero).pages (mks m (L.getD k Blk.zero).pg 0) = L.getD k Blk.zero := by unfold Blk.pages mks; simp
      rw [e2, List.getD_eq_getElem?_getD, List.getElem?_eq_getElem hk]
      exact List.set_getElem_self hk
    have h' := h
    rw [← hst] at h'
    have HST := Lib.hid (show mks m (L.getD k Blk.zero).pg n = (List.range n).map fun t => markT (m + t) by rw [← hn]; exact mks_all _ _)
    have H := Lib.hid h'
    have HV := Lib.hid hv
    have HN := Lib.hid hn
    rw [hv]
    clear hA hn hsm hst h h' hv hf hx hl
    go_enter Try.func74, Try.ntmps74
    go_wp2
    go_loopw [1, 5] (fun u i wr => ∃ t : Nat, t ≤ n ∧ i = .int .i64 t ∧ u = .int .i64 ((m + t : Nat) : Int) ∧ BO wr lo hi g pv (L.set k ((L.getD k Blk.zero).pages (mks m (L.getD k Blk.zero).pg t))) ∧ Keep lo hi w wr) (fun _ i _ => n - (intOf i).toNat)
    case atStart => exact ⟨0, by omega, rfl, rfl, H.out, Keep.refl _ _ _⟩
    case round =>
      obtain ⟨t, ht, rfl, rfl, hbo, hkp⟩ := hrel
      by_cases hlt : t < n
      · have hti : (t : Int) < (n : Int) := by omega
        have HBO := Lib.hid hbo
        have HK := Lib.hid hkp
        have hsz := hkp.size
        clear hbo hkp
        go_wp2_with fail
        refine (markText_int (m + t) _ _ (by omega) (by omega) (by omega)).mono ?_
        rintro e w1 ⟨rfl, hb1⟩
        have o1 := HBO.out.same (sm hb1 lo (by omega))
        have K1 := Lib.hid (HK.out.call hb1 (by have := o1.low; have := o1.high; omega))
        obtain ⟨c1, f1, l1, l2, _⟩ := o1.page (t := t) (by simpa using hk) HV.out hlt
        have o2 := o1.storePg (n := t) (by simpa using hk) hlt HV.out (markT (m + t)) (markT_size _ (by omega))
        have e2 : (L.set k ((L.getD k Blk.zero).pages (mks m (L.getD k Blk.zero).pg t))).set k { (L.set k ((L.getD k Blk.zero).pages (mks m (L.getD k Blk.zero).pg t))).getD k Blk.zero with pg := ((L.set k ((L.getD k Blk.zero).pages (mks m (L.getD k Blk.zero).pg t))).getD k Blk.zero).pg.set t (markT (m + t)) } =
            L.set k ((L.getD k Blk.zero).pages (mks m (L.getD k Blk.zero).pg (t + 1))) := by
          rw [List.set_set, getD_set_eq _ _ _ _ hk, ← mks_set m (L.getD k Blk.zero).pg t (by have := HN.out; omega)]; rfl
        rw [e2] at o2
        have O2 := Lib.hid o2
        clear o1 o2 e2 HBO HK hb1
        generalize markT (m + t) = s at *
        go_wp2
        go_roundw
        case rel => exact ⟨t + 1, by omega, by go_num, congrArg (Value.int .i64) (by omega), O2.out, K1.out.set_ l1 l2 _⟩
        case measure => simp [intOf]; omega
      · obtain rfl : t = n := by omega
        rw [HST.out] at hbo
        have HBO := Lib.hid hbo
        clear hbo
        go_wp2
        go_ret
        exact ⟨rfl, HBO.out, hkp⟩
section
variable {w : World} {lo hi g k c : Nat} {pv : Nat → Value} {L : List Blk} {a : Blk}
theorem BO.self (h : BO w lo hi g pv L) (hk : k < L.length) : BO w lo hi g pv (L.set k (L.getD k Blk.zero)) := by
  rw [List.getD_eq_getElem?_getD, List.getElem?_eq_getElem hk]
  simpa using h
theorem BO.storeS (h : BO w lo hi g pv (L.set k a)) (hk : k < L.length) (u : Value) (hc : (c = 0 ∧ ∃ n, u = .int .i64 n) ∨ (c = 1 ∧ ∃ n, u = .int .i64 n) ∨ (c = 2 ∧ ∃ b, u = .bool b)) :
    BO (w.setCell ⟨g, k * 4 + c, none⟩ u) lo hi g pv (L.set k (a.put c u)) := by
  have := h.store (k := k) (by simpa using hk) u hc
  rwa [List.set_set, getD_set_eq _ _ _ _ hk] at this
theorem markPagesS (h : BO w lo hi g pv (L.set k a)) (m : Nat) (b : Int) (hk : k < L.length) (hh : hi ≤ w.heap.size) (hb : b = (m : Int)) (hm : 0 < m) (hl : m + a.pg.length ≤ 10000000) :
    Calls Try.prog 74 #[pv k, .int .i64 b] w (MkPost lo lo hi g pv (L.set k (a.pages ((List.range a.pg.length).map fun t => markT (m + t)))) (m + a.pg.length) w) := by
  have e := getD_set_eq L k a Blk.zero hk
  have := markPages_any w lo hi g pv (L.set k a) k m h (by simpa using hk) hh hm (by rw [e]; exact hl)
  rw [e, List.set_set] at this
  rw [hb]
  exact this
theorem BO.cells (h : BO w lo hi g pv (L.set k a)) (hk : k < L.length) : BkAt w g (k * 4) a (pv k) := by
  have := h.row k (by simpa using hk)
  rwa [getD_set_eq _ _ _ _ hk] at this
end
theorem marks_set (L : List Blk) (m i : Nat) (hi : i < L.length) : (markLs m (L.take i) ++ L.drop i).getD i Blk.zero = L.getD i Blk.zero ∧
    (markLs m (L.take i) ++ L.drop i).set i (markB (m + markN (L.take i)) (L.getD i Blk.zero)) = markLs m (L.take (i + 1)) ++ L.drop (i + 1) := by
  have hl : (markLs m (L.take i)).length = i := by rw [markLs_length]; simp; omega
  constructor
  · rw [List.getD_eq_getElem?_getD, List.getElem?_append_right (by omega), hl, Nat.sub_self, List.getElem?_drop, List.getD_eq_getElem?_getD, Nat.add_zero]
  · rw [List.set_append_right _ _ (by omega), hl, Nat.sub_self, List.drop_eq_getElem_cons hi, List.set_cons_zero, markLs_take m hi, List.append_assoc]; rfl
theorem beq3 (q : Nat) : ((1 + (q : Int) + 1 + 1) % 3 == 0) = decide ((1 + q + 2) % 3 = 0) := by
  rw [Bool.eq_iff_iff]; simp; omega
def MbPost (lo hi : Nat) (v : Value) (L : List Blk) (m : Nat) (w : World) (e : Ending) (w' : World) : Prop := e = .returned (.int .i64 (m + markN L : Nat)) ∧ BksOwn w' lo hi v (markLs m L) ∧ Keep lo hi w w'
set_option maxRecDepth 100000 in
theorem markBlocks_any (v : Value) (L : List Blk) (w : World) (lo hi : Nat) (h : BksOwn w lo hi v L) (hh : hi ≤ w.heap.size) (hl : 1 + markN L ≤ 10000000) (hl2 : L.length ≤ 1048576) :
    Calls Try.prog 42 #[v, .int .i64 1] w (MbPost lo hi v L 1 w) := by
  have hown := h
  obtain ⟨A, n, cap, rfl, hlc, hcm, hn, hA⟩ := h
  have hnm : (n : Int) ≤ 1048576 := by omega
  rcases Nat.eq_zero_or_pos n with h0 | h0
  · subst h0
    obtain rfl : L = [] := List.eq_nil_of_length_eq_zero hn
    have H := Lib.hid hown
    clear hA hn hown hlc hcm hl
    go_enter Try.func42, Try.ntmps42
    go_wp2
    go_loopw [1, 5] (fun u i wr => u = .int .i64 1 ∧ i = .int .i64 0 ∧ wr = w) (fun _ _ _ => 0)
    case atStart => exact ⟨rfl, rfl, rfl⟩
    case round =>
      obtain ⟨rfl, rfl, rfl⟩ := hrel
      go_wp2
      go_ret
      exact ⟨rfl, H.out, Keep.refl _ _ _⟩
  · obtain ⟨g, pv, rfl, hbo⟩ := hA h0
    have HBO := Lib.hid hbo
    have HN := Lib.hid hn
    have HL := Lib.hid hl
    clear hA hn hown hl hbo
    go_enter Try.func42, Try.ntmps42
    go_wp2
    go_loopw [1, 5] (fun u i wr => ∃ t : Nat, t ≤ n ∧ i = .int .i64 t ∧ u = .int .i64 ((1 + markN (L.take t) : Nat) : Int) ∧ BO wr lo hi g pv (markLs 1 (L.take t) ++ L.drop t) ∧ Keep lo hi w wr) (fun _ i _ => n - (intOf i).toNat)
    case atStart => exact ⟨0, by omega, rfl, by simp [markN], by simpa [markLs] using HBO.out, Keep.refl _ _ _⟩
    case round =>
      obtain ⟨t, ht, rfl, rfl, hbo, hkp⟩ := hrel
      have hN := HN.out
      by_cases hlt : t < n
      · have hti : (t : Int) < (n : Int) := by omega
        have hk : t < (markLs 1 (L.take t) ++ L.drop t).length := by simp [markLs_length]; omega
        have hle := markN_le (L := L) (t + 1)
        have hL := HL.out
        rw [markN_take (by omega)] at hle
        have o0 := hbo.self hk
        obtain ⟨e1, e2⟩ := marks_set L 1 t (by omega)
        rw [e1] at o0
        have HE2 := Lib.hid e2
        have HKL := Lib.hid hk
        generalize hxx : L.getD t Blk.zero = x at *
        generalize hqq : markN (L.take t) = q at *
        have HX := Lib.hid hxx
        have HQ := Lib.hid hqq
        clear hxx hqq
        generalize markLs 1 (L.take t) ++ L.drop t = M at *
        obtain ⟨er, nx, bad, pg⟩ := x
        simp only at hle
        obtain ⟨q0, q1, q2, q3⟩ := o0.cells hk
        have f0 := o0.free (t * 4)
        have f1 := o0.free (t * 4 + 1)
        have f2 := o0.free (t * 4 + 2)
        have f3 := o0.free (t * 4 + 3)
        have HK := Lib.hid hkp
        have O0 := Lib.hid o0
        have hsz := hkp.size
        have HLE := Lib.hid hle
        have hq : ((1 + q : Nat) : Int) ≤ 10000000 - 3 := by omega
        simp only at q0 q1 q2
        clear hN hk hL o0 e1 e2 hbo hkp hle
        go_wp2_with fail
        have o1 := O0.out.storeS (c := 0) HKL.out (.int .i64 (1 + (q : Int))) (.inl ⟨rfl, _, rfl⟩)
        have o2 := o1.storeS (c := 1) HKL.out (.int .i64 (1 + (q : Int) + 1)) (.inr (.inl ⟨rfl, _, rfl⟩))
        have o3 := o2.storeS (c := 2) HKL.out (.bool ((1 + (q : Int) + 1 + 1) % 3 == 0)) (.inr (.inr ⟨rfl, _, rfl⟩))
        have l1 := o3.low
        have l2 := o3.high
        have K3 := Lib.hid (((HK.out.set_ (g := g) (k := t * 4) l1 l2 (.int .i64 (1 + (q : Int)))).set_ (g := g) (k := t * 4 + 1) l1 l2 (.int .i64 (1 + (q : Int) + 1))).set_ (g := g) (k := t * 4 + 2) l1 l2 (.bool ((1 + (q : Int) + 1 + 1) % 3 == 0)))
        have hem : (((Blk.mk er nx bad pg).put 0 (.int .i64 (1 + (q : Int)))).put 1 (.int .i64 (1 + (q : Int) + 1))).put 2 (.bool ((1 + (q : Int) + 1 + 1) % 3 == 0)) = ⟨((1 + q : Nat) : Int), ((1 + q + 1 : Nat) : Int), decide ((1 + q + 2) % 3 = 0), pg⟩ := by
          show Blk.mk _ _ _ _ = _
          rw [beq3 q]
          congr 1
        rw [hem] at o3
        refine (markPagesS o3 (1 + q + 3) _ HKL.out (by simp; omega) (by omega) (by omega) (by show 1 + q + 3 + pg.length ≤ _; have := HLE.out; have := HL.out; omega)).mono ?_
        rintro e w1 ⟨rfl, o4, hk4⟩
        have K4 := Lib.hid (K3.out.trans hk4)
        have O4 := Lib.hid (show BO w1 lo hi g pv (markLs 1 (L.take (t + 1)) ++ L.drop (t + 1)) by rw [← HE2.out]; exact o4)
        have HM := Lib.hid (show markN (L.take (t + 1)) = q + (3 + pg.length) by rw [markN_take (by have := HN.out; omega), HQ.out, HX.out])
        clear o1 o2 o3 o4 hk4 hem q0 q1 q2 q3 f0 f1 f2 f3 HK K3 O0
        simp only
        go_wp2
        go_roundw
        case rel => exact ⟨t + 1, by omega, by go_num, congrArg (Value.int .i64) (by rw [HM.out]; omega), O4.out, K4.out⟩
        case measure => simp [intOf]; omega
      · obtain rfl : t = n := by omega
        rw [List.drop_eq_nil_of_le (by omega), List.append_nil, List.take_of_length_le (by omega)] at hbo
        have HBO := Lib.hid hbo
        have HE := Lib.hid (show markN (L.take t) = markN L by rw [List.take_of_length_le (by omega)])
        clear hbo hN
        go_wp2
        go_ret
        exact ⟨by rw [HE.out]; rfl, ⟨_, _, _, rfl, by omega, by omega, by rw [markLs_length]; exact HN.out, fun _ => ⟨g, pv, rfl, HBO.out⟩⟩, hkp⟩
theorem markFlash_any (v : Value) (F : Fl) (w : World) (lo hi : Nat) (h : FlOwn w lo hi v F) (hh : hi ≤ w.heap.size) (hlo : lo ≤ w.heap.size) (hz : FlSz F) :
    Calls Try.prog 13 #[v, .int .i64 1] w fun e w' => e = .returned (.int .i64 (1 + markN F.bs : Nat)) ∧ (∃ G : Fl, G.bs = markLs 1 F.bs ∧ FlOwn w' lo hi v G) ∧ Keep lo hi w w' := by
  obtain ⟨u, rfl, h⟩ := h
  have hm := markN_sz F.bs
  have HS := Lib.hid (fun (W : World) (a : BksOwn W lo hi u F.bs) (c : hi ≤ W.heap.size) => markBlocks_any u F.bs W lo hi a c (by unfold FlSz at hz; omega) (by unfold FlSz at hz; omega))
  have H := Lib.hid h
  clear h hz hm
  obtain ⟨d, b, p, bs, fu, ke, off, op⟩ := F
  unfold flc
  simp only at *
  have HK := Lib.hid ((Keep.refl lo hi w).call ((Below.refl w.heap.size w).alloc (Nat.le_refl _) (.cells #[.int .i64 d, .int .i64 b, .int .i64 p, u, .int .i64 fu, .int .i64 ke, .bool off, .int .i64 op] 31)) hlo)
  go_enter Try.func13, Try.ntmps13
  go_wp2_with fail
  have b1 := ((Below.refl w.heap.size w).alloc (Nat.le_refl _) (.cells #[.int .i64 d, .int .i64 b, .int .i64 p, u, .int .i64 fu, .int .i64 ke, .bool off, .int .i64 op] 31))
  refine (HS.out _ (H.out.same (sm b1 lo hh)) (by simp; omega)).mono ?_
  rintro e w1 ⟨rfl, ho, hk⟩
  have HK2 := Lib.hid (HK.out.trans hk)
  have HO := Lib.hid ho
  clear hk ho b1
  go_wp2
  go_ret
  exact ⟨rfl, ⟨⟨d, b, p, markLs 1 bs, fu, ke, off, op⟩, rfl, _, rfl, HO.out⟩, HK2.out⟩
theorem heldPages_any (v : Value) (n m : Nat) (w : World) (lo hi : Nat) (h : PgIn w lo hi v ((List.range n).map fun t => markT (m + t))) (hh : hi ≤ w.heap.size) (hm : 0 < m) (hl : m + n ≤ 10000000) :
    Calls Try.prog 75 #[v, .int .i64 m] w fun e w' => e = .returned (.int .i64 (m + n : Nat)) ∧ Below w.heap.size w w' := by
  obtain ⟨A, n', cap, rfl, hlc, hcm, hn, hsm, hA⟩ := h
  obtain rfl : n' = n := by simpa using hn.symm
  have hnm : (n' : Int) ≤ 10000000 := by omega
  have hmm : (m : Int) + n' ≤ 10000000 := by omega
  clear hn hsm
  rcases Nat.eq_zero_or_pos n' with h0 | h0
  · subst h0
    clear hA
    go_enter Try.func75, Try.ntmps75
    go_wp2
    go_loopw [1, 5] (fun u i wr => u = .int .i64 m ∧ i = .int .i64 0 ∧ wr = w) (fun _ _ _ => 0)
    case atStart => exact ⟨rfl, rfl, rfl⟩
    case round =>
      obtain ⟨rfl, rfl, rfl⟩ := hrel
      go_wp2
      go_ret
      exact ⟨rfl, Below.refl _ _⟩
  · obtain ⟨b, off, rfl, hb1, hb2, hx⟩ := hA h0
    have HX := Lib.hid hx
    clear hA hx
    go_enter Try.func75, Try.ntmps75
    go_wp2
    go_loopw [1, 5] (fun u i wr => ∃ t : Nat, t ≤ n' ∧ i = .int .i64 t ∧ u = .int .i64 ((m + t : Nat) : Int) ∧ Below w.heap.size w wr) (fun _ i _ => n' - (intOf i).toNat)
    case atStart => exact ⟨0, by omega, rfl, rfl, Below.refl _ _⟩
    case round =>
      obtain ⟨t, ht, rfl, rfl, hb⟩ := hrel
      by_cases hlt : t < n'
      · have hti : (t : Int) < (n' : Int) := by omega
        have hc := HX.out t hlt
        rw [show ((List.range n').map fun t => markT (m + t)).getD t ByteArray.empty = markT (m + t) by simp [List.getD_eq_getElem?_getD, hlt]] at hc
        have q := (hb.cell (p := ⟨b, off + t, none⟩) (by simp; omega)).trans hc
        have hsz := hb.size
        have HT := Lib.hid (fun (W : World) (a : Int) (ha : a = ((m + t : Nat) : Int)) => markText_int (m + t) a W ha (by omega) (by omega))
        generalize markT (m + t) = s at *
        have hxx := str_same (rfl : s = s)
        clear hc
        have HB := Lib.hid hb
        clear hb
        go_wp2_with fail
        go_region_held3 (fun w' => w'.cell? ⟨b, off + t, none⟩ = some (.string s) ∧ Below w.heap.size w w')
          (first
            | exact ⟨q, HB.out.drew⟩
            | (go_split_ands
               rename_i hS1 hS2
               exact ⟨(hb1.cell (p := ⟨b, off + t, none⟩) (by have := hS2.size; show b < _; omega)).trans hS1, hS2.trans (hb1.mono hS2.size)⟩))
          (first
            | (go_at_call 98
               refine (HT.out _ _ (by omega)).mono ?_
               rintro e w1 ⟨rfl, hb1⟩))
        rename_i hS2
        have HB2 := Lib.hid hS2.2
        clear hS2 hb1
        go_wp2
        go_roundw
        case rel => exact ⟨t + 1, by omega, by go_num, congrArg (Value.int .i64) (by omega), HB2.out⟩
        case measure => simp [intOf]; omega
      · obtain rfl : t = n' := by omega
        go_wp2
        go_ret
        exact ⟨rfl, hb⟩
theorem heldPages_int (v : Value) (n m : Nat) (b : Int) (w : World) (lo hi : Nat) (hb : b = (m : Int)) (h : PgIn w lo hi v ((List.range n).map fun t => markT (m + t))) (hh : hi ≤ w.heap.size) (hm : 0 < m) (hl : m + n ≤ 10000000) :
    Calls Try.prog 75 #[v, .int .i64 b] w fun e w' => e = .returned (.int .i64 (m + n : Nat)) ∧ Below w.heap.size w w' := by rw [hb]; exact heldPages_any v n m w lo hi h hh hm hl
set_option maxRecDepth 100000 in
theorem heldBlocks_any (v : Value) (L : List Blk) (w : World) (lo hi : Nat) (h : BksIn w lo hi v (markLs 1 L)) (hh : hi ≤ w.heap.size) (hl : 1 + markN L ≤ 10000000) (hl2 : L.length ≤ 1048576) :
    Calls Try.prog 43 #[v, .int .i64 1] w fun e w' => e = .returned (.int .i64 (1 + markN L : Nat)) ∧ Below w.heap.size w w' := by
  obtain ⟨A, n, cap, rfl, hlc, hcm, hn, hA⟩ := h
  rw [markLs_length] at hn
  have hnm : (n : Int) ≤ 1048576 := by omega
  rcases Nat.eq_zero_or_pos n with h0 | h0
  · subst h0
    obtain rfl : L = [] := List.eq_nil_of_length_eq_zero hn
    clear hA hn hlc hcm hl
    go_enter Try.func43, Try.ntmps43
    go_wp2
    go_loopw [1, 5] (fun u i wr => u = .int .i64 1 ∧ i = .int .i64 0 ∧ wr = w) (fun _ _ _ => 0)
    case atStart => exact ⟨rfl, rfl, rfl⟩
    case round =>
      obtain ⟨rfl, rfl, rfl⟩ := hrel
      go_wp2
      go_ret
      exact ⟨rfl, Below.refl _ _⟩
  · obtain ⟨g, off, rfl, hg1, hg2, hx⟩ := hA h0
    have HX := Lib.hid hx
    have HN := Lib.hid hn
    have HL := Lib.hid hl
    clear hA hn hl hx
    go_enter Try.func43, Try.ntmps43
    go_wp2
    go_loopw [1, 5] (fun u i wr => ∃ t : Nat, t ≤ n ∧ i = .int .i64 t ∧ u = .int .i64 ((1 + markN (L.take t) : Nat) : Int) ∧ Below w.heap.size w wr) (fun _ i _ => n - (intOf i).toNat)
    case atStart => exact ⟨0, by omega, rfl, by simp [markN], Below.refl _ _⟩
    case round =>
      obtain ⟨t, ht, rfl, rfl, hb⟩ := hrel
      have hN := HN.out
      by_cases hlt : t < n
      · have hti : (t : Int) < (n : Int) := by omega
        have hle := markN_le (L := L) (t + 1)
        have hL := HL.out
        rw [markN_take (by omega)] at hle
        obtain ⟨pv, ⟨c0, c1, c2, c3⟩, hpg⟩ := HX.out t hlt
        rw [markLs_at 1 (by omega)] at c0 c1 c2 hpg
        have HM := Lib.hid (markN_take (L := L) (i := t) (by omega))
        generalize L.getD t Blk.zero = x at *
        generalize markN (L.take t) = q at *
        obtain ⟨er, nx, bad, pg⟩ := x
        simp only at hle
        have HLE := Lib.hid hle
        have q0 := (hb.cell (p := ⟨g, off + t * 4, none⟩) (by simp; omega)).trans c0
        have q1 := (hb.cell (p := ⟨g, off + t * 4 + 1, none⟩) (by simp; omega)).trans c1
        have q2 := (hb.cell (p := ⟨g, off + t * 4 + 2, none⟩) (by simp; omega)).trans c2
        have q3 := (hb.cell (p := ⟨g, off + t * 4 + 3, none⟩) (by simp; omega)).trans c3
        have HPG := Lib.hid (hpg.same (sm hb lo hh))
        have HB := Lib.hid hb
        have hsz := hb.size
        have hq : ((1 + q : Nat) : Int) ≤ 10000000 - 3 := by omega
        unfold markB at q0 q1 q2 HPG
        simp only at q0 q1 q2 HPG
        rw [← beq3 q] at q2
        have hqe : ((1 + q + 1 : Nat) : Int) = 1 + (q : Int) + 1 := by omega
        have hqf : ((1 + q : Nat) : Int) = 1 + (q : Int) := by omega
        rw [hqe] at q1
        rw [hqf] at q0
        generalize hz : ((1 + (q : Int) + 1 + 1) % 3 == 0) = z at *
        clear hN hL c0 c1 c2 c3 hpg hle hb hqe hqf
        go_wp2_with fail
        refine (heldPages_int _ _ (1 + q + 3) _ _ lo hi (by omega) HPG.out (by omega) (by omega) (by have := HLE.out; have := HL.out; omega)).mono ?_
        rintro e w1 ⟨rfl, hb1⟩
        have HB1 := Lib.hid (HB.out.trans (hb1.mono hsz))
        clear hb1 q0 q1 q2 q3
        go_wp2
        go_roundw
        case rel => exact ⟨t + 1, by omega, by go_num, congrArg (Value.int .i64) (by rw [HM.out]; show _ = ((1 + (q + (3 + pg.length)) : Nat) : Int); omega), HB1.out⟩
        case measure => simp [intOf]; omega
      · obtain rfl : t = n := by omega
        have HE := Lib.hid (show markN (L.take t) = markN L by rw [List.take_of_length_le (by omega)])
        clear hN
        go_wp2
        go_ret
        exact ⟨by rw [HE.out]; rfl, hb⟩
theorem heldFlash_any (v : Value) (F G : Fl) (w : World) (lo hi : Nat) (hg : G.bs = markLs 1 F.bs) (h : FlIn w lo hi v G) (hh : hi ≤ w.heap.size) (hz : FlSz F) :
    Calls Try.prog 14 #[v, .int .i64 1] w fun e w' => e = .returned (.int .i64 (1 + markN F.bs : Nat)) ∧ Below w.heap.size w w' := by
  obtain ⟨u, rfl, h⟩ := h
  have hm := markN_sz F.bs
  rw [hg] at h
  have HS := Lib.hid (fun (W : World) (a : BksIn W lo hi u (markLs 1 F.bs)) (c : hi ≤ W.heap.size) => heldBlocks_any u F.bs W lo hi a c (by unfold FlSz at hz; omega) (by unfold FlSz at hz; omega))
  have H := Lib.hid h
  have hq : (1 : Int) + (markN F.bs : Int) ≤ 10000000 := by unfold FlSz at hz; omega
  clear h hz hm hg
  obtain ⟨d, b, p, bs, fu, ke, off, op⟩ := G
  unfold flc
  simp only at *
  generalize markN F.bs = q at *
  have b1 := ((Below.refl w.heap.size w).alloc (Nat.le_refl _) (.cells #[.int .i64 d, .int .i64 b, .int .i64 p, u, .int .i64 fu, .int .i64 ke, .bool off, .int .i64 op] 31))
  have HB := Lib.hid b1
  clear b1
  go_enter Try.func14, Try.ntmps14
  go_wp2_with fail
  refine (HS.out _ (H.out.same (sm HB.out lo hh)) (by simp; omega)).mono ?_
  rintro e w1 ⟨rfl, hb1⟩
  have HB1 := Lib.hid (HB.out.trans (hb1.mono (by simp)))
  clear hb1
  go_wp2
  go_ret
  exact ⟨rfl, HB1.out⟩
end Go.Proofs.Yteigdjocjcjkiaa
/- A block programmed in place, by the program and by the model: the contracts. -/
namespace Go.Proofs.Yteigdjocjcjkiaa
open Go.RowKit
set_option linter.unusedVariables false
section
variable {w : World} {lo hi g k : Nat} {pv : Nat → Value} {L : List Blk} {a : Blk}
theorem BO.storePgS (h : BO w lo hi g pv (L.set k a)) (hk : k < L.length) {b off n cap t : Nat} (hv : pv k = .slice (some ⟨b, off, none⟩) n cap) (ht : t < n) (s : ByteArray) (hs : s.size ≤ 9223372036854775807) :
    BO (w.setCell ⟨b, off + t, none⟩ (.string s)) lo hi g pv (L.set k (a.pages (a.pg.set t s))) := by
  have := h.storePg (k := k) (n := t) (by simpa using hk) ht hv s hs
  rwa [List.set_set, getD_set_eq _ _ _ _ hk] at this
theorem BO.pageS (h : BO w lo hi g pv (L.set k a)) (hk : k < L.length) {b off n cap t : Nat} (hv : pv k = .slice (some ⟨b, off, none⟩) n cap) (ht : t < n) :
    w.cell? ⟨b, off + t, none⟩ = some (.string (a.pg.getD t ByteArray.empty)) ∧ w.frozen? ⟨b, off + t, none⟩ = false ∧ lo ≤ b ∧ b < hi ∧ b ≠ g := by
  have h1 := h.page (k := k) (by simpa using hk) hv ht
  rw [getD_set_eq _ _ _ _ hk] at h1
  refine ⟨h1.1, h1.2.1, h1.2.2.1, h1.2.2.2.1, ?_⟩
  obtain ⟨A, l', c', e, _, _, _, _, hx⟩ := h.pgs k (by simpa using hk)
  rw [hv] at e
  injection e with e1 e2 e3
  subst e2
  obtain ⟨b', o', e4, _, _, h6, _⟩ := hx (by omega)
  rw [e4] at e1
  injection e1 with e1
  injection e1 with e1
  omega
end
/-- What is written of a page. -/
def Blk.takes (x : Blk) (raw : ByteArray) (ke : Int) : Blk := if ke = 0 then x else x.torn raw ke
theorem Blk.torn_whole {x : Blk} {raw : ByteArray} (h : raw.size = 91) : x.torn raw 91 = x.prog raw := by
  unfold Blk.torn Blk.prog
  rw [if_neg (by omega)]
  show { x with pg := x.pg.set x.nx.toNat (tornB raw 91), nx := x.nx + 1 } = _
  rw [tornB_all h]
/-- The pages of a block: the slice is there. -/
theorem BO.somePg {w : World} {lo hi g k : Nat} {pv : Nat → Value} {L : List Blk} (h : BO w lo hi g pv L) (hk : k < L.length) (h0 : 0 < (L.getD k Blk.zero).pg.length) :
    ∃ b off cap, pv k = .slice (some ⟨b, off, none⟩) (L.getD k Blk.zero).pg.length cap ∧ (L.getD k Blk.zero).pg.length ≤ cap ∧ cap ≤ 9223372036854775807 := by
  obtain ⟨A, n, cap, e, h1, h2, h3, _, hx⟩ := h.pgs k hk
  obtain ⟨b, off, rfl, _⟩ := hx (by omega)
  exact ⟨b, off, cap, by rw [e, h3], by omega, h2⟩
def UnitPost (P : World → Prop) (e : Ending) (w' : World) : Prop := e = .returned (.tuple #[]) ∧ P w'
set_option maxRecDepth 100000 in
theorem blkProg_any (w : World) (lo hi g : Nat) (pv : Nat → Value) (L : List Blk) (k : Nat) (raw : ByteArray) (ke : Int) (h : BO w lo hi g pv L) (hk : k < L.length) (hh : hi ≤ w.heap.size)
    (h0 : 0 ≤ (L.getD k Blk.zero).nx) (h1 : (L.getD k Blk.zero).nx < ((L.getD k Blk.zero).pg.length : Int)) (h2 : (L.getD k Blk.zero).pg.length ≤ 16) (hr : raw.size = 91) (hke : 0 ≤ ke ∧ ke ≤ 91) :
    Calls Try.prog 72 #[.pointer (some ⟨g, k * 4, none⟩), .string raw, .int .i64 ke] w
      (UnitPost fun w' => BO w' lo hi g pv (L.set k ((L.getD k Blk.zero).takes raw ke)) ∧ Keep lo hi w w') := by
  have o0 := h.self hk
  obtain ⟨b, off, cap, hv, hv1, hv2⟩ := h.somePg hk (by omega)
  generalize L.getD k Blk.zero = y at *
  obtain ⟨q0, q1, q2, q3⟩ := o0.cells hk
  rw [hv] at q3
  have f1 := o0.free (k * 4 + 1)
  have O0 := Lib.hid o0
  have HK := Lib.hid hk
  obtain ⟨er, nx, bad, pg⟩ := y
  simp only at h0 h1 h2 q0 q1 q2 q3 hv hv1
  obtain ⟨n, hn⟩ : ∃ n, n = pg.length := ⟨_, rfl⟩
  obtain ⟨p, rfl⟩ := Int.eq_ofNat_of_zero_le h0
  have HN := Lib.hid hn
  rw [← hn] at h1 h2 q3 hv hv1
  have HV := Lib.hid hv
  have hlow := h.low
  have hhigh := h.high
  clear h o0 hn hk
  by_cases hz : ke = 0
  · subst hz
    go_enter Try.func72, Try.ntmps72
    go_wp2
    go_end0
    exact ⟨rfl, by unfold Blk.takes; rw [if_pos rfl]; exact O0.out, Keep.refl _ _ _⟩
  · have hz' : (ke == 0) = false := by simp [hz]
    have hT : ∀ W : World, Calls Try.prog 96 #[.string raw, .int .i64 ke] W (PairPost (tornB raw ke.toNat) 0 W) := fun W =>
      implTorn_any raw ke _ 0 W (by omega) (.done hr ke.toNat (by omega) (by omega))
    have HT := Lib.hid hT
    have HTS := Lib.hid (tornB_size (k := ke.toNat) hr (by omega))
    generalize htt : tornB raw ke.toNat = t at *
    have HTT := Lib.hid htt
    clear hT htt
    have hpn : p < n := by omega
    by_cases hodd : ke < 91 ∧ p % 2 = 1
    · obtain ⟨hk91, hp2⟩ := hodd
      obtain ⟨m, hm⟩ : ∃ m, m = p - 1 := ⟨_, rfl⟩
      obtain ⟨c1, d1, e1, e2, e3⟩ := O0.out.pageS HK.out HV.out (t := m) (by omega)
      have hd := Lib.hid (fun (W : World) => implDestroyed_any W)
      go_enter Try.func72, Try.ntmps72
      go_wp2
      have i2 : (m : Int) < (n : Int) := by omega
      have i4 : IntKind.i64.wrap ((p : Int) - 1) = (m : Int) := by rw [IntWalk.i64_in _ (by omega)]; omega
      have HM := Lib.hid hm
      clear hm
      go_region_held3 (fun W => W.cell? ⟨g, k * 4 + 3, none⟩ = some (.slice (some ⟨b, off, none⟩) n cap))
        (first
          | exact q3
          | exact (hb1.cell (p := ⟨g, k * 4 + 3, none⟩) (by show g < _; omega)).trans q3
          | exact (World.cell?_setCell_other _ _ _ _ (addr_ne fun e => absurd e e3)).trans ((hb1.cell (p := ⟨g, k * 4 + 3, none⟩) (by show g < _; omega)).trans q3))
        (first
          | (go_at_call 29
             refine (hd.out _).mono ?_
             rintro e w1 ⟨rfl, hb0⟩
             have hb1 : Below w.heap.size w w1 := (Below.refl w.heap.size w).drew.trans hb0
             have c1' := (hb1.cell (p := ⟨b, off + m, none⟩) (by show b < _; omega)).trans c1
             have d1' := (hb1.frozen (p := ⟨b, off + m, none⟩) (by show b < _; omega)).trans d1))
      have O1 := Lib.hid ((O0.out.same (sm hb1 lo hh)).storePgS HK.out HV.out (t := m) (by omega) (fillB 0 91) (by rw [fillB_size]; omega))
      have K1 := Lib.hid (((Keep.refl lo hi w).call hb1 (by omega)).set_ (g := b) (k := off + m) e1 e2 (.string (fillB 0 91)))
      generalize w1.setCell ⟨b, off + m, none⟩ (.string (fillB 0 91)) = wx at *
      clear q0 q1 q2 q3 f1 c1 d1 c1' d1' i2 i4
      obtain ⟨r0, r1, r2, r3⟩ := O1.out.cells HK.out
      rw [HV.out] at r3
      simp only [Blk.pages] at r1
      have g1 := O1.out.free (k * 4 + 1)
      obtain ⟨c2, d2, a1, a2, a3⟩ := O1.out.pageS HK.out HV.out (t := p) hpn
      have hsx := K1.out.size
      go_wp2
      go_region_held3 (fun W => W.cell? ⟨g, k * 4 + 3, none⟩ = some (.slice (some ⟨b, off, none⟩) n cap))
        (first
          | exact r3
          | exact (hb2.cell (p := ⟨g, k * 4 + 3, none⟩) (by show g < _; omega)).trans r3
          | exact (World.cell?_setCell_other _ _ _ _ (addr_ne fun e => absurd e a3)).trans ((hb2.cell (p := ⟨g, k * 4 + 3, none⟩) (by show g < _; omega)).trans r3))
        (first
          | (go_at_call 96
             refine (HT.out _).mono ?_
             rintro e w2 ⟨rfl, hb0⟩
             have hb2 : Below wx.heap.size wx w2 := (Below.refl wx.heap.size wx).drew.trans hb0
             have c2' := (hb2.cell (p := ⟨b, off + p, none⟩) (by show b < _; omega)).trans c2
             have d2' := (hb2.frozen (p := ⟨b, off + p, none⟩) (by show b < _; omega)).trans d2))
      have O2 := Lib.hid ((O1.out.same (sm hb2 lo (by omega))).storePgS HK.out HV.out (t := p) hpn t (by have := HTS.out; omega))
      have K2 := Lib.hid ((K1.out.call hb2 (by omega)).set_ (g := b) (k := off + p) a1 a2 (.string t))
      generalize w2.setCell ⟨b, off + p, none⟩ (.string t) = wy at *
      obtain ⟨u0, u1, u2, u3⟩ := O2.out.cells HK.out
      simp only [Blk.pages] at u1
      have v1 := O2.out.free (k * 4 + 1)
      clear r0 r1 r2 r3 g1 c2 d2 c2' d2' u0 u2 u3
      go_wp2
      go_end0
      have O3 := O2.out.storeS (c := 1) HK.out (.int .i64 ((p : Int) + 1)) (.inr (.inl ⟨rfl, _, rfl⟩))
      refine ⟨rfl, ?_, K2.out.set_ (g := g) (k := k * 4 + 1) hlow hhigh (.int .i64 ((p : Int) + 1))⟩
      have e9 : Blk.takes ⟨er, (p : Int), bad, pg⟩ raw ke = (((Blk.mk er (p : Int) bad pg).pages (pg.set m (fillB 0 91))).pages ((pg.set m (fillB 0 91)).set p t)).put 1 (.int .i64 ((p : Int) + 1)) := by
        unfold Blk.takes Blk.torn
        rw [if_neg hz]
        rw [if_pos ⟨by simp only [Int.toNat_natCast]; exact hp2, hk91⟩]
        simp only [Int.toNat_natCast]
        rw [HTT.out, ← HM.out]; rfl
      rw [e9]
      exact O3
    · have hc2 : decide (ke < 91) = false ∨ ((p : Int) % 2 == 1) = false := by
        by_cases a : ke < 91
        · right
          have : ¬ p % 2 = 1 := fun b => hodd ⟨a, b⟩
          simp; omega
        · left; simp; omega
      have O1 := Lib.hid O0.out
      have K1 := Lib.hid (Keep.refl lo hi w)
      clear O0 q0 q1 q2 q3 f1
      by_cases hq : ke < 91
      · have hq2 : ((p : Int) % 2 == 1) = false := by
          rcases hc2 with hc2 | hc2
          · simp at hc2; omega
          · exact hc2
        go_enter Try.func72, Try.ntmps72
        obtain ⟨r0, r1, r2, r3⟩ := O1.out.cells HK.out
        rw [HV.out] at r3
        have g1 := O1.out.free (k * 4 + 1)
        obtain ⟨c2, d2, a1, a2, a3⟩ := O1.out.pageS HK.out HV.out (t := p) hpn
        have hsx := K1.out.size
        go_wp2
        go_region_held3 (fun W => W.cell? ⟨g, k * 4 + 3, none⟩ = some (.slice (some ⟨b, off, none⟩) n cap))
          (first
            | exact r3
            | exact (hb2.cell (p := ⟨g, k * 4 + 3, none⟩) (by show g < _; omega)).trans r3
            | exact (World.cell?_setCell_other _ _ _ _ (addr_ne fun e => absurd e a3)).trans ((hb2.cell (p := ⟨g, k * 4 + 3, none⟩) (by show g < _; omega)).trans r3))
          (first
            | (go_at_call 96
               refine (HT.out _).mono ?_
               rintro e w2 ⟨rfl, hb0⟩
               have hb2 : Below w.heap.size w w2 := (Below.refl w.heap.size w).drew.trans hb0
               have c2' := (hb2.cell (p := ⟨b, off + p, none⟩) (by show b < _; omega)).trans c2
               have d2' := (hb2.frozen (p := ⟨b, off + p, none⟩) (by show b < _; omega)).trans d2))
        have O2 := Lib.hid ((O1.out.same (sm hb2 lo (by omega))).storePgS HK.out HV.out (t := p) hpn t (by have := HTS.out; omega))
        have K2 := Lib.hid ((K1.out.call hb2 (by omega)).set_ (g := b) (k := off + p) a1 a2 (.string t))
        generalize w2.setCell ⟨b, off + p, none⟩ (.string t) = wy at *
        obtain ⟨u0, u1, u2, u3⟩ := O2.out.cells HK.out
        simp only [Blk.pages] at u1
        have v1 := O2.out.free (k * 4 + 1)
        clear r0 r1 r2 r3 g1 c2 d2 c2' d2' u0 u2 u3
        go_wp2
        go_end0
        have O3 := O2.out.storeS (c := 1) HK.out (.int .i64 ((p : Int) + 1)) (.inr (.inl ⟨rfl, _, rfl⟩))
        refine ⟨rfl, ?_, K2.out.set_ (g := g) (k := k * 4 + 1) hlow hhigh (.int .i64 ((p : Int) + 1))⟩
        have e9 : Blk.takes ⟨er, (p : Int), bad, pg⟩ raw ke = ((Blk.mk er (p : Int) bad pg).pages (pg.set p t)).put 1 (.int .i64 ((p : Int) + 1)) := by
          unfold Blk.takes Blk.torn
          rw [if_neg hz]
          rw [if_neg (fun hc => hodd ⟨hc.2, by have := hc.1; simp only [Int.toNat_natCast] at this; exact this⟩)]
          simp only [Int.toNat_natCast]
          rw [HTT.out]; rfl
        rw [e9]
        exact O3
      · go_enter Try.func72, Try.ntmps72
        obtain ⟨r0, r1, r2, r3⟩ := O1.out.cells HK.out
        rw [HV.out] at r3
        have g1 := O1.out.free (k * 4 + 1)
        obtain ⟨c2, d2, a1, a2, a3⟩ := O1.out.pageS HK.out HV.out (t := p) hpn
        have hsx := K1.out.size
        go_wp2
        go_region_held3 (fun W => W.cell? ⟨g, k * 4 + 3, none⟩ = some (.slice (some ⟨b, off, none⟩) n cap))
          (first
            | exact r3
            | exact (hb2.cell (p := ⟨g, k * 4 + 3, none⟩) (by show g < _; omega)).trans r3
            | exact (World.cell?_setCell_other _ _ _ _ (addr_ne fun e => absurd e a3)).trans ((hb2.cell (p := ⟨g, k * 4 + 3, none⟩) (by show g < _; omega)).trans r3))
          (first
            | (go_at_call 96
               refine (HT.out _).mono ?_
               rintro e w2 ⟨rfl, hb0⟩
               have hb2 : Below w.heap.size w w2 := (Below.refl w.heap.size w).drew.trans hb0
               have c2' := (hb2.cell (p := ⟨b, off + p, none⟩) (by show b < _; omega)).trans c2
               have d2' := (hb2.frozen (p := ⟨b, off + p, none⟩) (by show b < _; omega)).trans d2))
        have O2 := Lib.hid ((O1.out.same (sm hb2 lo (by omega))).storePgS HK.out HV.out (t := p) hpn t (by have := HTS.out; omega))
        have K2 := Lib.hid ((K1.out.call hb2 (by omega)).set_ (g := b) (k := off + p) a1 a2 (.string t))
        generalize w2.setCell ⟨b, off + p, none⟩ (.string t) = wy at *
        obtain ⟨u0, u1, u2, u3⟩ := O2.out.cells HK.out
        simp only [Blk.pages] at u1
        have v1 := O2.out.free (k * 4 + 1)
        clear r0 r1 r2 r3 g1 c2 d2 c2' d2' u0 u2 u3
        go_wp2
        go_end0
        have O3 := O2.out.storeS (c := 1) HK.out (.int .i64 ((p : Int) + 1)) (.inr (.inl ⟨rfl, _, rfl⟩))
        refine ⟨rfl, ?_, K2.out.set_ (g := g) (k := k * 4 + 1) hlow hhigh (.int .i64 ((p : Int) + 1))⟩
        have e9 : Blk.takes ⟨er, (p : Int), bad, pg⟩ raw ke = ((Blk.mk er (p : Int) bad pg).pages (pg.set p t)).put 1 (.int .i64 ((p : Int) + 1)) := by
          unfold Blk.takes Blk.torn
          rw [if_neg hz]
          rw [if_neg (fun hc => hodd ⟨hc.2, by have := hc.1; simp only [Int.toNat_natCast] at this; exact this⟩)]
          simp only [Int.toNat_natCast]
          rw [HTT.out]; rfl
        rw [e9]
        exact O3
end Go.Proofs.Yteigdjocjcjkiaa
/- Which geometries and arrays are valid, in the model and in the program: the contracts. -/
namespace Go.Proofs.Yteigdjocjcjkiaa
open Go.RowKit
set_option linter.unusedVariables false

/-! One block. -/
theorem blk_not {p : Int} {x : Blk} (h : ¬ BlkOk p x) : ¬ (0 ≤ x.er ∧ x.er ≤ 1000) ∨ ((0 ≤ x.er ∧ x.er ≤ 1000) ∧ ¬ (0 ≤ x.nx ∧ x.nx ≤ p)) ∨ ((0 ≤ x.er ∧ x.er ≤ 1000) ∧ (0 ≤ x.nx ∧ x.nx ≤ p) ∧ (x.pg.length : Int) ≠ p) ∨
    ((0 ≤ x.er ∧ x.er ≤ 1000) ∧ (0 ≤ x.nx ∧ x.nx ≤ p) ∧ (x.pg.length : Int) = p ∧ ¬ ∀ i, i < x.pg.length → PageOk x.nx i (x.at i)) := by
  unfold BlkOk at h
  by_cases h1 : 0 ≤ x.er ∧ x.er ≤ 1000
  · by_cases h2 : 0 ≤ x.nx ∧ x.nx ≤ p
    · by_cases h3 : (x.pg.length : Int) = p
      · exact .inr (.inr (.inr ⟨h1, h2, h3, fun h4 => h ⟨h1, h2, h3, h4⟩⟩))
      · exact .inr (.inr (.inl ⟨h1, h2, h3⟩))
    · exact .inr (.inl ⟨h1, h2⟩)
  · exact .inl h1
def BoolPost (r : Bool) (w : World) (e : Ending) (w' : World) : Prop := e = .returned (.bool r) ∧ Below w.heap.size w w'
/-- The loop over a block's pages comes to r. -/
theorem specBlk_any (x : Blk) (pv : Value) (p : Int) (r : Bool) (w : World) (lo hi : Nat) (hp : PgIn w lo hi pv x.pg) (hh : hi ≤ w.heap.size) (h : r = true ↔ BlkOk p x) (hl : x.pg.length ≤ 1048576) :
    Calls Try.prog 55 #[.agg #[.int .i64 x.er, .int .i64 x.nx, .bool x.bad, pv], .int .i64 p] w (BoolPost r w) := by
  have hb0 := (Below.refl w.heap.size w).alloc (Nat.le_refl _) (.cells #[.int .i64 x.er, .int .i64 x.nx, .bool x.bad, pv] 51)
  obtain ⟨hy, hn⟩ := bool_of r h
  obtain ⟨A, n, cap, rfl, hlc, hcm, hlen, hsz, hA⟩ := hp
  have hnm : (n : Int) ≤ 1048576 := by omega
  have shortcut : ¬ (BlkOk p x) → r = false := hn
  obtain ⟨er, nx, bad, pg⟩ := x
  simp only at *
  by_cases hbad : ¬ (0 ≤ er ∧ er ≤ 1000) ∨ ((0 ≤ er ∧ er ≤ 1000) ∧ ¬ (0 ≤ nx ∧ nx ≤ p)) ∨ ((0 ≤ er ∧ er ≤ 1000) ∧ (0 ≤ nx ∧ nx ≤ p) ∧ (n : Int) ≠ p)
  · obtain rfl : r = false := hn (fun k => by obtain ⟨k1, k2, k3, _⟩ := k; simp only at k1 k2 k3; rw [hlen] at k3; rcases hbad with a | ⟨_, a⟩ | ⟨_, _, a⟩ <;> contradiction)
    clear hy hn h shortcut hA hsz hlen
    rcases hbad with h1 | ⟨h1, h2⟩ | ⟨h1, h2, h3⟩
    · go_enter Try.func55, Try.ntmps55
      go_wp2_with fail
      refine (inr_no er 0 1000 _ h1).mono ?_
      rintro e w1 ⟨rfl, rfl⟩
      go_wp2
      go_ret
      exact ⟨rfl, hb0⟩
    · go_enter Try.func55, Try.ntmps55
      go_wp2_with fail
      refine (inr_yes er 0 1000 _ h1.1 h1.2).mono ?_
      rintro e w1 ⟨rfl, rfl⟩
      go_wp2_with fail
      refine (inr_no nx 0 p _ h2).mono ?_
      rintro e w1 ⟨rfl, rfl⟩
      go_wp2
      go_ret
      exact ⟨rfl, hb0⟩
    · have q1 : ((n : Int) != p) = true := by simp; exact h3
      go_enter Try.func55, Try.ntmps55
      go_wp2_with fail
      refine (inr_yes er 0 1000 _ h1.1 h1.2).mono ?_
      rintro e w1 ⟨rfl, rfl⟩
      go_wp2_with fail
      refine (inr_yes nx 0 p _ h2.1 h2.2).mono ?_
      rintro e w1 ⟨rfl, rfl⟩
      go_wp2
      go_ret
      exact ⟨rfl, hb0⟩
  · have h1 : 0 ≤ er ∧ er ≤ 1000 := by
      by_cases k : 0 ≤ er ∧ er ≤ 1000
      · exact k
      · exact absurd (.inl k) hbad
    have h2 : 0 ≤ nx ∧ nx ≤ p := by
      by_cases k : 0 ≤ nx ∧ nx ≤ p
      · exact k
      · exact absurd (.inr (.inl ⟨h1, k⟩)) hbad
    have h3 : (n : Int) = p := by
      by_cases k : (n : Int) = p
      · exact k
      · exact absurd (.inr (.inr ⟨h1, h2, k⟩)) hbad
    subst h3
    have q1 : ((n : Int) != (n : Int)) = false := by simp
    have HR := Lib.hid (show r = true ↔ ∀ i, i < n → PageOk nx i (pg.getD i ByteArray.empty) from by
      rw [h]; unfold BlkOk; simp only [hlen]
      exact ⟨fun k i hi => k.2.2.2 i hi, fun k => ⟨h1, h2, trivial, fun i hi => k i hi⟩⟩)
    have HSZ := Lib.hid hsz
    clear hbad hy hn h shortcut hsz hlen
    go_enter Try.func55, Try.ntmps55
    go_wp2_with fail
    refine (inr_yes er 0 1000 _ h1.1 h1.2).mono ?_
    rintro e w1 ⟨rfl, rfl⟩
    go_wp2_with fail
    refine (inr_yes nx 0 (n : Int) _ h2.1 h2.2).mono ?_
    rintro e w1 ⟨rfl, rfl⟩
    go_wp2_with fail
    go_loop [5] (fun i => ∃ k : Nat, k ≤ n ∧ i = .int .i64 k ∧ Hid (∀ j, j < k → PageOk nx j (pg.getD j ByteArray.empty))) (fun i => n - (intOf i).toNat)
    case atStart => exact ⟨0, by omega, rfl, Lib.hid (fun j hj => by omega)⟩
    case round =>
      obtain ⟨k, hk, rfl, HA⟩ := hrel
      by_cases hlt : k < n
      · have hki : (k : Int) < (n : Int) := by omega
        obtain ⟨b, off, rfl, hb1, hb2, hx⟩ := hA (by omega)
        have hc : ∀ o, (w.alloc o).cell? ⟨b, off + k, none⟩ = some (.string (pg.getD k ByteArray.empty)) := fun o => (World.cell?_alloc_lt w _ _ (by show b < _; omega)).trans (hx k hlt)
        have hsz := HSZ.out k hlt
        have HY := Lib.hid (show ∀ y, y = pg.getD k ByteArray.empty → PageOk nx k y → ∀ j, j < k + 1 → PageOk nx j (pg.getD j ByteArray.empty) from fun y hy ho j hj => by
          by_cases e : j = k
          · rw [e, ← hy]; exact ho
          · exact HA.out j (by omega))
        have HZ := Lib.hid (show ∀ y, y = pg.getD k ByteArray.empty → ¬ PageOk nx k y → r = false from fun y hy ho => by
          cases r with
          | false => rfl
          | true => exact absurd (HR.out.1 rfl k hlt) (by rw [← hy]; exact ho))
        generalize hgy : pg.getD k ByteArray.empty = y at *
        have HGY := Lib.hid hgy
        clear hgy hx hA
        by_cases y0 : y.size = 0
        · have g1 : ((y.size : Int) != 0) = false := by rw [y0]; rfl
          clear HZ
          go_wp2
          go_round
          case rel => exact ⟨k + 1, by omega, by go_num, Lib.hid (HY.out y rfl (.inl y0))⟩
          case measure => simp [intOf]; omega
        · have g1 : ((y.size : Int) != 0) = true := bne_iff_ne.2 (by omega)
          by_cases y1 : y.size = 91
          · have g2 : ((y.size : Int) != 91) = false := by rw [y1]; rfl
            by_cases y2 : (k : Int) < nx
            · have g3 : decide ((k : Int) ≥ nx) = false := by simp; omega
              have g4 : decide (nx ≤ (k : Int)) = false := by simp; omega
              clear HZ
              go_wp2
              go_round
              case rel => exact ⟨k + 1, by omega, by go_num, Lib.hid (HY.out y rfl (.inr ⟨y1, y2⟩))⟩
              case measure => simp [intOf]; omega
            · have g3 : decide ((k : Int) ≥ nx) = true := by simp; omega
              have g4 : decide (nx ≤ (k : Int)) = true := by simp; omega
              have HF := Lib.hid (HZ.out y rfl (fun o => by rcases o with o | ⟨_, o⟩; exact y0 o; exact y2 o))
              go_wp2
              go_ret
              exact ⟨by rw [HF.out]; rfl, hb0⟩
          · have g2 : ((y.size : Int) != 91) = true := bne_iff_ne.2 (by omega)
            have HF := Lib.hid (HZ.out y rfl (fun o => by rcases o with o | ⟨o, _⟩; exact y0 o; exact y1 o))
            go_wp2
            go_ret
            exact ⟨by rw [HF.out]; rfl, hb0⟩
      · obtain rfl : k = n := by omega
        have HT := Lib.hid (HR.out.2 HA.out)
        go_wp2
        go_ret
        exact ⟨by rw [HT.out]; rfl, hb0⟩
theorem bytes_ne {y : ByteArray} (h : y.size ≠ 0) : ¬ y.toList = [] ∧ y.toList.isEmpty = false := by
  have e : y.toList ≠ [] := by
    rw [ByteArray.toList_eq]
    intro e
    apply h
    show y.data.size = 0
    rw [← Array.length_toList, e]; rfl
  exact ⟨e, by cases hq : y.toList with
    | nil => exact absurd hq e
    | cons a l => rfl⟩
theorem implBlk_any (x : Blk) (pv : Value) (g o : Nat) (p : Int) (r : Bool) (w : World) (lo hi : Nat) (hat : BkAt w g o x pv) (hp : PgIn w lo hi pv x.pg) (hh : hi ≤ w.heap.size) (h : r = true ↔ BlkOk p x) (hl : x.pg.length ≤ 1048576) :
    Calls Try.prog 70 #[.pointer (some ⟨g, o, none⟩), .int .i64 p] w (BoolPost r w) := by
  have hb0 := Below.refl w.heap.size w
  obtain ⟨hy, hn⟩ := bool_of r h
  obtain ⟨A, n, cap, rfl, hlc, hcm, hlen, hsz, hA⟩ := hp
  obtain ⟨c0, c1, c2, c3⟩ := hat
  have hnm : (n : Int) ≤ 1048576 := by omega
  obtain ⟨er, nx, bad, pg⟩ := x
  simp only at *
  by_cases hbad : ¬ (0 ≤ er ∧ er ≤ 1000) ∨ ((0 ≤ er ∧ er ≤ 1000) ∧ ¬ (0 ≤ nx ∧ nx ≤ p)) ∨ ((0 ≤ er ∧ er ≤ 1000) ∧ (0 ≤ nx ∧ nx ≤ p) ∧ (n : Int) ≠ p)
  · obtain rfl : r = false := hn (fun k => by obtain ⟨k1, k2, k3, _⟩ := k; simp only at k1 k2 k3; rw [hlen] at k3; rcases hbad with a | ⟨_, a⟩ | ⟨_, _, a⟩ <;> contradiction)
    clear hy hn h hA hsz hlen
    by_cases a1 : er < 0
    · go_enter Try.func70, Try.ntmps70
      go_wp2
      go_ret
      exact ⟨rfl, hb0⟩
    · by_cases a2 : er > 1000
      · go_enter Try.func70, Try.ntmps70
        go_wp2
        go_ret
        exact ⟨rfl, hb0⟩
      · by_cases a3 : nx < 0
        · go_enter Try.func70, Try.ntmps70
          go_wp2
          go_ret
          exact ⟨rfl, hb0⟩
        · by_cases a4 : nx > p
          · go_enter Try.func70, Try.ntmps70
            go_wp2
            go_ret
            exact ⟨rfl, hb0⟩
          · have q1 : ((n : Int) != p) = true := bne_iff_ne.2 (by
              intro e
              rcases hbad with a | ⟨_, a⟩ | ⟨_, _, a⟩
              · exact a ⟨by omega, by omega⟩
              · exact a ⟨by omega, by omega⟩
              · exact a e)
            clear hbad
            go_enter Try.func70, Try.ntmps70
            go_wp2
            go_ret
            exact ⟨rfl, hb0⟩
  · have h1 : 0 ≤ er ∧ er ≤ 1000 := by
      by_cases k : 0 ≤ er ∧ er ≤ 1000
      · exact k
      · exact absurd (.inl k) hbad
    have h2 : 0 ≤ nx ∧ nx ≤ p := by
      by_cases k : 0 ≤ nx ∧ nx ≤ p
      · exact k
      · exact absurd (.inr (.inl ⟨h1, k⟩)) hbad
    have h3 : (n : Int) = p := by
      by_cases k : (n : Int) = p
      · exact k
      · exact absurd (.inr (.inr ⟨h1, h2, k⟩)) hbad
    subst h3
    have q1 : ((n : Int) != (n : Int)) = false := by simp
    have HR := Lib.hid (show r = true ↔ ∀ i, i < n → PageOk nx i (pg.getD i ByteArray.empty) from by
      rw [h]; unfold BlkOk; simp only [hlen]
      exact ⟨fun k i hi => k.2.2.2 i hi, fun k => ⟨h1, h2, trivial, fun i hi => k i hi⟩⟩)
    have HSZ := Lib.hid hsz
    obtain ⟨h1, h1'⟩ := h1
    obtain ⟨h2, h2'⟩ := h2
    have a1 : ¬ er < 0 := by omega
    have a2 : ¬ er > 1000 := by omega
    have a3 : ¬ nx < 0 := by omega
    have a4 : ¬ nx > (n : Int) := by omega
    clear hbad hy hn h hsz hlen
    go_enter Try.func70, Try.ntmps70
    go_wp2_with fail
    go_loop [48] (fun i => ∃ k : Nat, k ≤ n ∧ i = .int .i64 k ∧ Hid (∀ j, j < k → PageOk nx j (pg.getD j ByteArray.empty))) (fun i => n - (intOf i).toNat)
    case atStart => exact ⟨0, by omega, rfl, Lib.hid (fun j hj => by omega)⟩
    case round =>
      obtain ⟨k, hk, rfl, HA⟩ := hrel
      by_cases hlt : k < n
      · have hki : (k : Int) < (n : Int) := by omega
        obtain ⟨b, off, rfl, hb1, hb2, hx⟩ := hA (by omega)
        have hc := hx k hlt
        have hsz := HSZ.out k hlt
        have HY := Lib.hid (show ∀ y, y = pg.getD k ByteArray.empty → PageOk nx k y → ∀ j, j < k + 1 → PageOk nx j (pg.getD j ByteArray.empty) from fun y hy ho j hj => by
          by_cases e : j = k
          · rw [e, ← hy]; exact ho
          · exact HA.out j (by omega))
        have HZ := Lib.hid (show ∀ y, y = pg.getD k ByteArray.empty → ¬ PageOk nx k y → r = false from fun y hy ho => by
          cases r with
          | false => rfl
          | true => exact absurd (HR.out.1 rfl k hlt) (by rw [← hy]; exact ho))
        generalize hgy : pg.getD k ByteArray.empty = y at *
        have HGY := Lib.hid hgy
        clear hgy hx hA
        by_cases y0 : y.size = 0
        · have hy0 : y = ⟨#[]⟩ := ByteArray.ext (Array.eq_empty_of_size_eq_zero y0)
          clear HZ
          have HP := Lib.hid (HY.out y rfl (.inl y0))
          subst hy0
          go_wp2
          go_round
          case rel => exact ⟨k + 1, by omega, by go_num, HP⟩
          case measure => simp [intOf]; omega
        · have g1 : ((y.size : Int) != 0) = true := bne_iff_ne.2 (by omega)
          obtain ⟨hne, hie⟩ := bytes_ne y0
          by_cases y1 : y.size = 91
          · have g2 : ((y.size : Int) != 91) = false := by rw [y1]; rfl
            by_cases y2 : (k : Int) < nx
            · have g3 : decide ((k : Int) ≥ nx) = false := by simp; omega
              have g4 : decide (nx ≤ (k : Int)) = false := by simp; omega
              clear HZ
              go_wp2
              go_round
              case rel => exact ⟨k + 1, by omega, by go_num, Lib.hid (HY.out y rfl (.inr ⟨y1, y2⟩))⟩
              case measure => simp [intOf]; omega
            · have g3 : decide ((k : Int) ≥ nx) = true := by simp; omega
              have g4 : decide (nx ≤ (k : Int)) = true := by simp; omega
              have HF := Lib.hid (HZ.out y rfl (fun o => by rcases o with o | ⟨_, o⟩; exact y0 o; exact y2 o))
              go_wp2
              go_ret
              exact ⟨by rw [HF.out]; rfl, hb0⟩
          · have g2 : ((y.size : Int) != 91) = true := bne_iff_ne.2 (by omega)
            have HF := Lib.hid (HZ.out y rfl (fun o => by rcases o with o | ⟨o, _⟩; exact y0 o; exact y1 o))
            go_wp2
            go_ret
            exact ⟨by rw [HF.out]; rfl, hb0⟩
      · obtain rfl : k = n := by omega
        have HT := Lib.hid (HR.out.2 HA.out)
        go_wp2
        go_ret
        exact ⟨by rw [HT.out]; rfl, hb0⟩
end Go.Proofs.Yteigdjocjcjkiaa
/- A region that draws its order, walked once in the order of the text, at a class of worlds of one's own choice (say: these cells are as they were, and the elder blocks too): its calls may make memory, if what they hand back is the same in every world of the class. A law over any program. -/
namespace Go.Proofs.Yteigdjocjcjkiaa
set_option linter.unusedVariables false
theorem wp_region_own {P : Program} {C : World → Prop} {id : Nat} {Q : Exit → Act → World → Prop} {a : Act} {w : World} {l : List Oper} (hm : P.follows .mixedOrders = true) (hB : Region.lexB .any l.toArray = true) (hC : C w.drew)
    (h : wpQuiet P l.toArray C (fun a' => ∀ w', C w' → Q .normal a' w') l a) : (Code.region id l.toArray true).wp P Q a w :=
  wp_region_quiet hm hB hC (by simpa using h)
end Go.Proofs.Yteigdjocjcjkiaa
/- Valid arrays, in the model and in the program: the contracts. -/
namespace Go.Proofs.Yteigdjocjcjkiaa
open Go.RowKit
set_option linter.unusedVariables false
set_option linter.unusedSimpArgs false

/-- Not too many blocks and pages. -/
def FlLen (F : Fl) : Prop := F.bs.length ≤ 1048576 ∧ ∀ i, i < F.bs.length → (F.blk i).pg.length ≤ 1048576
theorem FlOk.lens {F : Fl} (h : FlOk F) : FlLen F := ⟨by have := h.len; omega, fun i hi => by have := h.plen hi; omega⟩
def GateOk (F : Fl) : Prop := GeoOk F.d F.b F.p ∧ (F.bs.length : Int) = F.d * F.b ∧ (-1 ≤ F.fu ∧ F.fu ≤ 1000000) ∧ (0 ≤ F.ke ∧ F.ke ≤ 91) ∧ 0 ≤ F.op
theorem flOk_iff (F : Fl) : FlOk F ↔ GateOk F ∧ ∀ i, i < F.bs.length → BlkOk F.p (F.blk i) := by
  unfold FlOk GateOk
  constructor
  · rintro ⟨a, b, c, d, e, f⟩; exact ⟨⟨a, b, d, e, f⟩, c⟩
  · rintro ⟨⟨a, b, d, e, f⟩, c⟩; exact ⟨a, b, c, d, e, f⟩
theorem prop_dec (P : Prop) : ∃ b : Bool, b = true ↔ P := by
  by_cases h : P
  · exact ⟨true, by simp [h]⟩
  · exact ⟨false, by simp [h]⟩
set_option maxRecDepth 100000 in
theorem specValid_any (v : Value) (F : Fl) (r : Bool) (w : World) (lo hi : Nat) (h : FlIn w lo hi v F) (hh : hi ≤ w.heap.size) (hr : r = true ↔ FlOk F) (hl : FlLen F) :
    Calls Try.prog 21 #[v] w (BoolPost r w) := by
  obtain ⟨u, rfl, h⟩ := h
  rw [flOk_iff] at hr
  obtain ⟨d, b, p, bs, fu, ke, off, op⟩ := F
  obtain ⟨A, n, cap, rfl, hlc, hcm, hlen, hA⟩ := h
  obtain ⟨hl1, hl2⟩ := hl
  unfold flc
  simp only at hl1 hl2 hlen hA
  rw [hlen] at hl1
  have hnm : (n : Int) ≤ 1048576 := by omega
  have r0 := Rw.new w 31 #[.int .i64 d, .int .i64 b, .int .i64 p, .slice A n cap, .int .i64 fu, .int .i64 ke, .bool off, .int .i64 op]
  have hb0 := (Below.refl w.heap.size w).alloc (Nat.le_refl _) (.cells #[.int .i64 d, .int .i64 b, .int .i64 p, .slice A n cap, .int .i64 fu, .int .i64 ke, .bool off, .int .i64 op] 31)
  have HB0 := Lib.hid hb0
  obtain ⟨hy, hn⟩ := bool_of r hr
  obtain ⟨rg, hrg⟩ := prop_dec (GeoOk d b p)
  have HG := Lib.hid (fun (W : World) => specGeo_any d b p rg W hrg)
  have hsz0 : (w.alloc (.cells #[.int .i64 d, .int .i64 b, .int .i64 p, .slice A n cap, .int .i64 fu, .int .i64 ke, .bool off, .int .i64 op] 31)).heap.size = w.heap.size + 1 := by simp
  have R0 := Lib.hid r0
  by_cases hg : GeoOk d b p
  case neg =>
    obtain rfl : rg = false := (bool_of rg hrg).2 hg
    obtain rfl : r = false := hn (fun k => hg k.1.1)
    clear hr hy hn hrg hA hl2 hb0 r0
    go_enter Try.func21, Try.ntmps21
    go_wp2_with fail
    refine (HG.out _).mono ?_
    rintro e w1 ⟨rfl, b1⟩
    have HB1 := Lib.hid (HB0.out.trans (b1.mono (by simp)))
    obtain ⟨c0, c1, c2, c3, c4, c5, c6, c7⟩ := (R0.out.below b1 (by simp)).eight
    clear b1
    go_wp2
    go_ret
    exact ⟨rfl, HB1.out⟩
  obtain rfl : rg = true := (bool_of rg hrg).1 hg
  obtain ⟨m1, m2⟩ := hg.mul
  have HGE := Lib.hid hg
  generalize hq : d * b = q at *
  by_cases gate : (n : Int) = q ∧ (-1 ≤ fu ∧ fu ≤ 1000000) ∧ (0 ≤ ke ∧ ke ≤ 91) ∧ 0 ≤ op
  case neg =>
    obtain rfl : r = false := hn (fun k => gate ⟨by have := k.1.2.1; simp only at this; rw [hlen, hq] at this; exact this, k.1.2.2⟩)
    clear hr hy hn hrg hA hl2 hb0 r0
    go_enter Try.func21, Try.ntmps21
    go_wp2_with fail
    refine (HG.out _).mono ?_
    rintro e w1 ⟨rfl, b1⟩
    have HB1 := Lib.hid (HB0.out.trans (b1.mono (by simp)))
    obtain ⟨c0, c1, c2, c3, c4, c5, c6, c7⟩ := (R0.out.below b1 (by simp)).eight
    clear b1
    by_cases g1 : (n : Int) = q
    · have e1 : ((n : Int) != q) = false := by simp [g1]
      by_cases g2 : -1 ≤ fu ∧ fu ≤ 1000000
      · have k2 := Lib.hid (fun (W : World) => inr_yes fu (-1) 1000000 W g2.1 g2.2)
        by_cases g3 : 0 ≤ ke ∧ ke ≤ 91
        · have k3 := Lib.hid (fun (W : World) => inr_yes ke 0 91 W g3.1 g3.2)
          have g4 : op < 0 := by
            by_cases k : op < 0
            · exact k
            · exact absurd ⟨g1, g2, g3, by omega⟩ gate
          clear gate g2 g3
          go_wp2_with fail
          refine (k2.out _).mono ?_
          rintro e w2 ⟨rfl, rfl⟩
          go_wp2_with fail
          refine (k3.out _).mono ?_
          rintro e w2 ⟨rfl, rfl⟩
          go_wp2
          go_ret
          exact ⟨rfl, HB1.out⟩
        · have k3 := Lib.hid (fun (W : World) => inr_no ke 0 91 W g3)
          clear gate g2 g3
          go_wp2_with fail
          refine (k2.out _).mono ?_
          rintro e w2 ⟨rfl, rfl⟩
          go_wp2_with fail
          refine (k3.out _).mono ?_
          rintro e w2 ⟨rfl, rfl⟩
          go_wp2
          go_ret
          exact ⟨rfl, HB1.out⟩
      · have k2 := Lib.hid (fun (W : World) => inr_no fu (-1) 1000000 W g2)
        clear gate g2
        go_wp2_with fail
        refine (k2.out _).mono ?_
        rintro e w2 ⟨rfl, rfl⟩
        go_wp2
        go_ret
        exact ⟨rfl, HB1.out⟩
    · have e1 : ((n : Int) != q) = true := bne_iff_ne.2 g1
      clear gate
      go_wp2
      go_ret
      exact ⟨rfl, HB1.out⟩
  obtain ⟨g1, g2, g3, g4⟩ := gate
  have HR := Lib.hid (show r = true ↔ ∀ i, i < n → BlkOk p (bs.getD i Blk.zero) from by
    rw [hr]
    constructor
    · rintro ⟨_, k⟩ i hi
      exact k i (by show i < bs.length; omega)
    · intro k
      exact ⟨⟨HGE.out, by show (bs.length : Int) = d * b; rw [hlen, hq]; exact g1, g2, g3, g4⟩, fun i hi => k i (by have : i < bs.length := hi; omega)⟩)
  have k2 := Lib.hid (fun (W : World) => inr_yes fu (-1) 1000000 W g2.1 g2.2)
  have k3 := Lib.hid (fun (W : World) => inr_yes ke 0 91 W g3.1 g3.2)
  have e1 : ((n : Int) != q) = false := by simp [g1]
  have hn0 : 0 < n := by omega
  obtain ⟨g, o, rfl, hg1, hg2, hx⟩ := hA hn0
  have HX := Lib.hid hx
  have HL2 := Lib.hid (show ∀ i, i < n → (bs.getD i Blk.zero).pg.length ≤ 1048576 from fun i hi => hl2 i (by show i < bs.length; omega))
  have g5 : ¬ op < 0 := by omega
  clear hr hy hn hrg hA hl2 hb0 r0 hx g2 g3 hg
  go_enter Try.func21, Try.ntmps21
  go_wp2_with fail
  refine (HG.out _).mono ?_
  rintro e w1 ⟨rfl, b1⟩
  have HB1 := Lib.hid (HB0.out.trans (b1.mono (by simp)))
  have R1 := Lib.hid (R0.out.below b1 (by simp))
  obtain ⟨c0, c1, c2, c3, c4, c5, c6, c7⟩ := R1.out.eight
  clear b1
  go_wp2_with fail
  refine (k2.out _).mono ?_
  rintro e w2 ⟨rfl, rfl⟩
  go_wp2_with fail
  refine (k3.out _).mono ?_
  rintro e w2 ⟨rfl, rfl⟩
  go_wp2_with fail
  go_loopw [3] (fun i wr => ∃ k : Nat, k ≤ n ∧ i = .int .i64 k ∧ Hid (∀ j, j < k → BlkOk p (bs.getD j Blk.zero)) ∧ Below w.heap.size w wr ∧ Hid (Rw wr w.heap.size 31 #[.int .i64 d, .int .i64 b, .int .i64 p, .slice (some ⟨g, o, none⟩) n cap, .int .i64 fu, .int .i64 ke, .bool off, .int .i64 op])) (fun i _ => n - (intOf i).toNat)
  case atStart => exact ⟨0, by omega, rfl, Lib.hid (fun j hj => by omega), HB1.out, R1⟩
  case round =>
    clear c0 c1 c2 c3 c4 c5 c6 c7
    obtain ⟨k, hk, rfl, HA, hb, RR⟩ := hrel
    obtain ⟨c0, c1, c2, c3, c4, c5, c6, c7⟩ := RR.out.eight
    by_cases hlt : k < n
    · have hki : (k : Int) < (n : Int) := by omega
      obtain ⟨pu, ⟨d0, d1, d2, d3⟩, hpu⟩ := HX.out k hlt
      have q0 := (hb.cell (p := ⟨g, o + k * 4, none⟩) (by simp; omega)).trans d0
      have q1 := (hb.cell (p := ⟨g, o + k * 4 + 1, none⟩) (by simp; omega)).trans d1
      have q2 := (hb.cell (p := ⟨g, o + k * 4 + 2, none⟩) (by simp; omega)).trans d2
      have q3 := (hb.cell (p := ⟨g, o + k * 4 + 3, none⟩) (by simp; omega)).trans d3
      have HU := Lib.hid (hpu.same (sm hb lo hh))
      have hsz := hb.size
      have HQ := HL2.out k hlt
      have HB := Lib.hid hb
      have HY := Lib.hid (show ∀ y, y = bs.getD k Blk.zero → BlkOk p y → ∀ j, j < k + 1 → BlkOk p (bs.getD j Blk.zero) from fun y hy ho j hj => by
        by_cases e : j = k
        · rw [e, ← hy]; exact ho
        · exact HA.out j (by omega))
      have HZ := Lib.hid (show ∀ y, y = bs.getD k Blk.zero → ¬ BlkOk p y → r = false from fun y hy ho => by
        cases r with
        | false => rfl
        | true => exact absurd (HR.out.1 rfl k hlt) (by rw [← hy]; exact ho))
      generalize bs.getD k Blk.zero = y at *
      obtain ⟨rb, hrb⟩ := prop_dec (BlkOk p y)
      have HC := Lib.hid (fun (W : World) (a : PgIn W lo hi pu y.pg) (c : hi ≤ W.heap.size) => specBlk_any y pu p rb W lo hi a c hrb HQ)
      by_cases hbk : BlkOk p y
      · obtain rfl : rb = true := hrb.2 hbk
        have HD := Lib.hid (HY.out y rfl hbk)
        clear d0 d1 d2 d3 hpu hb hrb hbk HZ HY
        go_wp2_with fail
        go_still_tail 8, (by kernel_rfl)
        change wpList _ _ _ _ _ wr.drew
        go_wp2_with fail
        refine (HC.out _ (show PgIn wr.drew lo hi pu y.pg from HU.out) (by simp; omega)).mono ?_
        rintro e w2 ⟨rfl, b2⟩
        have HB2 := Lib.hid (HB.out.drew.trans (b2.mono (by simpa using hsz)))
        have R2 := Lib.hid (Rw.below (show Rw wr.drew _ _ _ from RR.out) b2 RR.out.lt)
        clear b2 HB RR c0 c1 c2 c3 c4 c5 c6 c7 q0 q1 q2 q3
        go_wp2
        go_roundw
        case rel => exact ⟨k + 1, by omega, by go_num, HD, HB2.out, R2⟩
        case measure => simp [intOf]; omega
      · obtain rfl : rb = false := (bool_of rb hrb).2 hbk
        have HF := Lib.hid (HZ.out y rfl hbk)
        clear d0 d1 d2 d3 hpu hb hrb hbk HZ HY
        go_wp2_with fail
        go_still_tail 8, (by kernel_rfl)
        change wpList _ _ _ _ _ wr.drew
        go_wp2_with fail
        refine (HC.out _ (show PgIn wr.drew lo hi pu y.pg from HU.out) (by simp; omega)).mono ?_
        rintro e w2 ⟨rfl, b2⟩
        have HB2 := Lib.hid (HB.out.drew.trans (b2.mono (by simpa using hsz)))
        clear b2 HB RR c0 c1 c2 c3 c4 c5 c6 c7 q0 q1 q2 q3
        go_wp2
        go_ret
        exact ⟨by rw [HF.out]; rfl, HB2.out⟩
    · obtain rfl : k = n := by omega
      have HT := Lib.hid (HR.out.2 HA.out)
      go_wp2
      go_ret
      exact ⟨by rw [HT.out]; rfl, hb⟩
theorem validFuse_any (k : Int) (b : Bool) (w : World) (hb : b = true ↔ (-1 ≤ k ∧ k ≤ 1000000)) : Calls Try.prog 59 #[.int .i64 k] w fun e w' => e = .returned (.bool b) ∧ w = w' := by
  by_cases h1 : -1 ≤ k
  · have d1 : decide (-1 ≤ k) = true := by simp; omega
    have d2 : decide (k ≥ -1) = true := by simp; omega
    go_enter Try.func59, Try.ntmps59
    go_wp2
    go_ret
    exact ⟨ret_bool (by rw [Bool.eq_iff_iff, hb]; simp; omega), rfl⟩
  · have d1 : decide (-1 ≤ k) = false := by simp; omega
    have d2 : decide (k ≥ -1) = false := by simp; omega
    go_enter Try.func59, Try.ntmps59
    go_wp2
    go_ret
    exact ⟨ret_bool (by rw [Bool.eq_iff_iff, hb]; simp; omega), rfl⟩
set_option maxRecDepth 100000 in
set_option maxHeartbeats 4000000 in
theorem implValid_any (v : Value) (F : Fl) (r : Bool) (w : World) (lo hi : Nat) (h : FlIn w lo hi v F) (hh : hi ≤ w.heap.size) (hr : r = true ↔ FlOk F) (hl : FlLen F) :
    Calls Try.prog 36 #[v] w (BoolPost r w) := by
  obtain ⟨u, rfl, h⟩ := h
  rw [flOk_iff] at hr
  obtain ⟨d, b, p, bs, fu, ke, off, op⟩ := F
  obtain ⟨A, n, cap, rfl, hlc, hcm, hlen, hA⟩ := h
  obtain ⟨hl1, hl2⟩ := hl
  unfold flc
  simp only at hl1 hl2 hlen hA
  rw [hlen] at hl1
  have hnm : (n : Int) ≤ 1048576 := by omega
  have r0 := Rw.new w 31 #[.int .i64 d, .int .i64 b, .int .i64 p, .slice A n cap, .int .i64 fu, .int .i64 ke, .bool off, .int .i64 op]
  have hb0 := (Below.refl w.heap.size w).alloc (Nat.le_refl _) (.cells #[.int .i64 d, .int .i64 b, .int .i64 p, .slice A n cap, .int .i64 fu, .int .i64 ke, .bool off, .int .i64 op] 31)
  have HB0 := Lib.hid hb0
  obtain ⟨hy, hn⟩ := bool_of r hr
  obtain ⟨rg, hrg⟩ := prop_dec (GeoOk d b p)
  have HG := Lib.hid (fun (W : World) => implGeo_any d b p rg W hrg)
  have R0 := Lib.hid r0
  obtain ⟨C, hC⟩ : ∃ C : World → Prop, C = fun W => Rw W w.heap.size 31 #[.int .i64 d, .int .i64 b, .int .i64 p, .slice A n cap, .int .i64 fu, .int .i64 ke, .bool off, .int .i64 op] ∧ Below w.heap.size w W := ⟨_, rfl⟩
  have HC1 := Lib.hid (fun (W : World) (h : C W) => show Rw W w.heap.size 31 #[.int .i64 d, .int .i64 b, .int .i64 p, .slice A n cap, .int .i64 fu, .int .i64 ke, .bool off, .int .i64 op] ∧ Below w.heap.size w W by rw [hC] at h; exact h)
  have HC3 := Lib.hid (fun (W W' : World) (h : C W) (b : Below W.heap.size W W') => show C W' by rw [hC] at h ⊢; exact ⟨h.1.below b h.1.lt, h.2.trans (b.mono h.2.size)⟩)
  have hc0 : C (w.alloc (.cells #[.int .i64 d, .int .i64 b, .int .i64 p, .slice A n cap, .int .i64 fu, .int .i64 ke, .bool off, .int .i64 op] 31)).drew := by rw [hC]; exact ⟨Rw.new w _ _, ((Below.refl w.heap.size w).alloc (Nat.le_refl _) _).drew⟩
  clear hC
  have HTOT := Lib.hid (fun (W : World) (hg : GeoOk d b p) => total_any d b p W hg)
  by_cases hg : GeoOk d b p
  case neg =>
    obtain rfl : rg = false := (bool_of rg hrg).2 hg
    have HF := Lib.hid (show r = false from hn (fun k => hg k.1.1))
    clear hr hy hn hrg hA hl2 hb0 r0
    go_enter Try.func36, Try.ntmps36
    go_wp2_with fail
    refine wp_region_own (by kernel_rfl) (by kernel_rfl) hc0 ?_
    repeat (first
      | go_big_quiet_skip
      | (go_big_quiet_want
         go_big_quiet_op
         first
           | go_big_quiet_on
           | (apply Exists.intro
              refine ⟨fun W hW => ?_, ?_⟩
              · (first
                  | rfl
                  | (go_at_call 68
                     refine (HG.out _).mono ?_
                     rintro e w1 ⟨rfl, b⟩
                     exact ⟨rfl, HC3.out _ _ hW b⟩)
                  | (obtain ⟨k0, k1, k2, k3, k4, k5, k6, k7⟩ := (HC1.out _ hW).1.eight
                     simp only [k0, k1, k2, k3, k4, k5, k6, k7, Result.andThen]
                     exact ⟨trivial, rfl⟩))
              go_big_quiet_on)))
    refine wpQuiet_nil ?_
    intro w1 hw1
    have HB1 := Lib.hid (HC1.out _ hw1).2
    clear hw1 hc0
    go_wp2
    go_ret
    exact ⟨ret_bool HF.out.symm, HB1.out⟩
  obtain rfl : rg = true := (bool_of rg hrg).1 hg
  obtain ⟨m1, m2⟩ := hg.mul
  have HGE := Lib.hid hg
  have HTOT' := Lib.hid (fun (W : World) => HTOT.out W hg)
  clear HTOT
  have HTOT := HTOT'
  clear HTOT'
  generalize hq : d * b = q at *
  by_cases g1 : (n : Int) = q
  case neg =>
    obtain rfl : r = false := hn (fun k => g1 (by have := k.1.2.1; simp only at this; rw [hlen, hq] at this; exact this))
    have e1 : ((n : Int) != q) = true := bne_iff_ne.2 g1
    clear hr hy hn hrg hA hl2 hb0 r0
    go_enter Try.func36, Try.ntmps36
    go_wp2_with fail
    refine wp_region_own (by kernel_rfl) (by kernel_rfl) hc0 ?_
    repeat (first
      | go_big_quiet_skip
      | (go_big_quiet_want
         go_big_quiet_op
         first
           | go_big_quiet_on
           | (apply Exists.intro
              refine ⟨fun W hW => ?_, ?_⟩
              · (first
                  | rfl
                  | (go_at_call 68
                     refine (HG.out _).mono ?_
                     rintro e w1 ⟨rfl, b⟩
                     exact ⟨rfl, HC3.out _ _ hW b⟩)
                  | (go_at_call 69
                     refine (HTOT.out _).mono ?_
                     rintro e w1 ⟨rfl, b⟩
                     exact ⟨rfl, HC3.out _ _ hW b⟩)
                  | (obtain ⟨k0, k1, k2, k3, k4, k5, k6, k7⟩ := (HC1.out _ hW).1.eight
                     simp only [k0, k1, k2, k3, k4, k5, k6, k7, Result.andThen]
                     exact ⟨trivial, rfl⟩))
              go_big_quiet_on)))
    refine wpQuiet_nil ?_
    intro w1 hw1
    have HB1 := Lib.hid (HC1.out _ hw1).2
    clear hw1 hc0
    go_wp2
    go_ret
    exact ⟨rfl, HB1.out⟩
  have HR := Lib.hid (show r = true ↔ ((-1 ≤ fu ∧ fu ≤ 1000000) ∧ (0 ≤ ke ∧ ke ≤ 91) ∧ 0 ≤ op) ∧ ∀ i, i < n → BlkOk p (bs.getD i Blk.zero) from by
    rw [hr]
    constructor
    · rintro ⟨k1, k⟩
      exact ⟨k1.2.2, fun i hi => k i (by show i < bs.length; omega)⟩
    · rintro ⟨k1, k⟩
      exact ⟨⟨HGE.out, by show (bs.length : Int) = d * b; rw [hlen, hq]; exact g1, k1⟩, fun i hi => k i (by have : i < bs.length := hi; omega)⟩)
  subst g1
  have e1 : ((n : Int) != (n : Int)) = false := by simp
  have hn0 : 0 < n := by omega
  obtain ⟨g, o, rfl, hg1, hg2, hx⟩ := hA hn0
  have HX := Lib.hid hx
  have HL2 := Lib.hid (show ∀ i, i < n → (bs.getD i Blk.zero).pg.length ≤ 1048576 from fun i hi => hl2 i (by show i < bs.length; omega))
  clear hr hy hn hrg hA hl2 hb0 r0 hx hg
  go_enter Try.func36, Try.ntmps36
  go_wp2_with fail
  refine wp_region_own (by kernel_rfl) (by kernel_rfl) hc0 ?_
  repeat (first
    | go_big_quiet_skip
    | (go_big_quiet_want
       go_big_quiet_op
       first
         | go_big_quiet_on
         | (apply Exists.intro
            refine ⟨fun W hW => ?_, ?_⟩
            · (first
                | rfl
                | (go_at_call 68
                   refine (HG.out _).mono ?_
                   rintro e w1 ⟨rfl, b⟩
                   exact ⟨rfl, HC3.out _ _ hW b⟩)
                | (go_at_call 69
                   refine (HTOT.out _).mono ?_
                   rintro e w1 ⟨rfl, b⟩
                   exact ⟨rfl, HC3.out _ _ hW b⟩)
                | (obtain ⟨k0, k1, k2, k3, k4, k5, k6, k7⟩ := (HC1.out _ hW).1.eight
                   simp only [k0, k1, k2, k3, k4, k5, k6, k7, Result.andThen]
                   exact ⟨trivial, rfl⟩))
            go_big_quiet_on)))
  refine wpQuiet_nil ?_
  intro w1 hw1
  have HB1 := Lib.hid (HC1.out _ hw1).2
  have R1 := Lib.hid (HC1.out _ hw1).1
  clear hw1 hc0
  obtain ⟨c0, c1, c2, c3, c4, c5, c6, c7⟩ := R1.out.eight
  go_wp2_with fail
  go_loopw [20] (fun i wr => ∃ k : Nat, k ≤ n ∧ i = .int .i64 k ∧ Hid (∀ j, j < k → BlkOk p (bs.getD j Blk.zero)) ∧ Below w.heap.size w wr ∧ Hid (Rw wr w.heap.size 31 #[.int .i64 d, .int .i64 b, .int .i64 p, .slice (some ⟨g, o, none⟩) n cap, .int .i64 fu, .int .i64 ke, .bool off, .int .i64 op])) (fun i _ => n - (intOf i).toNat)
  case atStart => exact ⟨0, by omega, rfl, Lib.hid (fun j hj => by omega), HB1.out, R1⟩
  case round =>
    clear c0 c1 c2 c3 c4 c5 c6 c7
    obtain ⟨k, hk, rfl, HA, hb, RR⟩ := hrel
    obtain ⟨c0, c1, c2, c3, c4, c5, c6, c7⟩ := RR.out.eight
    by_cases hlt : k < n
    · have hki : (k : Int) < (n : Int) := by omega
      obtain ⟨pu, hat, hpu⟩ := HX.out k hlt
      have hat2 := Lib.hid (hat.same (sm hb lo hh) hg1 hg2)
      have HU := Lib.hid (hpu.same (sm hb lo hh))
      have hsz := hb.size
      have HQ := HL2.out k hlt
      have HB := Lib.hid hb
      have HY := Lib.hid (show ∀ y, y = bs.getD k Blk.zero → BlkOk p y → ∀ j, j < k + 1 → BlkOk p (bs.getD j Blk.zero) from fun y hy ho j hj => by
        by_cases e : j = k
        · rw [e, ← hy]; exact ho
        · exact HA.out j (by omega))
      have HZ := Lib.hid (show ∀ y, y = bs.getD k Blk.zero → ¬ BlkOk p y → r = false from fun y hy ho => by
        cases r with
        | false => rfl
        | true => exact absurd ((HR.out.1 rfl).2 k hlt) (by rw [← hy]; exact ho))
      generalize bs.getD k Blk.zero = y at *
      obtain ⟨rb, hrb⟩ := prop_dec (BlkOk p y)
      have HC := Lib.hid (fun (W : World) (a : BkAt W g (o + k * 4) y pu) (a2 : PgIn W lo hi pu y.pg) (c : hi ≤ W.heap.size) => implBlk_any y pu g (o + k * 4) p rb W lo hi a a2 c hrb HQ)
      by_cases hbk : BlkOk p y
      · obtain rfl : rb = true := hrb.2 hbk
        have HD := Lib.hid (HY.out y rfl hbk)
        clear hat hpu hb hrb hbk HZ HY
        go_wp2_with fail
        go_still_tail 7, (by kernel_rfl)
        change wpList _ _ _ _ _ wr.drew
        go_wp2_with fail
        refine (HC.out _ (show BkAt wr.drew _ _ _ _ from hat2.out) (show PgIn wr.drew lo hi pu y.pg from HU.out) (by simp; omega)).mono ?_
        rintro e w2 ⟨rfl, b2⟩
        have HB2 := Lib.hid (HB.out.drew.trans (b2.mono (by simpa using hsz)))
        have R2 := Lib.hid (Rw.below (show Rw wr.drew _ _ _ from RR.out) b2 RR.out.lt)
        clear b2 HB RR c0 c1 c2 c3 c4 c5 c6 c7
        go_wp2
        go_roundw
        case rel => exact ⟨k + 1, by omega, by go_num, HD, HB2.out, R2⟩
        case measure => simp [intOf]; omega
      · obtain rfl : rb = false := (bool_of rb hrb).2 hbk
        have HF := Lib.hid (HZ.out y rfl hbk)
        clear hat hpu hb hrb hbk HZ HY
        go_wp2_with fail
        go_still_tail 7, (by kernel_rfl)
        change wpList _ _ _ _ _ wr.drew
        go_wp2_with fail
        refine (HC.out _ (show BkAt wr.drew _ _ _ _ from hat2.out) (show PgIn wr.drew lo hi pu y.pg from HU.out) (by simp; omega)).mono ?_
        rintro e w2 ⟨rfl, b2⟩
        have HB2 := Lib.hid (HB.out.drew.trans (b2.mono (by simpa using hsz)))
        clear b2 HB RR c0 c1 c2 c3 c4 c5 c6 c7
        go_wp2
        go_ret
        exact ⟨by rw [HF.out]; rfl, HB2.out⟩
    · obtain rfl : k = n := by omega
      have HB := Lib.hid hb
      clear hb
      by_cases f1 : -1 ≤ fu ∧ fu ≤ 1000000
      · have F1 := Lib.hid (fun (W : World) => validFuse_any fu true W (by simp; omega))
        by_cases f2 : 0 ≤ ke ∧ ke ≤ 91
        · have F2 := Lib.hid (fun (W : World) => validKeep_any ke true W (by simp; omega))
          by_cases f3 : 0 ≤ op
          · have HT := Lib.hid (HR.out.2 ⟨⟨f1, f2, f3⟩, HA.out⟩)
            clear f1 f2
            go_wp2_with fail
            refine (F1.out _).mono ?_
            rintro e w2 ⟨rfl, rfl⟩
            go_wp2_with fail
            refine (F2.out _).mono ?_
            rintro e w2 ⟨rfl, rfl⟩
            go_wp2
            go_ret
            exact ⟨by rw [HT.out]; rfl, HB.out⟩
          · have HT := Lib.hid (show r = false by
              cases r with
              | false => rfl
              | true => exact absurd (HR.out.1 rfl).1.2.2 f3)
            have f4 : decide (0 ≤ op) = false := by simp; omega
            have f5 : decide (op ≥ 0) = false := by simp; omega
            clear f1 f2
            go_wp2_with fail
            refine (F1.out _).mono ?_
            rintro e w2 ⟨rfl, rfl⟩
            go_wp2_with fail
            refine (F2.out _).mono ?_
            rintro e w2 ⟨rfl, rfl⟩
            go_wp2
            go_ret
            exact ⟨by rw [HT.out]; rfl, HB.out⟩
        · have F2 := Lib.hid (fun (W : World) => validKeep_any ke false W (by simp; omega))
          have HT := Lib.hid (show r = false by
            cases r with
            | false => rfl
            | true => exact absurd (HR.out.1 rfl).1.2.1 f2)
          clear f1 f2
          go_wp2_with fail
          refine (F1.out _).mono ?_
          rintro e w2 ⟨rfl, rfl⟩
          go_wp2_with fail
          refine (F2.out _).mono ?_
          rintro e w2 ⟨rfl, rfl⟩
          go_wp2
          go_ret
          exact ⟨by rw [HT.out]; rfl, HB.out⟩
      · have F1 := Lib.hid (fun (W : World) => validFuse_any fu false W (by simp; omega))
        have HT := Lib.hid (show r = false by
          cases r with
          | false => rfl
          | true => exact absurd (HR.out.1 rfl).1.1 f1)
        clear f1
        go_wp2_with fail
        refine (F1.out _).mono ?_
        rintro e w2 ⟨rfl, rfl⟩
        go_wp2
        go_ret
        exact ⟨by rw [HT.out]; rfl, HB.out⟩
end Go.Proofs.Yteigdjocjcjkiaa
/- Copies of arrays with memory of their own, in the model and in the program: the contracts. -/
namespace Go.Proofs.Yteigdjocjcjkiaa
open Go.RowKit
set_option linter.unusedVariables false
/-- The cells of a row of blocks. -/
def bkCells (x : Blk) (u : Value) : List Value := [.int .i64 x.er, .int .i64 x.nx, .bool x.bad, u]
def rowC (L : List Blk) (pv : Nat → Value) : List Value := (List.range L.length).flatMap fun i => bkCells (L.getD i Blk.zero) (pv i)
theorem rowC_at (L : List Blk) (pv : Nat → Value) {i c : Nat} (hi : i < L.length) (hc : c < 4) : (rowC L pv)[i * 4 + c]? = (bkCells (L.getD i Blk.zero) (pv i))[c]? := by
  have key : ∀ n, n ≤ L.length → i < n → ((List.range n).flatMap fun i => bkCells (L.getD i Blk.zero) (pv i))[i * 4 + c]? = (bkCells (L.getD i Blk.zero) (pv i))[c]? := by
    intro n hn hin
    induction n with
    | zero => omega
    | succ n ih =>
      have hl : ∀ m, ((List.range m).flatMap fun i => bkCells (L.getD i Blk.zero) (pv i)).length = m * 4 := by
        intro m
        induction m with
        | zero => rfl
        | succ m ihm => rw [List.range_succ, List.flatMap_append, List.length_append, ihm]; simp [bkCells]; omega
      rw [List.range_succ, List.flatMap_append]
      by_cases e : i < n
      · rw [List.getElem?_append_left (by rw [hl]; omega)]
        exact ih (by omega) e
      · obtain rfl : i = n := by omega
        rw [List.getElem?_append_right (by rw [hl]; omega), hl]
        simp
  exact key _ (Nat.le_refl _) hi
theorem rowC_length (L : List Blk) (pv : Nat → Value) : (rowC L pv).length = L.length * 4 := by
  unfold rowC
  generalize L.length = m
  induction m with
  | zero => rfl
  | succ m ihm => rw [List.range_succ, List.flatMap_append, List.length_append, ihm]; simp [bkCells]; omega
theorem rowC_push (L : List Blk) (pv : Nat → Value) (x : Blk) (u : Value) : rowC (L ++ [x]) (fun i => if i = L.length then u else pv i) = rowC L pv ++ bkCells x u := by
  unfold rowC
  rw [List.length_append, List.length_singleton, List.range_succ, List.flatMap_append]
  congr 1
  · rw [List.flatMap_def, List.flatMap_def]
    congr 1
    apply List.map_congr_left
    intro i hi
    have hi' := List.mem_range.1 hi
    show bkCells ((L ++ [x]).getD i Blk.zero) (if i = L.length then u else pv i) = _
    rw [if_neg (show ¬ i = L.length by omega)]
    congr 1
    rw [List.getD_eq_getElem?_getD, List.getD_eq_getElem?_getD, List.getElem?_append_left hi']
  · simp [bkCells]
/-- What a copy under way holds: the blocks L in an own row, their pages beside it. -/
structure Grow (w : World) (B : Nat) (v : Value) (L : List Blk) (pv : Nat → Value) : Prop where
  own : w.ownsRow B 51 4 v L.length (rowC L pv)
  pgs : ∀ i, i < L.length → PgOwn w B w.heap.size w.heap.size (pv i) (L.getD i Blk.zero).pg
  far : ∀ i, i < L.length → ∀ k, v.ownBlock = some k → ∀ a n c, pv i = .slice (some a) n c → 0 < n → a.block ≠ k
  apart : ∀ i j, i < L.length → j < L.length → i ≠ j → Apart (pv i) (pv j)
theorem PgOwn.keep {w w' : World} {lo hi g : Nat} {v : Value} {L : List ByteArray} (h : PgOwn w lo hi g v L) (hs : ∀ a n c, v = .slice (some a) n c → 0 < n → w'.heap[a.block]? = w.heap[a.block]?) : PgOwn w' lo hi g v L := by
  obtain ⟨A, len, cap, e, h1, h2, h3, h4, hc⟩ := h
  refine ⟨A, len, cap, e, h1, h2, h3, h4, fun h0 => ?_⟩
  obtain ⟨b, off, rfl, h1, h2, h3, hf, hx⟩ := hc h0
  have hb := hs _ _ _ e h0
  exact ⟨b, off, rfl, h1, h2, h3, fun k => (World.frozen?_of_block (w := w) (a := ⟨b, k, none⟩) hb).trans (hf k), fun i hi => (World.cell?_of_block (w := w) (a := ⟨b, off + i, none⟩) hb).trans (hx i hi)⟩
theorem PgOwn.blk {w : World} {lo hi g : Nat} {v : Value} {L : List ByteArray} (h : PgOwn w lo hi g v L) {a : Addr} {n c : Nat} (e : v = .slice (some a) n c) (h0 : 0 < n) : lo ≤ a.block ∧ a.block < hi ∧ a.block ≠ g := by
  obtain ⟨A, len, cap, e', h1, h2, h3, h4, hc⟩ := h
  rw [e] at e'
  injection e' with e1 e2 e3
  subst e1 e2
  obtain ⟨b, off, e4, h5, h6, h7, _⟩ := hc h0
  injection e4 with e4
  subst e4
  exact ⟨h5, h6, h7⟩
theorem PgOwn.beside {w : World} {lo hi g g' : Nat} {v : Value} {L : List ByteArray} (h : PgOwn w lo hi g v L) (hne : ∀ a n c, v = .slice (some a) n c → 0 < n → a.block ≠ g') : PgOwn w lo hi g' v L := by
  obtain ⟨A, len, cap, e, h1, h2, h3, h4, hc⟩ := h
  refine ⟨A, len, cap, e, h1, h2, h3, h4, fun h0 => ?_⟩
  obtain ⟨b, off, rfl, h1, h2, h3, hf, hx⟩ := hc h0
  exact ⟨b, off, rfl, h1, h2, hne _ _ _ e h0, hf, hx⟩
section
variable {w w1 w2 : World} {B : Nat} {v v' : Value} {L : List Blk} {pv : Nat → Value}
theorem Grow.start (w : World) {B : Nat} (h : B ≤ w.heap.size) (pv : Nat → Value) : Grow (w.alloc (.cells #[] 51)) B (.slice (some ⟨w.heap.size, 0, none⟩) 0 0) [] pv :=
  ⟨World.ownsRow_made w #[] 0 h (by unfold maxLen; omega) rfl, fun i hi => by simp at hi, fun i hi => by simp at hi, fun i j hi => by simp at hi⟩
theorem Grow.nil (w : World) (B : Nat) (pv : Nat → Value) : Grow w B (.slice none 0 0) [] pv :=
  ⟨World.ownsRow_nil w B _ 4, fun i hi => by simp at hi, fun i hi => by simp at hi, fun i j hi => by simp at hi⟩
theorem Grow.rowLt (h : Grow w B v L pv) {k : Nat} (e : v.ownBlock = some k) : B ≤ k ∧ k < w.heap.size := World.ownsRow.lt h.own k e
theorem Grow.later (h : Grow w B v L pv) (hb : Below w.heap.size w w1) : Grow w1 B v L pv := by
  refine ⟨?_, fun i hi => ?_, h.far, h.apart⟩
  · refine ⟨h.own.1, ?_⟩
    rcases h.own.2 with h2 | ⟨g, cap, cur, e1, e2, e3, e4⟩
    · exact .inl h2
    · have hg := (h.rowLt (k := g) (by rw [e1]; rfl)).2
      exact .inr ⟨g, cap, cur, e1, e2, (hb.block g hg).trans e3, e4⟩
  · have := h.pgs i hi
    exact ((this.same (sm hb B (Nat.le_refl _))).wide (Nat.le_refl _) hb.size).beside fun a n c e h0 => by have := this.blk e h0; have := hb.size; omega
theorem Grow.push (h : Grow w B v L pv) (hb : Below w.heap.size w w1) {x : Blk} {u : Value} (hu : PgOwn w1 w.heap.size w1.heap.size w1.heap.size u x.pg)
    (own : w2.ownsRow B 51 4 v' (L.length + 1) (rowC L pv ++ bkCells x u)) (gr : w1.grownBy w2 v.ownBlock) (hat : v'.ownBlock = v.ownBlock ∨ v'.ownBlock = some w1.heap.size) (hB : B ≤ w.heap.size) :
    Grow w2 B v' (L ++ [x]) (fun i => if i = L.length then u else pv i) := by
  have h1 := h.later hb
  have hrow : ∀ k, v.ownBlock = some k → k < w.heap.size := fun k e => (h.rowLt e).2
  have hsz := hb.size
  have hsz2 := gr.size
  have gl : ∀ i, i < L.length → (L ++ [x]).getD i Blk.zero = L.getD i Blk.zero := fun i hi => by rw [List.getD_eq_getElem?_getD, List.getD_eq_getElem?_getD, List.getElem?_append_left hi]
  have gx : (L ++ [x]).getD L.length Blk.zero = x := by simp [List.getD_eq_getElem?_getD]
  have old : ∀ i, i < L.length → PgOwn w2 B w2.heap.size w2.heap.size (pv i) (L.getD i Blk.zero).pg := fun i hi => by
    have p := h1.pgs i hi
    refine ((p.keep fun a n c e h0 => ?_).wide (Nat.le_refl _) hsz2).beside fun a n c e h0 => by have := p.blk e h0; omega
    have q := p.blk e h0
    refine gr.block _ q.2.1 fun e2 => ?_
    exact h1.far i hi a.block e2.symm a n c e h0 rfl
  have new : PgOwn w2 B w2.heap.size w2.heap.size u x.pg := by
    refine ((hu.keep fun a n c e h0 => ?_).wide hB hsz2).beside fun a n c e h0 => by have := hu.blk e h0; omega
    have q := hu.blk e h0
    refine gr.block _ q.2.1 fun e2 => ?_
    have := hrow a.block e2.symm
    omega
  refine ⟨?_, fun i hi => ?_, fun i hi k ek a n c e h0 => ?_, fun i j hi hj hne => ?_⟩
  · rw [List.length_append, List.length_singleton, rowC_push]; exact own
  · rw [List.length_append, List.length_singleton] at hi
    by_cases e : i = L.length
    · subst e; rw [gx]; simp only [if_true]; exact new
    · rw [gl i (by omega)]; simp only [if_neg e]; exact old i (by omega)
  · rw [List.length_append, List.length_singleton] at hi
    by_cases e' : i = L.length
    · rw [if_pos e'] at e
      have q := hu.blk e h0
      rcases hat with e2 | e2
      · rw [e2] at ek; have := hrow k ek; omega
      · rw [e2] at ek; injection ek with ek; omega
    · rw [if_neg e'] at e
      have q := (h1.pgs i (by omega)).blk e h0
      rcases hat with e2 | e2
      · rw [e2] at ek; exact h1.far i (by omega) k ek a n c e h0
      · rw [e2] at ek; injection ek with ek; omega
  · rw [List.length_append, List.length_singleton] at hi hj
    have ap : ∀ i, i < L.length → Apart (pv i) u := fun i hi => by
      have p : PgOwn w1 B w.heap.size w.heap.size (pv i) (L.getD i Blk.zero).pg := (h.pgs i hi).same (sm hb B (Nat.le_refl _))
      exact p.apart hu
    by_cases e : i = L.length
    · by_cases e2 : j = L.length
      · omega
      · simp only [if_pos e, if_neg e2]; exact (ap j (by omega)).symm
    · by_cases e2 : j = L.length
      · simp only [if_neg e, if_pos e2]; exact ap i (by omega)
      · simp only [if_neg e, if_neg e2]; exact h.apart i j (by omega) (by omega) hne
theorem Grow.owns (h : Grow w B v L pv) : BksOwn w B w.heap.size v L := by
  rcases h.own.2 with ⟨e, hn⟩ | ⟨g, cap, cur, e, hg, hc, h1, h2, _⟩
  · have : L = [] := List.eq_nil_of_length_eq_zero hn
    subst this
    exact ⟨_, _, _, e, Nat.le_refl _, by omega, rfl, fun h => by simp at h⟩
  · subst e
    have hlt := h.rowLt (k := g) rfl
    refine ⟨_, _, _, rfl, h1, by unfold maxLen at h2; omega, rfl, fun _ => ⟨g, pv, rfl, hlt.1, hlt.2, World.ownsRow.frozenAt h.own, fun i hi => ?_, fun i hi => ?_, h.apart⟩⟩
    · have q : ∀ c, c < 4 → w.cell? ⟨g, i * 4 + c, none⟩ = (bkCells (L.getD i Blk.zero) (pv i))[c]? := fun c hc => by
        rw [World.ownsRow.cellAt h.own _ (by omega), rowC_at L pv hi hc]
      exact ⟨q 0 (by omega), q 1 (by omega), q 2 (by omega), q 3 (by omega)⟩
    · exact (h.pgs i hi).beside fun a n c e h0 => h.far i hi g rfl a n c e h0
theorem Grow.same (h : Grow w B v L pv) (hs : ∀ j, B ≤ j → j < w.heap.size → w1.heap[j]? = w.heap[j]?) (hsz : w.heap.size ≤ w1.heap.size) : Grow w1 B v L pv := by
  refine ⟨?_, fun i hi => ?_, h.far, h.apart⟩
  · refine ⟨h.own.1, ?_⟩
    rcases h.own.2 with h2 | ⟨g, cap, cur, e1, e2, e3, e4⟩
    · exact .inl h2
    · have hg := h.rowLt (k := g) (by rw [e1]; rfl)
      exact .inr ⟨g, cap, cur, e1, e2, (hs g hg.1 hg.2).trans e3, e4⟩
  · have := h.pgs i hi
    exact ((this.same (fun j a b => hs j a b)).wide (Nat.le_refl _) hsz).beside fun a n c e h0 => by have := this.blk e h0; omega
theorem owns_slice {e : TypeId} {s n : Nat} {xs : List Value} (h : w.ownsRow B e s v n xs) : ∃ A c, v = .slice A n c := by
  rcases h.2 with ⟨rfl, rfl⟩ | ⟨g, cap, cur, e1, _⟩
  · exact ⟨_, _, rfl⟩
  · exact ⟨_, _, e1⟩
theorem StrsOwn.fresh (w : World) {B : Nat} (h : B ≤ w.heap.size) : StrsOwn (w.alloc (.cells #[] 9)) B (.slice (some ⟨w.heap.size, 0, none⟩) 0 0) [] :=
  World.ownsRow_made w #[] 0 h (by unfold maxLen; omega) rfl
theorem StrsOwn.someOf {v : Value} {L : List ByteArray} {n : Nat} (h : StrsOwn w B v ([] ++ L)) (hn : L.length = n) (h0 : 0 < n) : ∃ g cap, v = .slice (some ⟨g, 0, none⟩) n cap ∧ n ≤ cap ∧ cap ≤ 9223372036854775807 ∧ B ≤ g ∧ g < w.heap.size ∧ StrsOwn w B (.slice (some ⟨g, 0, none⟩) n cap) L := by
  rw [List.nil_append] at h
  rcases h.shape with ⟨_, rfl⟩ | ⟨g, cap, rfl, h1, h2, h3, h4⟩
  · simp at hn; omega
  · subst hn
    exact ⟨g, cap, rfl, h1, h2, h3, h4, h⟩
theorem StrsOwn.pagesOf {L : List ByteArray} {g n cap k : Nat} (h : StrsOwn w B (.slice (some ⟨g, 0, none⟩) n cap) L) (hn : L.length = n) (h1 : n ≤ cap) (h2 : cap ≤ 9223372036854775807) (hg : B ≤ g) (hgl : g < w.heap.size) (hk : k < B) (hL : ∀ i, i < L.length → (L.getD i ByteArray.empty).size ≤ 9223372036854775807) : PgOwn w B w.heap.size k (.slice (some ⟨g, 0, none⟩) n cap) L :=
  ⟨_, _, _, rfl, h1, h2, hn, fun i hi => hL i (by omega), fun _ => ⟨g, 0, rfl, hg, hgl, by omega, h.free hn, fun i hi => by rw [Nat.zero_add]; exact h.cell hn hi⟩⟩
end
end Go.Proofs.Yteigdjocjcjkiaa
