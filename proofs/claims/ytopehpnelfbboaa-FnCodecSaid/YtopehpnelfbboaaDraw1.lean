/- Chapter 1's generators: an integer, a text, a damaged text. Only that each returns, within its bounds, is said. -/
import Derived.Test.YtopehpnelfbboaaProg
import Derived.Test.YtopehpnelfbboaaDraw2
import Derived.Test.YtopehpnelfbboaaUv
namespace Go.Proofs.Ytopehpnelfbboaa
open Go.RowKit

def I64 (v : Value) : Prop := ∃ x : Int, v = .int .i64 x ∧ -9223372036854775808 ≤ x ∧ x ≤ 9223372036854775807
def Tx (m : Nat) (v : Value) : Prop := ∃ s : ByteArray, v = .string s ∧ s.size ≤ m

theorem text_any (m B g n b len cap : Nat) (w : World) (h : Src w B g n) (hn : n ≤ 900000000000) (hlen : 0 < len) (hl2 : len ≤ 1000000) (hbg : b ≠ g)
    (hc : ∀ i, i < len → ∃ s : ByteArray, w.cell? ⟨b, i, none⟩ = some (.string s) ∧ s.size ≤ m) :
    Calls Try.prog 36 #[.pointer (some ⟨g, 0, none⟩), .slice (some ⟨b, 0, none⟩) len cap] w (Chose (Tx m) B g (n + 2) w) := by
  have HC := Lib.hid hc
  have HP : Hid (pickMax (len : Int) ≤ (len : Int) - 1) := by show _ ≤ _; unfold pickMax; split <;> omega
  clear hc
  go_enter Try.func36, Try.ntmps36
  go_wp2_with (
    go_at_call 46; refine (pick_any B g n (len : Int) _ h hn (by omega) (by omega)).mono ?_; rintro e w1 ⟨v1, rfl, ⟨x, rfl, hx0, hx1⟩, hS1, hg1⟩
    obtain ⟨i, rfl⟩ := Int.eq_ofNat_of_zero_le hx0
    have hil : (i : Int) < (len : Int) := by have := HP.out; omega
    obtain ⟨y, hy, hQ⟩ := HC.out i (by omega)
    have hcell := hg1.cell hy (by simp; omega)
    have HQ := Lib.hid hQ
    clear hy hQ h)
  go_ret
  exact ⟨_, rfl, ⟨y, rfl, HQ.out⟩, hS1, hg1⟩
theorem newTexts (w : World) (t : TypeId) (l : List Value) (n m : Nat) (hn : l.length = n) (h : ∀ v ∈ l, Tx m v) :
    ∀ i, i < n → ∃ s : ByteArray, (w.alloc (.cells l.toArray t)).cell? ⟨w.heap.size, i, none⟩ = some (.string s) ∧ s.size ≤ m := by
  intro i hi
  obtain ⟨x, hx, hq⟩ := h l[i] (List.getElem_mem (by omega))
  refine ⟨x, ?_, hq⟩
  rw [World.cell?_alloc_at _ _ _ _ rfl, ← hx]
  simp [hn, hi]

theorem l01Int_any (B g n : Nat) (w : World) (h : Src w B g n) (hn : n ≤ 800000000000) :
    Calls Try.prog 31 #[.pointer (some ⟨g, 0, none⟩)] w (Chose I64 B g (n + 4) w) := by
  have hlt := h.lt
  have P4 : Hid (pickMax 4 = 3) := by show _ = _; decide
  have P6 : Hid (pickMax 60000 = 59999) := by show _ = _; decide
  have P2 : Hid (pickMax 200 = 199) := by show _ = _; decide
  go_enter Try.func31, Try.ntmps31
  go_wp2_with fail
  refine (pick_any B g n 4 _ h (by omega) (by omega) (by omega)).mono ?_
  rintro e w1 ⟨v1, rfl, ⟨x, rfl, hx0, hx1⟩, hS1, hg1⟩
  clear h hx1
  have hz1 := hg1.size
  have hne : w1.heap.size ≠ g := by omega
  by_cases h0 : x = 0
  · subst h0
    go_wp2_with fail
    refine (among_any (fun x => -9223372036854775808 ≤ x ∧ x ≤ 9223372036854775807) B g (n + 2) w1.heap.size 14 14 _ ?_ (by omega) (by omega) (by omega) hne ?_).mono ?_
    · exact hS1.keep ((Below.refl _ _).alloc (Nat.le_refl _) _)
    · refine newCells _ _ _ 14 rfl ?_
      intro v hv
      simp only [List.mem_cons, List.not_mem_nil, or_false] at hv
      rcases hv with rfl | rfl | rfl | rfl | rfl | rfl | rfl | rfl | rfl | rfl | rfl | rfl | rfl | rfl <;> exact ⟨_, rfl, by constructor <;> omega⟩
    rintro e w2 ⟨v2, rfl, ⟨y, rfl, hy0, hy1⟩, hS2, hg2⟩
    have HY : Hid (I64 (.int .i64 y)) := ⟨y, rfl, hy0, hy1⟩
    clear hy0 hy1
    go_wp2
    go_ret
    exact ⟨_, rfl, HY.out, hS2, grown_trans hg1 (grown_trans (World.grownBy_alloc w1 _ _) hg2)⟩
  · by_cases h1 : x = 1
    · subst h1
      go_wp2_with fail
      refine (pick_any B g (n + 2) 60000 _ hS1 (by omega) (by omega) (by omega)).mono ?_
      rintro e w2 ⟨v2, rfl, ⟨y, rfl, hy0, hy1⟩, hS2, hg2⟩
      rw [P6.out] at hy1
      have HY : Hid (I64 (.int .i64 y)) := ⟨y, rfl, by omega, by omega⟩
      go_wp2
      go_ret
      exact ⟨_, rfl, HY.out, hS2, grown_trans hg1 hg2⟩
    · have d0 : (x == 0) = false := by simpa using h0
      have d1 : (x == 1) = false := by simpa using h1
      go_wp2_with fail
      refine (pick_any B g (n + 2) 200 _ hS1 (by omega) (by omega) (by omega)).mono ?_
      rintro e w2 ⟨v2, rfl, ⟨y, rfl, hy0, hy1⟩, hS2, hg2⟩
      rw [P2.out] at hy1
      have HY : Hid (I64 (.int .i64 y)) := ⟨y, rfl, by omega, by omega⟩
      go_wp2
      go_ret
      exact ⟨_, rfl, HY.out, hS2, grown_trans hg1 hg2⟩
theorem drawInt_any (w : World) (v : Value) (h : CodeIs w w.heap.size v) :
    Calls Try.prog 9 #[v] w (Drawn I64 w) := by
  have hv := h
  obtain ⟨A, len, cap, rfl, _⟩ := hv
  go_enter Try.func9, Try.ntmps9
  go_wp2_with fail
  refine (l00From_any _ _ h).mono ?_
  rintro e w1 ⟨rfl, hS1, hb1⟩
  go_wp2_with fail
  refine (l01Int_any _ _ 0 _ hS1 (by omega)).mono ?_
  rintro e w2 ⟨v2, rfl, hv2, hS2, hg2⟩
  have HV := Lib.hid hv2
  clear hv2
  go_wp2
  go_ret
  exact ⟨_, rfl, HV.out, hb1.grown hg2 hb1.size (fun k hk => by injection hk with hk; omega)⟩
theorem drawWord_any (w : World) (v : Value) (h : CodeIs w w.heap.size v) :
    Calls Try.prog 13 #[v] w (Drawn (Tx 199) w) := by
  have P2 : Hid (pickMax 200 = 199) := by show _ = _; decide
  have hv := h
  obtain ⟨A, len, cap, rfl, _⟩ := hv
  go_enter Try.func13, Try.ntmps13
  go_wp2_with fail
  refine (l00From_any _ _ h).mono ?_
  rintro e w1 ⟨rfl, hS1, hb1⟩
  go_wp2_with fail
  refine (word_any _ _ 0 200 _ hS1 (by omega) (by omega) (by omega)).mono ?_
  rintro e w2 ⟨v2, rfl, ⟨s, rfl, hs⟩, hS2, hg2⟩
  rw [P2.out] at hs
  go_wp2
  go_ret
  exact ⟨_, rfl, ⟨_, rfl, by omega⟩, hb1.grown hg2 hb1.size (fun k hk => by injection hk with hk; omega)⟩

theorem BytesAt.grown {w w' : World} {g b : Nat} {l : List Int} (h : BytesAt w b l) (hg : w.grownBy w' (some g)) (hne : b ≠ g) (hb : b < w.heap.size) : BytesAt w' b l := fun j hj => by
  have e := hg.block b hb (fun e => hne (by injection e))
  exact ⟨(World.cell?_of_block (w := w) (a := ⟨b, j, none⟩) e).trans (h j hj).1, (World.frozen?_of_block (w := w) (a := ⟨b, j, none⟩) e).trans (h j hj).2⟩
set_option maxRecDepth 100000 in
theorem damage_any (B g n : Nat) (t : ByteArray) (w : World) (h : Src w B g n) (hn : n ≤ 700000000000) (ht : t.size ≤ 300) :
    Calls Try.prog 37 #[.pointer (some ⟨g, 0, none⟩), .string t] w (Chose (Tx 400) B g (n + 3000) w) := by
  have hlt := h.lt
  have P6 : Hid (pickMax 6 = 5) := by show _ = _; decide
  have P3 : Hid (pickMax 3 = 2) := by show _ = _; decide
  have P8 : Hid (pickMax 8 = 7) := by show _ = _; decide
  go_enter Try.func37, Try.ntmps37
  go_wp2_with fail
  refine (pick_any B g n 6 _ h (by omega) (by omega) (by omega)).mono ?_
  rintro e w1 ⟨v1, rfl, ⟨x, rfl, hx0, hx1⟩, hS1, hg1⟩
  clear h hx1
  have hz1 := hg1.size
  by_cases h0 : x = 0
  · subst h0
    go_wp2_with fail
    refine (word_any B g (n + 2) 3 _ hS1 (by omega) (by omega) (by omega)).mono ?_
    rintro e w2 ⟨v2, rfl, ⟨s, rfl, hs⟩, hS2, hg2⟩
    rw [P3.out] at hs
    go_wp2
    go_ret
    exact ⟨_, rfl, ⟨_, rfl, by rw [ByteArray.size_append]; omega⟩, hS2.more (by omega), grown_trans hg1 hg2⟩
  · by_cases h1 : x = 1
    · subst h1
      have HP : Hid (pickMax ((t.size : Int) + 1) ≤ (t.size : Int)) := by show _ ≤ _; unfold pickMax; split <;> omega
      go_wp2_with fail
      refine (pick_any B g (n + 2) ((t.size : Int) + 1) _ hS1 (by omega) (by omega) (by omega)).mono ?_
      rintro e w2 ⟨v2, rfl, ⟨y, rfl, hy0, hy1⟩, hS2, hg2⟩
      obtain ⟨k, rfl⟩ := Int.eq_ofNat_of_zero_le hy0
      have hk : (k : Int) ≤ (t.size : Int) := by have := HP.out; omega
      clear hy1
      go_wp2
      go_ret
      exact ⟨_, rfl, ⟨_, rfl, by rw [ByteArray.size_extract]; omega⟩, hS2.more (by omega), grown_trans hg1 hg2⟩
    · by_cases h2 : x = 2 ∧ 0 < t.size
      · obtain ⟨rfl, hpos⟩ := h2
        have hpi : (0 : Int) < (t.size : Int) := by omega
        go_wp2_with (refine wpList_str_bytes rfl _ rfl t rfl (Below.refl _ _) (Nat.le_refl _) ?_; intro cap w2 hat hz2 hb2)
        have hS2 := hS1.keepB hb2 (by omega)
        have HP : Hid (pickMax (t.size : Int) ≤ (t.size : Int) - 1) := by show _ ≤ _; unfold pickMax; split <;> omega
        refine (pick_any B g (n + 2) (t.size : Int) _ hS2 (by omega) (by omega) (by omega)).mono ?_
        rintro e w3 ⟨v3, rfl, ⟨y, rfl, hy0, hy1⟩, hS3, hg3⟩
        obtain ⟨k, rfl⟩ := Int.eq_ofNat_of_zero_le hy0
        have hkI : (k : Int) < (t.size : Int) := by have := HP.out; omega
        clear hy1 hS1 hS2
        have hat3 := hat.grown hg3 (by omega) hz2
        clear hat
        go_wp2_with fail
        have hne : w1.heap.size ≠ g := by omega
        have hLl : (t.data.toList.map fun b => (b.toNat : Int)).length = t.size := by simp
        obtain ⟨L, hL⟩ : ∃ L, L = t.data.toList.map fun b => (b.toNat : Int) := ⟨_, rfl⟩
        rw [← hL] at hat3 hLl
        obtain ⟨z, hz⟩ : ∃ z, z = L.getD k 0 := ⟨_, rfl⟩
        have hc3 : w3.drew.cell? ⟨w1.heap.size, k, none⟩ = some (.int .u8 z) := by rw [hz]; exact (hat3 k (by omega)).1
        clear hL
        refine wp_region_held_drew (S := fun _ => True) (by kernel_rfl) trivial (fun hHeld => ?_)
        refine wpAnyH_take (i := 0) (oi := _) (v := .slice (some ⟨w1.heap.size, 0, none⟩) t.size cap) rfl (by kernel_rfl) (by kernel_rfl) (by kernel_rfl) (fun _ _ _ h => h) (Or.inl ⟨by rfl, fun w hSw => by go_simp⟩) hHeld ?_
        refine wpAnyH_take (i := 1) (oi := _) (v := .int .i64 (k : Int)) rfl (by kernel_rfl) (by kernel_rfl) (by kernel_rfl) (fun _ _ _ h => h) (Or.inl ⟨by rfl, fun w hSw => by go_simp⟩) hHeld ?_
        refine wpAnyH_take (i := 2) (oi := _) (v := .slice (some ⟨w1.heap.size, 0, none⟩) t.size cap) rfl (by kernel_rfl) (by kernel_rfl) (by kernel_rfl) (fun _ _ _ h => h) (Or.inl ⟨by rfl, fun w hSw => by go_simp⟩) hHeld ?_
        refine wpAnyH_take (i := 3) (oi := _) (v := .int .i64 (k : Int)) rfl (by kernel_rfl) (by kernel_rfl) (by kernel_rfl) (fun _ _ _ h => h) (Or.inl ⟨by rfl, fun w hSw => by go_simp⟩) hHeld ?_
        refine wpAnyH_take (i := 4) (oi := _) (v := .pointer (some ⟨w1.heap.size, k, none⟩)) rfl (by kernel_rfl) (by kernel_rfl) (by kernel_rfl) (fun _ _ _ h => h) (Or.inl ⟨by rfl, fun w hSw => by go_simp⟩) hHeld ?_
        refine wpAnyH_take (i := 6) (oi := _) (v := .pointer (some ⟨g, 0, none⟩)) rfl (by kernel_rfl) (by kernel_rfl) (by kernel_rfl) (fun _ _ _ h => h) (Or.inl ⟨by rfl, fun w hSw => by go_simp⟩) hHeld ?_
        refine wpAnyH_ready (rs := [5, 7]) (by kernel_rfl) (by simp) ?_
        refine AllReadyH.cons (o := _) rfl (fun K hK => ?_) (AllReadyH.cons (o := _) rfl (fun K hK => ?_) AllReadyH.nil)
        · go_simp
          refine hK.out _ _ trivial (fun hHeld => ?_)
          clear hK K
          refine wpAnyH_ready (rs := [7]) (by kernel_rfl) (by simp) ?_
          refine AllReadyH.cons (o := _) rfl (fun K hK => ?_) AllReadyH.nil
          go_simp
          go_at_call 46
          refine (pick_any B g (n + 4) 8 _ (show Src w3.drew B g (n + 4) from hS3) (by omega) (by omega) (by omega)).mono ?_
          rintro e w4 ⟨v4, rfl, ⟨q, rfl, hq0, hq1⟩, hS4, hg4⟩
          rw [P8.out] at hq1
          obtain ⟨j, rfl⟩ := Int.eq_ofNat_of_zero_le hq0
          have hj : (j : Int) ≤ 7 := hq1
          have hat4 := hat3.drew.grown hg4 hne (Nat.lt_of_lt_of_le hz2 hg3.size)
          have hgr4 := grown_trans (grown_drew hg3) hg4
          clear hq0
          refine hK.out _ _ trivial (fun hHeld => ?_)
          clear hK K
          refine wpAnyH_ready (rs := [8]) (by kernel_rfl) (by simp) ?_
          refine AllReadyH.cons (o := _) rfl (fun K hK => ?_) AllReadyH.nil
          go_simp
          refine hK.out _ _ trivial (fun hHeld => ?_)
          clear hK K
          refine wpAnyH_ready (rs := [9]) (by kernel_rfl) (by simp) ?_
          refine AllReadyH.cons (o := _) rfl (fun K hK => ?_) AllReadyH.nil
          go_simp
          refine hK.out _ _ trivial (fun hHeld => ?_)
          clear hK K
          refine wpAnyH_ready (rs := [10]) (by kernel_rfl) (by simp) ?_
          refine AllReadyH.cons (o := _) rfl (fun K hK => ?_) AllReadyH.nil
          go_simp
          refine hK.out _ _ trivial (fun hHeld => ?_)
          clear hK K
          refine wpAnyH_ready (rs := [11]) (by kernel_rfl) (by simp) ?_
          refine AllReadyH.cons (o := _) rfl (fun K hK => ?_) AllReadyH.nil
          go_simp
          refine hK.out _ _ trivial (fun hHeld => ?_)
          clear hK K
          refine wpAnyH_ready (rs := [12]) (by kernel_rfl) (by simp) ?_
          refine AllReadyH.cons (o := _) rfl (fun K hK => ?_) AllReadyH.nil
          have hc4 := (hat4 k (by omega)).1
          have hf4 := (hat4 k (by omega)).2
          go_simp
          refine hK.out _ _ trivial (fun hHeld => ?_)
          clear hK K
          refine wpAnyH_done (by kernel_rfl) ?_ _
          have hcv : ∀ E : Int, (Go.convert 22 9 (.slice (some ⟨w1.heap.size, 0, none⟩) t.size cap)).run Try.prog (w4.setCell ⟨w1.heap.size, k, none⟩ (.int .u8 E)) = .ok (.string (strOfNums (L.set k E))) (w4.setCell ⟨w1.heap.size, k, none⟩ (.int .u8 E)) := fun E => by
            have := (hat4.set_ (k := k) (by omega) E).str (cap := cap)
            rw [List.length_set, hLl] at this
            exact this
          go_wp2
          go_ret
          have G1 := grown_below hg1 (hb2.mono hz1)
          have G2 := grown_trans G1 hgr4
          exact ⟨_, rfl, ⟨_, rfl, by rw [strOfNums_size, List.length_set, hLl]; omega⟩, (hS4.keepB ((Below.refl w1.heap.size w4).setCell (p := ⟨w1.heap.size, k, none⟩) (Nat.le_refl _) _) (by omega)).more (by omega), grown_below G2 (((Below.refl w1.heap.size w4).setCell (p := ⟨w1.heap.size, k, none⟩) (Nat.le_refl _) _).mono hz1)⟩
        · go_simp
          go_at_call 46
          refine (pick_any B g (n + 4) 8 _ (show Src w3.drew B g (n + 4) from hS3) (by omega) (by omega) (by omega)).mono ?_
          rintro e w4 ⟨v4, rfl, ⟨q, rfl, hq0, hq1⟩, hS4, hg4⟩
          rw [P8.out] at hq1
          obtain ⟨j, rfl⟩ := Int.eq_ofNat_of_zero_le hq0
          have hj : (j : Int) ≤ 7 := hq1
          have hat4 := hat3.drew.grown hg4 hne (Nat.lt_of_lt_of_le hz2 hg3.size)
          have hgr4 := grown_trans (grown_drew hg3) hg4
          clear hq0
          have hc4 := (hat4 k (by omega)).1
          have hf4 := (hat4 k (by omega)).2
          refine hK.out _ _ trivial (fun hHeld => ?_)
          clear hK K
          refine wpAnyH_take (i := 8) (oi := _) (v := .int .u64 (IntKind.u64.wrap (j : Int))) rfl (by kernel_rfl) (by kernel_rfl) (by kernel_rfl) (fun _ _ _ h => h) (Or.inl ⟨by rfl, fun w hSw => by go_simp⟩) hHeld ?_
          refine wpAnyH_take (i := 9) (oi := _) (v := .int .u8 (IntKind.u8.wrap (2 ^ min (IntKind.u64.wrap (j : Int)).toNat 8))) rfl (by kernel_rfl) (by kernel_rfl) (by kernel_rfl) (fun _ _ _ h => h) (Or.inl ⟨by rfl, fun w hSw => by go_simp⟩) hHeld ?_
          refine wpAnyH_ready (rs := [5]) (by kernel_rfl) (by simp) ?_
          refine AllReadyH.cons (o := _) rfl (fun K hK => ?_) AllReadyH.nil
          go_simp
          refine hK.out _ _ trivial (fun hHeld => ?_)
          clear hK K
          refine wpAnyH_ready (rs := [10]) (by kernel_rfl) (by simp) ?_
          refine AllReadyH.cons (o := _) rfl (fun K hK => ?_) AllReadyH.nil
          go_simp
          refine hK.out _ _ trivial (fun hHeld => ?_)
          clear hK K
          refine wpAnyH_ready (rs := [11]) (by kernel_rfl) (by simp) ?_
          refine AllReadyH.cons (o := _) rfl (fun K hK => ?_) AllReadyH.nil
          go_simp
          refine hK.out _ _ trivial (fun hHeld => ?_)
          clear hK K
          refine wpAnyH_ready (rs := [12]) (by kernel_rfl) (by simp) ?_
          refine AllReadyH.cons (o := _) rfl (fun K hK => ?_) AllReadyH.nil
          go_simp
          refine hK.out _ _ trivial (fun hHeld => ?_)
          clear hK K
          refine wpAnyH_done (by kernel_rfl) ?_ _
          have hcv : ∀ E : Int, (Go.convert 22 9 (.slice (some ⟨w1.heap.size, 0, none⟩) t.size cap)).run Try.prog (w4.setCell ⟨w1.heap.size, k, none⟩ (.int .u8 E)) = .ok (.string (strOfNums (L.set k E))) (w4.setCell ⟨w1.heap.size, k, none⟩ (.int .u8 E)) := fun E => by
            have := (hat4.set_ (k := k) (by omega) E).str (cap := cap)
            rw [List.length_set, hLl] at this
            exact this
          go_wp2
          go_ret
          have G1 := grown_below hg1 (hb2.mono hz1)
          have G2 := grown_trans G1 hgr4
          exact ⟨_, rfl, ⟨_, rfl, by rw [strOfNums_size, List.length_set, hLl]; omega⟩, (hS4.keepB ((Below.refl w1.heap.size w4).setCell (p := ⟨w1.heap.size, k, none⟩) (Nat.le_refl _) _) (by omega)).more (by omega), grown_below G2 (((Below.refl w1.heap.size w4).setCell (p := ⟨w1.heap.size, k, none⟩) (Nat.le_refl _) _).mono hz1)⟩
      · by_cases e2 : x = 2
        · subst e2
          have hz0 : ¬ (0 : Int) < (t.size : Int) := by omega
          go_wp2
          go_ret
          exact ⟨_, rfl, ⟨t, rfl, by omega⟩, hS1.more (by omega), hg1⟩
        · have d0 : (x == 0) = false := by simpa using h0
          have d1 : (x == 1) = false := by simpa using h1
          have d2 : (x == 2) = false := by simpa using e2
          go_wp2
          go_ret
          exact ⟨_, rfl, ⟨t, rfl, by omega⟩, hS1.more (by omega), hg1⟩

theorem drawUv_any (w : World) (v : Value) (h : CodeIs w w.heap.size v) :
    Calls Try.prog 12 #[v] w (Drawn (Tx 400) w) := by
  have hv := h
  obtain ⟨A, len, cap, rfl, _⟩ := hv
  go_enter Try.func12, Try.ntmps12
  go_wp2_with fail
  refine (l00From_any _ _ h).mono ?_
  rintro e w1 ⟨rfl, hS1, hb1⟩
  go_wp2_with fail
  refine (one_any _ _ 0 4 _ hS1 (by omega) (by omega) (by omega)).mono ?_
  rintro e w2 ⟨v2, rfl, ⟨b, rfl⟩, hS2, hg2⟩
  have hb2 := hb1.grown hg2 hb1.size (fun k hk => by injection hk with hk; omega)
  have hlt2 := hS2.lt
  have hz2 := hb2.size
  clear hS1 hb1 hg2
  cases b
  · go_wp2_with fail
    refine (l01Int_any _ _ 2 _ hS2 (by omega)).mono ?_
    rintro e w3 ⟨v3, rfl, ⟨n, rfl, hn0, hn1⟩, hS3, hg3⟩
    have hb3 := hb2.grown hg3 hz2 (fun k hk => by injection hk with hk; omega)
    have hlt3 := hS3.lt
    clear hS2 hb2 hg3
    by_cases hn : n < 0
    · clear hn0 hn1
      go_wp2_with fail
      refine (specEncUv_no n _ hn).mono ?_
      rintro e w4 ⟨rfl, hb4⟩
      have hS4 := hS3.keepB hb4 hlt3
      have hb4' := hb3.trans (hb4.mono hb3.size)
      have hsz : (strOfNums []).size ≤ 300 := by rw [strOfNums_size]; simp
      go_wp2_with fail
      refine (damage_any _ _ _ _ _ hS4 (by omega) hsz).mono ?_
      rintro e w5 ⟨v5, rfl, ⟨s, rfl, hs⟩, hS5, hg5⟩
      go_wp2
      go_ret
      exact ⟨_, rfl, ⟨s, rfl, hs⟩, hb4'.grown hg5 hb4'.size (fun k hk => by injection hk with hk; omega)⟩
    · obtain ⟨m, rfl⟩ := Int.eq_ofNat_of_zero_le (show 0 ≤ n by omega)
      have h63 : m < 2 ^ 63 := by omega
      clear hn0 hn1 hn
      go_wp2_with fail
      refine (specEncUv_yes m _ h63).mono ?_
      rintro e w4 ⟨rfl, hb4⟩
      have hS4 := hS3.keepB hb4 hlt3
      have hb4' := hb3.trans (hb4.mono hb3.size)
      have hsz : (strOfNums (uv m)).size ≤ 300 := by rw [strOfNums_size]; have := uv_len h63; omega
      go_wp2_with fail
      refine (damage_any _ _ _ _ _ hS4 (by omega) hsz).mono ?_
      rintro e w5 ⟨v5, rfl, ⟨s, rfl, hs⟩, hS5, hg5⟩
      go_wp2
      go_ret
      exact ⟨_, rfl, ⟨s, rfl, hs⟩, hb4'.grown hg5 hb4'.size (fun k hk => by injection hk with hk; omega)⟩
  · have hne : w2.heap.size ≠ w.heap.size := by omega
    go_wp2_with fail
    refine (text_any 400 w.heap.size w.heap.size 2 w2.heap.size 6 6 _ ?_ (by omega) (by omega) (by omega) hne ?_).mono ?_
    · exact hS2.keep ((Below.refl _ _).alloc (Nat.le_refl _) _)
    · refine newTexts _ _ _ 6 400 rfl ?_
      intro v hv
      simp only [List.mem_cons, List.not_mem_nil, or_false] at hv
      rcases hv with rfl | rfl | rfl | rfl | rfl | rfl <;> exact ⟨_, rfl, by decide⟩
    rintro e w3 ⟨v3, rfl, ⟨s, rfl, hs⟩, hS3, hg3⟩
    go_wp2
    go_ret
    exact ⟨_, rfl, ⟨s, rfl, hs⟩, (hb2.alloc hz2 _).grown hg3 (by simp; omega) (fun k hk => by injection hk with hk; omega)⟩
end Go.Proofs.Ytopehpnelfbboaa
