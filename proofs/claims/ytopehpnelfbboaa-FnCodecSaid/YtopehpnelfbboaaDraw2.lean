/- Chapter 2's generators: a state, a page and a text. Only that each returns, within its bounds, is said. -/
import Derived.Test.YtopehpnelfbboaaProg
import Derived.Test.YtopehpnelfbboaaPick
import Derived.Deep.RegionHeld3
namespace Go.Proofs.Ytopehpnelfbboaa
open Go.RowKit

theorem newCells (w : World) (t : TypeId) (l : List Value) (n : Nat) (hn : l.length = n) {Q : Int → Prop} (h : ∀ v ∈ l, ∃ x : Int, v = .int .i64 x ∧ Q x) :
    ∀ i, i < n → ∃ x : Int, (w.alloc (.cells l.toArray t)).cell? ⟨w.heap.size, i, none⟩ = some (.int .i64 x) ∧ Q x := by
  intro i hi
  obtain ⟨x, hx, hq⟩ := h l[i] (List.getElem_mem (by omega))
  refine ⟨x, ?_, hq⟩
  rw [World.cell?_alloc_at _ _ _ _ rfl, ← hx]
  simp [hn, hi]
theorem l02Draw_any (B g n : Nat) (w : World) (h : Src w B g n) (hn : n ≤ 800000000000) :
    Calls Try.prog 39 #[.pointer (some ⟨g, 0, none⟩)] w (Chose (IntIn (-1) 65536) B g (n + 4) w) := by
  have hlt := h.lt
  have HP : Hid (pickMax 65535 = 65534) := by show _ = _; decide
  go_enter Try.func39, Try.ntmps39
  go_wp2_with fail
  refine (pick_any B g n 65535 _ h (by omega) (by omega) (by omega)).mono ?_
  rintro e w1 ⟨v1, rfl, ⟨x, rfl, hx0, hx1⟩, hS1, hg1⟩
  rw [HP.out] at hx1
  clear h
  have hz1 := hg1.size
  have hne : w1.heap.size ≠ g := by omega
  go_wp2_with fail
  refine (among_any (fun x => -1 ≤ x ∧ x ≤ 65536) B g (n + 2) w1.heap.size 11 11 _ ?_ (by omega) (by omega) (by omega) hne ?_).mono ?_
  · exact hS1.keep ((Below.refl _ _).alloc (Nat.le_refl _) _)
  · refine newCells _ _ _ 11 rfl ?_
    intro v hv
    simp only [List.mem_cons, List.not_mem_nil, or_false] at hv
    rcases hv with rfl | rfl | rfl | rfl | rfl | rfl | rfl | rfl | rfl | rfl | rfl <;> exact ⟨_, rfl, by constructor <;> omega⟩
  rintro e w2 ⟨v2, rfl, ⟨y, rfl, hy0, hy1⟩, hS2, hg2⟩
  go_wp2
  go_ret
  exact ⟨_, rfl, ⟨y, rfl, hy0, hy1⟩, hS2, grown_trans hg1 (grown_trans (World.grownBy_alloc w1 _ _) hg2)⟩

/-- What a generator does: it answers, and what was there before is as it was. -/
def Drawn (P : Value → Prop) (w : World) (e : Ending) (w' : World) : Prop := ∃ v, e = .returned v ∧ P v ∧ Below w.heap.size w w'
theorem drawStep_any (w : World) (v : Value) (h : CodeIs w w.heap.size v) :
    Calls Try.prog 18 #[v] w (Drawn (IntIn (-1) 65536) w) := by
  have hv := h
  obtain ⟨A, len, cap, rfl, _⟩ := hv
  go_enter Try.func18, Try.ntmps18
  go_wp2_with (first
    | (go_at_call 32; refine (l00From_any _ _ h).mono ?_; rintro e w1 ⟨rfl, hS1, hb1⟩)
    | (go_at_call 39; refine (l02Draw_any _ _ 0 _ hS1 (by omega)).mono ?_; rintro e w2 ⟨v2, rfl, ⟨y, rfl, hy0, hy1⟩, hS2, hg2⟩))
  go_ret
  exact ⟨_, rfl, ⟨y, rfl, hy0, hy1⟩, hb1.grown hg2 hb1.size (fun k hk => by injection hk with hk; omega)⟩
/-- make([]byte, n), as one step. -/
theorem wp_make_bytes {Q : Exit → Act → World → Prop} {K : Act → World → Prop} {o : Oper} {a : Act} {w : World} {B : Nat} (l c : Operand)
    (ho : o.op = Op.makeSlice 22 l c) (kl kc : IntKind) (n : Nat) (hl : a.eval l = .int kl (n : Int)) (hc : a.eval c = .int kc (n : Int)) (hn : n ≤ 140737488355328) (hB : B ≤ w.heap.size)
    (h : ∀ w', BytesOwn w' B (.slice (some ⟨w.heap.size, 0, none⟩) n n) (List.replicate n 0) → w.grownBy w' none → K (a.put o.dst (.slice (some ⟨w.heap.size, 0, none⟩) n n)) w') :
    o.wp Try.prog a w K Q := by
  obtain ⟨i0, hi, hz0, hz1, hz2⟩ := info_parts info8
  obtain ⟨w', hrun, r1, r2⟩ := run_make_full (P := Try.prog) w B 22 5 i0 (.int .u8 0) 1 Try.underlying22 hi hz0 hz1 kl kc n (by rw [hz2]; omega) (by unfold maxLen; omega) hB
  unfold Oper.wp
  simp [execOp, ho, hl, hc, hrun, Result.andThen]
  refine h w' ?_ r2
  have e : (madeCells (Value.int .u8 0).cells (n * 1)).toList = (List.replicate n (0 : Int)).map (Value.int .u8) := by
    show (madeCells #[Value.int .u8 0] (n * 1)).toList = _
    rw [toList_madeCells_one]; simp
  rw [e] at r1
  unfold BytesOwn; simpa using r1

def PageText (v : Value) : Prop := ∃ (p : Int) (s : ByteArray), v = .tuple #[.int .i64 p, .string s] ∧ -2 ≤ p ∧ p ≤ 65535 ∧ s.size ≤ 300
set_option maxRecDepth 100000 in
theorem drawScramble_any (w : World) (v : Value) (h : CodeIs w w.heap.size v) :
    Calls Try.prog 24 #[v] w (Drawn PageText w) := by
  have hP : Hid (pickMax 90 = 89) := by show _ = _; decide
  have hP2 : Hid (pickMax 2 = 1) := by show _ = _; decide
  have hv := h
  obtain ⟨A, len, cap, rfl, _⟩ := hv
  go_enter Try.func24, Try.ntmps24
  go_wp2_with fail
  refine (l00From_any _ _ h).mono ?_
  rintro e w1 ⟨rfl, hS1, hb1⟩
  go_wp2_with fail
  refine (l02Draw_any _ _ 0 _ hS1 (by omega)).mono ?_
  rintro e w2 ⟨v2, rfl, ⟨y, rfl, hy0, hy1⟩, hS2, hg2⟩
  go_wp2_with fail
  refine (one_any _ _ _ 12 _ hS2 (by omega) (by omega) (by omega)).mono ?_
  rintro e w3 ⟨v3, rfl, ⟨b, rfl⟩, hS3, hg3⟩
  have hb3 := (hb1.grown hg2 hb1.size (fun k hk => by injection hk with hk; omega)).grown hg3 (Nat.le_trans hb1.size hg2.size) (fun k hk => by injection hk with hk; omega)
  clear hS1 hb1 hS2 hg2 hg3
  have hz3 := hb3.size
  cases b
  · go_wp2_with fail
    refine (word_any _ _ _ 90 _ hS3 (by omega) (by omega) (by omega)).mono ?_
    rintro e w4 ⟨v4, rfl, ⟨s, rfl, hs⟩, hS4, hg4⟩
    rw [hP.out] at hs
    go_wp2
    go_ret2
    exact ⟨_, rfl, ⟨_, _, rfl, by omega, by omega, by omega⟩, hb3.grown hg4 hz3 (fun k hk => by injection hk with hk; omega)⟩
  · go_wp2_with fail
    refine wp_region_held_drew (S := fun _ => True) (by kernel_rfl) trivial (fun hHeld => ?_)
    refine wpAnyH_take (i := 0) (oi := _) (v := .int .i64 (y - 1)) rfl (by kernel_rfl) (by kernel_rfl) (by kernel_rfl) (fun _ _ _ h => h) (Or.inl ⟨by rfl, fun w hSw => by go_simp⟩) hHeld ?_
    refine wpAnyH_take (i := 1) (oi := _) (v := .pointer (some ⟨w.heap.size, 0, none⟩)) rfl (by kernel_rfl) (by kernel_rfl) (by kernel_rfl) (fun _ _ _ h => h) (Or.inl ⟨by rfl, fun w hSw => by go_simp⟩) hHeld ?_
    refine wpAnyH_ready (rs := [2]) (by kernel_rfl) (by simp) ?_
    refine AllReadyH.cons (o := _) rfl (fun K hK => ?_) AllReadyH.nil
    go_simp
    go_at_call 46
    refine (pick_any _ _ _ 2 _ (show Src w3.drew _ _ _ from hS3) (by omega) (by omega) (by omega)).mono ?_
    rintro e w4 ⟨v4, rfl, ⟨x, rfl, hx0, hx1⟩, hS4, hg4⟩
    rw [hP2.out] at hx1
    obtain ⟨m, rfl⟩ := Int.eq_ofNat_of_zero_le hx0
    have hm : m ≤ 1 := by omega
    have hb4 := hb3.drew.grown hg4 hz3 (fun k hk => by injection hk with hk; omega)
    clear hx0 hS3 hS4 hg4 hx1
    refine hK.out _ _ trivial (fun hHeld => ?_)
    clear hK K
    refine wpAnyH_take (i := 6) (oi := _) (v := .int .i64 (y - 1)) rfl (by kernel_rfl) (by kernel_rfl) (by kernel_rfl) (fun _ _ _ h => h) (Or.inl ⟨by rfl, fun w hSw => by go_simp⟩) hHeld ?_
    have s1 : IntKind.i64.wrap (256 + (m : Int)) = 256 + (m : Int) := IntWalk.i64_in _ (by omega)
    refine wpAnyH_ready (rs := [3]) (by kernel_rfl) (by simp) ?_
    refine AllReadyH.cons (o := _) rfl (fun K hK => ?_) AllReadyH.nil
    go_simp
    refine hK.out _ _ trivial (fun hHeld => ?_)
    clear hK K
    refine wpAnyH_ready (rs := [4]) (by kernel_rfl) (by simp) ?_
    refine AllReadyH.cons (o := _) rfl (fun K hK => ?_) AllReadyH.nil
    clear s1
    rw [if_pos (by rfl)]
    refine wp_make_bytes (B := w4.heap.size) (.tmp 16) (.tmp 16) rfl .i64 .i64 (256 + m) rfl rfl (by omega) (Nat.le_refl _) ?_
    intro w5 hown hg5
    refine hK.out _ _ trivial (fun hHeld => ?_)
    clear hK K
    have hcv := bytes_str hown
    refine wpAnyH_ready (rs := [5]) (by kernel_rfl) (by simp) ?_
    refine AllReadyH.cons (o := _) rfl (fun K hK => ?_) AllReadyH.nil
    go_simp
    refine hK.out _ _ trivial (fun hHeld => ?_)
    clear hK K
    refine wpAnyH_ready (rs := [7]) (by kernel_rfl) (by simp) ?_
    refine AllReadyH.cons (o := _) rfl (fun K hK => ?_) AllReadyH.nil
    go_simp
    refine hK.out _ _ trivial (fun hHeld => ?_)
    clear hK K
    refine wpAnyH_done (by kernel_rfl) ?_ _
    go_wp2
    go_ret2
    exact ⟨_, rfl, ⟨_, _, rfl, by omega, by omega, by rw [strOfNums_size, List.length_replicate]; omega⟩, hb4.grown hg5 hb4.size (fun k hk => by simp at hk)⟩
end Go.Proofs.Ytopehpnelfbboaa
