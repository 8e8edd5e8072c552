/- A word with unknown bits, in the model: the contracts; the law's helper toInt64S. -/
import Derived.Test.YtegjppihopncoabDoorProg
import Derived.Test.YtegjppihopncoabDoorErI
import Derived.Test.YtegjppihopncoabDoorDecS
import Derived.RegionTactic
import Derived.Deep.RegionHeld3
import Derived.BigQuiet
import Derived.Deep.QuietTactic
namespace Go.Proofs.YtegjppihopncoabDoor
open Go.RowKit

theorem wpList_make_ints {Q : Exit → Act → World → Prop} {ops : Array Oper} {rest : List Oper} {o : Oper} {a : Act} {w0 w : World} {B : Nat} (hgd : o.guard = none) (l c : Operand)
    (ho : o.op = Op.makeSlice 29 l c) (n : Nat) (hl : a.eval l = .int .i64 (n : Int)) (hc : a.eval c = .int .i64 (n : Int)) (hn : n ≤ 1048576)
    (hb : Below B w0 w) (hB : B ≤ w.heap.size)
    (h : ∀ w', IntsOwn w' B (.slice (some ⟨w.heap.size, 0, none⟩) n n) (List.replicate n 0) → Below B w0 w' → wpList Tryd.prog ops Q rest (a.put o.dst (.slice (some ⟨w.heap.size, 0, none⟩) n n)) w') :
    wpList Tryd.prog ops Q (o :: rest) a w := by
  obtain ⟨i0, hi, hz0, hz1, hz2⟩ := info_parts info64
  refine wpList_make_full w hgd l c _ ho B 2 i0 (.int .i64 0) 1 Tryd.underlying29 hi hz0 hz1 .i64 .i64 (n : Int) (n : Int) n hl hc rfl rfl (by rw [hz2]; omega) (by unfold maxLen; omega) hB ?_
  intro w' h1 h2
  refine h w' ?_ (hb.grown h2 hB fun k hk => by simp at hk)
  have e : (madeCells (Value.int .i64 0).cells (n * 1)).toList = (List.replicate n (0 : Int)).map (Value.int .i64) := by
    show (madeCells #[Value.int .i64 0] (n * 1)).toList = _
    rw [toList_madeCells_one]; simp
  rw [e] at h1
  unfold IntsOwn; simpa using h1
def CopyPost (L : List Int) (w : World) (e : Ending) (w' : World) : Prop := ∃ v, e = .returned v ∧ IntsOwn w' w.heap.size v L ∧ Below w.heap.size w w'
theorem take_set (L : List Int) (k : Nat) (h : k < L.length) : (L.take k ++ List.replicate (L.length - k) 0).set k (L.getD k 0) = L.take (k + 1) ++ List.replicate (L.length - (k + 1)) 0 := by
  rw [List.set_append_right _ _ (by simp; omega), List.length_take, Nat.min_eq_left (by omega), Nat.sub_self, show L.length - k = (L.length - (k + 1)) + 1 by omega, List.replicate_succ, List.set_cons_zero, List.take_succ_eq_append_getElem h, List.append_assoc, List.getD_eq_getElem?_getD, List.getElem?_eq_getElem h]; rfl
theorem toInts_any (u : Value) (L : List Int) (w : World) (hu : IntsR w u L) (hl : L.length ≤ 1048576) :
    Calls Tryd.prog 14 #[u] w (CopyPost L w) := by
  obtain ⟨A, n, cap, rfl, hlc, hcm, hn, hA⟩ := hu
  have hnm : (n : Int) ≤ 1048576 := by omega
  rcases Nat.eq_zero_or_pos n with h0 | h0
  · subst h0
    obtain rfl : L = [] := List.eq_nil_of_length_eq_zero hn
    clear hA hn hlc hcm
    go_enter Tryd.func14, Tryd.ntmps14
    go_wp2_with (refine wpList_make_ints rfl _ _ rfl 0 rfl rfl (by omega) (Below.refl w.heap.size w) (Nat.le_refl _) ?_; intro w1 hown hb)
    go_loop [4] (fun i => i = .int .i64 0) (fun _ => 0)
    case atStart => rfl
    case round =>
      obtain rfl := hrel
      go_wp2
      go_ret
      exact ⟨_, rfl, hown, hb⟩
  · obtain ⟨b, off, rfl, hbl, hx⟩ := hA h0
    have HX := Lib.hid hx
    have HN := Lib.hid hn
    clear hA hx hn hlc hcm
    go_enter Tryd.func14, Tryd.ntmps14
    go_wp2_with (refine wpList_make_ints rfl _ _ rfl n rfl rfl (by omega) (Below.refl w.heap.size w) (Nat.le_refl _) ?_; intro w1 hown hb)
    go_loopw [4] (fun i wr => ∃ k : Nat, k ≤ n ∧ i = .int .i64 k ∧ IntsOwn wr w.heap.size (.slice (some ⟨w.heap.size, 0, none⟩) n n) (L.take k ++ List.replicate (n - k) 0) ∧ Below w.heap.size w wr) (fun i _ => n - (intOf i).toNat)
    case atStart => exact ⟨0, by omega, rfl, by simpa using hown, hb⟩
    case round =>
      clear hown hb
      obtain ⟨k, hk, rfl, hown, hb⟩ := hrel
      have hN := HN.out
      have hlen : (L.take k ++ List.replicate (n - k) 0).length = n := by simp; omega
      by_cases hlt : k < n
      · have hki : (k : Int) < (n : Int) := by omega
        have c1 := (hb.cell (p := ⟨b, off + k, none⟩) hbl).trans (HX.out k hlt)
        have c2 := hown.cell (j := k) hlen hlt
        have f2 := hown.free hlen k
        have hs := hown.stored hlen k (L.getD k 0)
        have hse := take_set L k (by omega)
        rw [hN] at hse
        rw [hse] at hs
        have hb2 := hb.setCell (p := ⟨w.heap.size, k, none⟩) (Nat.le_refl _) (.int .i64 (L.getD k 0))
        clear hown hb hN hlen hse
        generalize L.getD k 0 = x at *
        go_wp2
        go_roundw
        case rel => exact ⟨k + 1, by omega, by go_num, hs, hb2⟩
        case measure => simp [intOf]; omega
      · obtain rfl : k = n := by omega
        rw [Nat.sub_self, List.replicate_zero, List.append_nil, List.take_of_length_le (by omega)] at hown
        clear hN hlen
        go_wp2
        go_ret
        exact ⟨_, rfl, hown, hb⟩
/-- The run up to m: all, or the first that is not in order. -/
theorem rising_run (v : Value) (l : List Int) (m : Nat) (b : Bool) (w : World) (hv : IntsR w v l) (h3 : l.length ≤ 3) (hm : m ≤ l.length) (hp : ∀ i, i < m → OkAt l i) (hE : (m = l.length ∧ b = true) ∨ (m < l.length ∧ ¬ OkAt l m ∧ b = false)) :
    Calls Tryd.prog 26 #[v] w fun e w' => e = .returned (.bool b) ∧ Below w.heap.size w w' := by
  obtain ⟨A, n, cap, rfl, hlc, hcm, hn, hA⟩ := hv
  have hn3 : (n : Int) ≤ 3 := by omega
  rcases Nat.eq_zero_or_pos n with h0 | h0
  · subst h0
    have hb : b = true := by
      rcases hE with ⟨_, h⟩ | ⟨h, _⟩
      · exact h
      · omega
    subst hb
    clear hA hlc hcm hp hE hm h3
    go_enter Tryd.func26, Tryd.ntmps26
    go_wp2
    go_loop [3] (fun i => i = .int .i64 0) (fun _ => 0)
    case atStart => rfl
    case round =>
      obtain rfl := hrel
      go_wp2
      go_ret
      exact ⟨rfl, Below.refl _ _⟩
  · obtain ⟨bl, off, rfl, hbl, hx⟩ := hA h0
    have HX := Lib.hid hx
    have HP := Lib.hid hp
    have HE := Lib.hid hE
    have HN := Lib.hid hn
    clear hA hx hlc hcm hp hE
    go_enter Tryd.func26, Tryd.ntmps26
    go_wp2
    go_loopw [3] (fun i wr => ∃ k : Nat, k ≤ m ∧ i = .int .i64 k ∧ Below w.heap.size w wr) (fun i _ => n - (intOf i).toNat)
    case atStart => exact ⟨0, by omega, rfl, Below.refl _ _⟩
    case round =>
      obtain ⟨k, hk, rfl, hb⟩ := hrel
      by_cases hlt : k < n
      · have hki : (k : Int) < (n : Int) := by omega
        have hc := (hb.cell (p := ⟨bl, off + k, none⟩) hbl).trans (HX.out k hlt)
        obtain ⟨x, hx⟩ : ∃ x, x = l.getD k 0 := ⟨_, rfl⟩
        rw [← hx] at hc
        by_cases hr : 0 ≤ x ∧ x ≤ 71
        · obtain ⟨r1, r2⟩ := hr
          by_cases hk0 : k = 0
          · subst hk0
            rw [Nat.add_zero] at hc
            have hok : OkAt l 0 := ⟨by rw [← hx]; exact r1, by rw [← hx]; exact r2, fun h => by omega⟩
            have hlm : 0 < m := by
              rcases HE.out with ⟨h, _⟩ | ⟨_, h, _⟩
              · have := HN.out; omega
              · rcases Nat.eq_zero_or_pos m with e | e
                · rw [e] at h; exact absurd hok h
                · exact e
            clear hx hok
            go_wp2
            go_quiet (first | (go_at_call 33; refine Calls.quiet_of_same ((l00In_yes _ _ _ _ r1 r2).mono fun e w' h => ⟨h.1, h.2.symm⟩)))
            go_wp2
            go_roundw
            case rel => exact ⟨1, by omega, by go_num, ⟨hb.os, hb.tape, hb.output, hb.size, hb.block⟩⟩
            case measure => simp [intOf]; omega
          · obtain ⟨kk, hkk⟩ : ∃ kk, k = kk + 1 := ⟨k - 1, by omega⟩
            have hkki : (k : Int) - 1 = (kk : Int) := by omega
            have hk1 : (0 : Int) < (k : Int) := by omega
            have hkn : (kk : Int) < (n : Int) := by omega
            have hd0 : decide ((k : Int) > 0) = true := by simp; omega
            have hd1 : decide (0 < k) = true := by simp; omega
            have hkN : 0 < k := by omega
            have hc2 := (hb.cell (p := ⟨bl, off + kk, none⟩) hbl).trans (HX.out kk (by omega))
            obtain ⟨y, hy⟩ : ∃ y, y = l.getD kk 0 := ⟨_, rfl⟩
            rw [← hy] at hc2
            by_cases hyx : y < x
            · have hok : OkAt l k := ⟨by rw [← hx]; exact r1, by rw [← hx]; exact r2, fun _ => by rw [show k - 1 = kk by omega, ← hy, ← hx]; exact hyx⟩
              have hlm : k < m := by
                rcases HE.out with ⟨h, _⟩ | ⟨_, h, _⟩
                · have := HN.out; omega
                · rcases Nat.lt_or_ge k m with e | e
                  · exact e
                  · rw [show m = k by omega] at h; exact absurd hok h
              have hd2 : decide (y ≥ x) = false := by simp; omega
              have hd3 : decide (x ≤ y) = false := by simp; omega
              clear hx hy hok hkk
              go_wp2
              go_quiet (first | (go_at_call 33; refine Calls.quiet_of_same ((l00In_yes _ _ _ _ r1 r2).mono fun e w' h => ⟨h.1, h.2.symm⟩)))
              go_wp2
              go_roundw
              case rel => exact ⟨k + 1, by omega, by go_num, ⟨hb.os, hb.tape, hb.output, hb.size, hb.block⟩⟩
              case measure => simp [intOf]; omega
            · have hno : ¬ OkAt l k := fun h => hyx (by have := h.2.2 (by omega); rw [show k - 1 = kk by omega, ← hy, ← hx] at this; exact this)
              have hbf : b = false := by
                rcases HE.out with ⟨h, _⟩ | ⟨_, _, h⟩
                · exact absurd (HP.out k (by have := HN.out; omega)) hno
                · exact h
              have hd2 : decide (y ≥ x) = true := by simp; omega
              have hd3 : decide (x ≤ y) = true := by simp; omega
              have hd4 : x ≤ y := by omega
              subst hbf
              clear hx hy hno hkk
              go_wp2
              go_quiet (first | (go_at_call 33; refine Calls.quiet_of_same ((l00In_yes _ _ _ _ r1 r2).mono fun e w' h => ⟨h.1, h.2.symm⟩)))
              go_wp2
              go_ret
              exact ⟨rfl, ⟨hb.os, hb.tape, hb.output, hb.size, hb.block⟩⟩
        · have hno : ¬ OkAt l k := fun h => hr ⟨by rw [hx]; exact h.1, by rw [hx]; exact h.2.1⟩
          have hbf : b = false := by
            rcases HE.out with ⟨h, _⟩ | ⟨_, _, h⟩
            · exact absurd (HP.out k (by have := HN.out; omega)) hno
            · exact h
          have hr2 : x < 0 ∨ 71 < x := by omega
          subst hbf
          clear hx hno hr
          go_wp2
          go_quiet (first | (go_at_call 33; refine Calls.quiet_of_same ((l00In_no _ _ _ _ hr2).mono fun e w' h => ⟨h.1, h.2.symm⟩)))
          go_wp2
          go_ret
          exact ⟨rfl, ⟨hb.os, hb.tape, hb.output, hb.size, hb.block⟩⟩
      · obtain rfl : k = n := by omega
        rcases HE.out with ⟨h, rfl⟩ | ⟨h, _⟩
        · go_wp2
          go_ret
          exact ⟨rfl, hb⟩
        · have := HN.out; omega
theorem rising_any (v : Value) (l : List Int) (b : Bool) (w : World) (hv : IntsR w v l) (h3 : l.length ≤ 3) (hb : (b = true ∧ Rising l) ∨ (b = false ∧ ¬ Rising l)) :
    Calls Tryd.prog 26 #[v] w fun e w' => e = .returned (.bool b) ∧ Below w.heap.size w w' := by
  rcases hb with ⟨rfl, hr⟩ | ⟨rfl, h⟩
  · exact rising_run v l l.length true w hv h3 (Nat.le_refl _) hr (.inl ⟨rfl, rfl⟩)
  · rcases first_not l with hr | ⟨m, hm, hp, hno⟩
    · exact absurd hr h
    · exact rising_run v l m false w hv h3 (by omega) hp (.inr ⟨hm, hno, rfl⟩)
end Go.Proofs.YtegjppihopncoabDoor
