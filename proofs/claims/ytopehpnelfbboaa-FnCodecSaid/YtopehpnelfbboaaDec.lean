/- DecodeUvarint, in the model and in the program: their contracts. -/
import Derived.Test.YtopehpnelfbboaaProg
import Derived.Test.YtopehpnelfbboaaChk
import Derived.Deep.RegionWith
namespace Go.Proofs.Ytopehpnelfbboaa
open Go.RowKit

/-- What DecodeUvarint returns. -/
def DecPost (s : ByteArray) (W : World) (e : Ending) (w' : World) : Prop :=
  e = .returned (.tuple #[.int .i64 (acc s (decUv s) : Nat), .int .i64 (decUv s : Nat), .bool (decide (0 < decUv s))]) ∧ Below W.heap.size W w'
theorem decPost_no {s : ByteArray} {W w' : World} (h : decUv s = 0) (hb : Below W.heap.size W w') : DecPost s W (.returned (.tuple #[.int .i64 0, .int .i64 0, .bool false])) w' := by
  refine ⟨?_, hb⟩; rw [h]; rfl
theorem decPost_yes' {s : ByteArray} {W w' : World} {k c : Nat} (h : decUv s = k + 1) (hc : c = k + 1) (hb : Below W.heap.size W w') : DecPost s W (.returned (.tuple #[.int .i64 (acc s (k + 1) : Nat), .int .i64 (c : Nat), .bool true])) w' := by
  refine ⟨?_, hb⟩; rw [h, hc]; simp
theorem decPost_yes {s : ByteArray} {W w' : World} {k : Nat} (h : decUv s = k + 1) (hb : Below W.heap.size W w') : DecPost s W (.returned (.tuple #[.int .i64 (acc s (k + 1) : Nat), .int .i64 (k + 1), .bool true])) w' := by
  refine ⟨?_, hb⟩; rw [h]; simp

theorem pad9_takeB_set {s : ByteArray} {k : Nat} (h : k < s.size) (h9 : k < 9) : (pad9 (takeB s k)).set k (byteAt s k : Int) = pad9 (takeB s (k + 1)) := by
  have e := pad9_set (l := takeB s k) (by rw [takeB_length (by omega)]; exact h9) (byteAt s k : Int)
  rw [takeB_length (by omega)] at e
  rw [takeB_succ h]; exact e

set_option maxRecDepth 100000 in
theorem implDecUv_any (s : ByteArray) (w : World) (hs : s.size ≤ 1048576) :
    Calls Try.prog 11 #[.string s] w (DecPost s w) := by
  by_cases h9s : 9 < (s.size : Int)
  all_goals
    go_enter Try.func11, Try.ntmps11
    go_wp2
    go_loopw [6, 11] (fun n i wr => ∃ (k f : Nat), k ≤ 9 ∧ k ≤ s.size ∧ f + k = 9 ∧ i = .int .i64 k ∧ n = .int .i64 (acc s k : Nat) ∧ Hid (decUv s = decF s (f + 1) k) ∧ Hid (∀ j, j < k → 128 ≤ byteAt s j) ∧ Arr wr w.heap.size 46 .u8 (pad9 (takeB s k)) ∧ Below w.heap.size w wr) (fun _ i _ => 9 - (intOf i).toNat)
    case atStart => exact ⟨0, 9, by omega, by omega, rfl, rfl, rfl, Lib.hid rfl, Lib.hid (fun j h => absurd h (by omega)), Arr.new w _ .u8 (pad9 []), (Below.refl _ _).alloc (Nat.le_refl _) _⟩
    case round =>
      obtain ⟨k, f, hk9, hk, hf, rfl, rfl, hd, hge, hA, hb⟩ := hrel
      by_cases hlt : k < s.size
      · by_cases h9 : k < 9
        · have hbk := byteAt_eq hlt
          have hl := byteAt_le s k
          have hst := acc_step s k s[k].toNat h9 hbk
          have hcell := hA.cell (j := k) (by rw [pad9_length (by rw [takeB_length (by omega)]; omega)]; exact h9)
          have hfree := hA.free k
          have hA' := hA.set_ k ((s[k].toNat : Nat) : Int)
          rw [hbk, pad9_takeB_set hlt h9, ← hbk] at hA'
          have hb' := hb.setCell (p := ⟨w.heap.size, k, none⟩) (Nat.le_refl _) (.int .u8 (s[k].toNat : Int))
          clear hA hb
          by_cases h128 : byteAt s k < 128
          · have h63 := acc_lt63 s (k := k + 1) (by omega)
            have hlen : (takeB s (k + 1)).length ≤ 9 := by rw [takeB_length (by omega)]; omega
            have henc := takeB_enc hlt h128 hge.out
            have hpad := pad9_enc (uv_enc 9 (acc s (k + 1)) (by rw [show (128 : Nat) ^ 9 = 2 ^ 63 by decide]; exact h63)) henc
            by_cases heq : uv (acc s (k + 1)) = takeB s (k + 1)
            · have hd' := Lib.hid (hd.out.trans (decF_yes hlt h9 h128 heq))
              have hp := Lib.hid (hpad.2 heq)
              have hcl := Lib.hid (takeB_length (s := s) (k := k + 1) (by omega))
              have hu := Lib.hid heq
              rw [← hbk] at h128 hl
              clear hbk hd hge heq hpad henc
              go_wp2_with (first
                | (refine wpList_load_row rfl 46 _ rfl _ rfl _ _ _ _ hA' Try.underlying46 rfl (info9' hlen) ?_)
                | (go_at_call 34; refine (checkGroups_yes (acc s (k + 1)) (pad9 (takeB s (k + 1))) _ h63 (pad9_length hlen) (pad9_bytes (takeB_bytes s (k + 1))) hp.out).mono ?_; rintro e w1 ⟨rfl, hb1⟩))
              go_ret3
              exact decPost_yes' hd'.out (by rw [hu.out, hcl.out]) (hb'.trans (hb1.mono hb'.size))
            · have hd' := Lib.hid (hd.out.trans (decF_no hlt h9 h128 heq))
              have hp := Lib.hid (fun h => heq (hpad.1 h))
              rw [← hbk] at h128 hl
              clear hbk hd hge heq hpad henc
              go_wp2_with (first
                | (refine wpList_load_row rfl 46 _ rfl _ rfl _ _ _ _ hA' Try.underlying46 rfl (info9' hlen) ?_)
                | (go_at_call 34; refine (checkGroups_no (acc s (k + 1)) (pad9 (takeB s (k + 1))) _ h63 (pad9_length hlen) (pad9_bytes (takeB_bytes s (k + 1))) hp.out).mono ?_; rintro e w1 ⟨rfl, hb1⟩))
              go_ret3
              exact decPost_no hd'.out (hb'.trans (hb1.mono hb'.size))
          · obtain ⟨f, rfl⟩ : ∃ g, f = g + 1 := ⟨f - 1, by omega⟩
            have hd' := Lib.hid (hd.out.trans (decF_next hlt h9 h128))
            have hge' : Hid (∀ j, j < k + 1 → 128 ≤ byteAt s j) := Lib.hid (fun j hj => by
              by_cases e : j = k
              · subst e; omega
              · exact hge.out j (by omega))
            rw [← hbk] at h128 hl
            clear hbk hd hge
            go_wp2
            go_roundw
            case rel => exact ⟨k + 1, f, by omega, by omega, by omega, by go_num, rfl, hd', hge', hA', hb'⟩
            case measure => simp [intOf]; omega
        · have hd' := Lib.hid (hd.out.trans (decF_end (fun h => h9 h.2)))
          clear hd
          first
          | (exfalso; omega)
          | (go_wp2
             go_ret3
             exact decPost_no hd'.out hb)
      · have hd' := Lib.hid (hd.out.trans (decF_end (fun h => hlt h.1)))
        clear hd
        first
        | (exfalso; omega)
        | (go_wp2
           go_ret3
           exact decPost_no hd'.out hb)
end Go.Proofs.Ytopehpnelfbboaa
