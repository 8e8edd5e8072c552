/- Decoding a codeword, in the model: the contracts. -/
import Derived.Test.YtegjppihopncoabDoorProg
import Derived.Test.YtegjppihopncoabDoorDecN
import Derived.Test.YtegjppihopncoabDoorEccS
import Derived.Test.YtegjppihopncoabDoorFlipS
namespace Go.Proofs.YtegjppihopncoabDoor
open Go.RowKit

theorem syn_ret (X S P : Nat) (w : World) (hX : X < 2 ^ 72) (hS : synN X = S) (hP : parN X = P) :
    Calls Tryd.prog 22 #[.string (wStr (lo X)), .int .i64 (hi X : Nat)] w fun e w' => e = .returned (.tuple #[.int .i64 S, .int .i64 P]) ∧ w = w' := by
  subst hS; subst hP; exact l03Syndrome_any X w hX
theorem l03Check_any (x : Nat) (w : World) (hx : x < 2 ^ 64) :
    Calls Tryd.prog 17 #[.string (wStr x)] w fun e w' => e = .returned (.int .i64 (chkN x : Nat)) ∧ w = w' := by
  have hl : lowN x < 128 := synN_lt x
  have h0 : x < 2 ^ 72 := by omega
  have h1 : x + 2 ^ 64 * lowN x < 2 ^ 72 := by omega
  have hp := parN_lt (x + 2 ^ 64 * lowN x)
  have A := fun (W : World) => syn_ret x (lowN x) (parN x) W h0 rfl rfl
  have B := fun (W : World) => syn_ret (x + 2 ^ 64 * lowN x) _ (parN (x + 2 ^ 64 * lowN x)) W h1 rfl rfl
  rw [show lo x = x by unfold lo; omega, show hi x = 0 by unfold hi; omega] at A
  rw [lo_of _ hx, hi_of _ hx] at B
  have hE := chk_or x
  generalize parN (x + 2 ^ 64 * lowN x) = P at *
  generalize synN (x + 2 ^ 64 * lowN x) = S at *
  generalize parN x = Q at *
  generalize chkN x = C at *
  generalize lowN x = L at *
  have HE : Hid (bits .or .i64 (L : Nat) ((P : Nat) * 128) = ((C : Nat) : Int)) := by
    show _ = _
    have e := i64_or_nat L (P * 128) (by omega) (by omega)
    rw [hE, Int.natCast_mul] at e
    exact e
  have HA := Lib.hid A
  have HB := Lib.hid B
  clear A B h0 h1 hE
  generalize wStr x = s at *
  clear hx
  go_enter Tryd.func17, Tryd.ntmps17
  go_wp2_with fail
  refine (HA.out _).mono ?_
  rintro e w' ⟨rfl, rfl⟩
  go_wp2_with fail
  refine (HB.out _).mono ?_
  rintro e w' ⟨rfl, rfl⟩
  go_wp2
  go_ret
  exact ⟨ret_int HE.out, rfl⟩
def DecPost (s : ByteArray) (n c : Int) (w : World) (e : Ending) (w' : World) : Prop := e = .returned (.tuple #[.string s, .int .i64 n, .int .i64 c]) ∧ Below w.heap.size w w'
theorem l03Decode_good (X : Nat) (w : World) (hX : X < 2 ^ 72) (h : good X = true) :
    Calls Tryd.prog 23 #[.string (wStr (lo X)), .int .i64 (hi X : Nat)] w (DecPost (wStr (lo X)) 0 0 w) := by
  obtain ⟨h1, h2⟩ := (good_iff X).1 h
  have HA := Lib.hid (fun (W : World) => syn_ret X 0 0 W hX h1 h2)
  clear h1 h2 h
  go_enter Tryd.func23, Tryd.ntmps23
  go_wp2_with (go_at_call 22; refine (HA.out _).mono ?_; rintro e w' ⟨rfl, rfl⟩)
  go_ret3
  exact ⟨rfl, Below.refl _ _⟩
theorem l03Decode_even (X : Nat) (w : World) (hX : X < 2 ^ 72) (h : synN X ≠ 0) (hp : parN X = 0) :
    Calls Tryd.prog 23 #[.string (wStr (lo X)), .int .i64 (hi X : Nat)] w (DecPost ⟨#[]⟩ 0 6 w) := by
  have HA := Lib.hid (fun (W : World) => syn_ret X _ 0 W hX rfl hp)
  have hb : ((synN X : Int) == 0) = false := by simp; omega
  clear hp h
  go_enter Tryd.func23, Tryd.ntmps23
  go_wp2_with (go_at_call 22; refine (HA.out _).mono ?_; rintro e w' ⟨rfl, rfl⟩)
  go_loop [9] (fun i => i = .int .i64 0) (fun _ => 0)
  case atStart => rfl
  case round =>
    obtain rfl := hrel
    go_wp2
    go_ret3
    exact ⟨rfl, Below.refl _ _⟩
/-- A round of the search, at a bit that is not the one. -/
theorem l03Decode_odd (X : Nat) (w : World) (hX : X < 2 ^ 72) (hp : parN X = 1) (R : ByteArray) (n c : Int) (m : Nat) (hm : m ≤ 72)
    (hlow : ∀ k, k < m → synN (X ^^^ 2 ^ k) ≠ 0 ∧ parN (X ^^^ 2 ^ k) = 0)
    (hend : (m = 72 ∧ R = ⟨#[]⟩ ∧ n = 0 ∧ c = 6) ∨ (m < 72 ∧ R = wStr (lo (X ^^^ 2 ^ m)) ∧ n = 1 ∧ c = 0 ∧ synN (X ^^^ 2 ^ m) = 0 ∧ parN (X ^^^ 2 ^ m) = 0)) :
    Calls Tryd.prog 23 #[.string (wStr (lo X)), .int .i64 (hi X : Nat)] w (DecPost R n c w) := by
  have HA := Lib.hid (fun (W : World) => syn_ret X _ 1 W hX rfl hp)
  have HF := Lib.hid (fun (k : Nat) (W : World) (hk : k < 72) => l03Flip_any X k W hX hk)
  have HS := Lib.hid (fun (k S P : Nat) (W : World) (hk : k < 72) (h1 : synN (X ^^^ 2 ^ k) = S) (h2 : parN (X ^^^ 2 ^ k) = P) => syn_ret (X ^^^ 2 ^ k) S P W (flip_lt hX hk) h1 h2)
  have HL := Lib.hid hlow
  have HE := Lib.hid hend
  clear hlow hend hp
  by_cases hz : (synN X : Int) == 0
  all_goals
    go_enter Tryd.func23, Tryd.ntmps23
    go_wp2_with (go_at_call 22; refine (HA.out _).mono ?_; rintro e w' ⟨rfl, rfl⟩)
    go_loopw [9] (fun i wr => ∃ k : Nat, k ≤ m ∧ i = .int .i64 k ∧ Below w.heap.size w wr) (fun i _ => m - (intOf i).toNat)
    case atStart => exact ⟨0, by omega, rfl, Below.refl _ _⟩
    case round =>
      obtain ⟨k, hk, rfl, hb⟩ := hrel
      have hz := hb.size
      by_cases hlt : k < m
      · have hk72 : k < 72 := by omega
        obtain ⟨h1, h2⟩ := HL.out k hlt
        obtain ⟨S, hS⟩ : ∃ S, S = synN (X ^^^ 2 ^ k) := ⟨_, rfl⟩
        rw [← hS] at h1
        have H1 := Lib.hid (fun (W : World) => HS.out k S 0 W hk72 hS.symm h2)
        have hbs : ((S : Int) == 0) = false := by simp; omega
        clear hS h1 h2
        go_wp2_with (first
          | (go_at_call 36; refine (HF.out k _ hk72).mono ?_; rintro e w1 ⟨rfl, hb1⟩)
          | (go_at_call 22; refine (H1.out _).mono ?_; rintro e w' ⟨rfl, rfl⟩))
        go_roundw
        case rel => exact ⟨k + 1, by omega, by go_num, hb.trans (hb1.mono hz)⟩
        case measure => simp [intOf]; omega
      · obtain rfl : k = m := by omega
        rcases HE.out with ⟨rfl, rfl, rfl, rfl⟩ | ⟨hk72, rfl, rfl, rfl, h1, h2⟩
        · go_wp2
          go_ret3
          exact ⟨rfl, hb⟩
        · have H1 := Lib.hid (fun (W : World) => HS.out k 0 0 W hk72 h1 h2)
          clear h1 h2 HE
          go_wp2_with (first
            | (go_at_call 36; refine (HF.out k _ hk72).mono ?_; rintro e w1 ⟨rfl, hb1⟩)
            | (go_at_call 22; refine (H1.out _).mono ?_; rintro e w' ⟨rfl, rfl⟩))
          go_ret3
          exact ⟨rfl, hb.trans (hb1.mono hz)⟩
theorem l03Decode_one (X : Nat) (w : World) (hX : X < 2 ^ 72) (h : One X) :
    Calls Tryd.prog 23 #[.string (wStr (lo X)), .int .i64 (hi X : Nat)] w (DecPost (wStr (lo (fixN X))) 1 0 w) :=
  l03Decode_odd X w hX h.1 _ _ _ (bitAt (synN X)) (Nat.le_of_lt (bitAt_lt h.2)) (fun _ hk => one_first h hk) (Or.inr ⟨bitAt_lt h.2, rfl, rfl, rfl, one_at h⟩)
theorem l03Decode_none (X : Nat) (w : World) (hX : X < 2 ^ 72) (h : good X = false) (h2 : ¬ One X) :
    Calls Tryd.prog 23 #[.string (wStr (lo X)), .int .i64 (hi X : Nat)] w (DecPost ⟨#[]⟩ 0 6 w) := by
  by_cases hp : parN X = 1
  · exact l03Decode_odd X w hX hp _ _ _ 72 (Nat.le_refl _) (fun _ hk => none_any hp (fun h3 => h2 ⟨hp, h3⟩) hk) (Or.inl ⟨rfl, rfl, rfl, rfl⟩)
  · have hp0 : parN X = 0 := by have := parN_lt X; omega
    exact l03Decode_even X w hX (fun e => by rw [(good_iff X).2 ⟨e, hp0⟩] at h; cases h) hp0
theorem specCheck_yes (x : Nat) (w : World) (hx : x < 2 ^ 64) :
    Calls Tryd.prog 7 #[.string (wStr x)] w fun e w' => e = .returned (.int .i64 (chkN x : Nat)) ∧ w = w' := by
  have HA := Lib.hid (fun (W : World) => l03Check_any x W hx)
  have hb : (((wStr x).size : Int) == 8) = true := by rw [wStr_size]; rfl
  have hb' : (((wStr x).size : Int) != 8) = false := by rw [wStr_size]; rfl
  generalize wStr x = s at *
  generalize chkN x = C at *
  go_enter Tryd.func7, Tryd.ntmps7
  go_wp2_with (go_at_call 17; refine (HA.out _).mono ?_; rintro e w' ⟨rfl, rfl⟩)
  go_ret
  exact ⟨rfl, rfl⟩
theorem specCheck_no (s : ByteArray) (w : World) (hs : s.size ≠ 8) :
    Calls Tryd.prog 7 #[.string s] w fun e w' => e = .returned (.int .i64 (-1)) ∧ w = w' := by
  have hb' : ((s.size : Int) != 8) = true := by simp; omega
  clear hs
  go_enter Tryd.func7, Tryd.ntmps7
  go_wp2
  go_ret
  exact ⟨rfl, rfl⟩
theorem specSyn_yes (X : Nat) (w : World) (hX : X < 2 ^ 72) :
    Calls Tryd.prog 9 #[.string (wStr (lo X)), .int .i64 (hi X : Nat)] w fun e w' => e = .returned (.tuple #[.int .i64 (synN X : Nat), .int .i64 (parN X : Nat)]) ∧ w = w' := by
  have HA := Lib.hid (fun (W : World) => syn_ret X _ _ W hX rfl rfl)
  have hh := hi_lt hX
  have HV := Lib.hid (fun (W : World) => l03Valid_yes (wStr (lo X)) (hi X : Nat) W (wStr_size _) (by omega))
  generalize wStr (lo X) = s at *
  generalize hi X = c at *
  generalize synN X = S at *
  generalize parN X = P at *
  go_enter Tryd.func9, Tryd.ntmps9
  go_wp2_with (first
    | (go_at_call 21; refine (HV.out _).mono ?_; rintro e w' ⟨rfl, rfl⟩)
    | (go_at_call 22; refine (HA.out _).mono ?_; rintro e w' ⟨rfl, rfl⟩))
  go_ret2
  exact ⟨rfl, rfl⟩
theorem specSyn_no (s : ByteArray) (c : Int) (w : World) (h : s.size ≠ 8 ∨ c < 0 ∨ 255 < c) :
    Calls Tryd.prog 9 #[.string s, .int .i64 c] w fun e w' => e = .returned (.tuple #[.int .i64 (-1), .int .i64 (-1)]) ∧ w = w' := by
  go_enter Tryd.func9, Tryd.ntmps9
  go_wp2_with (go_at_call 21; refine (l03Valid_no _ _ _ h).mono ?_; rintro e w' ⟨rfl, rfl⟩)
  go_ret2
  exact ⟨rfl, rfl⟩
theorem l03Decode_any (X : Nat) (R : ByteArray) (n c : Int) (w : World) (hX : X < 2 ^ 72) (h : Dec X R n c) :
    Calls Tryd.prog 23 #[.string (wStr (lo X)), .int .i64 (hi X : Nat)] w (DecPost R n c w) := by
  rcases h with ⟨h1, rfl, rfl, rfl⟩ | ⟨h1, h2, rfl, rfl, rfl⟩ | ⟨h1, h2, rfl, rfl, rfl⟩
  · exact l03Decode_good X w hX h1
  · exact l03Decode_one X w hX h2
  · exact l03Decode_none X w hX h1 h2
theorem specDec_yes (X : Nat) (R : ByteArray) (n c : Int) (w : World) (hX : X < 2 ^ 72) (h : Dec X R n c) :
    Calls Tryd.prog 11 #[.string (wStr (lo X)), .int .i64 (hi X : Nat)] w (DecPost R n c w) := by
  have HA := Lib.hid (fun (W : World) => l03Decode_any X R n c W hX h)
  have hh := hi_lt hX
  have HV := Lib.hid (fun (W : World) => l03Valid_yes (wStr (lo X)) (hi X : Nat) W (wStr_size _) (by omega))
  clear h
  generalize wStr (lo X) = s at *
  generalize hi X = k at *
  go_enter Tryd.func11, Tryd.ntmps11
  go_wp2_with (first
    | (go_at_call 21; refine (HV.out _).mono ?_; rintro e w' ⟨rfl, rfl⟩)
    | (go_at_call 23; refine (HA.out _).mono ?_; rintro e w' ⟨rfl, hb1⟩))
  go_ret3
  exact ⟨rfl, hb1⟩
theorem specDec_no (s : ByteArray) (c : Int) (w : World) (h : s.size ≠ 8 ∨ c < 0 ∨ 255 < c) :
    Calls Tryd.prog 11 #[.string s, .int .i64 c] w (DecPost ⟨#[]⟩ 0 1 w) := by
  go_enter Tryd.func11, Tryd.ntmps11
  go_wp2_with (go_at_call 21; refine (l03Valid_no _ _ _ h).mono ?_; rintro e w' ⟨rfl, rfl⟩)
  go_ret3
  exact ⟨rfl, Below.refl _ _⟩
end Go.Proofs.YtegjppihopncoabDoor
