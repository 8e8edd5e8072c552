/- Decoding a codeword, in the model: the contracts. -/
import Derived.Test.YtfnhnekemjnliaaDoorProg
import Derived.Test.YtfnhnekemjnliaaDoorDecN
import Derived.Test.YtfnhnekemjnliaaDoorEccS
import Derived.Test.YtfnhnekemjnliaaDoorFlipS
namespace Go.Proofs.YtfnhnekemjnliaaDoor
open Go.RowKit

theorem syn_ret (X S P : Nat) (w : World) (hX : X < 2 ^ 72) (hS : synN X = S) (hP : parN X = P) :
    Calls Tryd.prog 65 #[.string (wStr (lo X)), .int .i64 (hi X : Nat)] w fun e w' => e = .returned (.tuple #[.int .i64 S, .int .i64 P]) ∧ w = w' := by
  subst hS; subst hP; exact l03Syndrome_any X w hX
def DecPost (s : ByteArray) (n c : Int) (w : World) (e : Ending) (w' : World) : Prop := e = .returned (.tuple #[.string s, .int .i64 n, .int .i64 c]) ∧ Below w.heap.size w w'
theorem l03Decode_good (X : Nat) (w : World) (hX : X < 2 ^ 72) (h : good X = true) :
    Calls Tryd.prog 54 #[.string (wStr (lo X)), .int .i64 (hi X : Nat)] w (DecPost (wStr (lo X)) 0 0 w) := by
  obtain ⟨h1, h2⟩ := (good_iff X).1 h
  have HA := Lib.hid (fun (W : World) => syn_ret X 0 0 W hX h1 h2)
  clear h1 h2 h
  go_enter Tryd.func54, Tryd.ntmps54
  go_wp2_with (go_at_call 65; refine (HA.out _).mono ?_; rintro e w' ⟨rfl, rfl⟩)
  go_ret3
  exact ⟨rfl, Below.refl _ _⟩
theorem l03Decode_even (X : Nat) (w : World) (hX : X < 2 ^ 72) (h : synN X ≠ 0) (hp : parN X = 0) :
    Calls Tryd.prog 54 #[.string (wStr (lo X)), .int .i64 (hi X : Nat)] w (DecPost ⟨#[]⟩ 0 6 w) := by
  have HA := Lib.hid (fun (W : World) => syn_ret X _ 0 W hX rfl hp)
  have hb : ((synN X : Int) == 0) = false := by simp; omega
  clear hp h
  go_enter Tryd.func54, Tryd.ntmps54
  go_wp2_with (go_at_call 65; refine (HA.out _).mono ?_; rintro e w' ⟨rfl, rfl⟩)
  go_loop [9] (fun i => i = .int .i64 0) (fun _ => 0)
  case atStart => rfl
  case round =>
    obtain rfl := hrel
    go_wp2
    go_ret3
    exact ⟨rfl, Below.refl _ _⟩
/-- A round of the search, at a bit that is not the one. -/
theorem l03Decode_odd (X : Nat) (w : World) (hX : X < 2 ^ 72) (hp : parN X = 1) (R : ByteArray) (n c : Int) (m : Nat) (hm : m ≤ 72)
    (hlow : ∀ k, k < m → synN (X ^^^ 2 ^ k) ≠ 0 ∧ parN (X ^^^ 2 ^ k) = 0)
    (hend : (m = 72 ∧ R = ⟨#[]⟩ ∧ n = 0 ∧ c = 6) ∨ (m < 72 ∧ R = wStr (lo (X ^^^ 2 ^ m)) ∧ n = 1 ∧ c = 0 ∧ synN (X ^^^ 2 ^ m) = 0 ∧ parN (X ^^^ 2 ^ m) = 0)) :
    Calls Tryd.prog 54 #[.string (wStr (lo X)), .int .i64 (hi X : Nat)] w (DecPost R n c w) := by
  have HA := Lib.hid (fun (W : World) => syn_ret X _ 1 W hX rfl hp)
  have HF := Lib.hid (fun (k : Nat) (W : World) (hk : k < 72) => l03Flip_any X k W hX hk)
  have HS := Lib.hid (fun (k S P : Nat) (W : World) (hk : k < 72) (h1 : synN (X ^^^ 2 ^ k) = S) (h2 : parN (X ^^^ 2 ^ k) = P) => syn_ret (X ^^^ 2 ^ k) S P W (flip_lt hX hk) h1 h2)
  have HL := Lib.hid hlow
  have HE := Lib.hid hend
  clear hlow hend hp
  by_cases hz : (synN X : Int) == 0
  all_goals
    go_enter Tryd.func54, Tryd.ntmps54
    go_wp2_with (go_at_call 65; refine (HA.out _).mono ?_; rintro e w' ⟨rfl, rfl⟩)
    go_loopw [9] (fun i wr => ∃ k : Nat, k ≤ m ∧ i = .int .i64 k ∧ Below w.heap.size w wr) (fun i _ => m - (intOf i).toNat)
    case atStart => exact ⟨0, by omega, rfl, Below.refl _ _⟩
    case round =>
      obtain ⟨k, hk, rfl, hb⟩ := hrel
      have hz := hb.size
      by_cases hlt : k < m
      · have hk72 : k < 72 := by omega
        obtain ⟨h1, h2⟩ := HL.out k hlt
        obtain ⟨S, hS⟩ : ∃ S, S = synN (X ^^^ 2 ^ k) := ⟨_, rfl⟩
        rw [← hS] at h1
        have H1 := Lib.hid (fun (W : World) => HS.out k S 0 W hk72 hS.symm h2)
        have hbs : ((S : Int) == 0) = false := by simp; omega
        clear hS h1 h2
        go_wp2_with (first
          | (go_at_call 66; refine (HF.out k _ hk72).mono ?_; rintro e w1 ⟨rfl, hb1⟩)
          | (go_at_call 65; refine (H1.out _).mono ?_; rintro e w' ⟨rfl, rfl⟩))
        go_roundw
        case rel => exact ⟨k + 1, by omega, by go_num, hb.trans (hb1.mono hz)⟩
        case measure => simp [intOf]; omega
      · obtain rfl : k = m := by omega
        rcases HE.out with ⟨rfl, rfl, rfl, rfl⟩ | ⟨hk72, rfl, rfl, rfl, h1, h2⟩
        · go_wp2
          go_ret3
          exact ⟨rfl, hb⟩
        · have H1 := Lib.hid (fun (W : World) => HS.out k 0 0 W hk72 h1 h2)
          clear h1 h2 HE
          go_wp2_with (first
            | (go_at_call 66; refine (HF.out k _ hk72).mono ?_; rintro e w1 ⟨rfl, hb1⟩)
            | (go_at_call 65; refine (H1.out _).mono ?_; rintro e w' ⟨rfl, rfl⟩))
          go_ret3
          exact ⟨rfl, hb.trans (hb1.mono hz)⟩
theorem l03Decode_one (X : Nat) (w : World) (hX : X < 2 ^ 72) (h : One X) :
    Calls Tryd.prog 54 #[.string (wStr (lo X)), .int .i64 (hi X : Nat)] w (DecPost (wStr (lo (fixN X))) 1 0 w) :=
  l03Decode_odd X w hX h.1 _ _ _ (bitAt (synN X)) (Nat.le_of_lt (bitAt_lt h.2)) (fun _ hk => one_first h hk) (Or.inr ⟨bitAt_lt h.2, rfl, rfl, rfl, one_at h⟩)
theorem l03Decode_none (X : Nat) (w : World) (hX : X < 2 ^ 72) (h : good X = false) (h2 : ¬ One X) :
    Calls Tryd.prog 54 #[.string (wStr (lo X)), .int .i64 (hi X : Nat)] w (DecPost ⟨#[]⟩ 0 6 w) := by
  by_cases hp : parN X = 1
  · exact l03Decode_odd X w hX hp _ _ _ 72 (Nat.le_refl _) (fun _ hk => none_any hp (fun h3 => h2 ⟨hp, h3⟩) hk) (Or.inl ⟨rfl, rfl, rfl, rfl⟩)
  · have hp0 : parN X = 0 := by have := parN_lt X; omega
    exact l03Decode_even X w hX (fun e => by rw [(good_iff X).2 ⟨e, hp0⟩] at h; cases h) hp0
theorem l03Decode_any (X : Nat) (R : ByteArray) (n c : Int) (w : World) (hX : X < 2 ^ 72) (h : Dec X R n c) :
    Calls Tryd.prog 54 #[.string (wStr (lo X)), .int .i64 (hi X : Nat)] w (DecPost R n c w) := by
  rcases h with ⟨h1, rfl, rfl, rfl⟩ | ⟨h1, h2, rfl, rfl, rfl⟩ | ⟨h1, h2, rfl, rfl, rfl⟩
  · exact l03Decode_good X w hX h1
  · exact l03Decode_one X w hX h2
  · exact l03Decode_none X w hX h1 h2
end Go.Proofs.YtfnhnekemjnliaaDoor
