/- Opening a page, in the model and in the program: the contracts. -/
import Derived.Test.YthenilomgbnpeaaDoorProg
import Derived.Test.YthenilomgbnpeaaDoorSl
import Derived.Test.YthenilomgbnpeaaDoorDecE
import Derived.Test.YthenilomgbnpeaaDoorOnes
namespace Go.Proofs.YthenilomgbnpeaaDoor
open Go.RowKit
set_option linter.unusedVariables false
theorem results_tmp4 {fn : Func} {t u v x : Tmp} (h : fn.results = #[.tmp t, .tmp u, .tmp v, .tmp x]) (tmps : Array Value) (P : Program) (w : World) :
    (results fn tmps).run P w = .ok (.tuple #[tmps.getD t undef, tmps.getD u undef, tmps.getD v undef, tmps.getD x undef]) w := by
  simp [results, h]
/-- How many bits of the mark are wrong. -/
def mkErr (raw : ByteArray) : Nat := onesF 8 (byteAt raw 90 ^^^ 90)
def bodyOf (raw : ByteArray) : ByteArray := raw.extract 0 80
def chksOf (raw : ByteArray) : ByteArray := raw.extract 80 90
theorem bodyOf_size {raw : ByteArray} (h : raw.size = 91) : (bodyOf raw).size = 80 := by unfold bodyOf; rw [ByteArray.size_extract]; omega
theorem chksOf_size {raw : ByteArray} (h : raw.size = 91) : (chksOf raw).size = 10 := by unfold chksOf; rw [ByteArray.size_extract]; omega
/-- What OpenPage answers. -/
inductive OpenEnds (raw : ByteArray) (p : Int) : ByteArray → ByteArray → Int → Int → Prop
  | invalid (h : raw.size ≠ 91) : OpenEnds raw p ⟨#[]⟩ ⟨#[]⟩ 0 1
  | range (h : raw.size = 91) (h1 : ¬ (0 ≤ p ∧ p ≤ 65534)) : OpenEnds raw p ⟨#[]⟩ ⟨#[]⟩ 0 2
  | mark (h : raw.size = 91) (h1 : 0 ≤ p ∧ p ≤ 65534) (h2 : 1 < mkErr raw) : OpenEnds raw p ⟨#[]⟩ ⟨#[]⟩ 0 6
  | bad (h : raw.size = 91) (h1 : 0 ≤ p ∧ p ≤ 65534) (h2 : mkErr raw ≤ 1) (m : Nat) (hm : m ≤ 10) (hok : ∀ k, k < m → okX (cwX (bodyOf raw) (chksOf raw) k)) (R : ByteArray) (t : Int) (he : EccEnds (bodyOf raw) (chksOf raw) 10 m R t 6) : OpenEnds raw p ⟨#[]⟩ ⟨#[]⟩ 0 6
  | done (h : raw.size = 91) (n : Nat) (hn : p = n) (h1 : n ≤ 65534) (h2 : mkErr raw ≤ 1) (m : Nat) (hm : m ≤ 10) (hok : ∀ k, k < m → okX (cwX (bodyOf raw) (chksOf raw) k)) (R : ByteArray) (t : Nat) (ht : t ≤ 100) (hR : R.size = 80) (he : EccEnds (bodyOf raw) (chksOf raw) 10 m R (t : Int) 0) :
      OpenEnds raw p ((scrB R n).extract 0 64) ((scrB R n).extract 64 80) ((t : Int) + (mkErr raw : Nat)) 0
def OpenPost (d s : ByteArray) (n c : Int) (w : World) (e : Ending) (w' : World) : Prop := e = .returned (.tuple #[.string d, .string s, .int .i64 n, .int .i64 c]) ∧ Below w.heap.size w w'
theorem mkErr_le (raw : ByteArray) : mkErr raw ≤ 8 := onesF_le _ _
set_option maxRecDepth 100000 in
theorem implOpen_any (raw : ByteArray) (p : Int) (d s : ByteArray) (n c : Int) (w : World) (h : OpenEnds raw p d s n c) (hraw : raw.size ≤ 9223372036854775807) (hT : MaskTab w) :
    Calls Tryd.prog 11 #[.string raw, .int .i64 p] w (OpenPost d s n c w) := by
  by_cases h9 : raw.size = 91
  case neg =>
    have hd : ((raw.size : Int) != 91) = true := by simp; omega
    rcases h with _ | ⟨h, _⟩ | ⟨h, _⟩ | ⟨h, _⟩ | ⟨h, _⟩
    · go_enter Tryd.func11, Tryd.ntmps11
      go_wp2
      exact bodyPost_ret (results_tmp4 rfl _ _ _) rfl ⟨rfl, Below.refl _ _⟩
    all_goals exact absurd h h9
  have hd : ((raw.size : Int) != 91) = false := by rw [h9]; rfl
  by_cases hp : 0 ≤ p ∧ p ≤ 65534
  case neg =>
    have HV := Lib.hid (validAddr_any p false w (by simp; omega))
    rcases h with h | ⟨h, _⟩ | ⟨_, h, _⟩ | ⟨_, h, _⟩ | ⟨_, k, rfl, h, _⟩
    · exact absurd h9 h
    · clear h9 hp
      go_enter Tryd.func11, Tryd.ntmps11
      go_wp2_with fail
      refine HV.out.mono ?_
      rintro e w' ⟨rfl, rfl⟩
      go_wp2
      exact bodyPost_ret (results_tmp4 rfl _ _ _) rfl ⟨rfl, Below.refl _ _⟩
    · exact absurd h hp
    · exact absurd h hp
    · exact absurd ⟨by omega, by omega⟩ hp
  have HV := Lib.hid (validAddr_any p true w (by simp; omega))
  have hb9 : byteAt raw 90 < 256 := by have := byteAt_le raw 90; omega
  have hxl : byteAt raw 90 ^^^ 90 < 2 ^ 8 := Nat.xor_lt_two_pow (by omega) (by omega)
  have hx : bits .xor .u8 (byteAt raw 90 : Int) 90 = ((byteAt raw 90 ^^^ 90 : Nat) : Int) := u8_xor_nat _ 90 (by omega) (by omega)
  have HO := Lib.hid (fun (W : World) => (show Calls Tryd.prog 18 #[.int .u8 (bits .xor .u8 (byteAt raw 90 : Int) 90)] W fun e w' => e = .returned (.int .i64 (mkErr raw : Nat)) ∧ W = w' from by rw [hx]; exact onesCount8_any (byteAt raw 90 ^^^ 90) W (by omega)))
  have HX := Lib.hid (show ∀ W : World, (Instr.index 9 (.string raw) (.int .i64 90)).run Tryd.prog W = .ok (.int .u8 (byteAt raw 90 : Int)) W from fun W => byteIdx raw 90 (by omega) W)
  have hx90 := HX.out w
  have hme := mkErr_le raw
  clear hxl hx hb9
  have HT := Lib.hid hT
  have HME := Lib.hid h
  clear hT h
  generalize hmm : mkErr raw = me at *
  have HMM := Lib.hid hmm
  clear hmm
  have hmi : (me : Int) ≤ 8 := by omega
  go_enter Tryd.func11, Tryd.ntmps11
  go_wp2_with fail
  refine HV.out.mono ?_
  rintro e w' ⟨rfl, rfl⟩
  by_cases hm1 : 1 < me
  · have hmi2 : (1 : Int) < (me : Int) := by omega
    have hres : d = ⟨#[]⟩ ∧ s = ⟨#[]⟩ ∧ n = 0 ∧ c = 6 := by
      have hq := HMM.out
      rcases HME.out with h | ⟨h, h1⟩ | ⟨h, h1, h2⟩ | ⟨h, h1, h2, _⟩ | ⟨_, _, _, _, h2, _⟩
      · exact absurd h9 h
      · exact absurd hp h1
      · exact ⟨rfl, rfl, rfl, rfl⟩
      · omega
      · omega
    obtain ⟨rfl, rfl, rfl, rfl⟩ := hres
    clear HME
    go_wp2_with fail
    refine (HO.out _).mono ?_
    rintro e w' ⟨rfl, rfl⟩
    go_wp2
    exact bodyPost_ret (results_tmp4 rfl _ _ _) rfl ⟨rfl, Below.refl _ _⟩
  have hmi2 : ¬ (1 : Int) < (me : Int) := by omega
  obtain ⟨m, hm, hok, R, t, cd, he, hcase⟩ : ∃ m, m ≤ 10 ∧ (∀ k, k < m → okX (cwX (bodyOf raw) (chksOf raw) k)) ∧ ∃ (R : ByteArray) (t cd : Int), EccEnds (bodyOf raw) (chksOf raw) 10 m R t cd ∧
      ((cd = 6 ∧ d = ⟨#[]⟩ ∧ s = ⟨#[]⟩ ∧ n = 0 ∧ c = 6) ∨ (cd = 0 ∧ ∃ q pn : Nat, p = pn ∧ pn ≤ 65534 ∧ t = q ∧ q ≤ 100 ∧ R.size = 80 ∧ d = (scrB R pn).extract 0 64 ∧ s = (scrB R pn).extract 64 80 ∧ n = (q : Int) + (me : Nat) ∧ c = 0)) := by
    have hq := HMM.out
    rcases HME.out with h | ⟨h, h1⟩ | ⟨h, h1, h2⟩ | ⟨h, h1, h2, m, hm, hok, R, t, he⟩ | ⟨h, pn, hpn, h1, h2, m, hm, hok, R, q, hq2, hR, he⟩
    · exact absurd h9 h
    · exact absurd hp h1
    · omega
    · exact ⟨m, hm, hok, R, t, 6, he, .inl ⟨rfl, rfl, rfl, rfl, rfl⟩⟩
    · exact ⟨m, hm, hok, R, q, 0, he, .inr ⟨rfl, q, pn, hpn, h1, rfl, hq2, hR, rfl, rfl, by rw [hq], rfl⟩⟩
  have hb8 := bodyOf_size h9
  have hc8 := chksOf_size h9
  have HDE := Lib.hid (fun (W : World) (hT : MaskTab W) => (show Calls Tryd.prog 19 #[.string (raw.extract 0 80), .string (raw.extract 80 90)] W (EccPost R t cd W) from implDecE_yes (bodyOf raw) (chksOf raw) 10 m R t cd W (by omega) (by omega) (by omega) hm hok he hT))
  have HC := Lib.hid hcase
  have s1 : (80 : Int) ≤ (raw.size : Int) := by omega
  have s2 : (90 : Int) ≤ (raw.size : Int) := by omega
  clear hb8 hc8 hok he hcase HME HMM
  go_wp2_with fail
  refine (HO.out _).mono ?_
  rintro e w' ⟨rfl, rfl⟩
  go_wp2_with fail
  clear hd hp hx90 HX HO HV
  go_region_held3 (fun w' => Below w.heap.size w w')
    (first
      | exact (Below.refl _ _).drew
      | exact (Below.refl w.heap.size w).drew.trans hb1)
    (first
      | (go_at_call 19
         refine (HDE.out w.drew (show MaskTab w.drew from HT.out)).mono ?_
         rintro e w1 ⟨rfl, hb1⟩))
  rename_i hS1
  rcases HC.out with ⟨rfl, rfl, rfl, rfl, rfl⟩ | ⟨rfl, q, pn, rfl, hpn, rfl, hq, hR, rfl, rfl, rfl, rfl⟩
  · clear HC
    go_wp2
    exact bodyPost_ret (results_tmp4 rfl _ _ _) rfl ⟨rfl, hS1⟩
  · clear HC
    have hx := scrB_size R pn
    have HS := Lib.hid (fun (W : World) => (show Calls Tryd.prog 16 #[.int .i64 pn, .string R] W _ from implScr_yes (pn : Int) R W (by omega) (by omega) (by omega)))
    rw [Int.toNat_natCast] at HS
    change Hid (∀ W, Calls Tryd.prog 16 #[.int .i64 pn, .string R] W fun e w' => e = .returned (.tuple #[.string (scrB R pn), .int .i64 0]) ∧ Below W.heap.size W w') at HS
    generalize scrB R pn = x at *
    have x1 : (64 : Int) ≤ (x.size : Int) := by omega
    have hxs : x.size = 80 := by omega
    have HXE := Lib.hid (show x.extract 64 80 = x.extract 64 x.size by rw [hxs])
    clear hx hxs
    go_wp2_with fail
    refine (HS.out _).mono ?_
    rintro e w2 ⟨rfl, b2⟩
    have B2 := hS1.trans (b2.mono hS1.size)
    clear b2 hS1
    go_wp2_with fail
    go_region
    go_wp2
    rw [HXE.out]
    exact bodyPost_ret (results_tmp4 rfl _ _ _) rfl ⟨rfl, B2.drew⟩
theorem openEnds (raw : ByteArray) (p : Int) : ∃ d s n c, OpenEnds raw p d s n c := by
  by_cases h : raw.size = 91
  case neg => exact ⟨_, _, _, _, .invalid h⟩
  by_cases h1 : 0 ≤ p ∧ p ≤ 65534
  case neg => exact ⟨_, _, _, _, .range h h1⟩
  by_cases h2 : mkErr raw ≤ 1
  case neg => exact ⟨_, _, _, _, .mark h h1 (by omega)⟩
  obtain ⟨m, hm, hok, hend⟩ := first_bad (fun k => okX (cwX (bodyOf raw) (chksOf raw) k)) 10
  rcases hend with rfl | hbad
  · have hle := totL_le (bodyOf raw) (chksOf raw) 10
    exact ⟨_, _, _, _, .done h p.toNat (by omega) (by omega) h2 10 (Nat.le_refl _) hok _ _ (show totL (bodyOf raw) (chksOf raw) 10 ≤ 100 by omega) (by rw [strOfNums_size, outL_length]) (.inl ⟨rfl, rfl, rfl, rfl⟩)⟩
  · by_cases e : m = 10
    · subst e
      have hle := totL_le (bodyOf raw) (chksOf raw) 10
      exact ⟨_, _, _, _, .done h p.toNat (by omega) (by omega) h2 10 (Nat.le_refl _) hok _ _ (show totL (bodyOf raw) (chksOf raw) 10 ≤ 100 by omega) (by rw [strOfNums_size, outL_length]) (.inl ⟨rfl, rfl, rfl, rfl⟩)⟩
    · exact ⟨_, _, _, _, .bad h h1 h2 m hm hok _ _ (.inr ⟨by omega, hbad, rfl, rfl, rfl⟩)⟩
theorem OpenEnds.size {raw : ByteArray} {p : Int} {d s : ByteArray} {n c : Int} (h : OpenEnds raw p d s n c) : d.size ≤ 64 ∧ s.size ≤ 16 := by
  rcases h with h | h | h | h | h
  all_goals first
    | (rw [ByteArray.size_extract, ByteArray.size_extract]; omega)
    | exact ⟨Nat.zero_le _, Nat.zero_le _⟩
end Go.Proofs.YthenilomgbnpeaaDoor
