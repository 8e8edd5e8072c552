/- The proof's own lemmas, part 28: DrG TbN Ints. -/
import Derived.Test.YthenilomgbnpeaaGreatDoorMg26
import Derived.Test.YthenilomgbnpeaaGreatDoorMg3
import Derived.Test.YthenilomgbnpeaaGreatDoorProg
import Derived.Test.YthenilomgbnpeaaGreatDoorMg0
import Derived.WalkKit
import Derived.ProofKit
import Derived.Lib.Hide
import Derived.BigQuiet
import Derived.Deep.QuietTactic
/- Chapter 6's generators of a call's arguments: DrawProgramPage, DrawReadRaw, DrawEraseBlock. -/
namespace Go.Proofs.YthenilomgbnpeaaGreatDoor
open Go.RowKit
set_option linter.unusedVariables false
theorem results_cell_tmp3 {fn : Func} {p u v x : Tmp} {ty : TypeId} (h : fn.results = #[.cell p ty, .tmp u, .tmp v, .tmp x]) (tmps : Array Value) (P : Program) (w : World) :
    (results fn tmps).run P w =
      ((asAddr (tmps.getD p undef)).run P w).andThen fun a w₁ => ((loadVar ty a).run P w₁).andThen fun y w₂ => .ok (.tuple #[y, tmps.getD u undef, tmps.getD v undef, tmps.getD x undef]) w₂ := by
  simp only [results, h]
  simp [Sem.run_bind, Result.andThen]
theorem results_cell_tmp2 {fn : Func} {p u v : Tmp} {ty : TypeId} (h : fn.results = #[.cell p ty, .tmp u, .tmp v]) (tmps : Array Value) (P : Program) (w : World) :
    (results fn tmps).run P w =
      ((asAddr (tmps.getD p undef)).run P w).andThen fun a w₁ => ((loadVar ty a).run P w₁).andThen fun y w₂ => .ok (.tuple #[y, tmps.getD u undef, tmps.getD v undef]) w₂ := by
  simp only [results, h]
  simp [Sem.run_bind, Result.andThen]
theorem results_row_tmp3 {P : Program} {fn : Func} {p u v x : Tmp} {ty : TypeId} (h : fn.results = #[.cell p ty, .tmp u, .tmp v, .tmp x]) (tmps : Array Value) (w : World) (g : Nat) (t : TypeId) (cs : Array Value) (fr : Nat × Nat) (d : TypeDesc)
    (hp : tmps.getD p undef = .pointer (some ⟨g, 0, none⟩)) (hg : w.heap[g]? = some (.cells cs t fr))
    (hu : P.underlying ty = some d) (hd : (match d with | .struct _ | .array _ _ => true | _ => false) = true) (hi : (P.info? ty).map (·.size) = some cs.size) :
    (results fn tmps).run P w = .ok (.tuple #[.agg cs, tmps.getD u undef, tmps.getD v undef, tmps.getD x undef]) w := by
  rw [results_cell_tmp3 h, hp]
  simp [asAddr, run_loadVar_row w g t ty cs fr d hg hu hd hi]
theorem results_row_tmp2 {P : Program} {fn : Func} {p u v : Tmp} {ty : TypeId} (h : fn.results = #[.cell p ty, .tmp u, .tmp v]) (tmps : Array Value) (w : World) (g : Nat) (t : TypeId) (cs : Array Value) (fr : Nat × Nat) (d : TypeDesc)
    (hp : tmps.getD p undef = .pointer (some ⟨g, 0, none⟩)) (hg : w.heap[g]? = some (.cells cs t fr))
    (hu : P.underlying ty = some d) (hd : (match d with | .struct _ | .array _ _ => true | _ => false) = true) (hi : (P.info? ty).map (·.size) = some cs.size) :
    (results fn tmps).run P w = .ok (.tuple #[.agg cs, tmps.getD u undef, tmps.getD v undef]) w := by
  rw [results_cell_tmp2 h, hp]
  simp [asAddr, run_loadVar_row w g t ty cs fr d hg hu hd hi]
/-- The state of a drawer of arguments: its result's block r (zeros), the source's block g, its variable's block f (an array), the array's blocks. -/
def DgSt (F : Fl) (A : Option Addr) (nb cb lo hi r g f n : Nat) (w wx : World) : Prop := Rw wx r 28 #[.int .i64 0, .int .i64 0, .int .i64 0, .slice none 0 0, .int .i64 0, .int .i64 0, .bool false, .int .i64 0] ∧ Rw wx f 28 #[.int .i64 F.d, .int .i64 F.b, .int .i64 F.p, .slice A nb cb, .int .i64 F.fu, .int .i64 F.ke, .bool F.off, .int .i64 F.op] ∧ BksIn wx lo hi (.slice A nb cb) F.bs ∧
  (w.heap.size ≤ r ∧ r < g ∧ g < f ∧ g < lo ∧ hi ≤ f ∧ f < wx.heap.size) ∧ Src wx g g n ∧ Below w.heap.size w wx
section
variable {F : Fl} {A : Option Addr} {nb cb lo hi r g f n m : Nat} {w wx wy : World}
theorem DgSt.pass (h : DgSt F A nb cb lo hi r g f n w wx) (hg : wx.grownBy wy (some g)) (hs : Src wy g g m) : DgSt F A nb cb lo hi r g f m w wy := by
  obtain ⟨h1, h2, h3, h4, h5, h6⟩ := h
  have := hg.size
  exact ⟨h1.grown hg (by omega), h2.grown hg (by omega), h3.same (same_above hg (by omega) (by omega)), by omega, hs, h6.grown hg h6.size (fun k hk => by injection hk with hk; omega)⟩
theorem DgSt.src (h : DgSt F A nb cb lo hi r g f n w wx) : Src wx g g n := h.2.2.2.2.1
theorem DgSt.more (h : DgSt F A nb cb lo hi r g f n w wx) (hn : n ≤ m) : DgSt F A nb cb lo hi r g f m w wx := ⟨h.1, h.2.1, h.2.2.1, h.2.2.2.1, h.2.2.2.2.1.more hn, h.2.2.2.2.2⟩
theorem DgSt.alloc (h : DgSt F A nb cb lo hi r g f n w wx) (o : Obj) : DgSt F A nb cb lo hi r g f n w (wx.alloc o) :=
  h.pass (World.grownBy_alloc _ _ _) (h.src.keep ((Below.refl _ _).alloc (Nat.le_refl _) _))
/-- The result stored: what is known of the array afterwards. -/
theorem DgSt.fin (h : DgSt F A nb cb lo hi r g f n w wx) (hlo : w.heap.size ≤ lo) : FlIn ((((((((wx.setCell ⟨r, 0, none⟩ (.int .i64 F.d)).setCell ⟨r, 1, none⟩ (.int .i64 F.b)).setCell ⟨r, 2, none⟩ (.int .i64 F.p)).setCell ⟨r, 3, none⟩ (.slice A nb cb)).setCell ⟨r, 4, none⟩ (.int .i64 F.fu)).setCell ⟨r, 5, none⟩ (.int .i64 F.ke)).setCell ⟨r, 6, none⟩ (.bool F.off)).setCell ⟨r, 7, none⟩ (.int .i64 F.op)) w.heap.size ((((((((wx.setCell ⟨r, 0, none⟩ (.int .i64 F.d)).setCell ⟨r, 1, none⟩ (.int .i64 F.b)).setCell ⟨r, 2, none⟩ (.int .i64 F.p)).setCell ⟨r, 3, none⟩ (.slice A nb cb)).setCell ⟨r, 4, none⟩ (.int .i64 F.fu)).setCell ⟨r, 5, none⟩ (.int .i64 F.ke)).setCell ⟨r, 6, none⟩ (.bool F.off)).setCell ⟨r, 7, none⟩ (.int .i64 F.op)).heap.size (.agg #[.int .i64 F.d, .int .i64 F.b, .int .i64 F.p, .slice A nb cb, .int .i64 F.fu, .int .i64 F.ke, .bool F.off, .int .i64 F.op]) F ∧ Below w.heap.size w ((((((((wx.setCell ⟨r, 0, none⟩ (.int .i64 F.d)).setCell ⟨r, 1, none⟩ (.int .i64 F.b)).setCell ⟨r, 2, none⟩ (.int .i64 F.p)).setCell ⟨r, 3, none⟩ (.slice A nb cb)).setCell ⟨r, 4, none⟩ (.int .i64 F.fu)).setCell ⟨r, 5, none⟩ (.int .i64 F.ke)).setCell ⟨r, 6, none⟩ (.bool F.off)).setCell ⟨r, 7, none⟩ (.int .i64 F.op)) := by
  obtain ⟨h1, h2, h3, h4, h5, h6⟩ := h
  refine ⟨⟨_, rfl, (h3.same (by (repeat refine sset ?_ (by omega) _); exact Same.refl _ _ _)).wide hlo (by simp; omega)⟩, ?_⟩
  repeat refine bset ?_ h4.1 _
  exact h6
end
def DrewPg (w : World) (e : Ending) (w' : World) : Prop := ∃ (v : Value) (F : Fl) (block page : Int) (raw : ByteArray), e = .returned (.tuple #[v, .int .i64 block, .int .i64 page, .string raw]) ∧ FlIn w' w.heap.size w'.heap.size v F ∧ Bent F ∧ raw.size ≤ 400 ∧ Below w.heap.size w w'
set_option maxHeartbeats 4000000 in
set_option maxRecDepth 100000 in
theorem drawPg_any (w : World) (v : Value) (h : CodeIs w w.heap.size v) :
    Calls Tryz.prog 5 #[v] w (DrewPg w) := by
  have P4 : Hid (pickMax 4 = 3) := by show _ = _; decide
  have P3 : Hid (pickMax 3 = 2) := by show _ = _; decide
  have b0 := (Below.refl w.heap.size w).alloc (Nat.le_refl _) (.cells #[.int .i64 0, .int .i64 0, .int .i64 0, .slice none 0 0, .int .i64 0, .int .i64 0, .bool false, .int .i64 0] 28)
  have h0 := h.keep (w' := w.alloc (.cells #[.int .i64 0, .int .i64 0, .int .i64 0, .slice none 0 0, .int .i64 0, .int .i64 0, .bool false, .int .i64 0] 28)) (fun b hb => b0.block b hb)
  have R0 := Lib.hid (Rw.new w 28 #[.int .i64 0, .int .i64 0, .int .i64 0, .slice none 0 0, .int .i64 0, .int .i64 0, .bool false, .int .i64 0])
  have B0 := Lib.hid b0
  obtain ⟨Av, vlen, vcap, rfl, _⟩ := h
  have H0 := Lib.hid (l00From_any _ _ (show CodeIs (w.alloc (.cells #[.int .i64 0, .int .i64 0, .int .i64 0, .slice none 0 0, .int .i64 0, .int .i64 0, .bool false, .int .i64 0] 28)) (w.alloc (.cells #[.int .i64 0, .int .i64 0, .int .i64 0, .slice none 0 0, .int .i64 0, .int .i64 0, .bool false, .int .i64 0] 28)).heap.size _ by obtain ⟨a, b, c, e, h1, h2⟩ := h0; exact ⟨a, b, c, e, h1, fun hh => by obtain ⟨x, y, z, z2, z3⟩ := h2 hh; exact ⟨x, y, z, by simp; omega, z3⟩⟩))
  clear b0 h0
  go_enter Tryz.func5, Tryz.ntmps5
  go_wp2_with fail
  refine H0.out.mono ?_
  rintro e w1 ⟨rfl, hS1, hb1⟩
  have hgz : (w.alloc (.cells #[.int .i64 0, .int .i64 0, .int .i64 0, .slice none 0 0, .int .i64 0, .int .i64 0, .bool false, .int .i64 0] 28)).heap.size = w.heap.size + 1 := by simp
  rw [hgz] at hS1 hb1 ⊢
  obtain ⟨g, hg⟩ : ∃ g, g = w.heap.size + 1 := ⟨_, rfl⟩
  rw [← hg] at hS1 hb1 ⊢
  have R1 := Lib.hid (R0.out.below hb1 (by omega))
  have B1 := Lib.hid (B0.out.trans (hb1.mono (by omega)))
  have S1 := Lib.hid hS1
  have hlt := hS1.lt
  have hgw : w.heap.size < g := by omega
  clear R0 B0 H0 hS1 hb1 hgz hg
  go_wp2_with fail
  refine (l06Bent_any g g 0 _ S1.out (by omega)).mono ?_
  rintro e w2 ⟨u, F, rfl, ⟨ub, rfl, hb⟩, hbent, hS2, hg2⟩
  obtain ⟨A, nb, cb, rfl⟩ := hb.slice
  unfold flc
  have hz2 := hg2.size
  have D0 := Lib.hid (show DgSt F A nb cb w1.heap.size w2.heap.size w.heap.size g w2.heap.size _ w (w2.alloc (.cells #[.int .i64 F.d, .int .i64 F.b, .int .i64 F.p, .slice A nb cb, .int .i64 F.fu, .int .i64 F.ke, .bool F.off, .int .i64 F.op] 28)) from
    ⟨(R1.out.grown hg2 (by omega)).alloc _, Rw.new _ _ _, hb.same (sm ((Below.refl w2.heap.size _).alloc (Nat.le_refl _) _) _ (Nat.le_refl _)), ⟨Nat.le_refl _, by omega, by omega, by omega, Nat.le_refl _, by simp⟩, hS2.keep ((Below.refl _ _).alloc (Nat.le_refl _) _), (B1.out.grown hg2 B1.out.size (fun k hk => by injection hk with hk; omega)).alloc (Nat.le_trans B1.out.size hz2) _⟩)
  have BENT := Lib.hid hbent
  have hnb : nb ≤ 36 := by have := hbent.1; obtain ⟨_, _, _, e, _, _, h, _⟩ := hb; injection e with _ e _; omega
  clear R1 B1 S1 hb hbent hS2 hg2
  go_wp2_with fail
  obtain ⟨f, hf⟩ : ∃ f, f = w2.heap.size := ⟨_, rfl⟩
  rw [← hf] at D0 ⊢
  obtain ⟨lo, hlo⟩ : ∃ lo, lo = w1.heap.size := ⟨_, rfl⟩
  rw [← hlo] at D0
  have hgf : w.heap.size < f := by omega
  have hgf2 : g < f := by omega
  have hlw : w.heap.size ≤ lo := by omega
  clear hf hlo hz2 hlt
  refine (pick_any _ _ _ 4 _ D0.out.src (by omega) (by omega) (by omega)).mono ?_
  rintro e w3 ⟨v3, rfl, ⟨block, rfl, hk0, hk3⟩, hS3, hg3⟩
  rw [P4.out] at hk3
  have D1 := Lib.hid (D0.out.pass hg3 hS3)
  clear D0 hg3 hS3
  obtain ⟨k, rfl⟩ := Int.eq_ofNat_of_zero_le hk0
  clear hk0
  go_wp2_with fail
  refine (pick_any _ _ _ 3 _ D1.out.src (by omega) (by omega) (by omega)).mono ?_
  rintro e w4 ⟨v4, rfl, ⟨page, rfl, hp0, hp3⟩, hS4, hg4⟩
  have D2 := Lib.hid (D1.out.pass hg4 hS4)
  clear D1 hg4 hS4 hp0 hp3
  obtain ⟨d0, d1, d2, d3, d4, d5, d6, d7⟩ := D2.out.2.1.eight
  go_upto_region 5 with fail
  go_cut [29] (fun s29 wx => ∃ b : Bool, s29 = .bool b ∧ Hid (b = true → k < nb) ∧ Hid (DgSt F A nb cb lo f w.heap.size g f 400000 w wx))
  case first =>
    by_cases hkn : k < nb
    · have hki : (k : Int) < (nb : Int) := by omega
      go_wp2_with fail
      refine (one_any _ _ _ 6 _ D2.out.src (by omega) (by omega) (by omega)).mono ?_
      rintro e w5 ⟨v5, rfl, ⟨bb, rfl⟩, hS5, hg5⟩
      have D3 := Lib.hid (D2.out.pass hg5 hS5)
      clear D2 hg5 hS5
      cases bb <;> (go_wp2; go_meet; exact ⟨_, rfl, Lib.hid (fun _ => hkn), Lib.hid (D3.out.more (by omega))⟩)
    · have hki : ¬ (k : Int) < (nb : Int) := by omega
      go_wp2
      go_meet
      exact ⟨false, rfl, Lib.hid (fun h => by simp at h), Lib.hid (D2.out.more (by omega))⟩
  case rest =>
    obtain ⟨b, rfl, HB, D3⟩ := hcut
    clear D2 d0 d1 d2 d3 d4 d5 d6 d7
    go_upto_if 29 with fail
    go_cut [9] (fun s9 wx => ∃ p : Int, s9 = .int .i64 p ∧ Hid (DgSt F A nb cb lo f w.heap.size g f 400000 w wx))
    case first =>
      cases b
      · clear HB
        go_wp2
        go_meet
        case rel => exact ⟨_, rfl, D3⟩
      · have hkn := HB.out rfl
        obtain ⟨d0, d1, d2, d3, d4, d5, d6, d7⟩ := D3.out.2.1.eight
        obtain ⟨A', len, cap, e3, hl1, hl2, hl3, hbz⟩ := D3.out.2.2.1
        injection e3 with e3 e5 e6
        subst e3 e5 e6
        obtain ⟨gb, off, rfl, _, _, hcell⟩ := hbz (by omega)
        obtain ⟨pv, ⟨_, r1, _, _⟩, _⟩ := hcell k hkn
        clear hcell hbz HB hl3
        go_wp2
        go_meet
        case rel => exact ⟨_, rfl, D3⟩
    case rest =>
      obtain ⟨page, rfl, D4⟩ := hcut
      clear D3 HB
      obtain ⟨wd, hwd⟩ : ∃ x, x = wc := ⟨_, rfl⟩
      rw [← hwd] at D4 ⊢
      clear hwd
      go_wp2_with fail
      refine (one_any _ _ _ 12 _ D4.out.src (by omega) (by omega) (by omega)).mono ?_
      rintro e w5 ⟨v5, rfl, ⟨bb, rfl⟩, hS5, hg5⟩
      have D5 := Lib.hid (D4.out.pass hg5 hS5)
      clear D4 hg5 hS5
      obtain ⟨d0, d1, d2, d3, d4, d5, d6, d7⟩ := D5.out.2.1.eight
      go_upto_if 37 with fail
      go_cut [8] (fun s8 wx => ∃ p : Int, s8 = .int .i64 p ∧ Hid (DgSt F A nb cb lo f w.heap.size g f 500000 w wx))
      case first =>
        cases bb
        · go_wp2
          go_meet
          case rel => exact ⟨_, rfl, Lib.hid (D5.out.more (by omega))⟩
        · have hwn : IntKind.i64.wrap ((nb : Int) - 1) = (nb : Int) - 1 := IntWalk.i64_in _ (by omega)
          go_wp2_with fail
          have hz5 : (w5.alloc (.cells #[.int .i64 (-1), .int .i64 (nb : Int), .int .i64 ((nb : Int) - 1)] 2)).heap.size = w5.heap.size + 1 := by simp
          have N4 := Rw.new w5 2 #[.int .i64 (-1), .int .i64 (nb : Int), .int .i64 ((nb : Int) - 1)]
          have D6 := Lib.hid (D5.out.alloc (.cells #[.int .i64 (-1), .int .i64 (nb : Int), .int .i64 ((nb : Int) - 1)] 2))
          have hs5 := D5.out.2.2.2.1
          clear D5 d0 d1 d2 d3 d4 d5 d6 d7
          refine (among_any (fun x => True) g g _ w5.heap.size 3 3 _ D6.out.src (by omega) (by omega) (by omega) (by omega) ?_).mono ?_
          · intro i hi
            rw [N4.cell]
            rcases i with _ | _ | _ | i <;> first | exact ⟨_, rfl, trivial⟩ | omega
          clear N4 hz5 hs5
          rintro e w6 ⟨v6, rfl, ⟨y, rfl, _⟩, hS6, hg6⟩
          have D7 := Lib.hid (D6.out.pass hg6 hS6)
          clear D6 hg6 hS6
          go_wp2
          go_meet
          case rel => exact ⟨_, rfl, Lib.hid (D7.out.more (by omega))⟩
      case rest =>
        obtain ⟨block, rfl, D6⟩ := hcut
        clear D5 d0 d1 d2 d3 d4 d5 d6 d7
        obtain ⟨we, hwe⟩ : ∃ x, x = wc := ⟨_, rfl⟩
        rw [← hwe] at D6 ⊢
        clear hwe
        go_wp2_with fail
        refine (l05Raw_any _ _ _ _ D6.out.src (by omega)).mono ?_
        rintro e w7 ⟨v7, rfl, ⟨s, pg, rfl, hs, _, _⟩, hS7, hg7⟩
        have D7 := Lib.hid (D6.out.pass hg7 hS7)
        clear D6 hg7 hS7
        obtain ⟨d0, d1, d2, d3, d4, d5, d6, d7⟩ := D7.out.2.1.eight
        obtain ⟨r0, r1, r2, r3, r4, r5, r6, r7⟩ := D7.out.1.eight
        obtain ⟨f0, f1, f2, f3, f4, f5, f6, f7⟩ := D7.out.1.frees
        go_wp2
        refine bodyPost_ret (results_row_tmp3 Tryz.results5 _ _ _ _ _ _ _ rfl (D7.out.1.put8 _ _ _ _ _ _ _ _) Tryz.underlying28 rfl infoFl8) rfl ⟨_, F, _, _, _, rfl, (D7.out.fin (by omega)).1, BENT.out, by omega, (D7.out.fin (by omega)).2⟩
def DrewRd (w : World) (e : Ending) (w' : World) : Prop := ∃ (v : Value) (F : Fl) (block page : Int), e = .returned (.tuple #[v, .int .i64 block, .int .i64 page]) ∧ FlIn w' w.heap.size w'.heap.size v F ∧ Bent F ∧ Below w.heap.size w w'
def DrewEr (w : World) (e : Ending) (w' : World) : Prop := ∃ (v : Value) (F : Fl) (block : Int), e = .returned (.tuple #[v, .int .i64 block]) ∧ FlIn w' w.heap.size w'.heap.size v F ∧ Bent F ∧ Below w.heap.size w w'
end Go.Proofs.YthenilomgbnpeaaGreatDoor
/- A table of bad blocks as plain data. No program in it. -/
namespace Go.Proofs.YthenilomgbnpeaaGreatDoor
open Go.RowKit
set_option linter.unusedVariables false
structure Tb where
  d : Int
  b : Int
  p : Int
  sp : Int
  bad : List Int
  rm : List Int
def Tb.zero : Tb := ⟨0, 0, 0, 0, [], []⟩
/-- A strictly increasing list of numbers below hi. -/
def Rises (l : List Int) (hi : Int) : Prop := ∀ i, i < l.length → (0 ≤ l.getD i 0 ∧ l.getD i 0 < hi) ∧ (0 < i → l.getD (i - 1) 0 < l.getD i 0)
def Tb.prim (T : Tb) : Int := T.b - T.sp
def Tb.home (T : Tb) (i : Int) : Int := i / T.prim * T.b + i % T.prim
def SpareOf (T : Tb) (die x : Int) : Prop := (die + 1) * T.b - T.sp ≤ x ∧ x < (die + 1) * T.b
def TbShape (T : Tb) : Prop := GeoOk T.d T.b T.p ∧ (1 ≤ T.sp ∧ T.sp ≤ 4) ∧ T.sp < T.b - 1 ∧ Rises T.bad (T.d * T.b)
def EntryOk (T : Tb) (i : Nat) : Prop :=
  ¬ T.rm.getD i 0 ∈ T.bad ∧ ¬ T.rm.getD i 0 ∈ T.rm.take i ∧ (T.rm.getD i 0 = T.home i ∨ (SpareOf T (T.home i / T.b) (T.rm.getD i 0) ∧ T.home i ∈ T.bad))
def TbOk (T : Tb) : Prop := TbShape T ∧ (T.rm.length : Int) = T.d * T.prim ∧ ∀ i, i < T.rm.length → EntryOk T i
theorem mem_iff_getD {l : List Int} {x : Int} : x ∈ l ↔ ∃ i, i < l.length ∧ l.getD i 0 = x := by
  constructor
  · intro h
    obtain ⟨i, hi, rfl⟩ := List.getElem_of_mem h
    exact ⟨i, hi, by rw [List.getD_eq_getElem?_getD, List.getElem?_eq_getElem hi]; rfl⟩
  · rintro ⟨i, hi, rfl⟩
    rw [List.getD_eq_getElem?_getD, List.getElem?_eq_getElem hi]
    exact List.getElem_mem hi
theorem Rises.lt {l : List Int} {hi : Int} (h : Rises l hi) {i j : Nat} (hij : i < j) (hj : j < l.length) : l.getD i 0 < l.getD j 0 := by
  induction j with
  | zero => omega
  | succ j ih =>
    have h1 := (h (j + 1) hj).2 (by omega)
    rw [Nat.add_sub_cancel] at h1
    by_cases e : i = j
    · subst e; exact h1
    · have := ih (by omega) (by omega); omega
theorem Rises.le {l : List Int} {hi : Int} (h : Rises l hi) : l.Pairwise (· ≤ ·) := by
  rw [List.pairwise_iff_getElem]
  intro i j h1 h2 hij
  have := h.lt hij h2
  rw [List.getD_eq_getElem?_getD, List.getD_eq_getElem?_getD, List.getElem?_eq_getElem h1, List.getElem?_eq_getElem h2] at this
  simp only [Option.getD_some] at this
  omega
theorem Rises.long {l : List Int} {hi : Int} (h : Rises l hi) (h0 : 0 ≤ hi) : (l.length : Int) ≤ hi := by
  have key : ∀ i, i < l.length → (i : Int) ≤ l.getD i 0 := by
    intro i
    induction i with
    | zero => intro hi; exact (h 0 hi).1.1
    | succ i ih => intro hi; have := ih (by omega); have := h.lt (show i < i + 1 by omega) hi; omega
  rcases Nat.eq_zero_or_pos l.length with e | e
  · omega
  · have := key (l.length - 1) (by omega); have := (h (l.length - 1) (by omega)).1.2; omega
/-- What is known of the numbers of a table whose shape is right. -/
theorem TbShape.nums {T : Tb} (h : TbShape T) : 2 ≤ T.d ∧ T.d ≤ 3 ∧ 4 ≤ T.b ∧ T.b ≤ 12 ∧ 1 ≤ T.sp ∧ T.sp ≤ 4 ∧ 2 ≤ T.prim ∧ T.prim ≤ 11 ∧ T.prim = T.b - T.sp ∧ 8 ≤ T.d * T.b ∧ T.d * T.b ≤ 36 := by
  have hm := h.1.mul
  obtain ⟨⟨⟨h1, h2⟩, ⟨h3, h4⟩, _⟩, ⟨h5, h6⟩, h7, _⟩ := h
  refine ⟨h1, h2, h3, h4, h5, h6, ?_, ?_, rfl, hm.1, hm.2⟩ <;> (unfold Tb.prim; omega)
theorem TbShape.rmLen {T : Tb} (h : TbShape T) : 4 ≤ T.d * T.prim ∧ T.d * T.prim ≤ 33 := by
  obtain ⟨h1, h2, _, _, _, _, h3, h4, _⟩ := h.nums
  obtain e | e : T.d = 2 ∨ T.d = 3 := by omega
  all_goals (rw [e]; omega)
/-- The die of a home, and its place there. -/
theorem home_die {T : Tb} (h : TbShape T) {i : Int} (h0 : 0 ≤ i) : T.home i / T.b = i / T.prim ∧ 0 ≤ T.home i ∧ 0 ≤ i % T.prim ∧ i % T.prim < T.prim ∧ 0 ≤ i / T.prim := by
  obtain ⟨_, _, h3, h4, h5, h6, h7, h8, h9, _⟩ := h.nums
  have a := Int.emod_nonneg i (show T.prim ≠ 0 by omega)
  have b := Int.emod_lt_of_pos i (show 0 < T.prim by omega)
  have c := Int.ediv_nonneg h0 (show 0 ≤ T.prim by omega)
  refine ⟨?_, ?_, a, b, c⟩
  · unfold Tb.home
    rw [Int.add_comm, Int.add_mul_ediv_right _ _ (show T.b ≠ 0 by omega), Int.ediv_eq_zero_of_lt a (by omega), Int.zero_add]
  · unfold Tb.home
    have := Int.mul_nonneg c (show 0 ≤ T.b by omega)
    omega
theorem die_lt {T : Tb} (h : TbShape T) {i : Int} (h0 : 0 ≤ i) (hi : i < T.d * T.prim) : i / T.prim < T.d := by
  obtain ⟨_, _, h3, h4, h5, h6, h7, h8, h9, _⟩ := h.nums
  exact Int.ediv_lt_of_lt_mul (by omega) hi
theorem home_lt {T : Tb} (h : TbShape T) {i : Int} (h0 : 0 ≤ i) (hi : i < T.d * T.prim) : T.home i < T.d * T.b := by
  obtain ⟨h1, h2, h3, h4, h5, h6, h7, h8, h9, _⟩ := h.nums
  have a := die_lt h h0 hi
  have b := (home_die h h0).2.2.2.1
  unfold Tb.home
  have : (i / T.prim + 1) * T.b ≤ T.d * T.b := Int.mul_le_mul_of_nonneg_right (by omega) (by omega)
  rw [Int.add_mul, Int.one_mul] at this
  omega
/-- The home as the program reckons it: division that cuts toward zero. -/
theorem home_t {T : Tb} (h : TbShape T) {i : Int} (h0 : 0 ≤ i) : Int.tdiv i T.prim * T.b + Int.tmod i T.prim = T.home i := by
  unfold Tb.home
  rw [Int.tdiv_eq_ediv_of_nonneg h0, Int.tmod_eq_emod_of_nonneg h0]
end Go.Proofs.YthenilomgbnpeaaGreatDoor
/- Slices of int64: those that come in and are read, those that the call itself makes; the laws' helpers toInt64S, eqInt64S, markInt64S, heldInt64S. -/
namespace Go.Proofs.YthenilomgbnpeaaGreatDoor
open Go.RowKit

/-- The value v is a slice that reads as the integers l. -/
def IntsIn (w : World) (v : Value) (l : List Int) : Prop := ∃ A len cap, v = .slice A len cap ∧ l.length = len ∧ (0 < len → ∃ b off, A = some ⟨b, off, none⟩ ∧ b < w.heap.size ∧ ∀ i, i < len → w.cell? ⟨b, off + i, none⟩ = some (.int .i64 (l.getD i 0)))
theorem IntsIn.below {w w' : World} {B : Nat} {v : Value} {l : List Int} (h : IntsIn w v l) (hb : Below B w w') (hB : w.heap.size ≤ B) : IntsIn w' v l := by
  obtain ⟨A, len, cap, rfl, hl, hc⟩ := h
  refine ⟨A, len, cap, rfl, hl, fun h0 => ?_⟩
  obtain ⟨b, off, rfl, hbl, hx⟩ := hc h0
  exact ⟨b, off, rfl, by have := hb.size; omega, fun i hi => (hb.cell (p := ⟨b, off + i, none⟩) (Nat.lt_of_lt_of_le hbl hB)).trans (hx i hi)⟩
/-- The value v is a slice of the call's own (in a block from B on) that holds the integers l. -/
def IntsOwn (w : World) (B : Nat) (v : Value) (l : List Int) : Prop := w.ownsRow B 2 1 v l.length (l.map (Value.int .i64))
theorem info64 : (Tryz.prog.info? 2).map (fun i => (i.zero, i.size, i.bytes)) = some (some (.int .i64 0), 1, 8) := by kernel_rfl
section
variable {w w' : World} {B : Nat} {v : Value} {l : List Int}
theorem IntsOwn.made (w : World) {B : Nat} (h : B ≤ w.heap.size) : IntsOwn (w.alloc (.cells #[] 2)) B (.slice (some ⟨w.heap.size, 0, none⟩) 0 0) [] :=
  World.ownsRow_made w #[] 0 h (by unfold maxLen; omega) rfl
theorem IntsOwn.later {B' : Nat} (h : IntsOwn w B v l) (hb : Below B' w w') (hB : w.heap.size ≤ B') : IntsOwn w' B v l := by
  refine ⟨h.1, ?_⟩
  rcases h.2 with h2 | ⟨g, cap, cur, h1, h2, h3, h4⟩
  · exact .inl h2
  · have hg : g < w.heap.size := by
      rcases Nat.lt_or_ge g w.heap.size with hlt | hge
      · exact hlt
      · rw [Array.getElem?_eq_none hge] at h3; cases h3
    exact .inr ⟨g, cap, cur, h1, h2, (hb.block g (by omega)).trans h3, h4⟩
theorem IntsOwn.drew (h : IntsOwn w B v l) : IntsOwn w.drew B v l := h
theorem IntsOwn.shape (h : IntsOwn w B v l) : (v = .slice none 0 0 ∧ l = []) ∨ ∃ g cap, v = .slice (some ⟨g, 0, none⟩) l.length cap ∧ B ≤ g ∧ g < w.heap.size := by
  rcases h.2 with ⟨h1, h2⟩ | ⟨g, cap, cur, h1, h2, h3, _⟩
  · exact .inl ⟨h1, List.eq_nil_of_length_eq_zero h2⟩
  · refine .inr ⟨g, cap, h1, h2, ?_⟩
    rcases Nat.lt_or_ge g w.heap.size with hlt | hge
    · exact hlt
    · rw [Array.getElem?_eq_none hge] at h3; cases h3
theorem IntsOwn.cell {g n cap : Nat} (h : IntsOwn w B (.slice (some ⟨g, 0, none⟩) n cap) l) {j : Nat} (hn : l.length = n) (hj : j < n) : w.cell? ⟨g, j, none⟩ = some (.int .i64 (l.getD j 0)) := by
  unfold IntsOwn at h
  rw [hn] at h
  rw [World.ownsRow.cellAt h j (by omega)]
  simp [show j < l.length by omega]
theorem IntsOwn.free {g n cap : Nat} (h : IntsOwn w B (.slice (some ⟨g, 0, none⟩) n cap) l) (hn : l.length = n) (j : Nat) : w.frozen? ⟨g, j, none⟩ = false := by
  unfold IntsOwn at h
  rw [hn] at h
  exact World.ownsRow.frozenAt h j
theorem IntsOwn.stored {g n cap : Nat} (h : IntsOwn w B (.slice (some ⟨g, 0, none⟩) n cap) l) (hn : l.length = n) (j : Nat) (b : Int) :
    IntsOwn (w.setCell ⟨g, j, none⟩ (.int .i64 b)) B (.slice (some ⟨g, 0, none⟩) n cap) (l.set j b) := by
  unfold IntsOwn at h ⊢
  rw [hn] at h
  have := (World.ownsRow.stored h j (.int .i64 b)).1
  rw [List.length_set, hn, List.map_set]
  exact this
theorem IntsOwn.reads (h : IntsOwn w B v l) : IntsIn w v l := by
  rcases h.shape with ⟨rfl, rfl⟩ | ⟨g, cap, rfl, h1, h2⟩
  · exact ⟨none, 0, 0, rfl, rfl, fun h => by omega⟩
  · exact ⟨_, _, _, rfl, rfl, fun _ => ⟨g, 0, rfl, h2, fun i hi => by rw [Nat.zero_add]; exact h.cell rfl hi⟩⟩
/-- A write to another own row leaves it. -/
theorem IntsOwn.kept {row : Option Nat} (h : IntsOwn w B v l) (hg : w.grownBy w' row) (hne : v.ownBlock = none ∨ v.ownBlock ≠ row) : IntsOwn w' B v l := World.ownsRow.kept h hg hne
end
theorem wpList_append_int {Q : Exit → Act → World → Prop} {ops : Array Oper} {rest : List Oper} {o : Oper} {a : Act} {w0 wr : World} {B : Nat} (hgd : o.guard = none) (s x : Operand)
    (ho : o.op = .call { callee := .builtin .append, args := #[s, x], argTypes := #[53, 53] })
    (v : Value) (l : List Int) (hs : a.eval s = v) (hown : IntsOwn wr B v l) (hb : Below B w0 wr) (hB : B ≤ wr.heap.size)
    (b : Int) (c : Nat) (hx : a.eval x = .slice (some ⟨wr.heap.size, 0, none⟩) 1 c) (hl : l.length + 1 ≤ 1000000)
    (h : ∀ v' w', IntsOwn w' B v' (l ++ [b]) → Below B w0 w' → wpList Tryz.prog ops Q rest (a.put o.dst v') w') :
    wpList Tryz.prog ops Q (o :: rest) a (wr.alloc (.cells #[.int .i64 b] 2)) := by
  obtain ⟨i0, hi, hz0, hz1, hz2⟩ := info_parts info64
  refine wpList_append_own _ hgd s x _ ho B 2 i0 (.int .i64 0) 1 8 Tryz.underlying53 hi hz0 hz1 hz2 rfl (by decide) v l.length (l.map (Value.int .i64)) hs (World.ownsRow.alloc hown _) ⟨wr.heap.size, 0, none⟩ 1 c [.int .i64 b] hx rfl ?_ ?_ (by unfold maxLen; omega) (by omega) (by simp; omega) ?_
  · intro j u hj
    match j, hj with
    | 0, hj => simp at hj; subst hj; simp [Addr.add]
  · intro u hu; simp at hu; subst hu; rfl
  · intro v' w' h1 h2 _
    refine h v' w' ?_ ?_
    · unfold IntsOwn; simpa using h1
    · exact (hb.alloc hB _).grown h2 (by simp; omega) fun k hk => (World.ownsRow.lt hown k hk).1
/-- The marks k, k + 1, .. -/
def mkL (k : Int) (n : Nat) : List Int := (List.range n).map fun (i : Nat) => k + (i : Int)
theorem mkL_length (k : Int) (n : Nat) : (mkL k n).length = n := by simp [mkL]
theorem mkL_at (k : Int) {n i : Nat} (h : i < n) : (mkL k n).getD i 0 = k + (i : Int) := by simp [mkL, List.getD_eq_getElem?_getD, h]
theorem mkL_succ (k : Int) (n : Nat) : mkL k (n + 1) = mkL k n ++ [k + (n : Int)] := by simp [mkL, List.range_succ]
theorem mkL_set (k : Int) (l : List Int) (i : Nat) (h : i < l.length) : (mkL k i ++ l.drop i).set i (k + (i : Int)) = mkL k (i + 1) ++ l.drop (i + 1) := by
  have e : l.drop i = l[i] :: l.drop (i + 1) := List.drop_eq_getElem_cons h
  rw [List.set_append_right _ _ (by rw [mkL_length]; omega), mkL_length, Nat.sub_self, e, List.set_cons_zero, mkL_succ, List.append_assoc]; rfl
end Go.Proofs.YthenilomgbnpeaaGreatDoor
