/- The proof's own lemmas, part 6: DrG TbN Ints IntsR TbM EqI SmN Oth FoN FlRd WkFo TeN FlP. -/
import Derived.Test.YteigdjocjcjkiaaMg4
import Derived.Test.YteigdjocjcjkiaaMg0
import Derived.Test.YteigdjocjcjkiaaProg
import Derived.WalkKit
import Derived.ProofKit
import Derived.Lib.Hide
import Derived.BigQuiet
import Derived.Deep.QuietTactic
import Derived.Laws.MakeOwn
import Derived.Test.YteigdjocjcjkiaaMg1
import Derived.Test.YteigdjocjcjkiaaMg2
import Derived.Test.YteigdjocjcjkiaaMg3
/- Chapter 6's generators of a call's arguments: DrawProgramPage, DrawReadRaw, DrawEraseBlock. -/
namespace Go.Proofs.Yteigdjocjcjkiaa
open Go.RowKit
set_option linter.unusedVariables false
theorem results_cell_tmp3 {fn : Func} {p u v x : Tmp} {ty : TypeId} (h : fn.results = #[.cell p ty, .tmp u, .tmp v, .tmp x]) (tmps : Array Value) (P : Program) (w : World) :
    (results fn tmps).run P w =
      ((asAddr (tmps.getD p undef)).run P w).andThen fun a w₁ => ((loadVar ty a).run P w₁).andThen fun y w₂ => .ok (.tuple #[y, tmps.getD u undef, tmps.getD v undef, tmps.getD x undef]) w₂ := by
  simp only [results, h]
  simp [Sem.run_bind, Result.andThen]
theorem results_cell_tmp2 {fn : Func} {p u v : Tmp} {ty : TypeId} (h : fn.results = #[.cell p ty, .tmp u, .tmp v]) (tmps : Array Value) (P : Program) (w : World) :
    (results fn tmps).run P w =
      ((asAddr (tmps.getD p undef)).run P w).andThen fun a w₁ => ((loadVar ty a).run P w₁).andThen fun y w₂ => .ok (.tuple #[y, tmps.getD u undef, tmps.getD v undef]) w₂ := by
  simp only [results, h]
  simp [Sem.run_bind, Result.andThen]
theorem results_row_tmp3 {P : Program} {fn : Func} {p u v x : Tmp} {ty : TypeId} (h : fn.results = #[.cell p ty, .tmp u, .tmp v, .tmp x]) (tmps : Array Value) (w : World) (g : Nat) (t : TypeId) (cs : Array Value) (fr : Nat × Nat) (d : TypeDesc)
    (hp : tmps.getD p undef = .pointer (some ⟨g, 0, none⟩)) (hg : w.heap[g]? = some (.cells cs t fr))
    (hu : P.underlying ty = some d) (hd : (match d with | .struct _ | .array _ _ => true | _ => false) = true) (hi : (P.info? ty).map (·.size) = some cs.size) :
    (results fn tmps).run P w = .ok (.tuple #[.agg cs, tmps.getD u undef, tmps.getD v undef, tmps.getD x undef]) w := by
  rw [results_cell_tmp3 h, hp]
  simp [asAddr, run_loadVar_row w g t ty cs fr d hg hu hd hi]
theorem results_row_tmp2 {P : Program} {fn : Func} {p u v : Tmp} {ty : TypeId} (h : fn.results = #[.cell p ty, .tmp u, .tmp v]) (tmps : Array Value) (w : World) (g : Nat) (t : TypeId) (cs : Array Value) (fr : Nat × Nat) (d : TypeDesc)
    (hp : tmps.getD p undef = .pointer (some ⟨g, 0, none⟩)) (hg : w.heap[g]? = some (.cells cs t fr))
    (hu : P.underlying ty = some d) (hd : (match d with | .struct _ | .array _ _ => true | _ => false) = true) (hi : (P.info? ty).map (·.size) = some cs.size) :
    (results fn tmps).run P w = .ok (.tuple #[.agg cs, tmps.getD u undef, tmps.getD v undef]) w := by
  rw [results_cell_tmp2 h, hp]
  simp [asAddr, run_loadVar_row w g t ty cs fr d hg hu hd hi]
/-- The state of a drawer of arguments: its result's block r (zeros), the source's block g, its variable's block f (an array), the array's blocks. -/
def DgSt (F : Fl) (A : Option Addr) (nb cb lo hi r g f n : Nat) (w wx : World) : Prop := Rw wx r 31 #[.int .i64 0, .int .i64 0, .int .i64 0, .slice none 0 0, .int .i64 0, .int .i64 0, .bool false, .int .i64 0] ∧ Rw wx f 31 #[.int .i64 F.d, .int .i64 F.b, .int .i64 F.p, .slice A nb cb, .int .i64 F.fu, .int .i64 F.ke, .bool F.off, .int .i64 F.op] ∧ BksIn wx lo hi (.slice A nb cb) F.bs ∧
  (w.heap.size ≤ r ∧ r < g ∧ g < f ∧ g < lo ∧ hi ≤ f ∧ f < wx.heap.size) ∧ Src wx g g n ∧ Below w.heap.size w wx
section
variable {F : Fl} {A : Option Addr} {nb cb lo hi r g f n m : Nat} {w wx wy : World}
theorem DgSt.pass (h : DgSt F A nb cb lo hi r g f n w wx) (hg : wx.grownBy wy (some g)) (hs : Src wy g g m) : DgSt F A nb cb lo hi r g f m w wy := by
  obtain ⟨h1, h2, h3, h4, h5, h6⟩ := h
  have := hg.size
  exact ⟨h1.grown hg (by omega), h2.grown hg (by omega), h3.same (same_above hg (by omega) (by omega)), by omega, hs, h6.grown hg h6.size (fun k hk => by injection hk with hk; omega)⟩
theorem DgSt.src (h : DgSt F A nb cb lo hi r g f n w wx) : Src wx g g n := h.2.2.2.2.1
theorem DgSt.more (h : DgSt F A nb cb lo hi r g f n w wx) (hn : n ≤ m) : DgSt F A nb cb lo hi r g f m w wx := ⟨h.1, h.2.1, h.2.2.1, h.2.2.2.1, h.2.2.2.2.1.more hn, h.2.2.2.2.2⟩
theorem DgSt.alloc (h : DgSt F A nb cb lo hi r g f n w wx) (o : Obj) : DgSt F A nb cb lo hi r g f n w (wx.alloc o) :=
  h.pass (World.grownBy_alloc _ _ _) (h.src.keep ((Below.refl _ _).alloc (Nat.le_refl _) _))
/-- The result stored: what is known of the array afterwards. -/
theorem DgSt.fin (h : DgSt F A nb cb lo hi r g f n w wx) (hlo : w.heap.size ≤ lo) : FlIn ((((((((wx.setCell ⟨r, 0, none⟩ (.int .i64 F.d)).setCell ⟨r, 1, none⟩ (.int .i64 F.b)).setCell ⟨r, 2, none⟩ (.int .i64 F.p)).setCell ⟨r, 3, none⟩ (.slice A nb cb)).setCell ⟨r, 4, none⟩ (.int .i64 F.fu)).setCell ⟨r, 5, none⟩ (.int .i64 F.ke)).setCell ⟨r, 6, none⟩ (.bool F.off)).setCell ⟨r, 7, none⟩ (.int .i64 F.op)) w.heap.size ((((((((wx.setCell ⟨r, 0, none⟩ (.int .i64 F.d)).setCell ⟨r, 1, none⟩ (.int .i64 F.b)).setCell ⟨r, 2, none⟩ (.int .i64 F.p)).setCell ⟨r, 3, none⟩ (.slice A nb cb)).setCell ⟨r, 4, none⟩ (.int .i64 F.fu)).setCell ⟨r, 5, none⟩ (.int .i64 F.ke)).setCell ⟨r, 6, none⟩ (.bool F.off)).setCell ⟨r, 7, none⟩ (.int .i64 F.op)).heap.size (.agg #[.int .i64 F.d, .int .i64 F.b, .int .i64 F.p, .slice A nb cb, .int .i64 F.fu, .int .i64 F.ke, .bool F.off, .int .i64 F.op]) F ∧ Below w.heap.size w ((((((((wx.setCell ⟨r, 0, none⟩ (.int .i64 F.d)).setCell ⟨r, 1, none⟩ (.int .i64 F.b)).setCell ⟨r, 2, none⟩ (.int .i64 F.p)).setCell ⟨r, 3, none⟩ (.slice A nb cb)).setCell ⟨r, 4, none⟩ (.int .i64 F.fu)).setCell ⟨r, 5, none⟩ (.int .i64 F.ke)).setCell ⟨r, 6, none⟩ (.bool F.off)).setCell ⟨r, 7, none⟩ (.int .i64 F.op)) := by
  obtain ⟨h1, h2, h3, h4, h5, h6⟩ := h
  refine ⟨⟨_, rfl, (h3.same (by (repeat refine sset ?_ (by omega) _); exact Same.refl _ _ _)).wide hlo (by simp; omega)⟩, ?_⟩
  repeat refine bset ?_ h4.1 _
  exact h6
end
def DrewPg (w : World) (e : Ending) (w' : World) : Prop := ∃ (v : Value) (F : Fl) (block page : Int) (raw : ByteArray), e = .returned (.tuple #[v, .int .i64 block, .int .i64 page, .string raw]) ∧ FlIn w' w.heap.size w'.heap.size v F ∧ Bent F ∧ raw.size ≤ 400 ∧ Below w.heap.size w w'
set_option maxHeartbeats 4000000 in
set_option maxRecDepth 100000 in
theorem drawPg_any (w : World) (v : Value) (h : CodeIs w w.heap.size v) :
    Calls Try.prog 20 #[v] w (DrewPg w) := by
  have P4 : Hid (pickMax 4 = 3) := by show _ = _; decide
  have P3 : Hid (pickMax 3 = 2) := by show _ = _; decide
  have b0 := (Below.refl w.heap.size w).alloc (Nat.le_refl _) (.cells #[.int .i64 0, .int .i64 0, .int .i64 0, .slice none 0 0, .int .i64 0, .int .i64 0, .bool false, .int .i64 0] 31)
  have h0 := h.keep (w' := w.alloc (.cells #[.int .i64 0, .int .i64 0, .int .i64 0, .slice none 0 0, .int .i64 0, .int .i64 0, .bool false, .int .i64 0] 31)) (fun b hb => b0.block b hb)
  have R0 := Lib.hid (Rw.new w 31 #[.int .i64 0, .int .i64 0, .int .i64 0, .slice none 0 0, .int .i64 0, .int .i64 0, .bool false, .int .i64 0])
  have B0 := Lib.hid b0
  obtain ⟨Av, vlen, vcap, rfl, _⟩ := h
  have H0 := Lib.hid (l00From_any _ _ (show CodeIs (w.alloc (.cells #[.int .i64 0, .int .i64 0, .int .i64 0, .slice none 0 0, .int .i64 0, .int .i64 0, .bool false, .int .i64 0] 31)) (w.alloc (.cells #[.int .i64 0, .int .i64 0, .int .i64 0, .slice none 0 0, .int .i64 0, .int .i64 0, .bool false, .int .i64 0] 31)).heap.size _ by obtain ⟨a, b, c, e, h1, h2⟩ := h0; exact ⟨a, b, c, e, h1, fun hh => by obtain ⟨x, y, z, z2, z3⟩ := h2 hh; exact ⟨x, y, z, by simp; omega, z3⟩⟩))
  clear b0 h0
  go_enter Try.func20, Try.ntmps20
  go_wp2_with fail
  refine H0.out.mono ?_
  rintro e w1 ⟨rfl, hS1, hb1⟩
  have hgz : (w.alloc (.cells #[.int .i64 0, .int .i64 0, .int .i64 0, .slice none 0 0, .int .i64 0, .int .i64 0, .bool false, .int .i64 0] 31)).heap.size = w.heap.size + 1 := by simp
  rw [hgz] at hS1 hb1 ⊢
  obtain ⟨g, hg⟩ : ∃ g, g = w.heap.size + 1 := ⟨_, rfl⟩
  rw [← hg] at hS1 hb1 ⊢
  have R1 := Lib.hid (R0.out.below hb1 (by omega))
  have B1 := Lib.hid (B0.out.trans (hb1.mono (by omega)))
  have S1 := Lib.hid hS1
  have hlt := hS1.lt
  have hgw : w.heap.size < g := by omega
  clear R0 B0 H0 hS1 hb1 hgz hg
  go_wp2_with fail
  refine (l06Bent_any g g 0 _ S1.out (by omega)).mono ?_
  rintro e w2 ⟨u, F, rfl, ⟨ub, rfl, hb⟩, hbent, hS2, hg2⟩
  obtain ⟨A, nb, cb, rfl⟩ := hb.slice
  unfold flc
  have hz2 := hg2.size
  have D0 := Lib.hid (show DgSt F A nb cb w1.heap.size w2.heap.size w.heap.size g w2.heap.size _ w (w2.alloc (.cells #[.int .i64 F.d, .int .i64 F.b, .int .i64 F.p, .slice A nb cb, .int .i64 F.fu, .int .i64 F.ke, .bool F.off, .int .i64 F.op] 31)) from
    ⟨(R1.out.grown hg2 (by omega)).alloc _, Rw.new _ _ _, hb.same (sm ((Below.refl w2.heap.size _).alloc (Nat.le_refl _) _) _ (Nat.le_refl _)), ⟨Nat.le_refl _, by omega, by omega, by omega, Nat.le_refl _, by simp⟩, hS2.keep ((Below.refl _ _).alloc (Nat.le_refl _) _), (B1.out.grown hg2 B1.out.size (fun k hk => by injection hk with hk; omega)).alloc (Nat.le_trans B1.out.size hz2) _⟩)
  have BENT := Lib.hid hbent
  have hnb : nb ≤ 36 := by have := hbent.1; obtain ⟨_, _, _, e, _, _, h, _⟩ := hb; injection e with _ e _; omega
  clear R1 B1 S1 hb hbent hS2 hg2
  go_wp2_with fail
  obtain ⟨f, hf⟩ : ∃ f, f = w2.heap.size := ⟨_, rfl⟩
  rw [← hf] at D0 ⊢
  obtain ⟨lo, hlo⟩ : ∃ lo, lo = w1.heap.size := ⟨_, rfl⟩
  rw [← hlo] at D0
  have hgf : w.heap.size < f := by omega
  have hgf2 : g < f := by omega
  have hlw : w.heap.size ≤ lo := by omega
  clear hf hlo hz2 hlt
  refine (pick_any _ _ _ 4 _ D0.out.src (by omega) (by omega) (by omega)).mono ?_
  rintro e w3 ⟨v3, rfl, ⟨block, rfl, hk0, hk3⟩, hS3, hg3⟩
  rw [P4.out] at hk3
  have D1 := Lib.hid (D0.out.pass hg3 hS3)
  clear D0 hg3 hS3
  obtain ⟨k, rfl⟩ := Int.eq_ofNat_of_zero_le hk0
  clear hk0
  go_wp2_with fail
  refine (pick_any _ _ _ 3 _ D1.out.src (by omega) (by omega) (by omega)).mono ?_
  rintro e w4 ⟨v4, rfl, ⟨page, rfl, hp0, hp3⟩, hS4, hg4⟩
  have D2 := Lib.hid (D1.out.pass hg4 hS4)
  clear D1 hg4 hS4 hp0 hp3
  obtain ⟨d0, d1, d2, d3, d4, d5, d6, d7⟩ := D2.out.2.1.eight
  go_upto_region 5 with fail
  go_cut [29] (fun s29 wx => ∃ b : Bool, s29 = .bool b ∧ Hid (b = true → k < nb) ∧ Hid (DgSt F A nb cb lo f w.heap.size g f 400000 w wx))
  case first =>
    by_cases hkn : k < nb
    · have hki : (k : Int) < (nb : Int) := by omega
      go_wp2_with fail
      refine (one_any _ _ _ 6 _ D2.out.src (by omega) (by omega) (by omega)).mono ?_
      rintro e w5 ⟨v5, rfl, ⟨bb, rfl⟩, hS5, hg5⟩
      have D3 := Lib.hid (D2.out.pass hg5 hS5)
      clear D2 hg5 hS5
      cases bb <;> (go_wp2; go_meet; exact ⟨_, rfl, Lib.hid (fun _ => hkn), Lib.hid (D3.out.more (by omega))⟩)
    · have hki : ¬ (k : Int) < (nb : Int) := by omega
      go_wp2
      go_meet
      exact ⟨false, rfl, Lib.hid (fun h => by simp at h), Lib.hid (D2.out.more (by omega))⟩
  case rest =>
    obtain ⟨b, rfl, HB, D3⟩ := hcut
    clear D2 d0 d1 d2 d3 d4 d5 d6 d7
    go_upto_if 29 with fail
    go_cut [9] (fun s9 wx => ∃ p : Int, s9 = .int .i64 p ∧ Hid (DgSt F A nb cb lo f w.heap.size g f 400000 w wx))
    case first =>
      cases b
      · clear HB
        go_wp2
        go_meet
        case rel => exact ⟨_, rfl, D3⟩
      · have hkn := HB.out rfl
        obtain ⟨d0, d1, d2, d3, d4, d5, d6, d7⟩ := D3.out.2.1.eight
        obtain ⟨A', len, cap, e3, hl1, hl2, hl3, hbz⟩ := D3.out.2.2.1
        injection e3 with e3 e5 e6
        subst e3 e5 e6
        obtain ⟨gb, off, rfl, _, _, hcell⟩ := hbz (by omega)
        obtain ⟨pv, ⟨_, r1, _, _⟩, _⟩ := hcell k hkn
        clear hcell hbz HB hl3
        go_wp2
        go_meet
        case rel => exact ⟨_, rfl, D3⟩
    case rest =>
      obtain ⟨page, rfl, D4⟩ := hcut
      clear D3 HB
      obtain ⟨wd, hwd⟩ : ∃ x, x = wc := ⟨_, rfl⟩
      rw [← hwd] at D4 ⊢
      clear hwd
      go_wp2_with fail
      refine (one_any _ _ _ 12 _ D4.out.src (by omega) (by omega) (by omega)).mono ?_
      rintro e w5 ⟨v5, rfl, ⟨bb, rfl⟩, hS5, hg5⟩
      have D5 := Lib.hid (D4.out.pass hg5 hS5)
      clear D4 hg5 hS5
      obtain ⟨d0, d1, d2, d3, d4, d5, d6, d7⟩ := D5.out.2.1.eight
      go_upto_if 37 with fail
      go_cut [8] (fun s8 wx => ∃ p : Int, s8 = .int .i64 p ∧ Hid (DgSt F A nb cb lo f w.heap.size g f 500000 w wx))
      case first =>
        cases bb
        · go_wp2
          go_meet
          case rel => exact ⟨_, rfl, Lib.hid (D5.out.more (by omega))⟩
        · have hwn : IntKind.i64.wrap ((nb : Int) - 1) = (nb : Int) - 1 := IntWalk.i64_in _ (by omega)
          go_wp2_with fail
          have hz5 : (w5.alloc (.cells #[.int .i64 (-1), .int .i64 (nb : Int), .int .i64 ((nb : Int) - 1)] 2)).heap.size = w5.heap.size + 1 := by simp
          have N4 := Rw.new w5 2 #[.int .i64 (-1), .int .i64 (nb : Int), .int .i64 ((nb : Int) - 1)]
          have D6 := Lib.hid (D5.out.alloc (.cells #[.int .i64 (-1), .int .i64 (nb : Int), .int .i64 ((nb : Int) - 1)] 2))
          have hs5 := D5.out.2.2.2.1
          clear D5 d0 d1 d2 d3 d4 d5 d6 d7
          refine (among_any (fun x => True) g g _ w5.heap.size 3 3 _ D6.out.src (by omega) (by omega) (by omega) (by omega) ?_).mono ?_
          · intro i hi
            rw [N4.cell]
            rcases i with _ | _ | _ | i <;> first | exact ⟨_, rfl, trivial⟩ | omega
          clear N4 hz5 hs5
          rintro e w6 ⟨v6, rfl, ⟨y, rfl, _⟩, hS6, hg6⟩
          have D7 := Lib.hid (D6.out.pass hg6 hS6)
          clear D6 hg6 hS6
          go_wp2
          go_meet
          case rel => exact ⟨_, rfl, Lib.hid (D7.out.more (by omega))⟩
      case rest =>
        obtain ⟨block, rfl, D6⟩ := hcut
        clear D5 d0 d1 d2 d3 d4 d5 d6 d7
        obtain ⟨we, hwe⟩ : ∃ x, x = wc := ⟨_, rfl⟩
        rw [← hwe] at D6 ⊢
        clear hwe
        go_wp2_with fail
        refine (l05Raw_any _ _ _ _ D6.out.src (by omega)).mono ?_
        rintro e w7 ⟨v7, rfl, ⟨s, pg, rfl, hs, _, _⟩, hS7, hg7⟩
        have D7 := Lib.hid (D6.out.pass hg7 hS7)
        clear D6 hg7 hS7
        obtain ⟨d0, d1, d2, d3, d4, d5, d6, d7⟩ := D7.out.2.1.eight
        obtain ⟨r0, r1, r2, r3, r4, r5, r6, r7⟩ := D7.out.1.eight
        obtain ⟨f0, f1, f2, f3, f4, f5, f6, f7⟩ := D7.out.1.frees
        go_wp2
        refine bodyPost_ret (results_row_tmp3 Try.results20 _ _ _ _ _ _ _ rfl (D7.out.1.put8 _ _ _ _ _ _ _ _) Try.underlying31 rfl infoFl8) rfl ⟨_, F, _, _, _, rfl, (D7.out.fin (by omega)).1, BENT.out, by omega, (D7.out.fin (by omega)).2⟩
def DrewRd (w : World) (e : Ending) (w' : World) : Prop := ∃ (v : Value) (F : Fl) (block page : Int), e = .returned (.tuple #[v, .int .i64 block, .int .i64 page]) ∧ FlIn w' w.heap.size w'.heap.size v F ∧ Bent F ∧ Below w.heap.size w w'
set_option maxHeartbeats 4000000 in
set_option maxRecDepth 100000 in
theorem drawRd_any (w : World) (v : Value) (h : CodeIs w w.heap.size v) :
    Calls Try.prog 58 #[v] w (DrewRd w) := by
  have P4 : Hid (pickMax 4 = 3) := by show _ = _; decide
  have P3 : Hid (pickMax 3 = 2) := by show _ = _; decide
  have b0 := (Below.refl w.heap.size w).alloc (Nat.le_refl _) (.cells #[.int .i64 0, .int .i64 0, .int .i64 0, .slice none 0 0, .int .i64 0, .int .i64 0, .bool false, .int .i64 0] 31)
  have h0 := h.keep (w' := w.alloc (.cells #[.int .i64 0, .int .i64 0, .int .i64 0, .slice none 0 0, .int .i64 0, .int .i64 0, .bool false, .int .i64 0] 31)) (fun b hb => b0.block b hb)
  have R0 := Lib.hid (Rw.new w 31 #[.int .i64 0, .int .i64 0, .int .i64 0, .slice none 0 0, .int .i64 0, .int .i64 0, .bool false, .int .i64 0])
  have B0 := Lib.hid b0
  obtain ⟨Av, vlen, vcap, rfl, _⟩ := h
  have H0 := Lib.hid (l00From_any _ _ (show CodeIs (w.alloc (.cells #[.int .i64 0, .int .i64 0, .int .i64 0, .slice none 0 0, .int .i64 0, .int .i64 0, .bool false, .int .i64 0] 31)) (w.alloc (.cells #[.int .i64 0, .int .i64 0, .int .i64 0, .slice none 0 0, .int .i64 0, .int .i64 0, .bool false, .int .i64 0] 31)).heap.size _ by obtain ⟨a, b, c, e, h1, h2⟩ := h0; exact ⟨a, b, c, e, h1, fun hh => by obtain ⟨x, y, z, z2, z3⟩ := h2 hh; exact ⟨x, y, z, by simp; omega, z3⟩⟩))
  clear b0 h0
  go_enter Try.func58, Try.ntmps58
  go_wp2_with fail
  refine H0.out.mono ?_
  rintro e w1 ⟨rfl, hS1, hb1⟩
  have hgz : (w.alloc (.cells #[.int .i64 0, .int .i64 0, .int .i64 0, .slice none 0 0, .int .i64 0, .int .i64 0, .bool false, .int .i64 0] 31)).heap.size = w.heap.size + 1 := by simp
  rw [hgz] at hS1 hb1 ⊢
  obtain ⟨g, hg⟩ : ∃ g, g = w.heap.size + 1 := ⟨_, rfl⟩
  rw [← hg] at hS1 hb1 ⊢
  have R1 := Lib.hid (R0.out.below hb1 (by omega))
  have B1 := Lib.hid (B0.out.trans (hb1.mono (by omega)))
  have S1 := Lib.hid hS1
  have hlt := hS1.lt
  have hgw : w.heap.size < g := by omega
  clear R0 B0 H0 hS1 hb1 hgz hg
  go_wp2_with fail
  refine (l06Bent_any g g 0 _ S1.out (by omega)).mono ?_
  rintro e w2 ⟨u, F, rfl, ⟨ub, rfl, hb⟩, hbent, hS2, hg2⟩
  obtain ⟨A, nb, cb, rfl⟩ := hb.slice
  unfold flc
  have hz2 := hg2.size
  have D0 := Lib.hid (show DgSt F A nb cb w1.heap.size w2.heap.size w.heap.size g w2.heap.size _ w (w2.alloc (.cells #[.int .i64 F.d, .int .i64 F.b, .int .i64 F.p, .slice A nb cb, .int .i64 F.fu, .int .i64 F.ke, .bool F.off, .int .i64 F.op] 31)) from
    ⟨(R1.out.grown hg2 (by omega)).alloc _, Rw.new _ _ _, hb.same (sm ((Below.refl w2.heap.size _).alloc (Nat.le_refl _) _) _ (Nat.le_refl _)), ⟨Nat.le_refl _, by omega, by omega, by omega, Nat.le_refl _, by simp⟩, hS2.keep ((Below.refl _ _).alloc (Nat.le_refl _) _), (B1.out.grown hg2 B1.out.size (fun k hk => by injection hk with hk; omega)).alloc (Nat.le_trans B1.out.size hz2) _⟩)
  have BENT := Lib.hid hbent
  have hnb : nb ≤ 36 := by have := hbent.1; obtain ⟨_, _, _, e, _, _, h, _⟩ := hb; injection e with _ e _; omega
  clear R1 B1 S1 hb hbent hS2 hg2
  go_wp2_with fail
  obtain ⟨f, hf⟩ : ∃ f, f = w2.heap.size := ⟨_, rfl⟩
  rw [← hf] at D0 ⊢
  obtain ⟨lo, hlo⟩ : ∃ lo, lo = w1.heap.size := ⟨_, rfl⟩
  rw [← hlo] at D0
  have hgf : w.heap.size < f := by omega
  have hgf2 : g < f := by omega
  have hlw : w.heap.size ≤ lo := by omega
  clear hf hlo hz2 hlt
  refine (pick_any _ _ _ 5 _ D0.out.src (by omega) (by omega) (by omega)).mono ?_
  rintro e w3 ⟨v3, rfl, ⟨k, rfl, hk0, hk3⟩, hS3, hg3⟩
  have D1 := Lib.hid (D0.out.pass hg3 hS3)
  clear D0 hg3 hS3 hk0 hk3
  go_wp2_with fail
  refine (one_any _ _ _ 8 _ D1.out.src (by omega) (by omega) (by omega)).mono ?_
  rintro e w5 ⟨v5, rfl, ⟨bb, rfl⟩, hS5, hg5⟩
  have D5 := Lib.hid (D1.out.pass hg5 hS5)
  clear D1 hg5 hS5
  obtain ⟨d0, d1, d2, d3, d4, d5, d6, d7⟩ := D5.out.2.1.eight
  go_upto_if 15 with fail
  go_cut [7] (fun s7 wx => ∃ p : Int, s7 = .int .i64 p ∧ Hid (DgSt F A nb cb lo f w.heap.size g f 500000 w wx))
  case first =>
    cases bb
    · go_wp2
      go_meet
      case rel => exact ⟨_, rfl, Lib.hid (D5.out.more (by omega))⟩
    · have hwn : IntKind.i64.wrap ((nb : Int) - 1) = (nb : Int) - 1 := IntWalk.i64_in _ (by omega)
      go_wp2_with fail
      have hz5 : (w5.alloc (.cells #[.int .i64 (-1), .int .i64 (nb : Int), .int .i64 ((nb : Int) - 1)] 2)).heap.size = w5.heap.size + 1 := by simp
      have N4 := Rw.new w5 2 #[.int .i64 (-1), .int .i64 (nb : Int), .int .i64 ((nb : Int) - 1)]
      have D6 := Lib.hid (D5.out.alloc (.cells #[.int .i64 (-1), .int .i64 (nb : Int), .int .i64 ((nb : Int) - 1)] 2))
      have hs5 := D5.out.2.2.2.1
      clear D5 d0 d1 d2 d3 d4 d5 d6 d7
      refine (among_any (fun x => True) g g _ w5.heap.size 3 3 _ D6.out.src (by omega) (by omega) (by omega) (by omega) ?_).mono ?_
      · intro i hi
        rw [N4.cell]
        rcases i with _ | _ | _ | i <;> first | exact ⟨_, rfl, trivial⟩ | omega
      clear N4 hz5 hs5
      rintro e w6 ⟨v6, rfl, ⟨y, rfl, _⟩, hS6, hg6⟩
      have D7 := Lib.hid (D6.out.pass hg6 hS6)
      clear D6 hg6 hS6
      go_wp2
      go_meet
      case rel => exact ⟨_, rfl, Lib.hid (D7.out.more (by omega))⟩
  case rest =>
    obtain ⟨block, rfl, D6⟩ := hcut
    clear D5 d0 d1 d2 d3 d4 d5 d6 d7
    obtain ⟨we, hwe⟩ : ∃ x, x = wc := ⟨_, rfl⟩
    rw [← hwe] at D6 ⊢
    clear hwe
    have P18 : Hid (pickMax 18 = 17) := by show _ = _; decide
    go_wp2_with fail
    refine wp_region_held_drew (S := fun W => Rw W f 31 #[.int .i64 F.d, .int .i64 F.b, .int .i64 F.p, .slice A nb cb, .int .i64 F.fu, .int .i64 F.ke, .bool F.off, .int .i64 F.op]) (by kernel_rfl) (show Rw we.drew _ _ _ from D6.out.2.1) (fun hHeld => ?_)
    refine wpAnyH_take (i := 0) (oi := _) (v := .agg #[.int .i64 F.d, .int .i64 F.b, .int .i64 F.p, .slice A nb cb, .int .i64 F.fu, .int .i64 F.ke, .bool F.off, .int .i64 F.op]) rfl (by kernel_rfl) (by kernel_rfl) (by kernel_rfl) (fun _ _ _ h => h) (Or.inl ⟨by rfl, fun W hSw => by obtain ⟨q0, q1, q2, q3, q4, q5, q6, q7⟩ := hSw.eight; go_simp⟩) hHeld ?_
    refine wpAnyH_take (i := 1) (oi := _) (v := .int .i64 block) rfl (by kernel_rfl) (by kernel_rfl) (by kernel_rfl) (fun _ _ _ h => h) (Or.inl ⟨by rfl, fun W hSw => by go_simp⟩) hHeld ?_
    refine wpAnyH_take (i := 2) (oi := _) (v := .pointer (some ⟨g, 0, none⟩)) rfl (by kernel_rfl) (by kernel_rfl) (by kernel_rfl) (fun _ _ _ h => h) (Or.inl ⟨by rfl, fun W hSw => by go_simp⟩) hHeld ?_
    refine wpAnyH_ready (rs := [3]) (by kernel_rfl) (by simp) ?_
    refine AllReadyH.cons (o := _) rfl (fun K hK => ?_) AllReadyH.nil
    go_simp
    have D6d := Lib.hid (show DgSt F A nb cb lo f w.heap.size g f 500000 w we.drew from ⟨D6.out.1, D6.out.2.1, D6.out.2.2.1.same (fun _ _ _ => rfl), D6.out.2.2.2.1, D6.out.src, D6.out.2.2.2.2.2.drew⟩)
    clear D6
    refine (pick_any _ _ _ 18 we.drew D6d.out.src (by omega) (by omega) (by omega)).mono ?_
    rintro e w8 ⟨v8, rfl, ⟨y, rfl, hy0, hy1⟩, hS8, hg8⟩
    rw [P18.out] at hy1
    have D7 := Lib.hid (D6d.out.pass hg8 hS8)
    clear D6d hg8 hS8
    refine hK.out _ _ D7.out.2.1 (fun hHeld => ?_)
    clear hK K
    have hwy : IntKind.i64.wrap (y - 1) = y - 1 := IntWalk.i64_in _ (by omega)
    refine wpAnyH_take (i := 4) (oi := _) (v := .int .i64 (y - 1)) rfl (by kernel_rfl) (by kernel_rfl) (by kernel_rfl) (fun _ _ _ h => h) (Or.inl ⟨by rfl, fun W hSw => by go_simp⟩) hHeld ?_
    obtain ⟨r0, r1, r2, r3, r4, r5, r6, r7⟩ := D7.out.1.eight
    obtain ⟨f0, f1, f2, f3, f4, f5, f6, f7⟩ := D7.out.1.frees
    refine wpAnyH_ready (rs := [5]) (by kernel_rfl) (by simp) ?_
    refine AllReadyH.cons (o := _) rfl (fun K hK => ?_) AllReadyH.nil
    go_simp
    have QF : Rw ((((((((w8.setCell ⟨w.heap.size, 0, none⟩ (.int .i64 F.d)).setCell ⟨w.heap.size, 1, none⟩ (.int .i64 F.b)).setCell ⟨w.heap.size, 2, none⟩ (.int .i64 F.p)).setCell ⟨w.heap.size, 3, none⟩ (.slice A nb cb)).setCell ⟨w.heap.size, 4, none⟩ (.int .i64 F.fu)).setCell ⟨w.heap.size, 5, none⟩ (.int .i64 F.ke)).setCell ⟨w.heap.size, 6, none⟩ (.bool F.off)).setCell ⟨w.heap.size, 7, none⟩ (.int .i64 F.op)) f 31 #[.int .i64 F.d, .int .i64 F.b, .int .i64 F.p, .slice A nb cb, .int .i64 F.fu, .int .i64 F.ke, .bool F.off, .int .i64 F.op] := ((((((((D7.out.2.1).farA (g' := w.heap.size) (by omega) _).farA (g' := w.heap.size) (by omega) _).farA (g' := w.heap.size) (by omega) _).farA (g' := w.heap.size) (by omega) _).farA (g' := w.heap.size) (by omega) _).farA (g' := w.heap.size) (by omega) _).farA (g' := w.heap.size) (by omega) _).farA (g' := w.heap.size) (by omega) _
    refine hK.out _ _ QF (fun hHeld => ?_)
    clear hK K
    refine wpAnyH_ready (rs := [6]) (by kernel_rfl) (by simp) ?_
    refine AllReadyH.cons (o := _) rfl (fun K hK => ?_) AllReadyH.nil
    go_simp
    refine hK.out _ _ QF (fun hHeld => ?_)
    clear hK K
    refine wpAnyH_ready (rs := [7]) (by kernel_rfl) (by simp) ?_
    refine AllReadyH.cons (o := _) rfl (fun K hK => ?_) AllReadyH.nil
    go_simp
    refine hK.out _ _ QF (fun hHeld => ?_)
    clear hK K
    refine wpAnyH_done (by kernel_rfl) ?_ _
    go_wp2
    refine bodyPost_ret (results_row_tmp2 Try.results58 _ _ _ _ _ _ _ rfl (D7.out.1.put8 _ _ _ _ _ _ _ _) Try.underlying31 rfl infoFl8) rfl ⟨_, F, _, _, rfl, (D7.out.fin (by omega)).1, BENT.out, (D7.out.fin (by omega)).2⟩
def DrewEr (w : World) (e : Ending) (w' : World) : Prop := ∃ (v : Value) (F : Fl) (block : Int), e = .returned (.tuple #[v, .int .i64 block]) ∧ FlIn w' w.heap.size w'.heap.size v F ∧ Bent F ∧ Below w.heap.size w w'
set_option maxHeartbeats 4000000 in
set_option maxRecDepth 100000 in
theorem drawEr_any (w : World) (v : Value) (h : CodeIs w w.heap.size v) :
    Calls Try.prog 25 #[v] w (DrewEr w) := by
  have b0 := (Below.refl w.heap.size w).alloc (Nat.le_refl _) (.cells #[.int .i64 0, .int .i64 0, .int .i64 0, .slice none 0 0, .int .i64 0, .int .i64 0, .bool false, .int .i64 0] 31)
  have h0 := h.keep (w' := w.alloc (.cells #[.int .i64 0, .int .i64 0, .int .i64 0, .slice none 0 0, .int .i64 0, .int .i64 0, .bool false, .int .i64 0] 31)) (fun b hb => b0.block b hb)
  have R0 := Lib.hid (Rw.new w 31 #[.int .i64 0, .int .i64 0, .int .i64 0, .slice none 0 0, .int .i64 0, .int .i64 0, .bool false, .int .i64 0])
  have B0 := Lib.hid b0
  obtain ⟨Av, vlen, vcap, rfl, _⟩ := h
  have H0 := Lib.hid (drawRd_any _ _ (show CodeIs (w.alloc (.cells #[.int .i64 0, .int .i64 0, .int .i64 0, .slice none 0 0, .int .i64 0, .int .i64 0, .bool false, .int .i64 0] 31)) (w.alloc (.cells #[.int .i64 0, .int .i64 0, .int .i64 0, .slice none 0 0, .int .i64 0, .int .i64 0, .bool false, .int .i64 0] 31)).heap.size _ by obtain ⟨a, b, c, e, h1, h2⟩ := h0; exact ⟨a, b, c, e, h1, fun hh => by obtain ⟨x, y, z, z2, z3⟩ := h2 hh; exact ⟨x, y, z, by simp; omega, z3⟩⟩))
  clear b0 h0
  go_enter Try.func25, Try.ntmps25
  go_wp2_with fail
  refine H0.out.mono ?_
  rintro e w1 ⟨u, F, block, page, rfl, ⟨ub, rfl, hb⟩, hbent, b1⟩
  obtain ⟨A, nb, cb, rfl⟩ := hb.slice
  unfold flc
  simp only [World.size_alloc] at hb b1
  have hz1 := b1.size
  simp only [World.size_alloc] at hz1
  have R1 := Lib.hid ((R0.out.below b1 (by omega)).alloc (.cells #[.int .i64 F.d, .int .i64 F.b, .int .i64 F.p, .slice A nb cb, .int .i64 F.fu, .int .i64 F.ke, .bool F.off, .int .i64 F.op] 31))
  have B1 := Lib.hid ((B0.out.trans (b1.mono (by omega))).alloc (by omega) (.cells #[.int .i64 F.d, .int .i64 F.b, .int .i64 F.p, .slice A nb cb, .int .i64 F.fu, .int .i64 F.ke, .bool F.off, .int .i64 F.op] 31))
  have O1 := Lib.hid (hb.same (sm ((Below.refl w1.heap.size _).alloc (Nat.le_refl _) (.cells #[.int .i64 F.d, .int .i64 F.b, .int .i64 F.p, .slice A nb cb, .int .i64 F.fu, .int .i64 F.ke, .bool F.off, .int .i64 F.op] 31)) _ (Nat.le_refl _)))
  have BENT := Lib.hid hbent
  have N1 := Rw.new w1 31 #[.int .i64 F.d, .int .i64 F.b, .int .i64 F.p, .slice A nb cb, .int .i64 F.fu, .int .i64 F.ke, .bool F.off, .int .i64 F.op]
  obtain ⟨d0, d1, d2, d3, d4, d5, d6, d7⟩ := N1.eight
  obtain ⟨r0, r1, r2, r3, r4, r5, r6, r7⟩ := R1.out.eight
  obtain ⟨f0, f1, f2, f3, f4, f5, f6, f7⟩ := R1.out.frees
  clear R0 B0 H0 b1 hb hbent N1
  go_wp2
  have fin : FlIn (((((((((w1.alloc (.cells #[.int .i64 F.d, .int .i64 F.b, .int .i64 F.p, .slice A nb cb, .int .i64 F.fu, .int .i64 F.ke, .bool F.off, .int .i64 F.op] 31)).setCell ⟨w.heap.size, 0, none⟩ (.int .i64 F.d)).setCell ⟨w.heap.size, 1, none⟩ (.int .i64 F.b)).setCell ⟨w.heap.size, 2, none⟩ (.int .i64 F.p)).setCell ⟨w.heap.size, 3, none⟩ (.slice A nb cb)).setCell ⟨w.heap.size, 4, none⟩ (.int .i64 F.fu)).setCell ⟨w.heap.size, 5, none⟩ (.int .i64 F.ke)).setCell ⟨w.heap.size, 6, none⟩ (.bool F.off)).setCell ⟨w.heap.size, 7, none⟩ (.int .i64 F.op)) w.heap.size (((((((((w1.alloc (.cells #[.int .i64 F.d, .int .i64 F.b, .int .i64 F.p, .slice A nb cb, .int .i64 F.fu, .int .i64 F.ke, .bool F.off, .int .i64 F.op] 31)).setCell ⟨w.heap.size, 0, none⟩ (.int .i64 F.d)).setCell ⟨w.heap.size, 1, none⟩ (.int .i64 F.b)).setCell ⟨w.heap.size, 2, none⟩ (.int .i64 F.p)).setCell ⟨w.heap.size, 3, none⟩ (.slice A nb cb)).setCell ⟨w.heap.size, 4, none⟩ (.int .i64 F.fu)).setCell ⟨w.heap.size, 5, none⟩ (.int .i64 F.ke)).setCell ⟨w.heap.size, 6, none⟩ (.bool F.off)).setCell ⟨w.heap.size, 7, none⟩ (.int .i64 F.op)).heap.size (.agg #[.int .i64 F.d, .int .i64 F.b, .int .i64 F.p, .slice A nb cb, .int .i64 F.fu, .int .i64 F.ke, .bool F.off, .int .i64 F.op]) F := by
    refine ⟨_, rfl, (O1.out.same (by (repeat refine sset ?_ (.inl (by omega)) _); exact Same.refl _ _ _)).wide (by omega) (by simp)⟩
  have bel : Below w.heap.size w (((((((((w1.alloc (.cells #[.int .i64 F.d, .int .i64 F.b, .int .i64 F.p, .slice A nb cb, .int .i64 F.fu, .int .i64 F.ke, .bool F.off, .int .i64 F.op] 31)).setCell ⟨w.heap.size, 0, none⟩ (.int .i64 F.d)).setCell ⟨w.heap.size, 1, none⟩ (.int .i64 F.b)).setCell ⟨w.heap.size, 2, none⟩ (.int .i64 F.p)).setCell ⟨w.heap.size, 3, none⟩ (.slice A nb cb)).setCell ⟨w.heap.size, 4, none⟩ (.int .i64 F.fu)).setCell ⟨w.heap.size, 5, none⟩ (.int .i64 F.ke)).setCell ⟨w.heap.size, 6, none⟩ (.bool F.off)).setCell ⟨w.heap.size, 7, none⟩ (.int .i64 F.op)) := by
    repeat refine bset ?_ (Nat.le_refl _) _
    exact B1.out
  refine bodyPost_ret (results_row_tmp Try.results25 _ _ _ _ _ _ _ rfl (R1.out.put8 _ _ _ _ _ _ _ _) Try.underlying31 rfl infoFl8) rfl ⟨_, F, _, rfl, fin, BENT.out, bel⟩
end Go.Proofs.Yteigdjocjcjkiaa
/- A table of bad blocks as plain data. No program in it. -/
namespace Go.Proofs.Yteigdjocjcjkiaa
open Go.RowKit
set_option linter.unusedVariables false
structure Tb where
  d : Int
  b : Int
  p : Int
  sp : Int
  bad : List Int
  rm : List Int
def Tb.zero : Tb := ⟨0, 0, 0, 0, [], []⟩
/-- A strictly increasing list of numbers below hi. -/
def Rises (l : List Int) (hi : Int) : Prop := ∀ i, i < l.length → (0 ≤ l.getD i 0 ∧ l.getD i 0 < hi) ∧ (0 < i → l.getD (i - 1) 0 < l.getD i 0)
def Tb.prim (T : Tb) : Int := T.b - T.sp
def Tb.home (T : Tb) (i : Int) : Int := i / T.prim * T.b + i % T.prim
def SpareOf (T : Tb) (die x : Int) : Prop := (die + 1) * T.b - T.sp ≤ x ∧ x < (die + 1) * T.b
def TbShape (T : Tb) : Prop := GeoOk T.d T.b T.p ∧ (1 ≤ T.sp ∧ T.sp ≤ 4) ∧ T.sp < T.b - 1 ∧ Rises T.bad (T.d * T.b)
def EntryOk (T : Tb) (i : Nat) : Prop :=
  ¬ T.rm.getD i 0 ∈ T.bad ∧ ¬ T.rm.getD i 0 ∈ T.rm.take i ∧ (T.rm.getD i 0 = T.home i ∨ (SpareOf T (T.home i / T.b) (T.rm.getD i 0) ∧ T.home i ∈ T.bad))
def TbOk (T : Tb) : Prop := TbShape T ∧ (T.rm.length : Int) = T.d * T.prim ∧ ∀ i, i < T.rm.length → EntryOk T i
theorem mem_iff_getD {l : List Int} {x : Int} : x ∈ l ↔ ∃ i, i < l.length ∧ l.getD i 0 = x := by
  constructor
  · intro h
    obtain ⟨i, hi, rfl⟩ := List.getElem_of_mem h
    exact ⟨i, hi, by rw [List.getD_eq_getElem?_getD, List.getElem?_eq_getElem hi]; rfl⟩
  · rintro ⟨i, hi, rfl⟩
    rw [List.getD_eq_getElem?_getD, List.getElem?_eq_getElem hi]
    exact List.getElem_mem hi
theorem Rises.lt {l : List Int} {hi : Int} (h : Rises l hi) {i j : Nat} (hij : i < j) (hj : j < l.length) : l.getD i 0 < l.getD j 0 := by
  induction j with
  | zero => omega
  | succ j ih =>
    have h1 := (h (j + 1) hj).2 (by omega)
    rw [Nat.add_sub_cancel] at h1
    by_cases e : i = j
    · subst e; exact h1
    · have := ih (by omega) (by omega); omega
theorem Rises.le {l : List Int} {hi : Int} (h : Rises l hi) : l.Pairwise (· ≤ ·) := by
  rw [List.pairwise_iff_getElem]
  intro i j h1 h2 hij
  have := h.lt hij h2
  rw [List.getD_eq_getElem?_getD, List.getD_eq_getElem?_getD, List.getElem?_eq_getElem h1, List.getElem?_eq_getElem h2] at this
  simp only [Option.getD_some] at this
  omega
theorem Rises.long {l : List Int} {hi : Int} (h : Rises l hi) (h0 : 0 ≤ hi) : (l.length : Int) ≤ hi := by
  have key : ∀ i, i < l.length → (i : Int) ≤ l.getD i 0 := by
    intro i
    induction i with
    | zero => intro hi; exact (h 0 hi).1.1
    | succ i ih => intro hi; have := ih (by omega); have := h.lt (show i < i + 1 by omega) hi; omega
  rcases Nat.eq_zero_or_pos l.length with e | e
  · omega
  · have := key (l.length - 1) (by omega); have := (h (l.length - 1) (by omega)).1.2; omega
/-- What is known of the numbers of a table whose shape is right. -/
theorem TbShape.nums {T : Tb} (h : TbShape T) : 2 ≤ T.d ∧ T.d ≤ 3 ∧ 4 ≤ T.b ∧ T.b ≤ 12 ∧ 1 ≤ T.sp ∧ T.sp ≤ 4 ∧ 2 ≤ T.prim ∧ T.prim ≤ 11 ∧ T.prim = T.b - T.sp ∧ 8 ≤ T.d * T.b ∧ T.d * T.b ≤ 36 := by
  have hm := h.1.mul
  obtain ⟨⟨⟨h1, h2⟩, ⟨h3, h4⟩, _⟩, ⟨h5, h6⟩, h7, _⟩ := h
  refine ⟨h1, h2, h3, h4, h5, h6, ?_, ?_, rfl, hm.1, hm.2⟩ <;> (unfold Tb.prim; omega)
theorem TbShape.rmLen {T : Tb} (h : TbShape T) : 4 ≤ T.d * T.prim ∧ T.d * T.prim ≤ 33 := by
  obtain ⟨h1, h2, _, _, _, _, h3, h4, _⟩ := h.nums
  obtain e | e : T.d = 2 ∨ T.d = 3 := by omega
  all_goals (rw [e]; omega)
/-- The die of a home, and its place there. -/
theorem home_die {T : Tb} (h : TbShape T) {i : Int} (h0 : 0 ≤ i) : T.home i / T.b = i / T.prim ∧ 0 ≤ T.home i ∧ 0 ≤ i % T.prim ∧ i % T.prim < T.prim ∧ 0 ≤ i / T.prim := by
  obtain ⟨_, _, h3, h4, h5, h6, h7, h8, h9, _⟩ := h.nums
  have a := Int.emod_nonneg i (show T.prim ≠ 0 by omega)
  have b := Int.emod_lt_of_pos i (show 0 < T.prim by omega)
  have c := Int.ediv_nonneg h0 (show 0 ≤ T.prim by omega)
  refine ⟨?_, ?_, a, b, c⟩
  · unfold Tb.home
    rw [Int.add_comm, Int.add_mul_ediv_right _ _ (show T.b ≠ 0 by omega), Int.ediv_eq_zero_of_lt a (by omega), Int.zero_add]
  · unfold Tb.home
    have := Int.mul_nonneg c (show 0 ≤ T.b by omega)
    omega
theorem die_lt {T : Tb} (h : TbShape T) {i : Int} (h0 : 0 ≤ i) (hi : i < T.d * T.prim) : i / T.prim < T.d := by
  obtain ⟨_, _, h3, h4, h5, h6, h7, h8, h9, _⟩ := h.nums
  exact Int.ediv_lt_of_lt_mul (by omega) hi
theorem home_lt {T : Tb} (h : TbShape T) {i : Int} (h0 : 0 ≤ i) (hi : i < T.d * T.prim) : T.home i < T.d * T.b := by
  obtain ⟨h1, h2, h3, h4, h5, h6, h7, h8, h9, _⟩ := h.nums
  have a := die_lt h h0 hi
  have b := (home_die h h0).2.2.2.1
  unfold Tb.home
  have : (i / T.prim + 1) * T.b ≤ T.d * T.b := Int.mul_le_mul_of_nonneg_right (by omega) (by omega)
  rw [Int.add_mul, Int.one_mul] at this
  omega
/-- The home as the program reckons it: division that cuts toward zero. -/
theorem home_t {T : Tb} (h : TbShape T) {i : Int} (h0 : 0 ≤ i) : Int.tdiv i T.prim * T.b + Int.tmod i T.prim = T.home i := by
  unfold Tb.home
  rw [Int.tdiv_eq_ediv_of_nonneg h0, Int.tmod_eq_emod_of_nonneg h0]
end Go.Proofs.Yteigdjocjcjkiaa
/- Slices of int64: those that come in and are read, those that the call itself makes; the laws' helpers toInt64S, eqInt64S, markInt64S, heldInt64S. -/
namespace Go.Proofs.Yteigdjocjcjkiaa
open Go.RowKit

/-- The value v is a slice that reads as the integers l. -/
def IntsIn (w : World) (v : Value) (l : List Int) : Prop := ∃ A len cap, v = .slice A len cap ∧ l.length = len ∧ (0 < len → ∃ b off, A = some ⟨b, off, none⟩ ∧ b < w.heap.size ∧ ∀ i, i < len → w.cell? ⟨b, off + i, none⟩ = some (.int .i64 (l.getD i 0)))
theorem IntsIn.below {w w' : World} {B : Nat} {v : Value} {l : List Int} (h : IntsIn w v l) (hb : Below B w w') (hB : w.heap.size ≤ B) : IntsIn w' v l := by
  obtain ⟨A, len, cap, rfl, hl, hc⟩ := h
  refine ⟨A, len, cap, rfl, hl, fun h0 => ?_⟩
  obtain ⟨b, off, rfl, hbl, hx⟩ := hc h0
  exact ⟨b, off, rfl, by have := hb.size; omega, fun i hi => (hb.cell (p := ⟨b, off + i, none⟩) (Nat.lt_of_lt_of_le hbl hB)).trans (hx i hi)⟩
/-- The value v is a slice of the call's own (in a block from B on) that holds the integers l. -/
def IntsOwn (w : World) (B : Nat) (v : Value) (l : List Int) : Prop := w.ownsRow B 2 1 v l.length (l.map (Value.int .i64))
theorem info64 : (Try.prog.info? 2).map (fun i => (i.zero, i.size, i.bytes)) = some (some (.int .i64 0), 1, 8) := by kernel_rfl
section
variable {w w' : World} {B : Nat} {v : Value} {l : List Int}
theorem IntsOwn.made (w : World) {B : Nat} (h : B ≤ w.heap.size) : IntsOwn (w.alloc (.cells #[] 2)) B (.slice (some ⟨w.heap.size, 0, none⟩) 0 0) [] :=
  World.ownsRow_made w #[] 0 h (by unfold maxLen; omega) rfl
theorem IntsOwn.later {B' : Nat} (h : IntsOwn w B v l) (hb : Below B' w w') (hB : w.heap.size ≤ B') : IntsOwn w' B v l := by
  refine ⟨h.1, ?_⟩
  rcases h.2 with h2 | ⟨g, cap, cur, h1, h2, h3, h4⟩
  · exact .inl h2
  · have hg : g < w.heap.size := by
      rcases Nat.lt_or_ge g w.heap.size with hlt | hge
      · exact hlt
      · rw [Array.getElem?_eq_none hge] at h3; cases h3
    exact .inr ⟨g, cap, cur, h1, h2, (hb.block g (by omega)).trans h3, h4⟩
theorem IntsOwn.drew (h : IntsOwn w B v l) : IntsOwn w.drew B v l := h
theorem IntsOwn.shape (h : IntsOwn w B v l) : (v = .slice none 0 0 ∧ l = []) ∨ ∃ g cap, v = .slice (some ⟨g, 0, none⟩) l.length cap ∧ B ≤ g ∧ g < w.heap.size := by
  rcases h.2 with ⟨h1, h2⟩ | ⟨g, cap, cur, h1, h2, h3, _⟩
  · exact .inl ⟨h1, List.eq_nil_of_length_eq_zero h2⟩
  · refine .inr ⟨g, cap, h1, h2, ?_⟩
    rcases Nat.lt_or_ge g w.heap.size with hlt | hge
    · exact hlt
    · rw [Array.getElem?_eq_none hge] at h3; cases h3
theorem IntsOwn.cell {g n cap : Nat} (h : IntsOwn w B (.slice (some ⟨g, 0, none⟩) n cap) l) {j : Nat} (hn : l.length = n) (hj : j < n) : w.cell? ⟨g, j, none⟩ = some (.int .i64 (l.getD j 0)) := by
  unfold IntsOwn at h
  rw [hn] at h
  rw [World.ownsRow.cellAt h j (by omega)]
  simp [show j < l.length by omega]
theorem IntsOwn.free {g n cap : Nat} (h : IntsOwn w B (.slice (some ⟨g, 0, none⟩) n cap) l) (hn : l.length = n) (j : Nat) : w.frozen? ⟨g, j, none⟩ = false := by
  unfold IntsOwn at h
  rw [hn] at h
  exact World.ownsRow.frozenAt h j
theorem IntsOwn.stored {g n cap : Nat} (h : IntsOwn w B (.slice (some ⟨g, 0, none⟩) n cap) l) (hn : l.length = n) (j : Nat) (b : Int) :
    IntsOwn (w.setCell ⟨g, j, none⟩ (.int .i64 b)) B (.slice (some ⟨g, 0, none⟩) n cap) (l.set j b) := by
  unfold IntsOwn at h ⊢
  rw [hn] at h
  have := (World.ownsRow.stored h j (.int .i64 b)).1
  rw [List.length_set, hn, List.map_set]
  exact this
theorem IntsOwn.reads (h : IntsOwn w B v l) : IntsIn w v l := by
  rcases h.shape with ⟨rfl, rfl⟩ | ⟨g, cap, rfl, h1, h2⟩
  · exact ⟨none, 0, 0, rfl, rfl, fun h => by omega⟩
  · exact ⟨_, _, _, rfl, rfl, fun _ => ⟨g, 0, rfl, h2, fun i hi => by rw [Nat.zero_add]; exact h.cell rfl hi⟩⟩
/-- A write to another own row leaves it. -/
theorem IntsOwn.kept {row : Option Nat} (h : IntsOwn w B v l) (hg : w.grownBy w' row) (hne : v.ownBlock = none ∨ v.ownBlock ≠ row) : IntsOwn w' B v l := World.ownsRow.kept h hg hne
end
theorem wpList_append_int {Q : Exit → Act → World → Prop} {ops : Array Oper} {rest : List Oper} {o : Oper} {a : Act} {w0 wr : World} {B : Nat} (hgd : o.guard = none) (s x : Operand)
    (ho : o.op = .call { callee := .builtin .append, args := #[s, x], argTypes := #[81, 81] })
    (v : Value) (l : List Int) (hs : a.eval s = v) (hown : IntsOwn wr B v l) (hb : Below B w0 wr) (hB : B ≤ wr.heap.size)
    (b : Int) (c : Nat) (hx : a.eval x = .slice (some ⟨wr.heap.size, 0, none⟩) 1 c) (hl : l.length + 1 ≤ 1000000)
    (h : ∀ v' w', IntsOwn w' B v' (l ++ [b]) → Below B w0 w' → wpList Try.prog ops Q rest (a.put o.dst v') w') :
    wpList Try.prog ops Q (o :: rest) a (wr.alloc (.cells #[.int .i64 b] 2)) := by
  obtain ⟨i0, hi, hz0, hz1, hz2⟩ := info_parts info64
  refine wpList_append_own _ hgd s x _ ho B 2 i0 (.int .i64 0) 1 8 Try.underlying81 hi hz0 hz1 hz2 rfl (by decide) v l.length (l.map (Value.int .i64)) hs (World.ownsRow.alloc hown _) ⟨wr.heap.size, 0, none⟩ 1 c [.int .i64 b] hx rfl ?_ ?_ (by unfold maxLen; omega) (by omega) (by simp; omega) ?_
  · intro j u hj
    match j, hj with
    | 0, hj => simp at hj; subst hj; simp [Addr.add]
  · intro u hu; simp at hu; subst hu; rfl
  · intro v' w' h1 h2 _
    refine h v' w' ?_ ?_
    · unfold IntsOwn; simpa using h1
    · exact (hb.alloc hB _).grown h2 (by simp; omega) fun k hk => (World.ownsRow.lt hown k hk).1
/-- The marks k, k + 1, .. -/
def mkL (k : Int) (n : Nat) : List Int := (List.range n).map fun (i : Nat) => k + (i : Int)
theorem mkL_length (k : Int) (n : Nat) : (mkL k n).length = n := by simp [mkL]
theorem mkL_at (k : Int) {n i : Nat} (h : i < n) : (mkL k n).getD i 0 = k + (i : Int) := by simp [mkL, List.getD_eq_getElem?_getD, h]
theorem mkL_succ (k : Int) (n : Nat) : mkL k (n + 1) = mkL k n ++ [k + (n : Int)] := by simp [mkL, List.range_succ]
theorem mkL_set (k : Int) (l : List Int) (i : Nat) (h : i < l.length) : (mkL k i ++ l.drop i).set i (k + (i : Int)) = mkL k (i + 1) ++ l.drop (i + 1) := by
  have e : l.drop i = l[i] :: l.drop (i + 1) := List.drop_eq_getElem_cons h
  rw [List.set_append_right _ _ (by rw [mkL_length]; omega), mkL_length, Nat.sub_self, e, List.set_cons_zero, mkL_succ, List.append_assoc]; rfl
end Go.Proofs.Yteigdjocjcjkiaa
/- Slices of int64 with their bounds; the law's helper toInt64S. -/
namespace Go.Proofs.Yteigdjocjcjkiaa
open Go.RowKit

/-- The value v is a slice that reads as the integers l, with its bounds. -/
def IntsR (w : World) (v : Value) (l : List Int) : Prop := ∃ A len cap, v = .slice A len cap ∧ len ≤ cap ∧ cap ≤ 9223372036854775807 ∧ l.length = len ∧ (0 < len → ∃ b off, A = some ⟨b, off, none⟩ ∧ b < w.heap.size ∧ ∀ i, i < len → w.cell? ⟨b, off + i, none⟩ = some (.int .i64 (l.getD i 0)))
theorem IntsR.below {w w' : World} {B : Nat} {v : Value} {l : List Int} (h : IntsR w v l) (hb : Below B w w') (hB : w.heap.size ≤ B) : IntsR w' v l := by
  obtain ⟨A, len, cap, rfl, h1, h2, hl, hc⟩ := h
  refine ⟨A, len, cap, rfl, h1, h2, hl, fun h0 => ?_⟩
  obtain ⟨b, off, rfl, hbl, hx⟩ := hc h0
  exact ⟨b, off, rfl, by have := hb.size; omega, fun i hi => (hb.cell (p := ⟨b, off + i, none⟩) (Nat.lt_of_lt_of_le hbl hB)).trans (hx i hi)⟩
theorem IntsOwn.readsR {w : World} {B : Nat} {v : Value} {l : List Int} (h : IntsOwn w B v l) : IntsR w v l := by
  rcases h.2 with ⟨rfl, h2⟩ | ⟨g, cap, cur, rfl, h2, h3, h4, h5, _⟩
  · exact ⟨none, 0, 0, rfl, Nat.le_refl _, by omega, h2, fun h => by omega⟩
  · refine ⟨_, _, _, rfl, h4, by unfold maxLen at h5; omega, rfl, fun _ => ⟨g, 0, rfl, ?_, fun i hi => by rw [Nat.zero_add]; exact h.cell rfl hi⟩⟩
    rcases Nat.lt_or_ge g w.heap.size with hlt | hge
    · exact hlt
    · rw [Array.getElem?_eq_none hge] at h3; cases h3
theorem wpList_make_ints {Q : Exit → Act → World → Prop} {ops : Array Oper} {rest : List Oper} {o : Oper} {a : Act} {w0 w : World} {B : Nat} (hgd : o.guard = none) (l c : Operand)
    (ho : o.op = Op.makeSlice 81 l c) (n : Nat) (hl : a.eval l = .int .i64 (n : Int)) (hc : a.eval c = .int .i64 (n : Int)) (hn : n ≤ 1048576)
    (hb : Below B w0 w) (hB : B ≤ w.heap.size)
    (h : ∀ w', IntsOwn w' B (.slice (some ⟨w.heap.size, 0, none⟩) n n) (List.replicate n 0) → Below B w0 w' → wpList Try.prog ops Q rest (a.put o.dst (.slice (some ⟨w.heap.size, 0, none⟩) n n)) w') :
    wpList Try.prog ops Q (o :: rest) a w := by
  obtain ⟨i0, hi, hz0, hz1, hz2⟩ := info_parts info64
  refine wpList_make_full w hgd l c _ ho B 2 i0 (.int .i64 0) 1 Try.underlying81 hi hz0 hz1 .i64 .i64 (n : Int) (n : Int) n hl hc rfl rfl (by rw [hz2]; omega) (by unfold maxLen; omega) hB ?_
  intro w' h1 h2
  refine h w' ?_ (hb.grown h2 hB fun k hk => by simp at hk)
  have e : (madeCells (Value.int .i64 0).cells (n * 1)).toList = (List.replicate n (0 : Int)).map (Value.int .i64) := by
    show (madeCells #[Value.int .i64 0] (n * 1)).toList = _
    rw [toList_madeCells_one]; simp
  rw [e] at h1
  unfold IntsOwn; simpa using h1
def CopyPostI (L : List Int) (w : World) (e : Ending) (w' : World) : Prop := ∃ v, e = .returned v ∧ IntsOwn w' w.heap.size v L ∧ Below w.heap.size w w'
theorem take_setI (L : List Int) (k : Nat) (h : k < L.length) : (L.take k ++ List.replicate (L.length - k) 0).set k (L.getD k 0) = L.take (k + 1) ++ List.replicate (L.length - (k + 1)) 0 := by
  rw [List.set_append_right _ _ (by simp; omega), List.length_take, Nat.min_eq_left (by omega), Nat.sub_self, show L.length - k = (L.length - (k + 1)) + 1 by omega, List.replicate_succ, List.set_cons_zero, List.take_succ_eq_append_getElem h, List.append_assoc, List.getD_eq_getElem?_getD, List.getElem?_eq_getElem h]; rfl
end Go.Proofs.Yteigdjocjcjkiaa
/- Tables of bad blocks in memory; what the laws' helpers for tables do. -/
namespace Go.Proofs.Yteigdjocjcjkiaa
open Go.RowKit
set_option linter.unusedVariables false
/-- The value v is a slice, in the blocks below hi, that reads as the integers l. -/
def NI (w : World) (hi : Nat) (v : Value) (l : List Int) : Prop :=
  ∃ A len cap, v = .slice A len cap ∧ len ≤ cap ∧ cap ≤ 9223372036854775807 ∧ l.length = len ∧ (0 < len → ∃ b off, A = some ⟨b, off, none⟩ ∧ b < hi ∧ ∀ i, i < len → w.cell? ⟨b, off + i, none⟩ = some (.int .i64 (l.getD i 0)))
/-- The value v is a slice of the call's own, in the blocks from lo up to hi. -/
def IO (w : World) (lo hi : Nat) (v : Value) (l : List Int) : Prop := IntsOwn w lo v l ∧ ∀ k, v.ownBlock = some k → k < hi
section
variable {w w' : World} {lo hi lo' hi' B : Nat} {v u : Value} {l : List Int}
theorem NI.below (h : NI w hi v l) (hb : Below B w w') (hB : hi ≤ B) : NI w' hi v l := by
  obtain ⟨A, len, cap, rfl, h1, h2, hl, hc⟩ := h
  refine ⟨A, len, cap, rfl, h1, h2, hl, fun h0 => ?_⟩
  obtain ⟨b, off, rfl, hbl, hx⟩ := hc h0
  exact ⟨b, off, rfl, hbl, fun i hi => (hb.cell (p := ⟨b, off + i, none⟩) (Nat.lt_of_lt_of_le hbl hB)).trans (hx i hi)⟩
theorem NI.wide (h : NI w hi v l) (hh : hi ≤ hi') : NI w hi' v l := by
  obtain ⟨A, len, cap, rfl, h1, h2, hl, hc⟩ := h
  refine ⟨A, len, cap, rfl, h1, h2, hl, fun h0 => ?_⟩
  obtain ⟨b, off, rfl, hbl, hx⟩ := hc h0
  exact ⟨b, off, rfl, by omega, hx⟩
theorem NI.ints (h : NI w hi v l) (hh : hi ≤ w.heap.size) : IntsIn w v l := by
  obtain ⟨A, len, cap, rfl, h1, h2, hl, hc⟩ := h
  refine ⟨A, len, cap, rfl, hl, fun h0 => ?_⟩
  obtain ⟨b, off, rfl, hbl, hx⟩ := hc h0
  exact ⟨b, off, rfl, by omega, hx⟩
theorem NI.intsR (h : NI w hi v l) (hh : hi ≤ w.heap.size) : IntsR w v l := by
  obtain ⟨A, len, cap, rfl, h1, h2, hl, hc⟩ := h
  refine ⟨A, len, cap, rfl, h1, h2, hl, fun h0 => ?_⟩
  obtain ⟨b, off, rfl, hbl, hx⟩ := hc h0
  exact ⟨b, off, rfl, by omega, hx⟩
theorem IntsR.ni (h : IntsR w v l) : NI w w.heap.size v l := by
  obtain ⟨A, len, cap, rfl, h1, h2, hl, hc⟩ := h
  exact ⟨A, len, cap, rfl, h1, h2, hl, hc⟩
theorem NI.slice (h : NI w hi v l) : ∃ A n c, v = .slice A n c := by obtain ⟨A, n, c, e, _⟩ := h; exact ⟨A, n, c, e⟩
theorem NI.nil (w : World) (hi : Nat) : NI w hi (.slice none 0 0) [] := ⟨none, 0, 0, rfl, by omega, by omega, rfl, fun h => by omega⟩
theorem IO.reads (h : IO w lo hi v l) : NI w hi v l := by
  obtain ⟨A, len, cap, rfl, h1, h2, hl, hc⟩ := h.1.readsR
  refine ⟨A, len, cap, rfl, h1, h2, hl, fun h0 => ?_⟩
  obtain ⟨b, off, rfl, hbl, hx⟩ := hc h0
  refine ⟨b, off, rfl, ?_, hx⟩
  rcases h.1.shape with ⟨e, _⟩ | ⟨g, cap', e, _⟩
  · cases e
  · injection e with e1 e2 e3
    injection e1 with e1
    injection e1 with e1 e4
    subst e1
    exact h.2 b rfl
theorem IntsOwn.blockOf (h : IntsOwn w lo v l) {k : Nat} (e : v.ownBlock = some k) : lo ≤ k ∧ k < w.heap.size := World.ownsRow.lt h k e
theorem IO.mk_ (h : IntsOwn w lo v l) : IO w lo w.heap.size v l := ⟨h, fun k e => (h.blockOf e).2⟩
theorem IntsOwn.sames (h : IntsOwn w lo v l) (hs : ∀ k, v.ownBlock = some k → w'.heap[k]? = w.heap[k]?) : IntsOwn w' lo v l := by
  refine ⟨h.1, ?_⟩
  rcases h.2 with h2 | ⟨g, cap, cur, h1, h2, h3, h4⟩
  · exact .inl h2
  · exact .inr ⟨g, cap, cur, h1, h2, (hs g (by rw [h1]; rfl)).trans h3, h4⟩
theorem IO.same (h : IO w lo hi v l) (hs : Same lo hi w w') : IO w' lo hi v l := ⟨h.1.sames fun k e => hs k (h.1.blockOf e).1 (h.2 k e), h.2⟩
theorem IO.below (h : IO w lo hi v l) (hb : Below B w w') (hB : hi ≤ B) : IO w' lo hi v l := h.same (sm hb lo hB)
theorem IntsOwn.low {B' : Nat} (h : IntsOwn w B v l) (hB : B' ≤ B) : IntsOwn w B' v l := by
  refine ⟨h.1, ?_⟩
  rcases h.2 with h2 | ⟨g, cap, cur, h1, h2, h3, h4, h5⟩
  · exact .inl h2
  · exact .inr ⟨g, cap, cur, h1, by omega, h3, h4, h5⟩
theorem IO.wide (h : IO w lo hi v l) (hl : lo' ≤ lo) (hh : hi ≤ hi') : IO w lo' hi' v l := ⟨h.1.low hl, fun k e => by have := h.2 k e; omega⟩
theorem IO.nil (w : World) (lo hi : Nat) : IO w lo hi (.slice none 0 0) [] := ⟨World.ownsRow_nil w lo _ 1, fun k e => by cases e⟩
end
/-- The cells of a table whose lists are the slices u and v. -/
def tbc (T : Tb) (u v : Value) : Array Value := #[.int .i64 T.d, .int .i64 T.b, .int .i64 T.p, .int .i64 T.sp, u, v]
def TbIn (w : World) (hi : Nat) (v : Value) (T : Tb) : Prop := ∃ a b, v = .agg (tbc T a b) ∧ NI w hi a T.bad ∧ NI w hi b T.rm
def TbOwn (w : World) (lo hi : Nat) (v : Value) (T : Tb) : Prop := ∃ a b, v = .agg (tbc T a b) ∧ IO w lo hi a T.bad ∧ IO w lo hi b T.rm ∧ (a.ownBlock = none ∨ a.ownBlock ≠ b.ownBlock)
section
variable {w w' : World} {lo hi lo' hi' B : Nat} {v : Value} {T : Tb}
theorem TbIn.below (h : TbIn w hi v T) (hb : Below B w w') (hB : hi ≤ B) : TbIn w' hi v T := by
  obtain ⟨a, b, e, h1, h2⟩ := h; exact ⟨a, b, e, h1.below hb hB, h2.below hb hB⟩
theorem NI.same {l : List Int} (h : NI w hi v l) (hs : Same 0 hi w w') : NI w' hi v l := by
  obtain ⟨A, len, cap, rfl, h1, h2, hl, hc⟩ := h
  refine ⟨A, len, cap, rfl, h1, h2, hl, fun h0 => ?_⟩
  obtain ⟨b, off, rfl, hbl, hx⟩ := hc h0
  exact ⟨b, off, rfl, hbl, fun i hi => (hs.cell (p := ⟨b, off + i, none⟩) (Nat.zero_le _) hbl).trans (hx i hi)⟩
theorem TbIn.same (h : TbIn w hi v T) (hs : Same 0 hi w w') : TbIn w' hi v T := by
  obtain ⟨a, b, e, h1, h2⟩ := h; exact ⟨a, b, e, h1.same hs, h2.same hs⟩
theorem TbIn.wide (h : TbIn w hi v T) (hh : hi ≤ hi') : TbIn w hi' v T := by
  obtain ⟨a, b, e, h1, h2⟩ := h; exact ⟨a, b, e, h1.wide hh, h2.wide hh⟩
theorem TbOwn.reads (h : TbOwn w lo hi v T) : TbIn w hi v T := by
  obtain ⟨a, b, e, h1, h2, _⟩ := h; exact ⟨a, b, e, h1.reads, h2.reads⟩
theorem TbOwn.same (h : TbOwn w lo hi v T) (hs : Same lo hi w w') : TbOwn w' lo hi v T := by
  obtain ⟨a, b, e, h1, h2, h3⟩ := h; exact ⟨a, b, e, h1.same hs, h2.same hs, h3⟩
theorem TbOwn.wide (h : TbOwn w lo hi v T) (hl : lo' ≤ lo) (hh : hi ≤ hi') : TbOwn w lo' hi' v T := by
  obtain ⟨a, b, e, h1, h2, h3⟩ := h; exact ⟨a, b, e, h1.wide hl hh, h2.wide hl hh, h3⟩
theorem TbOwn.zero (w : World) (lo hi : Nat) : TbOwn w lo hi (.agg #[.int .i64 0, .int .i64 0, .int .i64 0, .int .i64 0, .slice none 0 0, .slice none 0 0]) Tb.zero := ⟨_, _, rfl, IO.nil _ _ _, IO.nil _ _ _, .inl rfl⟩
theorem TbIn.agg6 (h : TbIn w hi v T) : ∃ g0 g1 g2 g3 A n c A' n' c', v = .agg #[.int .i64 g0, .int .i64 g1, .int .i64 g2, .int .i64 g3, .slice A n c, .slice A' n' c'] := by
  obtain ⟨a, b, e, h1, h2⟩ := h
  obtain ⟨A, n, c, rfl⟩ := h1.slice
  obtain ⟨A', n', c', rfl⟩ := h2.slice
  exact ⟨_, _, _, _, _, _, _, _, _, _, e⟩
end
theorem TbOwn.agg6 {w : World} {lo hi : Nat} {v : Value} {T : Tb} (h : TbOwn w lo hi v T) : ∃ (g0 g1 g2 g3 : Int) (A : Option Addr) (n c : Nat) (A' : Option Addr) (n' c' : Nat), v = .agg #[.int .i64 g0, .int .i64 g1, .int .i64 g2, .int .i64 g3, .slice A n c, .slice A' n' c'] := h.reads.agg6
section
variable {w : World} {g : Nat} {t : TypeId}
theorem Rw.six {a b c d e f : Value} (h : Rw w g t #[a, b, c, d, e, f]) : w.cell? ⟨g, 0, none⟩ = some a ∧ w.cell? ⟨g, 1, none⟩ = some b ∧ w.cell? ⟨g, 2, none⟩ = some c ∧ w.cell? ⟨g, 3, none⟩ = some d ∧
    w.cell? ⟨g, 4, none⟩ = some e ∧ w.cell? ⟨g, 5, none⟩ = some f :=
  ⟨h.cell 0, h.cell 1, h.cell 2, h.cell 3, h.cell 4, h.cell 5⟩
theorem Rw.put6 {c0 c1 c2 c3 c4 c5 : Value} (h : Rw w g t #[c0, c1, c2, c3, c4, c5]) (a b c d e f : Value) :
    Rw ((((((w.setCell ⟨g, 0, none⟩ a).setCell ⟨g, 1, none⟩ b).setCell ⟨g, 2, none⟩ c).setCell ⟨g, 3, none⟩ d).setCell ⟨g, 4, none⟩ e).setCell ⟨g, 5, none⟩ f) g t #[a, b, c, d, e, f] := by
  have k := (((((h.set_ 0 a).set_ 1 b).set_ 2 c).set_ 3 d).set_ 4 e).set_ 5 f
  simp only [List.setIfInBounds_toArray, List.set_cons_zero, List.set_cons_succ] at k
  exact k
end
/-- The table fits. -/
def TbSz (T : Tb) : Prop := T.bad.length + T.rm.length ≤ 1048576
end Go.Proofs.Yteigdjocjcjkiaa
/- Lists of integers compared, in the model and in the program: the contracts. -/
namespace Go.Proofs.Yteigdjocjcjkiaa
open Go.RowKit
set_option linter.unusedVariables false
theorem list_same {α : Type} {d : α} {L M : List α} (hl : L.length = M.length) (h : ∀ i, i < L.length → L.getD i d = M.getD i d) : L = M := by
  refine List.ext_getElem hl fun i h1 h2 => ?_
  have := h i h1
  rw [List.getD_eq_getElem?_getD, List.getD_eq_getElem?_getD, List.getElem?_eq_getElem h1, List.getElem?_eq_getElem h2] at this
  exact this
theorem not_true {r : Bool} {P : Prop} (hr : r = true ↔ P) (h : ¬ P) : r = false := by
  cases r
  · rfl
  · exact absurd (hr.1 rfl) h
theorem below_drewN {B : Nat} {a w : World} (h : Below B a w) (n : Nat) : Below B a (w.drewN n) := ⟨h.os, h.tape, h.output, h.size, h.block⟩
theorem cast_ne {a b : Nat} (h : a ≠ b) : ((a : Int) != (b : Int)) = true := by simp; omega
end Go.Proofs.Yteigdjocjcjkiaa
/- Two blocks of an array compared, in the model and in the program: the contracts. -/
namespace Go.Proofs.Yteigdjocjcjkiaa
open Go.RowKit
set_option linter.unusedVariables false
/-- Two blocks differ at their heads, or are alike up to their pages. -/
theorem blk_heads (x y : Blk) : x.er ≠ y.er ∨ (x.er = y.er ∧ x.nx ≠ y.nx) ∨ (x.er = y.er ∧ x.nx = y.nx ∧ x.bad ≠ y.bad) ∨ (x.er = y.er ∧ x.nx = y.nx ∧ x.bad = y.bad ∧ x.pg.length ≠ y.pg.length) ∨ (x.er = y.er ∧ x.nx = y.nx ∧ x.bad = y.bad ∧ x.pg.length = y.pg.length) := by
  by_cases h1 : x.er = y.er
  case neg => exact .inl h1
  by_cases h2 : x.nx = y.nx
  case neg => exact .inr (.inl ⟨h1, h2⟩)
  by_cases h3 : x.bad = y.bad
  case neg => exact .inr (.inr (.inl ⟨h1, h2, h3⟩))
  by_cases h4 : x.pg.length = y.pg.length
  · exact .inr (.inr (.inr (.inr ⟨h1, h2, h3, h4⟩)))
  · exact .inr (.inr (.inr (.inl ⟨h1, h2, h3, h4⟩)))
theorem blk_eq {x y : Blk} (h1 : x.er = y.er) (h2 : x.nx = y.nx) (h3 : x.bad = y.bad) : x = y ↔ x.pg = y.pg := by
  obtain ⟨a, b, c, d⟩ := x
  obtain ⟨a', b', c', d'⟩ := y
  simp only at h1 h2 h3
  subst h1 h2 h3
  simp
end Go.Proofs.Yteigdjocjcjkiaa
/- All pages of two arrays compared, but some of one block: the laws' b10Others, where they are equal. -/
namespace Go.Proofs.Yteigdjocjcjkiaa
open Go.RowKit
set_option linter.unusedVariables false
def OthEq (L M : List Blk) (block low high : Int) : Prop := L.length = M.length ∧ ∀ i, i < L.length → (L.getD i Blk.zero).pg.length = (M.getD i Blk.zero).pg.length ∧
  ∀ k, k < (L.getD i Blk.zero).pg.length → ((i : Int) ≠ block ∨ (k : Int) < low ∨ high < (k : Int)) → (L.getD i Blk.zero).pg.getD k ByteArray.empty = (M.getD i Blk.zero).pg.getD k ByteArray.empty
set_option maxHeartbeats 4000000 in
set_option maxRecDepth 100000 in
theorem others_any (u v : Value) (F G : Fl) (block low high : Int) (w : World) (lo hi lo' hi' : Nat) (hu : FlIn w lo hi u F) (hv : FlIn w lo' hi' v G) (h1 : hi ≤ w.heap.size) (h2 : hi' ≤ w.heap.size) (hE : OthEq F.bs G.bs block low high) (hl : FlLen F) :
    Calls Try.prog 22 #[u, v, .int .i64 block, .int .i64 low, .int .i64 high] w fun e w' => e = .returned (.bool true) ∧ Below w.heap.size w w' := by
  obtain ⟨uu, rfl, A, n, c, rfl, hn1, hn2, hn3, hc⟩ := hu
  obtain ⟨vv, rfl, A', n', c', rfl, hm1, hm2, hm3, hc'⟩ := hv
  have hnn : n = n' := by have := hE.1; omega
  subst hnn
  obtain ⟨r0, r1, b0⟩ := Rw.two_new w 31 31 #[.int .i64 F.d, .int .i64 F.b, .int .i64 F.p, .slice A n c, .int .i64 F.fu, .int .i64 F.ke, .bool F.off, .int .i64 F.op] #[.int .i64 G.d, .int .i64 G.b, .int .i64 G.p, .slice A' n c', .int .i64 G.fu, .int .i64 G.ke, .bool G.off, .int .i64 G.op]
  have R0 := Lib.hid r0
  have R1 := Lib.hid r1
  have B0 := Lib.hid b0
  have HC := Lib.hid hc
  have HC' := Lib.hid hc'
  have HE := Lib.hid hE
  have HH := Lib.hid (And.intro h1 h2)
  have HL := Lib.hid hl
  have HN := Lib.hid (show F.bs.length = n from hn3)
  have hnm : (n : Int) ≤ 1048576 := by have := hl.1; omega
  have hnn : ((n : Int) != (n : Int)) = false := by simp
  obtain ⟨d0, d1, d2, d3, d4, d5, d6, d7⟩ := r0.eight
  obtain ⟨e0, e1, e2, e3, e4, e5, e6, e7⟩ := r1.eight
  clear r0 r1 b0 hc hc' hE h1 h2 hl hn1 hn2 hn3 hm1 hm2 hm3
  unfold flc
  go_enter Try.func22, Try.ntmps22
  go_wp2
  clear d0 d1 d2 d3 d4 d5 d6 d7 e0 e1 e2 e3 e4 e5 e6 e7
  go_loopw [11] (fun i wr => ∃ k : Nat, k ≤ n ∧ i = .int .i64 k ∧ Hid (Rw wr w.heap.size 31 #[.int .i64 F.d, .int .i64 F.b, .int .i64 F.p, .slice A n c, .int .i64 F.fu, .int .i64 F.ke, .bool F.off, .int .i64 F.op]) ∧ Hid (Rw wr (w.heap.size + 1) 31 #[.int .i64 G.d, .int .i64 G.b, .int .i64 G.p, .slice A' n c', .int .i64 G.fu, .int .i64 G.ke, .bool G.off, .int .i64 G.op]) ∧ Hid (Below w.heap.size w wr)) (fun i _ => n - (intOf i).toNat)
  case atStart => exact ⟨0, by omega, rfl, R0, R1, B0⟩
  case round =>
    clear R0 R1 B0
    obtain ⟨i, hi, rfl, R0, R1, B0⟩ := hrel
    obtain ⟨d0, d1, d2, d3, d4, d5, d6, d7⟩ := R0.out.eight
    obtain ⟨e0, e1, e2, e3, e4, e5, e6, e7⟩ := R1.out.eight
    by_cases hlt : i < n
    · have hii : (i : Int) < (n : Int) := by omega
      obtain ⟨gb, off, rfl, hg1, hg2, hcell⟩ := HC.out (by omega)
      obtain ⟨gb', off', rfl, hg1', hg2', hcell'⟩ := HC'.out (by omega)
      obtain ⟨pv, hat, hp⟩ := hcell i hlt
      obtain ⟨pv', hat', hp'⟩ := hcell' i hlt
      obtain ⟨hpl, hpe⟩ := HE.out.2 i (by rw [HN.out]; exact hlt)
      have hpm := HL.out.2 i (by rw [HN.out]; exact hlt)
      unfold Fl.blk at hpm
      obtain ⟨Ap, m, cp, rfl, hq1, hq2, hq3, hq4, hqc⟩ := hp
      obtain ⟨Ap', m', cp', rfl, hq1', hq2', hq3', hq4', hqc'⟩ := hp'
      have hmm : m = m' := by omega
      subst hmm
      have c3 := (B0.out.cell (p := ⟨gb, off + i * 4 + 3, none⟩) (by have := HH.out; show gb < _; omega)).trans hat.2.2.2
      have c3' := (B0.out.cell (p := ⟨gb', off' + i * 4 + 3, none⟩) (by have := HH.out; show gb' < _; omega)).trans hat'.2.2.2
      have QC := Lib.hid hqc
      have QC' := Lib.hid hqc'
      have HPE := Lib.hid hpe
      have HPL := Lib.hid (show (F.bs.getD i Blk.zero).pg.length = m from hq3)
      have hmi : (m : Int) ≤ 1048576 := by omega
      have hmmi : ((m : Int) != (m : Int)) = false := by simp
      clear hcell hcell' hat hat' hpl hpe hpm hq1 hq2 hq3 hq4 hqc hq1' hq2' hq3' hq4' hqc' hg1 hg2 hg1' hg2' HC HC' d0 d1 d2 d4 d5 d6 d7 e0 e1 e2 e4 e5 e6 e7
      go_wp2_with fail
      go_quiet (fail)
      go_wp2_with fail
      obtain ⟨wo, hwo⟩ : ∃ x, x = wr := ⟨_, rfl⟩
      rw [← hwo] at R0 R1 B0 c3 c3' ⊢
      clear hwo
      have T0 := Lib.hid (show Rw (wo.drewN nq) w.heap.size 31 _ from R0.out)
      have T1 := Lib.hid (show Rw (wo.drewN nq) (w.heap.size + 1) 31 _ from R1.out)
      have C3 := Lib.hid (And.intro (show (wo.drewN nq).cell? _ = _ from c3) (show (wo.drewN nq).cell? _ = _ from c3'))
      have TB := Lib.hid (below_drewN B0.out nq)
      clear R0 R1 B0 c3 c3' d3 e3
      go_loopw [12] (fun x wr => ∃ k : Nat, k ≤ m ∧ x = .int .i64 k ∧ Hid (Rw wr w.heap.size 31 #[.int .i64 F.d, .int .i64 F.b, .int .i64 F.p, .slice (some ⟨gb, off, none⟩) n c, .int .i64 F.fu, .int .i64 F.ke, .bool F.off, .int .i64 F.op]) ∧ Hid (Rw wr (w.heap.size + 1) 31 #[.int .i64 G.d, .int .i64 G.b, .int .i64 G.p, .slice (some ⟨gb', off', none⟩) n c', .int .i64 G.fu, .int .i64 G.ke, .bool G.off, .int .i64 G.op]) ∧ Hid (Below w.heap.size w wr) ∧
        Hid (wr.cell? ⟨gb, off + i * 4 + 3, none⟩ = some (.slice Ap m cp) ∧ wr.cell? ⟨gb', off' + i * 4 + 3, none⟩ = some (.slice Ap' m cp'))) (fun x _ => m - (intOf x).toNat)
      case atStart => exact ⟨0, by omega, rfl, T0, T1, TB, C3⟩
      case round =>
        clear T0 T1 TB C3
        obtain ⟨k, hk, rfl, T0, T1, TB, C3⟩ := hrel
        obtain ⟨d0, d1, d2, d3, d4, d5, d6, d7⟩ := T0.out.eight
        obtain ⟨e0, e1, e2, e3, e4, e5, e6, e7⟩ := T1.out.eight
        obtain ⟨c3, c3'⟩ := C3.out
        clear d0 d1 d2 d4 d5 d6 d7 e0 e1 e2 e4 e5 e6 e7
        by_cases hkm : k < m
        · have hki : (k : Int) < (m : Int) := by omega
          obtain ⟨pb, po, rfl, hp1, hp2, hpx⟩ := QC.out (by omega)
          obtain ⟨pb', po', rfl, hp1', hp2', hpx'⟩ := QC'.out (by omega)
          have x1 := (TB.out.cell (p := ⟨pb, po + k, none⟩) (by have := HH.out; show pb < _; omega)).trans (hpx k hkm)
          have x2 := (TB.out.cell (p := ⟨pb', po' + k, none⟩) (by have := HH.out; show pb' < _; omega)).trans (hpx' k hkm)
          have hpe := HPE.out k (by rw [HPL.out]; exact hkm)
          clear hpx hpx' hp1 hp2 hp1' hp2' QC QC'
          by_cases hex : (i : Int) ≠ block ∨ (k : Int) < low ∨ high < (k : Int)
          · have hpe := hpe hex
            rw [hpe] at x1
            clear hpe
            have hs := str_same (rfl : ((G.bs.getD i Blk.zero).pg.getD k ByteArray.empty) = (G.bs.getD i Blk.zero).pg.getD k ByteArray.empty)
            generalize (G.bs.getD i Blk.zero).pg.getD k ByteArray.empty = z at *
            by_cases h1 : (i : Int) = block
            · have b1 : ((i : Int) != block) = false := by simp; omega
              by_cases h2 : (k : Int) < low
              · have b2 : decide ((k : Int) < low) = true := by simp; omega
                clear hex h1
                go_wp2_with fail
                go_quiet (fail)
                go_wp2
                go_roundw
                case rel => exact ⟨k + 1, by omega, by go_num, Lib.hid (show Rw (wr.drewN nq) _ _ _ from T0.out), Lib.hid (show Rw (wr.drewN nq) _ _ _ from T1.out), Lib.hid (below_drewN TB.out nq), C3⟩
                case measure => simp [intOf]; omega
              · have b2 : decide ((k : Int) < low) = false := by simp; omega
                have b3 : decide ((k : Int) > high) = true := by simp; omega
                clear hex h1
                go_wp2_with fail
                go_quiet (fail)
                go_wp2
                go_roundw
                case rel => exact ⟨k + 1, by omega, by go_num, Lib.hid (show Rw (wr.drewN nq) _ _ _ from T0.out), Lib.hid (show Rw (wr.drewN nq) _ _ _ from T1.out), Lib.hid (below_drewN TB.out nq), C3⟩
                case measure => simp [intOf]; omega
            · have b1 : ((i : Int) != block) = true := by simp; omega
              clear hex
              go_wp2_with fail
              go_quiet (fail)
              go_wp2
              go_roundw
              case rel => exact ⟨k + 1, by omega, by go_num, Lib.hid (show Rw (wr.drewN nq) _ _ _ from T0.out), Lib.hid (show Rw (wr.drewN nq) _ _ _ from T1.out), Lib.hid (below_drewN TB.out nq), C3⟩
              case measure => simp [intOf]; omega
          · have b1 : ((i : Int) != block) = false := by simp; omega
            have b2 : decide ((k : Int) < low) = false := by simp; omega
            have b3 : decide ((k : Int) > high) = false := by simp; omega
            clear hpe hex
            go_wp2_with fail
            go_quiet (fail)
            go_wp2
            go_roundw
            case rel => exact ⟨k + 1, by omega, by go_num, Lib.hid (show Rw (wr.drewN nq) _ _ _ from T0.out), Lib.hid (show Rw (wr.drewN nq) _ _ _ from T1.out), Lib.hid (below_drewN TB.out nq), C3⟩
            case measure => simp [intOf]; omega
        · obtain rfl : k = m := by omega
          clear QC QC' HPE
          go_wp2
          go_roundw
          case rel => exact ⟨i + 1, by omega, by go_num, T0, T1, TB⟩
          case measure => simp [intOf]; omega
    · obtain rfl : i = n := by omega
      clear HC HC' HE HL HH HN
      go_wp2
      go_ret
      exact ⟨rfl, B0.out⟩
end Go.Proofs.Yteigdjocjcjkiaa
/- Plain facts: what a program operation and an erase leave, page by page. -/
namespace Go.Proofs.Yteigdjocjcjkiaa
open Go.RowKit
set_option linter.unusedVariables false
/-- One block replaced by one with as many pages, equal but for some of them. -/
theorem othSet {L : List Blk} {k : Nat} (x : Blk) (hk : k < L.length) {low high : Int} (hl : x.pg.length = (L.getD k Blk.zero).pg.length)
    (h : ∀ t, t < x.pg.length → ((t : Int) < low ∨ high < (t : Int)) → x.pg.getD t ByteArray.empty = (L.getD k Blk.zero).pg.getD t ByteArray.empty) : OthEq (L.set k x) L k low high := by
  refine ⟨List.length_set, fun i hi => ?_⟩
  rw [List.length_set] at hi
  by_cases e : k = i
  · subst e
    rw [getD_set_eq _ _ _ _ hi]
    exact ⟨hl, fun t ht hc => h t ht (by omega)⟩
  · rw [getD_set_ne _ _ _ _ _ e]
    exact ⟨rfl, fun t ht hc => rfl⟩
theorem OthEq.wider {L M : List Blk} {b lo hi lo' hi' : Int} (h : OthEq L M b lo hi) (h1 : lo' ≤ lo) (h2 : hi ≤ hi') : OthEq L M b lo' hi' :=
  ⟨h.1, fun i hi => ⟨(h.2 i hi).1, fun k hk hc => (h.2 i hi).2 k hk (by omega)⟩⟩
theorem not_empty {s : ByteArray} (h : s.size = 91) : s ≠ ByteArray.empty := fun e => by
  rw [e] at h
  simp [ByteArray.size_empty] at h
section
variable {F : Fl} {k n : Nat} {raw : ByteArray}
theorem prog_off (hf : F.fu ≠ 0) : (F.prog k raw).off = F.off ∧ (F.prog k raw).op = wrap64 (F.op + 1) ∧ (F.prog k raw).p = F.p ∧ (F.prog k raw).bs = F.bs.set k ((F.blk k).prog raw) := by
  unfold Fl.prog
  rw [if_neg hf]
  refine ⟨?_, rfl, rfl, rfl⟩
  show (if F.fu = 0 then true else F.off) = F.off
  rw [if_neg hf]
theorem order_prog (h : FlOk F) (ho : 0 ≤ F.op ∧ F.op ≤ 1000) (hoff : F.off = false) (hf : F.fu ≠ 0) (hk : k < F.bs.length) (hnp : (n : Int) < F.p) (hn : (F.blk k).nx = n) (hb : (F.blk k).bad = false) (hr : raw.size = 91) :
    FlOk (F.prog k raw) ∧ ReadEnds (F.prog k raw) k n raw 0 ∧ OthEq (F.prog k raw).bs F.bs k n n ∧ (F.prog k raw).op = F.op + 1 ∧ (F.prog k raw).p = F.p ∧ (F.prog k raw).bs.length = F.bs.length ∧
    ((F.prog k raw).blk k).nx = n + 1 ∧ ((F.prog k raw).blk k).er = (F.blk k).er ∧ ((F.prog k raw).blk k).bad = false ∧ (F.prog k raw).off = false ∧ ProgEnds (F.prog k raw) k n raw Fl.zero 5 := by
  have hok := h.prog (k := k) (by omega) hk (by omega) hr
  obtain ⟨e1, e2, e3, e4⟩ := prog_off (k := k) (raw := raw) hf
  have hpl := h.plen hk
  have hbl : (F.prog k raw).blk k = (F.blk k).prog raw := by unfold Fl.blk; rw [e4, getD_set_eq _ _ _ _ hk]; rfl
  have hlen : (F.prog k raw).bs.length = F.bs.length := by rw [e4, List.length_set]
  have hat : ((F.blk k).prog raw).at n = raw := by
    show ((F.blk k).pg.set (F.blk k).nx.toNat raw).getD n ByteArray.empty = raw
    rw [hn, show ((n : Int)).toNat = n by omega, getD_set_eq _ _ _ _ (by omega)]
  have hnx : ((F.prog k raw).blk k).nx = n + 1 := by rw [hbl]; show (F.blk k).nx + 1 = _; rw [hn]
  have hbd : ((F.prog k raw).blk k).bad = false := by rw [hbl]; exact hb
  refine ⟨hok, ?_, ?_, by rw [e2, IntWalk.wrap64_in _ (by omega)], e3, hlen, hnx, by rw [hbl]; rfl, hbd, by rw [e1, hoff], .state hok hr (by rw [e1, hoff]) k n rfl rfl (by omega) (by omega) hbd (by rw [hnx]; omega)⟩
  · have := ReadEnds.full (block := k) (page := n) hok (by rw [e1, hoff]) k n rfl rfl (by omega) (by omega) (by rw [hbl, hat]; exact not_empty hr)
    rw [hbl, hat] at this
    exact this
  · rw [e4]
    refine othSet _ hk (by show ((F.blk k).pg.set _ _).length = _; rw [List.length_set]; rfl) fun t ht hc => ?_
    show ((F.blk k).pg.set (F.blk k).nx.toNat raw).getD t ByteArray.empty = _
    rw [hn, getD_set_ne _ _ _ _ _ (by omega)]
    rfl
theorem order_erase (h : FlOk F) (ho : 0 ≤ F.op ∧ F.op ≤ 1001) (hoff : F.off = false) (hf : F.fu ≠ 0) (hk : k < F.bs.length) (hnp : (n : Int) < F.p) (hb : (F.blk k).bad = false) (he : (F.blk k).er ≠ 1000) :
    EraEnds F k (F.erase k) 0 ∧ FlOk (F.erase k) ∧ ReadEnds (F.erase k) k n erasedB 0 ∧ OthEq (F.erase k).bs F.bs k 0 (F.p - 1) ∧ (F.erase k).bs.length = F.bs.length ∧ ((F.erase k).blk k).er = (F.blk k).er + 1 := by
  have hok := h.erase (k := k) (by omega) hk he
  have hpl := h.plen hk
  have e1 : (F.erase k).off = false := by show (if F.fu = 0 then true else F.off) = false; rw [if_neg hf, hoff]
  have e4 : (F.erase k).bs = F.bs.set k ((F.blk k).erase 91) := by unfold Fl.erase; rw [if_neg hf]; rfl
  have hlen : (F.erase k).bs.length = F.bs.length := by rw [e4, List.length_set]
  have hbl : (F.erase k).blk k = (F.blk k).erase 91 := by unfold Fl.blk; rw [e4, getD_set_eq _ _ _ _ hk]; rfl
  have hat : ((F.blk k).erase 91).at n = ByteArray.empty := by
    show (emptied (F.blk k).pg 91).getD n ByteArray.empty = _
    rw [emptied_at _ _ _ (by omega), if_pos (by omega)]
  have hc : F.code = 0 := by unfold Fl.code; rw [if_neg hf]
  refine ⟨hc ▸ EraEnds.done h hoff k rfl hk hb he, hok, .empty hok e1 k n rfl rfl (by omega) (by show (n : Int) < F.p; exact hnp) (by rw [hbl, hat]), ?_, hlen, by rw [hbl]; rfl⟩
  rw [e4]
  refine othSet _ hk (by show (emptied (F.blk k).pg 91).length = _; rw [emptied_length]; rfl) fun t ht hcc => ?_
  have ht2 : t < (F.blk k).pg.length := by
    have : t < (emptied (F.blk k).pg 91).length := ht
    rw [emptied_length] at this
    exact this
  omega
end
end Go.Proofs.Yteigdjocjcjkiaa
/- ReadRaw, in the model and in the program: the contracts. -/
namespace Go.Proofs.Yteigdjocjcjkiaa
open Go.RowKit
set_option linter.unusedVariables false
/-- A page of an array that is read. -/
theorem page_at {W : World} {lo hi n cap : Nat} {A : Option Addr} {L : List Blk} (h : BksIn W lo hi (.slice A n cap) L) {k m : Nat} (hk : k < n) (hm : m < (L.getD k Blk.zero).pg.length) :
    ∃ gb o b po pc, A = some ⟨gb, o, none⟩ ∧ gb < hi ∧ b < hi ∧ W.cell? ⟨gb, o + k * 4 + 3, none⟩ = some (.slice (some ⟨b, po, none⟩) (L.getD k Blk.zero).pg.length pc) ∧ W.cell? ⟨b, po + m, none⟩ = some (.string ((L.getD k Blk.zero).at m)) ∧ ((L.getD k Blk.zero).at m).size ≤ 9223372036854775807 := by
  obtain ⟨A', n', c', e, _, _, _, hx⟩ := h
  injection e with e1 e2 e3
  subst e1 e2 e3
  obtain ⟨gb, o, e, h1, h2, hy⟩ := hx (by omega)
  obtain ⟨pv, hp, hpg⟩ := hy k hk
  obtain ⟨A2, n2, c2, rfl, _, _, h5, h6, h7⟩ := hpg
  obtain ⟨b, po, rfl, h8, h9, hc⟩ := h7 (by omega)
  exact ⟨gb, o, b, po, c2, e, h2, h9, by rw [h5]; exact hp.2.2.2, hc m (by omega), h6 m (by omega)⟩
theorem empty_list : (ByteArray.empty : ByteArray).toList = [] := by rw [ByteArray.toList_eq]; rfl
theorem blkRead_no (gb o b po P pc m : Nat) (w : World) (q3 : w.cell? ⟨gb, o + 3, none⟩ = some (.slice (some ⟨b, po, none⟩) P pc)) (cp : w.cell? ⟨b, po + m, none⟩ = some (.string ByteArray.empty)) (hm : (m : Int) < (P : Int)) (hP : (P : Int) ≤ 16) :
    Calls Try.prog 46 #[.pointer (some ⟨gb, o, none⟩), .int .i64 (m : Int)] w fun e w' => e = .returned (.string (fillB 255 91)) ∧ Below w.heap.size w w' := by
  have hyl := empty_list
  have HEr := Lib.hid (fun (W : World) => implErased_any W)
  have h9 := fillB_size 255 91
  go_enter Try.func46, Try.ntmps46
  go_wp2_with fail
  refine (HEr.out _).mono ?_
  rintro e w2 ⟨rfl, b2⟩
  have B2 := Lib.hid b2
  clear b2
  go_wp2
  go_ret
  exact ⟨rfl, B2.out⟩
theorem blkRead_yes (gb o b po P pc m : Nat) (y : ByteArray) (w : World) (q3 : w.cell? ⟨gb, o + 3, none⟩ = some (.slice (some ⟨b, po, none⟩) P pc)) (cp : w.cell? ⟨b, po + m, none⟩ = some (.string y)) (hm : (m : Int) < (P : Int)) (hP : (P : Int) ≤ 16) (hcs : y.size ≤ 9223372036854775807) (h2 : y ≠ ByteArray.empty) :
    Calls Try.prog 46 #[.pointer (some ⟨gb, o, none⟩), .int .i64 (m : Int)] w fun e w' => e = .returned (.string y) ∧ Below w.heap.size w w' := by
  have hne : y.size ≠ 0 := fun e => h2 (by apply ByteArray.ext; apply Array.eq_empty_of_size_eq_zero; exact e)
  obtain ⟨hn1, hn2⟩ := bytes_ne hne
  have B0 := Lib.hid (Below.refl w.heap.size w)
  clear h2
  go_enter Try.func46, Try.ntmps46
  go_wp2
  go_ret
  exact ⟨rfl, B0.out⟩
set_option maxHeartbeats 1000000 in
theorem implRead_any (v : Value) (block page : Int) (F : Fl) (s : ByteArray) (c : Int) (w : World) (lo hi : Nat) (h : FlIn w lo hi v F) (hh : hi ≤ w.heap.size) (hE : ReadEnds F block page s c) (hl : FlLen F) :
    Calls Try.prog 16 #[v, .int .i64 block, .int .i64 page] w (PairPost s c w) := by
  obtain ⟨r, hr⟩ := prop_dec (FlOk F)
  obtain ⟨u, rfl, hb⟩ := h
  have hv : ∀ W : World, BksIn W lo hi u F.bs → FlIn W lo hi (.agg (flc F u)) F := fun W a => ⟨u, rfl, a⟩
  have HV := Lib.hid (fun (W : World) (a : BksIn W lo hi u F.bs) (c : hi ≤ W.heap.size) => implValid_any (.agg (flc F u)) F r W lo hi (hv W a) c hr hl)
  have H := Lib.hid hb
  have hbl : ∃ A n c, u = .slice A n c ∧ F.bs.length = n := by obtain ⟨A, n, c, e, _, _, h, _⟩ := hb; exact ⟨A, n, c, e, h⟩
  obtain ⟨Au, nu, cu, rfl, hlen⟩ := hbl
  clear hb hv hl
  have hFl : flc F (.slice Au nu cu) = #[.int .i64 F.d, .int .i64 F.b, .int .i64 F.p, .slice Au nu cu, .int .i64 F.fu, .int .i64 F.ke, .bool F.off, .int .i64 F.op] := rfl
  rw [hFl] at HV ⊢
  have R0 := Lib.hid (Rw.new w 31 #[.int .i64 F.d, .int .i64 F.b, .int .i64 F.p, .slice Au nu cu, .int .i64 F.fu, .int .i64 F.ke, .bool F.off, .int .i64 F.op])
  have B0 := Lib.hid ((Below.refl w.heap.size w).alloc (Nat.le_refl _) (.cells #[.int .i64 F.d, .int .i64 F.b, .int .i64 F.p, .slice Au nu cu, .int .i64 F.fu, .int .i64 F.ke, .bool F.off, .int .i64 F.op] 31))
  clear hFl
  have HE := Lib.hid hE
  have HLN := Lib.hid hlen
  have HP16 := Lib.hid (fun (h : FlOk F) => h.1.p16)
  have HPL := Lib.hid (fun (h : FlOk F) (i : Nat) (hi : i < F.bs.length) => h.plen hi)
  have HLE := Lib.hid (fun (h : FlOk F) => h.len)
  have HHP := Lib.hid (fun (W : World) (hok : FlOk F) (r : Bool) (hr : r = true ↔ ((0 ≤ block ∧ block < (nu : Int)) ∧ (0 ≤ page ∧ page < F.p))) => geoPage_any F.d F.b F.p block page r W hok.1 (by have := hok.2.1; rw [hlen] at this; rw [← this]; exact hr))
  clear hE hlen
  generalize hoff : F.off = off at *
  have HOF := Lib.hid hoff
  clear hoff
  go_enter Try.func16, Try.ntmps16
  go_wp2_with fail
  refine (HV.out _ (H.out.same (sm B0.out lo hh)) (by simp; omega)).mono ?_
  rintro e w1 ⟨rfl, b1⟩
  have S0 := Lib.hid (R0.out.below b1 (by simp))
  have B1 := Lib.hid (B0.out.trans (b1.mono (by simp)))
  have hsz1 := b1.size
  simp only [World.size_alloc] at hsz1
  obtain ⟨a0, a1, a2, a3, a4, a5, a6, a7⟩ := S0.out.eight
  clear b1
  rcases HE.out with hno | ⟨hok, h1⟩ | ⟨hok, h1, h2⟩ | ⟨hok, h1, k, m, rfl, rfl, hkl, hnp, h2⟩ | ⟨hok, h1, k, m, rfl, rfl, hkl, hnp, h2⟩
  · obtain rfl : r = false := (bool_of r hr).2 hno
    clear hr hno
    go_wp2
    go_ret2
    exact ⟨rfl, B1.out⟩
  all_goals
    obtain rfl : r = true := hr.2 hok
    rw [HOF.out] at h1
    subst h1
    have hl9 := HLE.out hok
    have hp9 := HP16.out hok
    rw [HLN.out] at hl9
    clear hr
  · clear hok hp9
    go_wp2
    go_ret2
    exact ⟨rfl, B1.out⟩
  · have HF := Lib.hid (HHP.out w1 hok false (by
      rw [HLN.out] at h2
      simp only [Bool.false_eq_true, false_iff]
      rintro ⟨a, b⟩
      rcases h2 with h2 | h2 <;> contradiction))
    clear hok h2 hp9
    go_wp2_with fail
    refine HF.out.mono ?_
    rintro e w' ⟨rfl, bx⟩
    have BX := Lib.hid (B1.out.trans (bx.mono (by omega)))
    clear bx
    go_wp2
    go_ret2
    exact ⟨rfl, BX.out⟩
  · have HF := Lib.hid (HHP.out w1 hok true (by rw [HLN.out] at hkl; simp; omega))
    have hpl := HPL.out hok k hkl
    rw [HLN.out] at hkl
    obtain ⟨gb, o, b, po, pc, rfl, hg1, hb1, q3, cp, hcs⟩ := page_at (H.out.same (sm B1.out lo hh)) (m := m) hkl (by show m < (F.blk k).pg.length; omega)
    change w1.cell? ⟨gb, o + k * 4 + 3, none⟩ = some (.slice (some ⟨b, po, none⟩) (F.blk k).pg.length pc) at q3
    change w1.cell? ⟨b, po + m, none⟩ = some (.string ((F.blk k).at m)) at cp
    change ((F.blk k).at m).size ≤ _ at hcs
    have hki : (k : Int) < (nu : Int) := by omega
    have hmi : (m : Int) < ((F.blk k).pg.length : Int) := by omega
    have hP16 : ((F.blk k).pg.length : Int) ≤ 16 := by omega
    have hnu : (nu : Int) ≤ 36 := by omega
    generalize (F.blk k).pg.length = P at *
    generalize (F.blk k).at m = y at *
    subst h2
    clear hok hpl hp9 hl9
    go_wp2_with fail
    refine HF.out.mono ?_
    rintro e w' ⟨rfl, bx⟩
    have BX := Lib.hid (B1.out.trans (bx.mono (by omega)))
    have SX := Lib.hid (S0.out.below bx (by omega))
    have q3x := (show w'.cell? ⟨gb, o + k * 4 + 3, none⟩ = w1.cell? ⟨gb, o + k * 4 + 3, none⟩ from World.cell?_of_block (w := w1) (bx.block gb (by omega))).trans q3
    have cpx := (show w'.cell? ⟨b, po + m, none⟩ = w1.cell? ⟨b, po + m, none⟩ from World.cell?_of_block (w := w1) (bx.block b (by omega))).trans cp
    have hsx := bx.size
    clear bx a0 a1 a2 a3 a4 a5 a6 a7 q3 cp
    obtain ⟨a0, a1, a2, a3, a4, a5, a6, a7⟩ := SX.out.eight
    have HBR := Lib.hid (blkRead_no gb (o + k * 4) b po P pc m w' q3x cpx hmi hP16)
    go_wp2_with fail
    refine HBR.out.mono ?_
    rintro e w2 ⟨rfl, b2⟩
    have B2 := Lib.hid (BX.out.trans (b2.mono (by omega)))
    clear b2
    go_wp2
    go_ret2
    exact ⟨rfl, B2.out⟩
  · have HF := Lib.hid (HHP.out w1 hok true (by rw [HLN.out] at hkl; simp; omega))
    have hpl := HPL.out hok k hkl
    rw [HLN.out] at hkl
    obtain ⟨gb, o, b, po, pc, rfl, hg1, hb1, q3, cp, hcs⟩ := page_at (H.out.same (sm B1.out lo hh)) (m := m) hkl (by show m < (F.blk k).pg.length; omega)
    change w1.cell? ⟨gb, o + k * 4 + 3, none⟩ = some (.slice (some ⟨b, po, none⟩) (F.blk k).pg.length pc) at q3
    change w1.cell? ⟨b, po + m, none⟩ = some (.string ((F.blk k).at m)) at cp
    change ((F.blk k).at m).size ≤ _ at hcs
    have hki : (k : Int) < (nu : Int) := by omega
    have hmi : (m : Int) < ((F.blk k).pg.length : Int) := by omega
    have hP16 : ((F.blk k).pg.length : Int) ≤ 16 := by omega
    have hnu : (nu : Int) ≤ 36 := by omega
    generalize (F.blk k).pg.length = P at *
    generalize (F.blk k).at m = y at *
    clear hok hpl hp9 hl9
    go_wp2_with fail
    refine HF.out.mono ?_
    rintro e w' ⟨rfl, bx⟩
    have BX := Lib.hid (B1.out.trans (bx.mono (by omega)))
    have SX := Lib.hid (S0.out.below bx (by omega))
    have q3x := (show w'.cell? ⟨gb, o + k * 4 + 3, none⟩ = w1.cell? ⟨gb, o + k * 4 + 3, none⟩ from World.cell?_of_block (w := w1) (bx.block gb (by omega))).trans q3
    have cpx := (show w'.cell? ⟨b, po + m, none⟩ = w1.cell? ⟨b, po + m, none⟩ from World.cell?_of_block (w := w1) (bx.block b (by omega))).trans cp
    have hsx := bx.size
    clear bx a0 a1 a2 a3 a4 a5 a6 a7 q3 cp
    obtain ⟨a0, a1, a2, a3, a4, a5, a6, a7⟩ := SX.out.eight
    have HBR := Lib.hid (blkRead_yes gb (o + k * 4) b po P pc m y w' q3x cpx hmi hP16 hcs h2)
    clear h2
    go_wp2_with fail
    refine HBR.out.mono ?_
    rintro e w2 ⟨rfl, b2⟩
    have B2 := Lib.hid (BX.out.trans (b2.mono (by omega)))
    clear b2
    go_wp2
    go_ret2
    exact ⟨rfl, B2.out⟩
set_option maxRecDepth 100000 in
theorem l06Read_any (g : Nat) (F : Fl) (k m nu cu : Nat) (Au : Option Addr) (lo hi : Nat) (w : World) (bk : BksIn w lo hi (.slice Au nu cu) F.bs) (c3 : w.cell? ⟨g, 3, none⟩ = some (.slice Au nu cu)) (hok : FlOk F) (hlen : F.bs.length = nu) (hkn : k < nu) (hm : (m : Int) < F.p) :
    Calls Try.prog 44 #[.pointer (some ⟨g, 0, none⟩), .int .i64 k, .int .i64 m] w fun e w' => e = .returned (.string (if (F.blk k).at m = ByteArray.empty then erasedB else (F.blk k).at m)) ∧ Below w.heap.size w w' := by
  have hpl := hok.plen (i := k) (by omega)
  have hl9 := hok.len
  obtain ⟨gb, o, b, po, pc, rfl, hg1, hb1, q3, cp, hcs⟩ := page_at bk (m := m) hkn (by show m < (F.blk k).pg.length; omega)
  change w.cell? ⟨gb, o + k * 4 + 3, none⟩ = some (.slice (some ⟨b, po, none⟩) (F.blk k).pg.length pc) at q3
  change w.cell? ⟨b, po + m, none⟩ = some (.string ((F.blk k).at m)) at cp
  change ((F.blk k).at m).size ≤ _ at hcs
  have hki : (k : Int) < (nu : Int) := by omega
  have hmi : (m : Int) < ((F.blk k).pg.length : Int) := by omega
  have hP16 : ((F.blk k).pg.length : Int) ≤ 16 := by omega
  have hnu : (nu : Int) ≤ 36 := by omega
  generalize (F.blk k).pg.length = P at *
  generalize (F.blk k).at m = y at *
  clear hok hpl bk hlen hl9
  by_cases h2 : y = ByteArray.empty
  · rw [if_pos h2]
    subst h2
    have hyl := empty_list
    have HEr := Lib.hid (fun (W : World) => specErased_any W)
    have h9 := fillB_size 255 91
    go_enter Try.func44, Try.ntmps44
    go_wp2_with fail
    refine (HEr.out _).mono ?_
    rintro e w2 ⟨rfl, b2⟩
    go_wp2
    go_ret
    exact ⟨rfl, b2⟩
  · rw [if_neg h2]
    have hne : y.size ≠ 0 := fun e => h2 (by apply ByteArray.ext; apply Array.eq_empty_of_size_eq_zero; exact e)
    obtain ⟨hn1, hn2⟩ := bytes_ne hne
    clear h2
    go_enter Try.func44, Try.ntmps44
    go_wp2
    go_ret
    exact ⟨rfl, Below.refl _ _⟩
set_option maxHeartbeats 1000000 in
theorem specRead_any (v : Value) (block page : Int) (F : Fl) (s : ByteArray) (c : Int) (w : World) (lo hi : Nat) (h : FlIn w lo hi v F) (hh : hi ≤ w.heap.size) (hE : ReadEnds F block page s c) (hl : FlLen F) :
    Calls Try.prog 15 #[v, .int .i64 block, .int .i64 page] w (PairPost s c w) := by
  obtain ⟨r, hr⟩ := prop_dec (FlOk F)
  obtain ⟨u, rfl, hb⟩ := h
  have hv : ∀ W : World, BksIn W lo hi u F.bs → FlIn W lo hi (.agg (flc F u)) F := fun W a => ⟨u, rfl, a⟩
  have HV := Lib.hid (fun (W : World) (a : BksIn W lo hi u F.bs) (c : hi ≤ W.heap.size) => specValid_any (.agg (flc F u)) F r W lo hi (hv W a) c hr hl)
  have H := Lib.hid hb
  have hbl : ∃ A n c, u = .slice A n c ∧ F.bs.length = n := by obtain ⟨A, n, c, e, _, _, h, _⟩ := hb; exact ⟨A, n, c, e, h⟩
  obtain ⟨Au, nu, cu, rfl, hlen⟩ := hbl
  clear hb hv hl
  have hFl : flc F (.slice Au nu cu) = #[.int .i64 F.d, .int .i64 F.b, .int .i64 F.p, .slice Au nu cu, .int .i64 F.fu, .int .i64 F.ke, .bool F.off, .int .i64 F.op] := rfl
  rw [hFl] at HV ⊢
  have R0 := Lib.hid (Rw.new w 31 #[.int .i64 F.d, .int .i64 F.b, .int .i64 F.p, .slice Au nu cu, .int .i64 F.fu, .int .i64 F.ke, .bool F.off, .int .i64 F.op])
  have B0 := Lib.hid ((Below.refl w.heap.size w).alloc (Nat.le_refl _) (.cells #[.int .i64 F.d, .int .i64 F.b, .int .i64 F.p, .slice Au nu cu, .int .i64 F.fu, .int .i64 F.ke, .bool F.off, .int .i64 F.op] 31))
  clear hFl
  have HE := Lib.hid hE
  have HLN := Lib.hid hlen
  have HP16 := Lib.hid (fun (h : FlOk F) => h.1.p16)
  have HPL := Lib.hid (fun (h : FlOk F) (i : Nat) (hi : i < F.bs.length) => h.plen hi)
  have HLE := Lib.hid (fun (h : FlOk F) => h.len)
  have HHP := Lib.hid (fun (W : World) (r : Bool) (hn : nu ≤ 1000) (hp : 0 ≤ F.p ∧ F.p ≤ 1000) (hr : r = true ↔ ((0 ≤ block ∧ block < (nu : Int)) ∧ (0 ≤ page ∧ page < F.p))) => spPage_any F.d F.b F.p F.fu F.ke F.op F.off Au nu cu block page r W hn hp hr)
  clear hE hlen
  generalize hoff : F.off = off at *
  have HOF := Lib.hid hoff
  clear hoff
  go_enter Try.func15, Try.ntmps15
  go_wp2_with fail
  refine (HV.out _ (H.out.same (sm B0.out lo hh)) (by simp; omega)).mono ?_
  rintro e w1 ⟨rfl, b1⟩
  have S0 := Lib.hid (R0.out.below b1 (by simp))
  have B1 := Lib.hid (B0.out.trans (b1.mono (by simp)))
  have hsz1 := b1.size
  simp only [World.size_alloc] at hsz1
  obtain ⟨a0, a1, a2, a3, a4, a5, a6, a7⟩ := S0.out.eight
  clear b1
  rcases HE.out with hno | ⟨hok, h1⟩ | ⟨hok, h1, h2⟩ | ⟨hok, h1, k, m, rfl, rfl, hkl, hnp, h2⟩ | ⟨hok, h1, k, m, rfl, rfl, hkl, hnp, h2⟩
  · obtain rfl : r = false := (bool_of r hr).2 hno
    clear hr hno
    go_wp2
    go_ret2
    exact ⟨rfl, B1.out⟩
  all_goals
    obtain rfl : r = true := hr.2 hok
    rw [HOF.out] at h1
    subst h1
    have hl9 := HLE.out hok
    have hp9 := HP16.out hok
    rw [HLN.out] at hl9
    clear hr
  · clear hok hp9
    go_wp2
    go_ret2
    exact ⟨rfl, B1.out⟩
  · have HF := Lib.hid (HHP.out w1 false (by omega) (by omega) (by
      rw [HLN.out] at h2
      simp only [Bool.false_eq_true, false_iff]
      rintro ⟨a, b⟩
      rcases h2 with h2 | h2 <;> contradiction))
    clear hok h2 hp9
    go_wp2_with fail
    refine HF.out.mono ?_
    rintro e w2 ⟨rfl, b2⟩
    have B2 := Lib.hid (B1.out.trans (b2.mono (by omega)))
    clear b2
    go_wp2
    go_ret2
    exact ⟨rfl, B2.out⟩
  · have HF := Lib.hid (HHP.out w1 true (by omega) (by omega) (by rw [HLN.out] at hkl; simp; omega))
    have hpl := HPL.out hok k hkl
    rw [HLN.out] at hkl
    clear hp9 hl9
    have HRD := Lib.hid (fun (W : World) (bk : BksIn W lo hi (.slice Au nu cu) F.bs) (c3 : W.cell? ⟨w.heap.size, 3, none⟩ = some (.slice Au nu cu)) => l06Read_any w.heap.size F k m nu cu Au lo hi W bk c3 hok HLN.out hkl hnp)
    clear hok hpl
    go_wp2_with fail
    refine HF.out.mono ?_
    rintro e w2 ⟨rfl, b2⟩
    have T0 := Lib.hid (S0.out.below b2 (by omega))
    have B2 := Lib.hid (B1.out.trans (b2.mono (by omega)))
    have hsz2 := b2.size
    clear b2
    go_wp2_with fail
    refine (HRD.out _ (H.out.same (sm B2.out lo hh)) (T0.out.cell 3)).mono ?_
    rintro e w3 ⟨rfl, b3⟩
    have B3 := Lib.hid (B2.out.trans (b3.mono (by omega)))
    clear b3
    rw [if_pos h2]
    go_wp2
    go_ret2
    exact ⟨rfl, B3.out⟩
  · have HF := Lib.hid (HHP.out w1 true (by omega) (by omega) (by rw [HLN.out] at hkl; simp; omega))
    have hpl := HPL.out hok k hkl
    rw [HLN.out] at hkl
    clear hp9 hl9
    have HRD := Lib.hid (fun (W : World) (bk : BksIn W lo hi (.slice Au nu cu) F.bs) (c3 : W.cell? ⟨w.heap.size, 3, none⟩ = some (.slice Au nu cu)) => l06Read_any w.heap.size F k m nu cu Au lo hi W bk c3 hok HLN.out hkl hnp)
    clear hok hpl
    go_wp2_with fail
    refine HF.out.mono ?_
    rintro e w2 ⟨rfl, b2⟩
    have T0 := Lib.hid (S0.out.below b2 (by omega))
    have B2 := Lib.hid (B1.out.trans (b2.mono (by omega)))
    have hsz2 := b2.size
    clear b2
    go_wp2_with fail
    refine (HRD.out _ (H.out.same (sm B2.out lo hh)) (T0.out.cell 3)).mono ?_
    rintro e w3 ⟨rfl, b3⟩
    have B3 := Lib.hid (B2.out.trans (b3.mono (by omega)))
    clear b3
    rw [if_neg h2]
    go_wp2
    go_ret2
    exact ⟨rfl, B3.out⟩
end Go.Proofs.Yteigdjocjcjkiaa
/- Pages are programmed in order: the walk. -/
namespace Go.Proofs.Yteigdjocjcjkiaa
open Go.RowKit
set_option linter.unusedVariables false
theorem prog_codes {F : Fl} {block page : Int} {raw : ByteArray} {G : Fl} {c : Int} (h : ProgEnds F block page raw G c) :
    (c = 0 ∧ FlOk F ∧ raw.size = 91 ∧ F.off = false ∧ F.fu ≠ 0 ∧ ∃ k n : Nat, block = k ∧ page = n ∧ k < F.bs.length ∧ (n : Int) < F.p ∧ (F.blk k).bad = false ∧ (F.blk k).nx = n ∧ G = F.prog k raw) ∨ c = 8 ∨ ((c ≠ 0 ∧ c ≠ 8) ∧ G.bs = []) := by
  rcases h with _ | _ | _ | _ | _ | ⟨h, hr, h1, k, n, hk, hn, hkl, hnp, h2, h3⟩
  · exact .inr (.inr ⟨by omega, rfl⟩)
  · exact .inr (.inl rfl)
  · exact .inr (.inr ⟨by omega, rfl⟩)
  · exact .inr (.inr ⟨by omega, rfl⟩)
  · exact .inr (.inr ⟨by omega, rfl⟩)
  · by_cases hf : F.fu = 0
    · exact .inr (.inl (by unfold Fl.code; rw [if_pos hf]))
    · exact .inl ⟨by unfold Fl.code; rw [if_neg hf], h, hr, h1, hf, k, n, hk, hn, hkl, by omega, h2, by omega, rfl⟩
/-- Two arrays, each in a variable's block. -/
def FoSt (F G : Fl) (A : Option Addr) (nb cb : Nat) (Ay : Option Addr) (ny cy f x : Nat) (w wx : World) : Prop := Rw wx f 31 #[.int .i64 F.d, .int .i64 F.b, .int .i64 F.p, .slice A nb cb, .int .i64 F.fu, .int .i64 F.ke, .bool F.off, .int .i64 F.op] ∧ Rw wx x 31 #[.int .i64 G.d, .int .i64 G.b, .int .i64 G.p, .slice Ay ny cy, .int .i64 G.fu, .int .i64 G.ke, .bool G.off, .int .i64 G.op] ∧ FlIn wx 0 wx.heap.size (.agg #[.int .i64 F.d, .int .i64 F.b, .int .i64 F.p, .slice A nb cb, .int .i64 F.fu, .int .i64 F.ke, .bool F.off, .int .i64 F.op]) F ∧ FlIn wx 0 wx.heap.size (.agg #[.int .i64 G.d, .int .i64 G.b, .int .i64 G.p, .slice Ay ny cy, .int .i64 G.fu, .int .i64 G.ke, .bool G.off, .int .i64 G.op]) G ∧ Below w.heap.size w wx
section
variable {F G : Fl} {A : Option Addr} {nb cb : Nat} {Ay : Option Addr} {ny cy f x : Nat} {w wx wy : World}
theorem FoSt.below (h : FoSt F G A nb cb Ay ny cy f x w wx) (b : Below wx.heap.size wx wy) : FoSt F G A nb cb Ay ny cy f x w wy := by
  obtain ⟨h1, h2, h3, h4, h5⟩ := h
  exact ⟨h1.below b h1.lt, h2.below b h2.lt, (h3.same (sm b _ (Nat.le_refl _))).wide (Nat.le_refl _) b.size, (h4.same (sm b _ (Nat.le_refl _))).wide (Nat.le_refl _) b.size, h5.trans (b.mono h5.size)⟩
theorem FoSt.alloc (h : FoSt F G A nb cb Ay ny cy f x w wx) (o : Obj) : FoSt F G A nb cb Ay ny cy f x w (wx.alloc o) := h.below ((Below.refl _ _).alloc (Nat.le_refl _) _)
end
/-- A block's number of the next page and of erases, as they lie in memory. -/
theorem FlIn.heads {w : World} {lo hi : Nat} {F : Fl} {d b p fu ke op : Int} {off : Bool} {A : Option Addr} {n c : Nat} (h : FlIn w lo hi (.agg #[.int .i64 d, .int .i64 b, .int .i64 p, .slice A n c, .int .i64 fu, .int .i64 ke, .bool off, .int .i64 op]) F) :
    F.bs.length = n ∧ ∀ k, k < n → ∃ g o, A = some ⟨g, o, none⟩ ∧ g < hi ∧ w.cell? ⟨g, o + k * 4, none⟩ = some (.int .i64 (F.blk k).er) ∧ w.cell? ⟨g, o + k * 4 + 1, none⟩ = some (.int .i64 (F.blk k).nx) := by
  obtain ⟨u, e, A', n', c', rfl, h1, h2, h3, h4⟩ := h
  unfold flc at e
  injection e with e
  simp only [Array.mk.injEq, List.cons.injEq, Value.slice.injEq] at e
  obtain ⟨-, -, -, ⟨rfl, rfl, rfl⟩, -⟩ := e
  refine ⟨h3, fun k hk => ?_⟩
  obtain ⟨g, o, rfl, _, h5, h6⟩ := h4 (by omega)
  obtain ⟨pv, h7, _⟩ := h6 k hk
  exact ⟨g, o, rfl, h5, h7.1, h7.2.1⟩
set_option maxHeartbeats 4000000 in
set_option maxRecDepth 100000 in
theorem fo_any (a0 : Option Addr) (len0 cap0 : Nat) (z0 : List Int) (a1 : Option Addr) (len1 cap1 : Nat) (z1 : List Int) (w : World) (w0 : IsRow .u8 w a0 len0 cap0 z0) (w1 : IsRow .u8 w a1 len1 cap1 z1) :
    Calls Try.prog 6 #[.slice a0 len0 cap0, .slice a1 len1 cap1] w fun e w' => e = .returned (.bool true) ∧ Below w.heap.size w w' := by
  have b0 := w0.len
  have b1 := w1.len
  by_cases hl : len0 ≤ 1048576 ∧ len1 ≤ 1048576
  · obtain ⟨hl0, hl1⟩ := hl
    have hc0 := w0.code hl0
    have HL := Lib.hid (show Calls Try.prog 19 #[.slice a0 len0 cap0, .slice a1 len1 cap1] w fun e w' => e = .returned (.bool false) ∧ w = w' from long_no _ _ _ _ _ _ _ hl0 hl1)
    have HD := Lib.hid (drawPg_any w _ hc0)
    clear w0 w1 hc0 hl0 hl1 b0 b1
    go_enter Try.func6, Try.ntmps6
    go_wp2_with fail
    refine HL.out.mono ?_
    rintro e w' ⟨rfl, rfl⟩
    go_wp2_with fail
    refine HD.out.mono ?_
    rintro e w1 ⟨v, F, block, page, raw, rfl, ⟨u, rfl, hb⟩, hbent, hraw, b1⟩
    obtain ⟨A, nb, cb, rfl⟩ := hb.slice
    unfold flc
    have hz1 := b1.size
    have f1 : FlIn (w1.alloc (.cells #[.int .i64 F.d, .int .i64 F.b, .int .i64 F.p, .slice A nb cb, .int .i64 F.fu, .int .i64 F.ke, .bool F.off, .int .i64 F.op] 31)) w.heap.size w1.heap.size (.agg (flc F (.slice A nb cb))) F := ⟨_, rfl, hb.same (sm ((Below.refl w1.heap.size _).alloc (Nat.le_refl _) (.cells #[.int .i64 F.d, .int .i64 F.b, .int .i64 F.p, .slice A nb cb, .int .i64 F.fu, .int .i64 F.ke, .bool F.off, .int .i64 F.op] 31)) _ (Nat.le_refl _))⟩
    have r1 := Rw.new w1 31 #[.int .i64 F.d, .int .i64 F.b, .int .i64 F.p, .slice A nb cb, .int .i64 F.fu, .int .i64 F.ke, .bool F.off, .int .i64 F.op]
    have bb1 := b1.alloc hz1 (.cells #[.int .i64 F.d, .int .i64 F.b, .int .i64 F.p, .slice A nb cb, .int .i64 F.fu, .int .i64 F.ke, .bool F.off, .int .i64 F.op] 31)
    obtain ⟨G, c, hG⟩ := progEnds F block page raw
    have HP := Lib.hid (implProg_any _ block page raw F G c _ _ _ f1 (by simp) hG hbent.lens (by omega))
    have F1 := Lib.hid f1
    have R1 := Lib.hid r1
    have B1 := Lib.hid bb1
    have HG := Lib.hid hG
    have BENT := Lib.hid hbent
    have hrs : raw.size ≤ 400 := hraw
    obtain ⟨d0, d1, d2, d3, d4, d5, d6, d7⟩ := r1.eight
    unfold flc at HP
    clear HL HD hb hbent hraw b1 f1 r1 bb1 hG
    go_wp2_with fail
    refine HP.out.mono ?_
    rintro e w2 ⟨y, rfl, ⟨uy, rfl, hby⟩, b2⟩
    obtain ⟨Ay, ny, cy, rfl⟩ := hby.slice
    unfold flc
    have hz2 := b2.size
    simp only [World.size_alloc] at hz2 b2 hby
    have hny : G.bs.length = ny := by obtain ⟨_, _, _, e, _, _, h, _⟩ := hby; injection e with _ e _; omega
    obtain ⟨f, hf⟩ : ∃ f, f = w1.heap.size := ⟨_, rfl⟩
    have R2 := Lib.hid ((R1.out.below b2 (by omega)).alloc (.cells #[.int .i64 G.d, .int .i64 G.b, .int .i64 G.p, .slice Ay ny cy, .int .i64 G.fu, .int .i64 G.ke, .bool G.off, .int .i64 G.op] 31))
    have F2 := Lib.hid ((F1.out.same (sm b2 _ (by omega))).same (sm ((Below.refl w2.heap.size _).alloc (Nat.le_refl _) (.cells #[.int .i64 G.d, .int .i64 G.b, .int .i64 G.p, .slice Ay ny cy, .int .i64 G.fu, .int .i64 G.ke, .bool G.off, .int .i64 G.op] 31)) _ (by omega)))
    have X2 := Lib.hid (Rw.new w2 31 #[.int .i64 G.d, .int .i64 G.b, .int .i64 G.p, .slice Ay ny cy, .int .i64 G.fu, .int .i64 G.ke, .bool G.off, .int .i64 G.op])
    have Y2 := Lib.hid (show FlIn (w2.alloc (.cells #[.int .i64 G.d, .int .i64 G.b, .int .i64 G.p, .slice Ay ny cy, .int .i64 G.fu, .int .i64 G.ke, .bool G.off, .int .i64 G.op] 31)) (w1.heap.size + 1) w2.heap.size (.agg (flc G (.slice Ay ny cy))) G from ⟨_, rfl, hby.reads.same (sm ((Below.refl w2.heap.size _).alloc (Nat.le_refl _) (.cells #[.int .i64 G.d, .int .i64 G.b, .int .i64 G.p, .slice Ay ny cy, .int .i64 G.fu, .int .i64 G.ke, .bool G.off, .int .i64 G.op] 31)) _ (Nat.le_refl _))⟩)
    have B2 := Lib.hid ((B1.out.trans (b2.mono (by omega))).alloc (by omega) (.cells #[.int .i64 G.d, .int .i64 G.b, .int .i64 G.p, .slice Ay ny cy, .int .i64 G.fu, .int .i64 G.ke, .bool G.off, .int .i64 G.op] 31))
    have HNY := Lib.hid hny
    clear R1 F1 B1 HP b2 hby hny d0 d1 d2 d3 d4 d5 d6 d7
    rcases prog_codes HG.out with ⟨rfl, hok, hr91, hoff, hfu, k, n, rfl, rfl, hkl, hnp, hbad, hnx, hGe⟩ | rfl | ⟨⟨hc0, hc8⟩, hGz⟩
    · have hop := hok.2.2.2.2.2
      have hbl := BENT.out.lens
      have hz1f : f < w2.heap.size := by omega
      have S2 := Lib.hid (show FoSt F G A nb cb Ay ny cy f w2.heap.size w (w2.alloc (.cells #[.int .i64 G.d, .int .i64 G.b, .int .i64 G.p, .slice Ay ny cy, .int .i64 G.fu, .int .i64 G.ke, .bool G.off, .int .i64 G.op] 31)) from ⟨by rw [hf]; exact R2.out, X2.out, F2.out.wide (Nat.zero_le _) (by simp; omega), Y2.out.wide (Nat.zero_le _) (by simp), B2.out⟩)
      obtain ⟨g1, g2, g3, g4, g5, g6, g7, g8, g9, g10, g11⟩ := order_prog (k := k) (n := n) hok ⟨hop, by have := BENT.out.2.2; omega⟩ hoff hfu hkl hnp hnx hbad hr91
      rw [← hGe] at g1 g2 g3 g4 g5 g6 g7 g8 g9 g10 g11
      have hGl := g1.lens
      have HRD := Lib.hid (fun (W : World) (S : FoSt F G A nb cb Ay ny cy f w2.heap.size w W) => implRead_any _ (k : Int) (n : Int) G raw 0 W _ _ S.2.2.2.1 (Nat.le_refl _) g2 hGl)
      have HVA := Lib.hid (fun (W : World) (S : FoSt F G A nb cb Ay ny cy f w2.heap.size w W) => specValid_any _ G true W _ _ S.2.2.2.1 (Nat.le_refl _) (by simp [g1]) hGl)
      have HOT := Lib.hid (fun (W : World) (S : FoSt F G A nb cb Ay ny cy f w2.heap.size w W) => others_any _ _ G F (k : Int) (n : Int) (n : Int) W _ _ _ _ S.2.2.2.1 S.2.2.1 (Nat.le_refl _) (Nat.le_refl _) g3 hGl)
      have HPR := Lib.hid (fun (W : World) (S : FoSt F G A nb cb Ay ny cy f w2.heap.size w W) => implProg_any _ (k : Int) (n : Int) raw G Fl.zero 5 W _ _ S.2.2.2.1 (Nat.le_refl _) g11 hGl (by omega))
      have HG1 := Lib.hid g1
      have HOP := Lib.hid (show G.op = F.op + 1 ∧ 0 ≤ F.op ∧ F.op ≤ 8 from ⟨g4, hop, BENT.out.2.2.2⟩)
      have HNX := Lib.hid (show (F.blk k).nx = n ∧ (G.blk k).nx = n + 1 ∧ (G.blk k).er = (F.blk k).er ∧ (G.blk k).bad = false ∧ G.off = false ∧ G.p = F.p ∧ G.bs.length = F.bs.length from ⟨hnx, g7, g8, g9, g10, g5, g6⟩)
      have hnb : F.bs.length = nb := (S2.out.2.2.1.heads).1
      have hnk : (n : Int) < 16 := by have := hok.1.p16; omega
      have hkb : k < nb := by omega
      have hnb2 : nb ≤ 36 := by have := hok.len; omega
      have hwn : IntKind.i64.wrap ((n : Int) + 1) = (n : Int) + 1 := IntWalk.i64_in _ (by omega)
      have hxs := str_same (rfl : raw = raw)
      have HNY := Lib.hid (show ny = nb by have := HNY.out; omega)
      have HFP := Lib.hid (And.intro hok hnp)
      obtain ⟨d0, d1, d2, d3, d4, d5, d6, d7⟩ := S2.out.2.1.eight
      clear R2 X2 F2 Y2 B2 HG BENT hGe hop hbl g1 g2 g3 g4 g5 g6 g7 g8 g9 g10 g11 hok hnp hnx hbad hkl hnb hGl hr91 hoff hfu hz1f
      rw [← hf]
      clear hf hz1 hz2
      go_wp2_with fail
      clear d0 d1 d2 d3 d4 d5 d6 d7
      obtain ⟨x, hx⟩ : ∃ x, x = w2.heap.size := ⟨_, rfl⟩
      rw [← hx] at S2 HRD HVA HOT HPR ⊢
      clear hx
      refine (HRD.out _ S2.out).mono ?_
      rintro e w3 ⟨rfl, b3⟩
      have S3 := Lib.hid (S2.out.below b3)
      clear S2 b3 HRD
      obtain ⟨d0, d1, d2, d3, d4, d5, d6, d7⟩ := S3.out.2.1.eight
      go_wp2_with fail
      clear d0 d1 d2 d3 d4 d5 d6 d7
      refine (HVA.out _ S3.out).mono ?_
      rintro e w4 ⟨rfl, b4⟩
      have S4 := Lib.hid (S3.out.below b4)
      clear S3 b4 HVA
      obtain ⟨d0, d1, d2, d3, d4, d5, d6, d7⟩ := S4.out.2.1.eight
      obtain ⟨e0, e1, e2, e3, e4, e5, e6, e7⟩ := S4.out.1.eight
      go_wp2_with fail
      clear d0 d1 d2 d3 d4 d5 d6 d7 e0 e1 e2 e3 e4 e5 e6 e7
      refine (HOT.out _ S4.out).mono ?_
      rintro e w5 ⟨rfl, b5⟩
      have S5 := Lib.hid (S4.out.below b5)
      clear S4 b5 HOT
      have hny := HNY.out
      clear HNY
      subst hny
      obtain ⟨gy, oy, rfl, hgy, -, r1⟩ := (S5.out.2.2.2.1.heads).2 k hkb
      rw [HNX.out.2.1] at r1
      obtain ⟨d0, d1, d2, d3, d4, d5, d6, d7⟩ := S5.out.2.1.eight
      obtain ⟨e0, e1, e2, e3, e4, e5, e6, e7⟩ := S5.out.1.eight
      rw [HOP.out.1] at d7
      have hki : (k : Int) < (ny : Int) := by omega
      have hkj : ¬ (ny : Int) ≤ (k : Int) := by omega
      have hop0 := HOP.out.2.1
      have hop8 := HOP.out.2.2
      have hwo : IntKind.i64.wrap (F.op + 1) = F.op + 1 := IntWalk.i64_in _ (by omega)
      have q1 : (((n : Int) + 1) != ((n : Int) + 1)) = false := by simp
      have q2 : ((F.op + 1) != (F.op + 1)) = false := by simp
      go_upto_if 104 with fail
      clear d0 d1 d2 d3 d4 d5 d6 d7 e0 e1 e2 e3 e4 e5 e6 e7 r1 q1 q2 hwo hwn hki hkj hop0 hop8
      obtain ⟨d0, d1, d2, d3, d4, d5, d6, d7⟩ := S5.out.2.1.eight
      by_cases hfz : G.fu = 0
      · rw [hfz] at d4
        clear hfz
        clear d0 d1 d2 d3 d5 d6 d7
        go_wp2
        go_ret
        exact ⟨rfl, S5.out.2.2.2.2⟩
      · have hfb : (G.fu == 0) = false := by simp [hfz]
        have HFZ := Lib.hid hfz
        clear hfz
        go_wp2_with fail
        refine (HPR.out _ S5.out).mono ?_
        rintro e w6 ⟨z, rfl, ⟨uz, rfl, hz⟩, b6⟩
        obtain ⟨Az, nz, cz, rfl⟩ := hz.slice
        unfold flc Fl.zero
        dsimp only
        have S6 := Lib.hid ((S5.out.below b6).alloc (.cells #[.int .i64 0, .int .i64 0, .int .i64 0, .slice Az nz cz, .int .i64 0, .int .i64 0, .bool false, .int .i64 0] 31))
        clear S5 b6 hz HPR d0 d1 d2 d3 d4 d5 d6 d7 hfb
        obtain ⟨d0, d1, d2, d3, d4, d5, d6, d7⟩ := S6.out.2.1.eight
        have hnx := HNX.out
        have hgl := HG1.out.lens
        have hok := HG1.out
        have hkl : k < G.bs.length := by have := (S6.out.2.2.2.1.heads).1; omega
        by_cases her : (G.blk k).er = 1000
        · have HER := Lib.hid (implEra_any _ (k : Int) G Fl.zero 7 _ _ _ S6.out.2.2.2.1 (Nat.le_refl _) (.bad hok hnx.2.2.2.2.1 k rfl hkl (.inr her)) hgl)
          have HEF := Lib.hid (hnx.2.2.1.symm.trans her)
          clear her hnx hgl hok hkl
          go_wp2_with fail
          refine HER.out.mono ?_
          rintro e w7 ⟨y, rfl, ⟨uy, rfl, hy⟩, b7⟩
          obtain ⟨Ay, ny7, cy7, rfl⟩ := hy.slice
          unfold flc Fl.zero
          dsimp only
          have S7 := Lib.hid ((S6.out.below b7).alloc (.cells #[.int .i64 0, .int .i64 0, .int .i64 0, .slice Ay ny7 cy7, .int .i64 0, .int .i64 0, .bool false, .int .i64 0] 31))
          clear S6 b7 hy HER d0 d1 d2 d3 d4 d5 d6 d7
          obtain ⟨gf, of, rfl, hgf, r0, -⟩ := (S7.out.2.2.1.heads).2 k hkb
          rw [HEF.out] at r0
          obtain ⟨e0, e1, e2, e3, e4, e5, e6, e7⟩ := S7.out.1.eight
          have hki : (k : Int) < (ny : Int) := by omega
          go_wp2
          go_ret
          exact ⟨rfl, S7.out.2.2.2.2⟩
        · have hop := HOP.out
          have hfp := HFP.out
          obtain ⟨q1, q2, q3, q4, q5, q6⟩ := order_erase (F := G) (k := k) (n := n) hok ⟨by omega, by omega⟩ hnx.2.2.2.2.1 HFZ.out hkl (by rw [hnx.2.2.2.2.2.1]; exact hfp.2) hnx.2.2.2.1 her
          have hbz := (hok.1.p16)
          obtain ⟨Z, hZ⟩ : ∃ Z, Z = G.erase k := ⟨_, rfl⟩
          rw [← hZ] at q1 q2 q3 q4 q5 q6
          have hzl := q2.lens
          have HER := Lib.hid (implEra_any _ (k : Int) G Z 0 _ _ _ S6.out.2.2.2.1 (Nat.le_refl _) q1 hgl)
          have HE6 := Lib.hid (show (Z.blk k).er = (F.blk k).er + 1 by rw [q6, hnx.2.2.1])
          have HEI := Lib.hid (hok.2.2.1 k hkl)
          obtain ⟨eB, heB⟩ : ∃ s, s = erasedB := ⟨_, rfl⟩
          have HIE := Lib.hid (fun (W : World) => implIsErased_any eB true W (by rw [heB, erasedB_size]; omega) (by simp [heB]))
          rw [← heB] at q3
          clear heB
          have HPP := Lib.hid (show G.p = F.p ∧ 8 ≤ F.p ∧ F.p ≤ 16 by rw [← hnx.2.2.2.2.2.1]; exact ⟨rfl, hbz⟩)
          have Q3 := Lib.hid q3
          have Q4 := Lib.hid q4
          have HZL := Lib.hid hzl
          have HNZ := Lib.hid (show Z.bs.length = ny by have := (S6.out.2.2.2.1.heads).1; omega)
          have HERE := Lib.hid (show 0 ≤ (F.blk k).er ∧ (F.blk k).er ≤ 1000 by have := (HEI.out).1; rw [hnx.2.2.1] at this; exact this)
          clear hop hfp q1 q2 q3 q4 q5 q6 hZ hzl hnx hgl hok hkl her hbz HEI
          go_wp2_with fail
          refine HER.out.mono ?_
          rintro e w7 ⟨y, rfl, ⟨uw, rfl, hw⟩, b7⟩
          obtain ⟨Aw, nw, cw, rfl⟩ := hw.slice
          unfold flc
          have hsz7 := b7.size
          have s7 := (S6.out.below b7).alloc (.cells #[.int .i64 Z.d, .int .i64 Z.b, .int .i64 Z.p, .slice Aw nw cw, .int .i64 Z.fu, .int .i64 Z.ke, .bool Z.off, .int .i64 Z.op] 31)
          have S7 := Lib.hid s7
          have T7 := Lib.hid (show FoSt G Z (some ⟨gy, oy, none⟩) ny cy Aw nw cw x w7.heap.size w (w7.alloc (.cells #[.int .i64 Z.d, .int .i64 Z.b, .int .i64 Z.p, .slice Aw nw cw, .int .i64 Z.fu, .int .i64 Z.ke, .bool Z.off, .int .i64 Z.op] 31)) from ⟨s7.2.1, Rw.new _ _ _, s7.2.2.2.1, ⟨_, rfl, (hw.reads.same (sm ((Below.refl w7.heap.size _).alloc (Nat.le_refl _) _) _ (Nat.le_refl _))).wide (Nat.zero_le _) (by simp)⟩, s7.2.2.2.2⟩)
          obtain ⟨c0, c1, c2, c3, c4, c5, c6, c7⟩ := T7.out.2.1.eight
          clear S6 b7 hw HER d0 d1 d2 d3 d4 d5 d6 d7 s7
          have HRZ := Lib.hid (fun (W : World) (T : FoSt G Z (some ⟨gy, oy, none⟩) ny cy Aw nw cw x w7.heap.size w W) => implRead_any _ (k : Int) (n : Int) Z eB 0 W _ _ T.2.2.2.1 (Nat.le_refl _) Q3.out HZL.out)
          go_wp2_with fail
          clear c0 c1 c2 c3 c4 c5 c6 c7
          obtain ⟨zb, hzb⟩ : ∃ zb, zb = w7.heap.size := ⟨_, rfl⟩
          rw [← hzb] at T7 HRZ ⊢
          clear hzb hsz7
          refine (HRZ.out _ T7.out).mono ?_
          rintro e w8 ⟨rfl, b8⟩
          have S8 := Lib.hid (S7.out.below b8)
          have T8 := Lib.hid (T7.out.below b8)
          clear S7 T7 b8 HRZ Q3
          obtain ⟨gz, oz, rfl, hgz, zr, -⟩ := (T8.out.2.2.2.1.heads).2 k (by have := HNZ.out; have := (T8.out.2.2.2.1.heads).1; omega)
          obtain ⟨gf, of, rfl, hgf, fr, -⟩ := (S8.out.2.2.1.heads).2 k hkb
          have hnw : nw = ny := by have := HNZ.out; have := (T8.out.2.2.2.1.heads).1; omega
          subst hnw
          have HCA := Lib.hid (fun (W : World) (B : Below w8.heap.size w8 W) => others_any _ _ Z G (k : Int) 0 (G.p - 1) W _ _ _ _ (T8.out.below B).2.2.2.1 (T8.out.below B).2.2.1 (Nat.le_refl _) (Nat.le_refl _) Q4.out HZL.out)
          have HERR := HERE.out
          have hpp := HPP.out
          rw [HE6.out] at zr
          have hk5 := HPP.out.1
          have TB := Lib.hid zr
          have FB := Lib.hid fr
          have KP := Lib.hid (fun (W : World) (B : Below w8.heap.size w8 W) => (show W.cell? ⟨zb, 0, none⟩ = some (.int .i64 Z.d) ∧ W.cell? ⟨zb, 1, none⟩ = some (.int .i64 Z.b) ∧ W.cell? ⟨zb, 2, none⟩ = some (.int .i64 Z.p) ∧ W.cell? ⟨zb, 3, none⟩ = some (.slice (some ⟨gz, oz, none⟩) nw cw) ∧ W.cell? ⟨zb, 4, none⟩ = some (.int .i64 Z.fu) ∧ W.cell? ⟨zb, 5, none⟩ = some (.int .i64 Z.ke) ∧ W.cell? ⟨zb, 6, none⟩ = some (.bool Z.off) ∧ W.cell? ⟨zb, 7, none⟩ = some (.int .i64 Z.op) ∧ W.cell? ⟨x, 0, none⟩ = some (.int .i64 G.d) ∧ W.cell? ⟨x, 1, none⟩ = some (.int .i64 G.b) ∧ W.cell? ⟨x, 2, none⟩ = some (.int .i64 G.p) ∧ W.cell? ⟨x, 3, none⟩ = some (.slice (some ⟨gy, oy, none⟩) nw cy) ∧ W.cell? ⟨x, 4, none⟩ = some (.int .i64 G.fu) ∧ W.cell? ⟨x, 5, none⟩ = some (.int .i64 G.ke) ∧ W.cell? ⟨x, 6, none⟩ = some (.bool G.off) ∧ W.cell? ⟨x, 7, none⟩ = some (.int .i64 G.op) ∧ W.cell? ⟨f, 3, none⟩ = some (.slice (some ⟨gf, of, none⟩) nw cb) ∧ W.cell? ⟨gz, oz + k * 4, none⟩ = some (.int .i64 ((F.blk k).er + 1)) ∧ W.cell? ⟨gf, of + k * 4, none⟩ = some (.int .i64 (F.blk k).er) from by
            obtain ⟨x0, x1, x2, x3, x4, x5, x6, x7⟩ := (T8.out.below B).1.eight
            obtain ⟨z0, z1, z2, z3, z4, z5, z6, z7⟩ := (T8.out.below B).2.1.eight
            obtain ⟨f0, f1, f2, f3, f4, f5, f6, f7⟩ := (S8.out.below B).1.eight
            exact ⟨z0, z1, z2, z3, z4, z5, z6, z7, x0, x1, x2, x3, x4, x5, x6, x7, f3, (B.cell (p := ⟨gz, oz + k * 4, none⟩) hgz).trans zr, (B.cell (p := ⟨gf, of + k * 4, none⟩) hgf).trans fr⟩))
          have hw1 : IntKind.i64.wrap (G.p - 1) = G.p - 1 := IntWalk.i64_in _ (by omega)
          have hw2 : IntKind.i64.wrap ((F.blk k).er + 1) = (F.blk k).er + 1 := IntWalk.i64_in _ (by omega)
          have hq : (((F.blk k).er + 1) == ((F.blk k).er + 1)) = true := by simp
          have hki : (k : Int) < (nw : Int) := by omega
          obtain ⟨er, her⟩ : ∃ er, er = (F.blk k).er := ⟨_, rfl⟩
          rw [← her] at KP hw2 hq
          clear zr fr TB FB HE6 her hpp HERR hk5
          go_wp2_with fail
          go_region_held3 (fun W => W.cell? ⟨zb, 0, none⟩ = some (.int .i64 Z.d) ∧ W.cell? ⟨zb, 1, none⟩ = some (.int .i64 Z.b) ∧ W.cell? ⟨zb, 2, none⟩ = some (.int .i64 Z.p) ∧ W.cell? ⟨zb, 3, none⟩ = some (.slice (some ⟨gz, oz, none⟩) nw cw) ∧ W.cell? ⟨zb, 4, none⟩ = some (.int .i64 Z.fu) ∧ W.cell? ⟨zb, 5, none⟩ = some (.int .i64 Z.ke) ∧ W.cell? ⟨zb, 6, none⟩ = some (.bool Z.off) ∧ W.cell? ⟨zb, 7, none⟩ = some (.int .i64 Z.op) ∧ W.cell? ⟨x, 0, none⟩ = some (.int .i64 G.d) ∧ W.cell? ⟨x, 1, none⟩ = some (.int .i64 G.b) ∧ W.cell? ⟨x, 2, none⟩ = some (.int .i64 G.p) ∧ W.cell? ⟨x, 3, none⟩ = some (.slice (some ⟨gy, oy, none⟩) nw cy) ∧ W.cell? ⟨x, 4, none⟩ = some (.int .i64 G.fu) ∧ W.cell? ⟨x, 5, none⟩ = some (.int .i64 G.ke) ∧ W.cell? ⟨x, 6, none⟩ = some (.bool G.off) ∧ W.cell? ⟨x, 7, none⟩ = some (.int .i64 G.op) ∧ W.cell? ⟨f, 3, none⟩ = some (.slice (some ⟨gf, of, none⟩) nw cb) ∧ W.cell? ⟨gz, oz + k * 4, none⟩ = some (.int .i64 (er + 1)) ∧ W.cell? ⟨gf, of + k * 4, none⟩ = some (.int .i64 er))
            (first
              | exact KP.out _ (Below.refl _ _).drew
              | exact KP.out _ hbI
              | exact KP.out _ hbO)
            (first
              | (go_at_call 24
                 refine (HIE.out _).mono ?_
                 rintro e wI ⟨rfl, hI⟩
                 have hbI : Below w8.heap.size w8 wI := (Below.refl w8.heap.size w8).drew.trans hI)
              | (go_at_call 22
                 refine (HCA.out _ hbI).mono ?_
                 rintro e wO ⟨rfl, hO⟩
                 have hbO : Below w8.heap.size w8 wO := hbI.trans (hO.mono hbI.size)))
          go_wp2
          go_ret
          exact ⟨rfl, T8.out.2.2.2.2.trans (hbO.mono T8.out.2.2.2.2.size)⟩
    · clear hf
      go_wp2
      go_ret
      exact ⟨rfl, B2.out⟩
    · have e0 : (c != 0) = true := by simp; omega
      have e8 : (c == 8) = false := by simp; omega
      have hn0 : ny = 0 := by have := HNY.out; rw [hGz] at this; simpa using this.symm
      subst hn0
      obtain ⟨x0, x1, x2, x3, x4, x5, x6, x7⟩ := X2.out.eight
      clear hf hGz HG HNY hc0 hc8
      go_wp2
      go_ret
      exact ⟨rfl, B2.out⟩
  · clear w0 w1
    go_enter Try.func6, Try.ntmps6
    go_wp2_with (go_at_call 19; refine (long_yes _ _ _ _ _ _ _ b0 b1 (by omega)).mono ?_; rintro e w' ⟨rfl, rfl⟩)
    go_ret
    exact ⟨rfl, Below.refl _ _⟩
end Go.Proofs.Yteigdjocjcjkiaa
/- Plain facts: what an interrupted erase leaves, page by page. -/
namespace Go.Proofs.Yteigdjocjcjkiaa
open Go.RowKit
set_option linter.unusedVariables false
theorem arm_codes {F : Fl} {ke : Int} {G : Fl} {c : Int} (h : ArmEnds F 0 ke G c) (hk : 0 ≤ ke ∧ ke ≤ 91) : (c = 0 ∧ FlOk F ∧ F.off = false ∧ G = F.arm 0 ke) ∨ c ≠ 0 := by
  rcases h with _ | _ | ⟨_, _, h⟩ | ⟨h, h1, _, _⟩
  · exact .inr (by omega)
  · exact .inr (by omega)
  · exact .inr (by omega)
  · exact .inl ⟨rfl, h, h1, rfl⟩
theorem FlOk.arm0 {F : Fl} (h : FlOk F) {ke : Int} (hk : 0 ≤ ke ∧ ke ≤ 91) : FlOk (F.arm 0 ke) := ⟨h.1, h.2.1, h.2.2.1, by show (-1 : Int) ≤ 0 ∧ (0 : Int) ≤ 1000000; omega, hk, h.2.2.2.2.2⟩
theorem FlOk.on {F : Fl} (h : FlOk F) : FlOk F.on := ⟨h.1, h.2.1, h.2.2.1, by show (-1 : Int) ≤ -1 ∧ (-1 : Int) ≤ 1000000; omega, h.2.2.2.2.1, h.2.2.2.2.2⟩
/-- An erase of an array whose fuse is armed: refused, or begun and cut. -/
theorem cut_codes {F : Fl} {block : Int} {G : Fl} {c : Int} (h : EraEnds F block G c) (hok : FlOk F) (hoff : F.off = false) (hf : F.fu = 0) :
    (c = 8 ∧ ∃ k : Nat, block = k ∧ k < F.bs.length ∧ (F.blk k).bad = false ∧ (F.blk k).er ≠ 1000 ∧ G = F.erase k) ∨ (c ≠ 8 ∧ c ≠ 0) := by
  rcases h with h | ⟨_, h1⟩ | _ | _ | ⟨_, h1, k, hk, hkl, h2, h3⟩
  · exact absurd hok h
  · rw [h1] at hoff; cases hoff
  · exact .inr ⟨by omega, by omega⟩
  · exact .inr ⟨by omega, by omega⟩
  · exact .inl ⟨by unfold Fl.code; rw [if_pos hf], k, hk, hkl, h2, h3, rfl⟩
section
variable {F : Fl} {k : Nat} {ke : Int}
/-- What lies there when the power is back. -/
theorem cut_facts (h : FlOk F) (ho : 0 ≤ F.op ∧ F.op ≤ 1000) (hke : 0 ≤ ke ∧ ke ≤ 19) (hk : k < F.bs.length) (hb : (F.blk k).bad = false) (he : (F.blk k).er ≠ 1000) :
    let Y := ((F.arm 0 ke).erase k).on
    FlOk ((F.arm 0 ke).erase k) ∧ FlOk Y ∧ OthEq Y.bs F.bs k 0 (ke - 1) ∧ Y.bs.length = F.bs.length ∧ Y.p = F.p ∧ Y.off = false ∧ Y.fu = -1 ∧ Y.op = F.op + 1 ∧ (Y.blk k).bad = false ∧ (Y.blk k).er = (F.blk k).er + 1 ∧
    (Y.blk k).nx = (if ke < F.p then F.p else 0) ∧ (∀ t : Nat, (t : Int) < ke → t < (Y.blk k).pg.length → (Y.blk k).pg.getD t ByteArray.empty = ByteArray.empty) := by
  intro Y
  have ha := h.arm0 (ke := ke) ⟨hke.1, by omega⟩
  have hx := ha.erase (k := k) (show F.op < 9223372036854775807 by omega) hk he
  have hpl := h.plen hk
  have e4 : Y.bs = F.bs.set k ((F.blk k).erase ke.toNat) := rfl
  have hbl : Y.blk k = (F.blk k).erase ke.toNat := by unfold Fl.blk; rw [e4, getD_set_eq _ _ _ _ hk]; rfl
  refine ⟨hx, hx.on, ?_, by rw [e4, List.length_set], rfl, rfl, rfl, ?_, by rw [hbl]; exact hb, by rw [hbl]; rfl, ?_, fun t ht htl => ?_⟩
  · rw [e4]
    refine othSet _ hk (by show (emptied (F.blk k).pg ke.toNat).length = _; rw [emptied_length]; rfl) fun t ht hc => ?_
    have ht2 : t < (F.blk k).pg.length := by
      have : t < (emptied (F.blk k).pg ke.toNat).length := ht
      rwa [emptied_length] at this
    show (emptied (F.blk k).pg ke.toNat).getD t ByteArray.empty = _
    rw [emptied_at _ _ _ ht2, if_neg (by omega)]
    rfl
  · show wrap64 (F.op + 1) = _
    rw [IntWalk.wrap64_in _ (by omega)]
  · rw [hbl]
    show (if ke.toNat < (F.blk k).pg.length then ((F.blk k).pg.length : Int) else 0) = _
    by_cases h1 : ke < F.p
    · rw [if_pos (by omega), if_pos h1]; exact hpl.2.2
    · rw [if_neg (by omega), if_neg h1]
  · rw [hbl] at htl ⊢
    have ht2 : t < (F.blk k).pg.length := by
      have : t < (emptied (F.blk k).pg ke.toNat).length := htl
      rwa [emptied_length] at this
    show (emptied (F.blk k).pg ke.toNat).getD t ByteArray.empty = _
    rw [emptied_at _ _ _ ht2, if_pos (by omega)]
/-- What is answered when a page is programmed then. -/
theorem after_prog (h : FlOk F) (hoff : F.off = false) (hfu : F.fu = -1) (hk : k < F.bs.length) (hb : (F.blk k).bad = false) {raw : ByteArray} (hr : raw.size = 91) :
    ∃ G c, ProgEnds F k 0 raw G c ∧ (c = 0 ∨ c = 5) ∧ (c = 0 ↔ (F.blk k).nx = 0) := by
  have hp := h.1.p16
  by_cases hn : (F.blk k).nx = 0
  · exact ⟨_, _, .done h hr hoff k 0 rfl rfl hk (by omega) hb hn, .inl (by unfold Fl.code; rw [if_neg (by omega)]), by unfold Fl.code; rw [if_neg (by omega)]; simp [hn]⟩
  · exact ⟨_, _, .state h hr hoff k 0 rfl rfl hk (by omega) hb hn, .inr rfl, by simp [hn]⟩
/-- What is answered when the block is erased again. -/
theorem after_erase (h : FlOk F) (hoff : F.off = false) (hfu : F.fu = -1) (hk : k < F.bs.length) (hb : (F.blk k).bad = false) :
    ∃ G c, EraEnds F k G c ∧ ((c = 7 ∧ (F.blk k).er = 1000) ∨ (c = 0 ∧ G.bs.length = F.bs.length ∧ (G.blk k).nx = 0)) := by
  have hpl := h.plen hk
  by_cases he : (F.blk k).er = 1000
  · exact ⟨_, _, .bad h hoff k rfl hk (.inr he), .inl ⟨rfl, he⟩⟩
  · refine ⟨_, _, .done h hoff k rfl hk hb he, .inr ⟨by unfold Fl.code; rw [if_neg (by omega)], ?_, ?_⟩⟩
    · show (F.bs.set k _).length = _
      rw [List.length_set]
    · have hbl : (F.erase k).blk k = (F.blk k).erase 91 := by
        unfold Fl.erase
        rw [if_neg (by omega)]
        show (F.bs.set k _).getD k Blk.zero = _
        rw [getD_set_eq _ _ _ _ hk]
      rw [hbl]
      show (if 91 < (F.blk k).pg.length then ((F.blk k).pg.length : Int) else 0) = 0
      rw [if_neg (by omega)]
end
end Go.Proofs.Yteigdjocjcjkiaa
/- PowerOn and ArmFuse, in the model and in the program: the contracts. -/
namespace Go.Proofs.Yteigdjocjcjkiaa
open Go.RowKit
set_option linter.unusedVariables false
set_option maxHeartbeats 1000000 in
theorem implOn_any (v : Value) (F G : Fl) (w : World) (lo hi : Nat) (h : FlIn w lo hi v F) (hh : hi ≤ w.heap.size) (hG : OnEnds F G) (hl : FlLen F) :
    Calls Try.prog 28 #[v] w (OwnPost G w) := by
  obtain ⟨r, hr⟩ := prop_dec (FlOk F)
  obtain ⟨u, rfl, hb⟩ := h
  have hv : ∀ W : World, BksIn W lo hi u F.bs → FlIn W lo hi (.agg (flc F u)) F := fun W a => ⟨u, rfl, a⟩
  have HV := Lib.hid (fun (W : World) (a : BksIn W lo hi u F.bs) (c : hi ≤ W.heap.size) => implValid_any (.agg (flc F u)) F r W lo hi (hv W a) c hr hl)
  have HO := Lib.hid (fun (hok : FlOk F) (W : World) (a : BksIn W lo hi u F.bs) (c : hi ≤ W.heap.size) => clone_any (.agg (flc F u)) F W lo hi (hv W a) c hok)
  have H := Lib.hid hb
  obtain ⟨Au, nu, cu, rfl⟩ := hb.slice
  clear hb hv hl
  obtain ⟨d, b, p, bs, fu, ke, off, op⟩ := F
  unfold flc at *
  simp only at *
  obtain ⟨r0, r1, b0⟩ := Rw.two_new w 31 31 #[.int .i64 d, .int .i64 b, .int .i64 p, .slice Au nu cu, .int .i64 fu, .int .i64 ke, .bool off, .int .i64 op]
    #[.int .i64 0, .int .i64 0, .int .i64 0, .slice none 0 0, .int .i64 0, .int .i64 0, .bool false, .int .i64 0]
  have R0 := Lib.hid r0
  have R1 := Lib.hid r1
  have B0 := Lib.hid b0
  clear r0 r1 b0
  have HG := Lib.hid hG
  clear hG
  go_enter Try.func28, Try.ntmps28
  go_wp2_with fail
  refine (HV.out _ (H.out.same (sm B0.out lo hh)) (by simp; omega)).mono ?_
  rintro e w1 ⟨rfl, b1⟩
  have S0 := Lib.hid (R0.out.below b1 (by simp; omega))
  have S1 := Lib.hid (R1.out.below b1 (by simp))
  have B1 := Lib.hid (B0.out.trans (b1.mono (by simp; omega)))
  have hsz1 := b1.size
  simp only [World.size_alloc] at hsz1
  obtain ⟨a0, a1, a2, a3, a4, a5, a6, a7⟩ := S0.out.eight
  obtain ⟨z0, z1, z2, z3, z4, z5, z6, z7⟩ := S1.out.eight
  obtain ⟨fz0, fz1, fz2, fz3, fz4, fz5, fz6, fz7⟩ := S1.out.frees
  clear b1
  rcases HG.out with ⟨hok, rfl⟩ | ⟨hno, rfl⟩
  · obtain rfl : r = true := hr.2 hok
    have HO2 := Lib.hid (HO.out hok)
    clear hr hok HO
    go_wp2_with fail
    refine (HO2.out _ (H.out.same (sm B1.out lo hh)) (by omega)).mono ?_
    rintro e w2 ⟨u2, rfl, ho, b2⟩
    obtain ⟨uu, rfl, ho⟩ := ho
    obtain ⟨A2, n2, c2, rfl⟩ := ho.slice
    have T1 := Lib.hid (S1.out.below b2 (by omega))
    have B2 := Lib.hid (B1.out.trans (b2.mono (by omega)))
    have HO3 := Lib.hid ho
    have hsz2 := b2.size
    clear z0 z1 z2 z3 z4 z5 z6 z7 fz0 fz1 fz2 fz3 fz4 fz5 fz6 fz7 b2
    obtain ⟨z0, z1, z2, z3, z4, z5, z6, z7⟩ := T1.out.eightA
    obtain ⟨fz0, fz1, fz2, fz3, fz4, fz5, fz6, fz7⟩ := T1.out.freesA
    unfold flc
    simp only
    go_wp2
    refine bodyPost_ret (results_cell_row Try.results28 _ _ _ _ #[.int .i64 d, .int .i64 b, .int .i64 p, .slice A2 n2 c2, .int .i64 (-1), .int .i64 ke, .bool false, .int .i64 op] _ _ rfl
      ((T1.out.alloc _).put8 _ _ _ _ _ _ _ _) Try.underlying31 rfl infoFl8) rfl ?_
    refine ⟨_, rfl, ⟨_, rfl, (HO3.out.same ?_).wide (by omega) (by simp)⟩, ?_⟩
    · repeat refine sset ?_ (.inl (by omega)) _
      exact sm ((Below.refl _ _).alloc (Nat.le_refl _) _) _ (Nat.le_refl _)
    · repeat refine bset ?_ (by omega) _
      exact B2.out.alloc B2.out.size _
  · obtain rfl : r = false := (bool_of r hr).2 hno
    clear hr hno HO
    go_wp2
    refine bodyPost_ret (results_cell_row Try.results28 _ _ _ _ #[.int .i64 0, .int .i64 0, .int .i64 0, .slice none 0 0, .int .i64 0, .int .i64 0, .bool false, .int .i64 0] _ _ rfl
      (S1.out.put8 _ _ _ _ _ _ _ _) Try.underlying31 rfl infoFl8) rfl ?_
    refine ⟨_, rfl, zeroOwn _ _ _, ?_⟩
    repeat refine bset ?_ (by omega) _
    exact B1.out
set_option maxHeartbeats 1000000 in
theorem implArm_any (v : Value) (fuse keep : Int) (F G : Fl) (c : Int) (w : World) (lo hi : Nat) (h : FlIn w lo hi v F) (hh : hi ≤ w.heap.size) (hG : ArmEnds F fuse keep G c) (hl : FlLen F) :
    Calls Try.prog 27 #[v, .int .i64 fuse, .int .i64 keep] w (FlPost G c w) := by
  obtain ⟨r, hr⟩ := prop_dec (FlOk F)
  obtain ⟨u, rfl, hb⟩ := h
  have hv : ∀ W : World, BksIn W lo hi u F.bs → FlIn W lo hi (.agg (flc F u)) F := fun W a => ⟨u, rfl, a⟩
  have HV := Lib.hid (fun (W : World) (a : BksIn W lo hi u F.bs) (c : hi ≤ W.heap.size) => implValid_any (.agg (flc F u)) F r W lo hi (hv W a) c hr hl)
  have HO := Lib.hid (fun (hok : FlOk F) (W : World) (a : BksIn W lo hi u F.bs) (c : hi ≤ W.heap.size) => clone_any (.agg (flc F u)) F W lo hi (hv W a) c hok)
  have H := Lib.hid hb
  obtain ⟨Au, nu, cu, rfl⟩ := hb.slice
  clear hb hv hl
  obtain ⟨d, b, p, bs, fu, ke, off, op⟩ := F
  unfold flc at *
  simp only at *
  obtain ⟨r0, r1, b0⟩ := Rw.two_new w 31 31 #[.int .i64 d, .int .i64 b, .int .i64 p, .slice Au nu cu, .int .i64 fu, .int .i64 ke, .bool off, .int .i64 op]
    #[.int .i64 0, .int .i64 0, .int .i64 0, .slice none 0 0, .int .i64 0, .int .i64 0, .bool false, .int .i64 0]
  have R0 := Lib.hid r0
  have R1 := Lib.hid r1
  have B0 := Lib.hid b0
  clear r0 r1 b0
  have HG := Lib.hid hG
  clear hG
  go_enter Try.func27, Try.ntmps27
  go_wp2_with fail
  refine (HV.out _ (H.out.same (sm B0.out lo hh)) (by simp; omega)).mono ?_
  rintro e w1 ⟨rfl, b1⟩
  have S0 := Lib.hid (R0.out.below b1 (by simp; omega))
  have S1 := Lib.hid (R1.out.below b1 (by simp))
  have B1 := Lib.hid (B0.out.trans (b1.mono (by simp; omega)))
  have hsz1 := b1.size
  simp only [World.size_alloc] at hsz1
  obtain ⟨a0, a1, a2, a3, a4, a5, a6, a7⟩ := S0.out.eight
  obtain ⟨z0, z1, z2, z3, z4, z5, z6, z7⟩ := S1.out.eight
  obtain ⟨fz0, fz1, fz2, fz3, fz4, fz5, fz6, fz7⟩ := S1.out.frees
  clear b1
  have ZERO : Hid (∀ c : Int, FlPost Fl.zero c w (.returned (.tuple #[.agg #[.int .i64 0, .int .i64 0, .int .i64 0, .slice none 0 0, .int .i64 0, .int .i64 0, .bool false, .int .i64 0], .int .i64 c])) ((((((((w1.setCell ⟨w.heap.size + 1, 0, none⟩ (.int .i64 0)).setCell ⟨w.heap.size + 1, 1, none⟩ (.int .i64 0)).setCell ⟨w.heap.size + 1, 2, none⟩ (.int .i64 0)).setCell ⟨w.heap.size + 1, 3, none⟩ (.slice none 0 0)).setCell ⟨w.heap.size + 1, 4, none⟩ (.int .i64 0)).setCell ⟨w.heap.size + 1, 5, none⟩ (.int .i64 0)).setCell ⟨w.heap.size + 1, 6, none⟩ (.bool false)).setCell ⟨w.heap.size + 1, 7, none⟩ (.int .i64 0))) := Lib.hid (fun c => by
    refine ⟨_, rfl, zeroOwn _ _ _, ?_⟩
    repeat refine bset ?_ (by omega) _
    exact B1.out)
  rcases HG.out with hno | ⟨hok, ho⟩ | ⟨hok, ho, hrg⟩ | ⟨hok, ho, h2, h3⟩
  · obtain rfl : r = false := (bool_of r hr).2 hno
    clear hr hno HO
    go_wp2
    exact bodyPost_ret (results_row_tmp Try.results27 _ _ _ _ #[.int .i64 0, .int .i64 0, .int .i64 0, .slice none 0 0, .int .i64 0, .int .i64 0, .bool false, .int .i64 0] _ _ rfl
      (S1.out.put8 _ _ _ _ _ _ _ _) Try.underlying31 rfl infoFl8) rfl (ZERO.out 1)
  · obtain rfl : r = true := hr.2 hok
    simp only at ho
    subst ho
    clear hr hok HO
    go_wp2
    exact bodyPost_ret (results_row_tmp Try.results27 _ _ _ _ #[.int .i64 0, .int .i64 0, .int .i64 0, .slice none 0 0, .int .i64 0, .int .i64 0, .bool false, .int .i64 0] _ _ rfl
      (S1.out.put8 _ _ _ _ _ _ _ _) Try.underlying31 rfl infoFl8) rfl (ZERO.out 8)
  · obtain rfl : r = true := hr.2 hok
    simp only at ho
    subst ho
    clear hr hok HO
    by_cases g1 : -1 ≤ fuse ∧ fuse ≤ 1000000
    · have g2 : ¬ (0 ≤ keep ∧ keep ≤ 91) := by
        rcases hrg with q | q
        · exact absurd g1 q
        · exact q
      have K1 := Lib.hid (fun (W : World) => validFuse_any fuse true W (by simp; omega))
      have K2 := Lib.hid (fun (W : World) => validKeep_any keep false W (by simp; omega))
      clear hrg g1 g2
      go_wp2_with fail
      refine (K1.out _).mono ?_
      rintro e w2 ⟨rfl, rfl⟩
      go_wp2_with fail
      refine (K2.out _).mono ?_
      rintro e w2 ⟨rfl, rfl⟩
      go_wp2
      exact bodyPost_ret (results_row_tmp Try.results27 _ _ _ _ #[.int .i64 0, .int .i64 0, .int .i64 0, .slice none 0 0, .int .i64 0, .int .i64 0, .bool false, .int .i64 0] _ _ rfl
        (S1.out.put8 _ _ _ _ _ _ _ _) Try.underlying31 rfl infoFl8) rfl (ZERO.out 2)
    · have K1 := Lib.hid (fun (W : World) => validFuse_any fuse false W (by simp; omega))
      clear hrg g1
      go_wp2_with fail
      refine (K1.out _).mono ?_
      rintro e w2 ⟨rfl, rfl⟩
      go_wp2
      exact bodyPost_ret (results_row_tmp Try.results27 _ _ _ _ #[.int .i64 0, .int .i64 0, .int .i64 0, .slice none 0 0, .int .i64 0, .int .i64 0, .bool false, .int .i64 0] _ _ rfl
        (S1.out.put8 _ _ _ _ _ _ _ _) Try.underlying31 rfl infoFl8) rfl (ZERO.out 2)
  · obtain rfl : r = true := hr.2 hok
    simp only at ho
    subst ho
    have HO2 := Lib.hid (HO.out hok)
    have K1 := Lib.hid (fun (W : World) => validFuse_any fuse true W (by simp; omega))
    have K2 := Lib.hid (fun (W : World) => validKeep_any keep true W (by simp; omega))
    clear hr hok HO ZERO h2 h3
    go_wp2_with fail
    refine (K1.out _).mono ?_
    rintro e w2 ⟨rfl, rfl⟩
    go_wp2_with fail
    refine (K2.out _).mono ?_
    rintro e w2 ⟨rfl, rfl⟩
    go_wp2_with fail
    refine (HO2.out _ (H.out.same (sm B1.out lo hh)) (by omega)).mono ?_
    rintro e w2 ⟨u2, rfl, ho, b2⟩
    obtain ⟨uu, rfl, ho⟩ := ho
    obtain ⟨A2, n2, c2, rfl⟩ := ho.slice
    have T1 := Lib.hid (S1.out.below b2 (by omega))
    have B2 := Lib.hid (B1.out.trans (b2.mono (by omega)))
    have HO3 := Lib.hid ho
    have hsz2 := b2.size
    clear z0 z1 z2 z3 z4 z5 z6 z7 fz0 fz1 fz2 fz3 fz4 fz5 fz6 fz7 b2
    obtain ⟨z0, z1, z2, z3, z4, z5, z6, z7⟩ := T1.out.eightA
    obtain ⟨fz0, fz1, fz2, fz3, fz4, fz5, fz6, fz7⟩ := T1.out.freesA
    unfold flc
    simp only
    go_wp2
    refine bodyPost_ret (results_row_tmp Try.results27 _ _ _ _ #[.int .i64 d, .int .i64 b, .int .i64 p, .slice A2 n2 c2, .int .i64 fuse, .int .i64 keep, .bool false, .int .i64 op] _ _ rfl
      ((T1.out.alloc _).put8 _ _ _ _ _ _ _ _) Try.underlying31 rfl infoFl8) rfl ?_
    refine ⟨_, rfl, ⟨_, rfl, (HO3.out.same ?_).wide (by omega) (by simp)⟩, ?_⟩
    · repeat refine sset ?_ (.inl (by omega)) _
      exact sm ((Below.refl _ _).alloc (Nat.le_refl _) _) _ (Nat.le_refl _)
    · repeat refine bset ?_ (by omega) _
      exact B2.out.alloc B2.out.size _
end Go.Proofs.Yteigdjocjcjkiaa
