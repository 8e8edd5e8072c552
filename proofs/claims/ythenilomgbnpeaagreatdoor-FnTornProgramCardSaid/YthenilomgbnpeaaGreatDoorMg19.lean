/- The proof's own lemmas, part 20: FlS. -/
import Derived.Test.YthenilomgbnpeaaGreatDoorProg
import Derived.Test.YthenilomgbnpeaaGreatDoorMg14
import Derived.Test.YthenilomgbnpeaaGreatDoorMg18
/- Programming a page, by the program: the contracts. -/
namespace Go.Proofs.YthenilomgbnpeaaGreatDoor
open Go.RowKit
set_option linter.unusedVariables false
theorem same_grown {w w' : World} {g lo hi : Nat} (h : w.grownBy w' (some g)) (hg : hi ≤ g) (hs : hi ≤ w.heap.size) : Same lo hi w w' := fun j _ h2 => h.block j (by omega) (fun e => by injection e with e; omega)
theorem Rw.kept {w w' : World} {g lo hi : Nat} {t : TypeId} {cs : Array Value} (h : Rw w g t cs) (k : Keep lo hi w w') (hg : hi ≤ g) : Rw w' g t cs := (k.2 g hg h.lt).trans h
theorem set_self (L : List Blk) (k : Nat) (hk : k < L.length) : L.set k (L.getD k Blk.zero) = L := by
  rw [List.getD_eq_getElem?_getD, List.getElem?_eq_getElem hk]; simp
theorem prog_bs {F : Fl} {k : Nat} {raw : ByteArray} (hk : k < F.bs.length) (hr : raw.size = 91) : (F.prog k raw).bs = F.bs.set k ((F.blk k).takes raw F.much) := by
  unfold Fl.prog Fl.much Blk.takes Fl.blk
  by_cases h : F.fu = 0
  · rw [if_pos h, if_pos h]
    by_cases h2 : F.ke = 0
    · rw [if_pos h2, if_pos h2, set_self _ _ hk]; rfl
    · rw [if_neg h2, if_neg h2]; rfl
  · rw [if_neg h, if_neg h, if_neg (by decide), Blk.torn_whole hr]; rfl
theorem prog_flc (F : Fl) (k : Nat) (raw : ByteArray) (u : Value) : flc (F.prog k raw) u = flc F.tick u := by
  unfold Fl.prog
  split
  · split <;> rfl
  · rfl
theorem Fl.much_ok {F : Fl} (h : FlOk F) : 0 ≤ F.much ∧ F.much ≤ 91 := by
  unfold Fl.much; have := h.2.2.2.2.1; split <;> omega
/-- What an operation in place leaves: its code, and where it was started or the array is off, the array as it is then. -/
def InPost (lo hi g : Nat) (u : Value) (G : Fl) (c : Int) (w : World) (e : Ending) (w' : World) : Prop :=
  e = .returned (.int .i64 c) ∧ Below lo w w' ∧ ((c = 0 ∨ c = 8) → Rw w' g 28 (flc G u) ∧ BksOwn w' lo hi u G.bs)
set_option maxRecDepth 100000 in
theorem flProg_any (w : World) (lo hi g : Nat) (F G : Fl) (u : Value) (block page : Int) (raw : ByteArray) (c : Int) (hR : Rw w g 28 (flc F u)) (hB : BksOwn w lo hi u F.bs) (hg : hi ≤ g) (hlo : lo ≤ hi) (hok : FlOk F) (hr : raw.size = 91)
    (hE : ProgEnds F block page raw G c) :
    Calls Tryz.prog 29 #[.pointer (some ⟨g, 0, none⟩), .int .i64 block, .int .i64 page, .string raw] w (InPost lo hi g u G c w) := by
  have hn8 := hok.len
  have hRg := hR
  obtain ⟨A, n, cap, rfl, hlc, hcm, hlen, hA⟩ := hB
  have hgl := hR.lt
  have RR := Lib.hid hR
  obtain ⟨c0, c1, c2, c3, c4, c5, c6, c7⟩ := hR.eight
  rw [hlen] at hn8
  have hnm : (n : Int) ≤ 36 := by omega
  have bl := Below.refl lo w
  have hLB : (n : Int) = F.d * F.b := by have := hok.2.1; rw [hlen] at this; exact this
  have HP := Lib.hid (fun (W : World) (r : Bool) (hr : r = true ↔ ((0 ≤ block ∧ block < (n : Int)) ∧ (0 ≤ page ∧ page < F.p))) => geoPage_any F.d F.b F.p block page r W hok.1 (by rw [← hLB]; exact hr))
  have hhi : hi ≤ w.heap.size := by omega
  clear hLB
  rcases hE with hE | ⟨_, _, h1⟩ | ⟨_, _, h1, h2⟩ | ⟨_, _, h1, k, m, rfl, rfl, hkl, hnp, h2⟩ | ⟨_, _, h1, k, m, rfl, rfl, hkl, hnp, h2, h3⟩ | ⟨_, _, h1, k, m, rfl, rfl, hkl, hnp, h2, h3⟩
  · rcases hE with hE | hE
    · exact absurd hok hE
    · exact absurd hr hE
  · have HB := Lib.hid (show BksOwn w lo hi (.slice A n cap) F.bs from ⟨A, n, cap, rfl, hlc, hcm, hlen, hA⟩)
    rw [h1] at c6
    clear hA hRg hR hok hlen
    go_enter Tryz.func29, Tryz.ntmps29
    go_wp2
    go_ret
    exact ⟨rfl, bl, fun _ => ⟨RR.out, HB.out⟩⟩
  · rw [h1] at c6
    have HF := Lib.hid (fun (W : World) => HP.out W false (by rw [hlen] at h2; simp only [Bool.false_eq_true, false_iff]; rintro ⟨a, b⟩; rcases h2 with h2 | h2 <;> contradiction))
    clear hA hRg hR hok hlen h2
    go_enter Tryz.func29, Tryz.ntmps29
    go_wp2_with fail
    refine (HF.out _).mono ?_
    rintro e w' ⟨rfl, bx⟩
    clear c0 c1 c2 c3 c4 c5 c6 c7
    have RX := Lib.hid (RR.out.below bx hgl)
    obtain ⟨c0, c1, c2, c3, c4, c5, c6, c7⟩ := RX.out.eight
    rw [h1] at c6
    have BX := Lib.hid (show Below lo w w' from bx.mono (by omega))
    clear bx
    go_wp2
    go_ret
    exact ⟨rfl, BX.out, fun h => by omega⟩
  · rw [h1] at c6
    rw [hlen] at hkl
    obtain ⟨gb, pv, rfl, hbo⟩ := hA (by omega)
    have HF := Lib.hid (fun (W : World) => HP.out W true (by simp; omega))
    have HQ := Lib.hid (show ∀ W, Below w.heap.size w W → W.cell? ⟨gb, k * 4, none⟩ = some (.int .i64 (F.blk k).er) ∧ W.cell? ⟨gb, k * 4 + 1, none⟩ = some (.int .i64 (F.blk k).nx) ∧ W.cell? ⟨gb, k * 4 + 2, none⟩ = some (.bool (F.blk k).bad) from fun W b => by
      obtain ⟨q0, q1, q2, q3⟩ := (hbo.same (sm b lo hhi)).row k (by omega)
      exact ⟨q0, q1, q2⟩)
    have hki : (k : Int) < (n : Int) := by omega
    rw [h2] at HQ
    clear hA hRg hR hlen hbo
    go_enter Tryz.func29, Tryz.ntmps29
    go_wp2_with fail
    refine (HF.out _).mono ?_
    rintro e w' ⟨rfl, bx⟩
    clear c0 c1 c2 c3 c4 c5 c6 c7
    have RX := Lib.hid (RR.out.below bx hgl)
    obtain ⟨c0, c1, c2, c3, c4, c5, c6, c7⟩ := RX.out.eight
    rw [h1] at c6
    have BX := Lib.hid (show Below lo w w' from bx.mono (by omega))
    obtain ⟨q0, q1, q2⟩ := HQ.out _ bx
    go_wp2
    go_ret
    exact ⟨rfl, BX.out, fun h => by omega⟩
  · rw [h1] at c6
    rw [hlen] at hkl
    obtain ⟨gb, pv, rfl, hbo⟩ := hA (by omega)
    have HF := Lib.hid (fun (W : World) => HP.out W true (by simp; omega))
    have HQ := Lib.hid (show ∀ W, Below w.heap.size w W → W.cell? ⟨gb, k * 4, none⟩ = some (.int .i64 (F.blk k).er) ∧ W.cell? ⟨gb, k * 4 + 1, none⟩ = some (.int .i64 (F.blk k).nx) ∧ W.cell? ⟨gb, k * 4 + 2, none⟩ = some (.bool (F.blk k).bad) from fun W b => by
      obtain ⟨q0, q1, q2, q3⟩ := (hbo.same (sm b lo hhi)).row k (by omega)
      exact ⟨q0, q1, q2⟩)
    have hki : (k : Int) < (n : Int) := by omega
    rw [h2] at HQ
    generalize hnx : (F.blk k).nx = nx at *
    have hd : (nx != (m : Int)) = true := bne_iff_ne.2 h3
    clear hA hRg hR hlen hbo hnx h3
    go_enter Tryz.func29, Tryz.ntmps29
    go_wp2_with fail
    refine (HF.out _).mono ?_
    rintro e w' ⟨rfl, bx⟩
    clear c0 c1 c2 c3 c4 c5 c6 c7
    have RX := Lib.hid (RR.out.below bx hgl)
    obtain ⟨c0, c1, c2, c3, c4, c5, c6, c7⟩ := RX.out.eight
    rw [h1] at c6
    have BX := Lib.hid (show Below lo w w' from bx.mono (by omega))
    obtain ⟨q0, q1, q2⟩ := HQ.out _ bx
    go_wp2
    go_ret
    exact ⟨rfl, BX.out, fun h => by omega⟩
  · rw [h1] at c6
    rw [hlen] at hkl
    obtain ⟨gb, pv, rfl, hbo⟩ := hA (by omega)
    have HF := Lib.hid (fun (W : World) => HP.out W true (by simp; omega))
    have HQ := Lib.hid (show ∀ W, Below w.heap.size w W → W.cell? ⟨gb, k * 4, none⟩ = some (.int .i64 (F.blk k).er) ∧ W.cell? ⟨gb, k * 4 + 1, none⟩ = some (.int .i64 (F.blk k).nx) ∧ W.cell? ⟨gb, k * 4 + 2, none⟩ = some (.bool (F.blk k).bad) from fun W b => by
      obtain ⟨q0, q1, q2, q3⟩ := (hbo.same (sm b lo hhi)).row k (by omega)
      exact ⟨q0, q1, q2⟩)
    have hki : (k : Int) < (n : Int) := by omega
    rw [h2] at HQ
    have hpl := hok.plen (i := k) (by omega)
    have hbk := hok.2.2.1 k (by omega)
    have hS := Lib.hid (fun (W : World) (k : Rw W g 28 (flc F (.slice (some ⟨gb, 0, none⟩) n cap))) => start_any g F (.slice (some ⟨gb, 0, none⟩) n cap) W k hok.2.2.2.1)
    have hmu := Fl.much_ok hok
    have HD := Lib.hid (And.intro (prog_bs (F := F) (k := k) (raw := raw) (by omega) hr) (prog_flc F k raw (.slice (some ⟨gb, 0, none⟩) n cap)))
    have HBO := Lib.hid hbo
    have HLN := Lib.hid hlen
    have HPR := Lib.hid (fun (W : World) (o : BO W lo hi gb pv F.bs) (hh : hi ≤ W.heap.size) => blkProg_any W lo hi gb pv F.bs k raw F.much o (by omega) hh (by have := hbk.2.1; exact this.1) (by show (F.blk k).nx < ((F.blk k).pg.length : Int); omega) (by show (F.blk k).pg.length ≤ 16; omega) hr hmu)
    rw [h3] at HQ
    have hd : ((m : Int) != (m : Int)) = false := by simp
    have hcode : F.code = 0 ∨ F.code = 8 := by unfold Fl.code; split <;> simp
    have HLL := Lib.hid (show (F.bs.set k ((F.blk k).takes raw F.much)).length = n by rw [List.length_set]; exact hlen)
    generalize F.much = mu at *
    generalize F.code = co at *
    generalize F.prog k raw = G' at *
    clear hA hRg hR hlen hbo h3 hok hpl hbk hmu
    go_enter Tryz.func29, Tryz.ntmps29
    go_wp2_with fail
    refine (HF.out _).mono ?_
    rintro e w' ⟨rfl, bx⟩
    clear c0 c1 c2 c3 c4 c5 c6 c7
    have RX := Lib.hid (RR.out.below bx hgl)
    obtain ⟨c0, c1, c2, c3, c4, c5, c6, c7⟩ := RX.out.eight
    rw [h1] at c6
    have BX := Lib.hid (show Below lo w w' from bx.mono (by omega))
    obtain ⟨q0, q1, q2⟩ := HQ.out _ bx
    have hs1 := bx.size
    have OX := Lib.hid (HBO.out.same (sm bx lo hhi))
    clear bx
    go_wp2_with fail
    refine (hS.out _ RX.out).mono ?_
    rintro e w1 ⟨rfl, r1, gr1⟩
    have k3 : w1.cell? ⟨g, 3, none⟩ = some (.slice (some ⟨gb, 0, none⟩) n cap) := r1.cell 3
    have s1 := gr1.size
    have o1 := Lib.hid (OX.out.same (same_grown gr1 hg (by omega)))
    have hb1 := Lib.hid (grown_keep gr1 (B := lo) (by omega) (by omega))
    have R1 := Lib.hid r1
    clear r1 gr1 c0 c1 c2 c3 c4 c5 c6 c7 q0 q1 q2
    go_wp2_with fail
    refine (HPR.out w1 o1.out (by omega)).mono ?_
    rintro e w2 ⟨rfl, o2, k2⟩
    have O2 := Lib.hid o2
    have K2 := Lib.hid k2
    clear o2 k2 k3
    go_wp2
    go_ret
    refine ⟨rfl, BX.out.trans (hb1.out.trans K2.out.1), fun _ => ⟨?_, ?_⟩⟩
    · rw [HD.out.2]; exact R1.out.kept K2.out hg
    · exact ⟨_, n, cap, rfl, hlc, hcm, by rw [HD.out.1]; exact HLL.out, fun _ => ⟨gb, pv, rfl, by rw [HD.out.1]; exact O2.out⟩⟩
set_option maxRecDepth 100000 in
theorem outcome_any (w : World) (lo hi g : Nat) (G : Fl) (u : Value) (c : Int) (hgl : g < w.heap.size) (hG : (c = 0 ∨ c = 8) → Rw w g 28 (flc G u) ∧ BksOwn w lo hi u G.bs) (hi2 : hi ≤ w.heap.size) (hz : ¬ (c = 0 ∨ c = 8) → G = Fl.zero) :
    Calls Tryz.prog 30 #[.pointer (some ⟨g, 0, none⟩), .int .i64 c] w fun e w' => ∃ v, e = .returned (.tuple #[v, .int .i64 c]) ∧ FlOwn w' lo hi v G ∧ Below w.heap.size w w' := by
  have HZ := Lib.hid (Rw.new w 28 #[.int .i64 0, .int .i64 0, .int .i64 0, .slice none 0 0, .int .i64 0, .int .i64 0, .bool false, .int .i64 0])
  by_cases hc : c = 0 ∨ c = 8
  · obtain ⟨hR, hB⟩ := hG hc
    have hd : c = 0 ∨ (c == 0) = false ∧ (c == 8) = true := by rcases hc with rfl | rfl <;> simp
    have HB := Lib.hid hB
    obtain ⟨A, n, cap, rfl⟩ := hB.slice
    obtain ⟨c0, c1, c2, c3, c4, c5, c6, c7⟩ := (hR.alloc (.cells #[.int .i64 0, .int .i64 0, .int .i64 0, .slice none 0 0, .int .i64 0, .int .i64 0, .bool false, .int .i64 0] 28)).eight
    clear hB hR hc hG hz
    obtain ⟨d, b, p, bs, fu, ke, off, op⟩ := G
    simp only at *
    have fin : ∀ c : Int, ∃ v, Ending.returned (.tuple #[.agg #[.int .i64 d, .int .i64 b, .int .i64 p, .slice A n cap, .int .i64 fu, .int .i64 ke, .bool off, .int .i64 op], .int .i64 c]) = Ending.returned (Value.tuple #[v, .int .i64 c]) ∧
        FlOwn (w.alloc (.cells #[.int .i64 d, .int .i64 b, .int .i64 p, .slice A n cap, .int .i64 fu, .int .i64 ke, .bool off, .int .i64 op] 28)) lo hi v ⟨d, b, p, bs, fu, ke, off, op⟩ ∧
        Below w.heap.size w (w.alloc (.cells #[.int .i64 d, .int .i64 b, .int .i64 p, .slice A n cap, .int .i64 fu, .int .i64 ke, .bool off, .int .i64 op] 28)) := fun c =>
      ⟨_, rfl, ⟨_, rfl, HB.out.same (sm ((Below.refl w.heap.size w).alloc (Nat.le_refl _) _) lo hi2)⟩, (Below.refl w.heap.size w).alloc (Nat.le_refl _) _⟩
    have FIN := Lib.hid fin
    clear fin
    rcases hd with rfl | ⟨d1, d2⟩
    · go_enter Tryz.func30, Tryz.ntmps30
      go_wp2
      exact bodyPost_ret (results_row_tmp Tryz.results30 _ _ _ _ #[.int .i64 d, .int .i64 b, .int .i64 p, .slice A n cap, .int .i64 fu, .int .i64 ke, .bool off, .int .i64 op] _ _ rfl
        (Rw.new w 28 _) Tryz.underlying28 rfl infoFl8) rfl (FIN.out 0)
    · go_enter Tryz.func30, Tryz.ntmps30
      go_wp2
      exact bodyPost_ret (results_row_tmp Tryz.results30 _ _ _ _ #[.int .i64 d, .int .i64 b, .int .i64 p, .slice A n cap, .int .i64 fu, .int .i64 ke, .bool off, .int .i64 op] _ _ rfl
        (Rw.new w 28 _) Tryz.underlying28 rfl infoFl8) rfl (FIN.out c)
  · obtain rfl := hz hc
    have d1 : (c == 0) = false := by simp; exact fun e => hc (.inl e)
    have d2 : (c == 8) = false := by simp; exact fun e => hc (.inr e)
    clear hG hz hc
    go_enter Tryz.func30, Tryz.ntmps30
    go_wp2
    exact bodyPost_ret (results_row_tmp Tryz.results30 _ _ _ _ #[.int .i64 0, .int .i64 0, .int .i64 0, .slice none 0 0, .int .i64 0, .int .i64 0, .bool false, .int .i64 0] _ _ rfl
      HZ.out Tryz.underlying28 rfl infoFl8) rfl ⟨_, rfl, zeroOwn _ _ _, (Below.refl w.heap.size w).alloc (Nat.le_refl _) _⟩
theorem ProgEnds.codes {F : Fl} {block page : Int} {raw : ByteArray} {G : Fl} {c : Int} (h : ProgEnds F block page raw G c) (hn : ¬ (c = 0 ∨ c = 8)) : G = Fl.zero := by
  rcases h with _ | _ | _ | _ | _ | _
  · rfl
  · exact absurd (.inr rfl) hn
  · rfl
  · rfl
  · rfl
  · exact absurd (by unfold Fl.code; split <;> simp) hn
set_option maxHeartbeats 1000000 in
theorem implProg_any (v : Value) (block page : Int) (raw : ByteArray) (F G : Fl) (c : Int) (w : World) (lo hi : Nat) (h : FlIn w lo hi v F) (hh : hi ≤ w.heap.size) (hG : ProgEnds F block page raw G c) (hl : FlLen F) (hraw : raw.size ≤ 9223372036854775807) :
    Calls Tryz.prog 10 #[v, .int .i64 block, .int .i64 page, .string raw] w (FlPost G c w) := by
  obtain ⟨r, hr⟩ := prop_dec (FlOk F)
  obtain ⟨u, rfl, hb⟩ := h
  have hv : ∀ W : World, BksIn W lo hi u F.bs → FlIn W lo hi (.agg (flc F u)) F := fun W a => ⟨u, rfl, a⟩
  have HV := Lib.hid (fun (W : World) (a : BksIn W lo hi u F.bs) (c : hi ≤ W.heap.size) => implValid_any (.agg (flc F u)) F r W lo hi (hv W a) c hr hl)
  have HO := Lib.hid (fun (hok : FlOk F) (W : World) (a : BksIn W lo hi u F.bs) (c : hi ≤ W.heap.size) => clone_any (.agg (flc F u)) F W lo hi (hv W a) c hok)
  have HPG := Lib.hid (fun (hok : FlOk F) (hr : raw.size = 91) (W : World) (u2 : Value) (lo hi g : Nat) (a : Rw W g 28 (flc F u2)) (b : BksOwn W lo hi u2 F.bs) (c1 : hi ≤ g) (c2 : lo ≤ hi) => flProg_any W lo hi g F G u2 block page raw c a b c1 c2 hok hr hG)
  have HC := Lib.hid hG.codes
  have HOU := Lib.hid (fun (W : World) (lo hi g : Nat) (u2 : Value) (a : g < W.heap.size) (b : (c = 0 ∨ c = 8) → Rw W g 28 (flc G u2) ∧ BksOwn W lo hi u2 G.bs) (d : hi ≤ W.heap.size) => outcome_any W lo hi g G u2 c a b d HC.out)
  have H := Lib.hid hb
  obtain ⟨Au, nu, cu, rfl⟩ := hb.slice
  have HF1 := Lib.hid (show ¬ (FlOk F ∧ raw.size = 91) → G = Fl.zero ∧ c = 1 from fun hn => by
    rcases hG with _ | ⟨a, b, _⟩ | ⟨a, b, _⟩ | ⟨a, b, _⟩ | ⟨a, b, _⟩ | ⟨a, b, _⟩
    · exact ⟨rfl, rfl⟩
    all_goals exact absurd ⟨a, b⟩ hn)
  clear hb hv hl hG
  obtain ⟨FF, hFF⟩ : ∃ X, X = F := ⟨_, rfl⟩
  have hFl : flc F (.slice Au nu cu) = #[.int .i64 F.d, .int .i64 F.b, .int .i64 F.p, .slice Au nu cu, .int .i64 F.fu, .int .i64 F.ke, .bool F.off, .int .i64 F.op] := rfl
  have hFo : ∀ u, flc F u = #[.int .i64 F.d, .int .i64 F.b, .int .i64 F.p, u, .int .i64 F.fu, .int .i64 F.ke, .bool F.off, .int .i64 F.op] := fun u => rfl
  rw [hFl] at HV HO ⊢
  have HFO := Lib.hid hFo
  clear hFl hFo hFF
  generalize F.d = d at *
  generalize F.b = b at *
  generalize F.p = p at *
  generalize F.fu = fu at *
  generalize F.ke = ke at *
  generalize F.off = off at *
  generalize F.op = op at *
  obtain ⟨r0, r1, b0⟩ := Rw.two_new w 28 28 #[.int .i64 d, .int .i64 b, .int .i64 p, .slice Au nu cu, .int .i64 fu, .int .i64 ke, .bool off, .int .i64 op]
    #[.int .i64 0, .int .i64 0, .int .i64 0, .slice none 0 0, .int .i64 0, .int .i64 0, .bool false, .int .i64 0]
  have R0 := Lib.hid r0
  have R1 := Lib.hid r1
  have B0 := Lib.hid b0
  clear r0 r1 b0
  go_enter Tryz.func10, Tryz.ntmps10
  go_wp2_with fail
  refine (HV.out _ (H.out.same (sm B0.out lo hh)) (by simp; omega)).mono ?_
  rintro e w1 ⟨rfl, b1⟩
  have S0 := Lib.hid (R0.out.below b1 (by simp; omega))
  have S1 := Lib.hid (R1.out.below b1 (by simp))
  have B1 := Lib.hid (B0.out.trans (b1.mono (by simp; omega)))
  have hsz1 := b1.size
  simp only [World.size_alloc] at hsz1
  clear b1
  by_cases hbad : FlOk F ∧ raw.size = 91
  case neg =>
    obtain ⟨rfl, rfl⟩ := HF1.out hbad
    obtain ⟨z0, z1, z2, z3, z4, z5, z6, z7⟩ := S1.out.eight
    obtain ⟨fz0, fz1, fz2, fz3, fz4, fz5, fz6, fz7⟩ := S1.out.frees
    have ZERO : Hid (∀ c : Int, FlPost Fl.zero c w (.returned (.tuple #[.agg #[.int .i64 0, .int .i64 0, .int .i64 0, .slice none 0 0, .int .i64 0, .int .i64 0, .bool false, .int .i64 0], .int .i64 c])) ((((((((w1.setCell ⟨w.heap.size + 1, 0, none⟩ (.int .i64 0)).setCell ⟨w.heap.size + 1, 1, none⟩ (.int .i64 0)).setCell ⟨w.heap.size + 1, 2, none⟩ (.int .i64 0)).setCell ⟨w.heap.size + 1, 3, none⟩ (.slice none 0 0)).setCell ⟨w.heap.size + 1, 4, none⟩ (.int .i64 0)).setCell ⟨w.heap.size + 1, 5, none⟩ (.int .i64 0)).setCell ⟨w.heap.size + 1, 6, none⟩ (.bool false)).setCell ⟨w.heap.size + 1, 7, none⟩ (.int .i64 0))) := Lib.hid (fun c => by
      refine ⟨_, rfl, zeroOwn _ _ _, ?_⟩
      repeat refine bset ?_ (by omega) _
      exact B1.out)
    clear HO HPG HC HOU HF1
    by_cases hok : FlOk F
    · obtain rfl : r = true := hr.2 hok
      have hne : ((raw.size : Int) != 91) = true := by simp; exact fun e => hbad ⟨hok, by omega⟩
      clear hr hok hbad
      go_wp2
      exact bodyPost_ret (results_row_tmp Tryz.results10 _ _ _ _ #[.int .i64 0, .int .i64 0, .int .i64 0, .slice none 0 0, .int .i64 0, .int .i64 0, .bool false, .int .i64 0] _ _ rfl
        (S1.out.put8 _ _ _ _ _ _ _ _) Tryz.underlying28 rfl infoFl8) rfl (ZERO.out 1)
    · obtain rfl : r = false := (bool_of r hr).2 hok
      clear hr hok hbad
      go_wp2
      exact bodyPost_ret (results_row_tmp Tryz.results10 _ _ _ _ #[.int .i64 0, .int .i64 0, .int .i64 0, .slice none 0 0, .int .i64 0, .int .i64 0, .bool false, .int .i64 0] _ _ rfl
        (S1.out.put8 _ _ _ _ _ _ _ _) Tryz.underlying28 rfl infoFl8) rfl (ZERO.out 1)
  obtain ⟨hok, hrs⟩ := hbad
  obtain rfl : r = true := hr.2 hok
  have hne : ((raw.size : Int) != 91) = false := by rw [hrs]; rfl
  have HO2 := Lib.hid (HO.out hok)
  have HPG2 := Lib.hid (HPG.out hok hrs)
  obtain ⟨a0, a1, a2, a3, a4, a5, a6, a7⟩ := S0.out.eight
  clear hr hok HO HPG HC HF1 hrs
  go_wp2_with fail
  refine (HO2.out _ (H.out.same (sm B1.out lo hh)) (by omega)).mono ?_
  rintro e w2 ⟨u2, rfl, ho, b2⟩
  obtain ⟨uu, rfl, ho⟩ := ho
  obtain ⟨A2, n2, c2, rfl⟩ := ho.slice
  have T1 := Lib.hid (S1.out.below b2 (by omega))
  have B2 := Lib.hid (B1.out.trans (b2.mono (by omega)))
  have HO3 := Lib.hid ho
  have hsz2 := b2.size
  rw [HFO.out]
  have L3 := Lib.hid (Rw.new w2 28 #[.int .i64 d, .int .i64 b, .int .i64 p, .slice A2 n2 c2, .int .i64 fu, .int .i64 ke, .bool off, .int .i64 op])
  have AL := Lib.hid ((Below.refl w2.heap.size w2).alloc (Nat.le_refl _) (.cells #[.int .i64 d, .int .i64 b, .int .i64 p, .slice A2 n2 c2, .int .i64 fu, .int .i64 ke, .bool off, .int .i64 op] 28))
  clear a0 a1 a2 a3 a4 a5 a6 a7 b2 ho
  go_wp2_with fail
  refine (HPG2.out _ (.slice A2 n2 c2) w1.heap.size w2.heap.size w2.heap.size (by rw [HFO.out]; exact L3.out) (HO3.out.same (sm AL.out _ (Nat.le_refl _))) (Nat.le_refl _) hsz2).mono ?_
  rintro e w3 ⟨rfl, b3, hx3⟩
  have b3' : Below w1.heap.size w2 w3 := (AL.out.mono hsz2).trans b3
  have T3 := Lib.hid (T1.out.below b3' (by omega))
  have B3 := Lib.hid (B2.out.trans (b3'.mono (by omega)))
  have s3 := b3.size
  simp only [World.size_alloc] at s3
  have HX := Lib.hid hx3
  clear b3 b3' hx3
  go_wp2_with fail
  refine (HOU.out _ w1.heap.size w2.heap.size w2.heap.size (.slice A2 n2 c2) (by omega) HX.out (by omega)).mono ?_
  rintro e w4 ⟨v4, rfl, ho4, b4⟩
  obtain ⟨uv, rfl, hov⟩ := ho4
  obtain ⟨A4, n4, c4, rfl⟩ := hov.slice
  have T4 := Lib.hid (T3.out.below b4 (by omega))
  have B4 := Lib.hid (B3.out.trans (b4.mono (by omega)))
  have HO4 := Lib.hid hov
  have s4 := b4.size
  clear b4 hov HX HOU AL L3
  obtain ⟨z0, z1, z2, z3, z4, z5, z6, z7⟩ := T4.out.eight
  obtain ⟨fz0, fz1, fz2, fz3, fz4, fz5, fz6, fz7⟩ := T4.out.frees
  obtain ⟨gd, gb, gp, gbs, gfu, gke, goff, gop⟩ := G
  unfold flc
  simp only
  go_wp2
  refine bodyPost_ret (results_row_tmp Tryz.results10 _ _ _ _ #[.int .i64 gd, .int .i64 gb, .int .i64 gp, .slice A4 n4 c4, .int .i64 gfu, .int .i64 gke, .bool goff, .int .i64 gop] _ _ rfl
    (T4.out.put8 _ _ _ _ _ _ _ _) Tryz.underlying28 rfl infoFl8) rfl ?_
  refine ⟨_, rfl, ⟨_, rfl, (HO4.out.same ?_).wide (by omega) (by simp; omega)⟩, ?_⟩
  · repeat refine sset ?_ (.inl (by omega)) _
    exact Same.refl _ _ _
  · repeat refine bset ?_ (by omega) _
    exact B4.out
end Go.Proofs.YthenilomgbnpeaaGreatDoor
