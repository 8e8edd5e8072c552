/- Which block a policy picks, in the program: the contracts. -/
import Derived.Test.YtgkanacaijlljabProg
import Derived.Test.YtgkanacaijlljabStR
import Derived.WideMake
namespace Go.Proofs.Ytgkanacaijlljab
open Go.RowKit
set_option linter.unusedVariables false
set_option linter.unusedSimpArgs false
theorem run_mapPut_int {P : Program} (w : World) (mty kt et : TypeId) (r clock : Nat) (es : Array MapEntry) (x : Int) (val : Value) (hm : P.underlying mty = some (.map kt et)) (hk : P.underlying kt = some (.int .i64)) (hb : w.heap[r]? = some (.map es clock)) (hf : Instr.findNow (.int .i64) (.int .i64 x) es.toList 0 = some none) :
    (Instr.mapUpdate mty (.map (some r)) (.int .i64 x) val).run P w = .ok () { w with heap := w.heap.setIfInBounds r (.map (es.push { key := .int .i64 x, val := val, born := clock }) (clock + 1)) } := by
  have hc : (Instr.checkKey false 10000 kt (.int .i64 x)).run P w = .ok () w := MapKept.run_checkKey (k := .int .i64 x) hk (by simp [MapKept.IsKey]) false 9999
  simp [Instr.mapUpdate, run_underlying hm, MapKept.run_getObj_map hb, hc, MapKept.run_findKey hk hf, MapKept.run_setObj_map _ hb, Result.andThen]
theorem run_mapGet_int {P : Program} (w : World) (mty kt et : TypeId) (r clock : Nat) (es : Array MapEntry) (x : Int) (i : Nat) (v : Value) (hm : P.underlying mty = some (.map kt et)) (hk : P.underlying kt = some (.int .i64)) (hb : w.heap[r]? = some (.map es clock)) (hf : Instr.findNow (.int .i64) (.int .i64 x) es.toList 0 = some (some (i, v))) :
    (Instr.lookup mty (.map (some r)) (.int .i64 x) true).run P w = .ok (.tuple #[v, .bool true]) w := by
  have hc : (Instr.checkKey es.isEmpty 10000 kt (.int .i64 x)).run P w = .ok () w := MapKept.run_checkKey (k := .int .i64 x) hk (by simp [MapKept.IsKey]) _ 9999
  simp [Instr.lookup, run_underlying hm, MapKept.run_getObj_map hb, hc, MapKept.run_findKey hk hf, Result.andThen]
theorem run_mapMiss_int {P : Program} (w : World) (mty kt et : TypeId) (r clock : Nat) (es : Array MapEntry) (x : Int) (z : Value) (hm : P.underlying mty = some (.map kt et)) (hk : P.underlying kt = some (.int .i64)) (hb : w.heap[r]? = some (.map es clock)) (hz : (zeroValue et).run P w = .ok z w) (hf : Instr.findNow (.int .i64) (.int .i64 x) es.toList 0 = some none) :
    (Instr.lookup mty (.map (some r)) (.int .i64 x) true).run P w = .ok (.tuple #[z, .bool false]) w := by
  have hc : (Instr.checkKey es.isEmpty 10000 kt (.int .i64 x)).run P w = .ok () w := MapKept.run_checkKey (k := .int .i64 x) hk (by simp [MapKept.IsKey]) _ 9999
  simp [Instr.lookup, run_underlying hm, MapKept.run_getObj_map hb, hc, MapKept.run_findKey hk hf, hz, Result.andThen]
/-- The table of policies; its second entry knows where the number of pages lies. -/
def polEs (g : Nat) : Array MapEntry := #[{ key := .int .i64 1, val := .func (.func 138) #[] #[], born := 0 }, { key := .int .i64 2, val := .func (.func 139) #[] #[.pointer (some ⟨g, 0, none⟩)], born := 1 }]
set_option maxRecDepth 100000 in
theorem policies_any (p : Int) (w : World) : Calls Try.prog 80 #[.int .i64 p] w fun e w' => e = .returned (.map (some (w.heap.size + 1))) ∧ w'.heap[w.heap.size + 1]? = some (.map (polEs w.heap.size) 2) ∧ Rw w' w.heap.size 2 #[.int .i64 p] ∧ Below w.heap.size w w' := by
  have hmm := @run_makeMap_plain Try.prog
  obtain ⟨W0, hW0⟩ : ∃ W, W = (w.alloc (.cells #[.int .i64 p] 2)).alloc (.map #[] 0) := ⟨_, rfl⟩
  have hb0 : W0.heap[w.heap.size + 1]? = some (.map #[] 0) := by rw [hW0]; have := heap_alloc_new (w.alloc (.cells #[.int .i64 p] 2)) (.map #[] 0); simpa using this
  have r0 : Rw W0 w.heap.size 2 #[.int .i64 p] := by rw [hW0]; exact (Rw.new w _ _).alloc _
  have B0 : Below w.heap.size w W0 := by rw [hW0]; exact ((Below.refl w.heap.size w).alloc (Nat.le_refl _) _).alloc (by simp) _
  have hs0 : W0.heap.size = w.heap.size + 2 := by rw [hW0]; simp
  have hput1 := run_mapPut_int (P := Try.prog) W0 116 2 112 (w.heap.size + 1) 0 #[] 1 (.func (.func 138) #[] #[]) Try.underlying116 Try.underlying2 hb0 rfl
  obtain ⟨W1, hW1⟩ : ∃ W : World, W = { W0 with heap := W0.heap.setIfInBounds (w.heap.size + 1) (.map ((#[] : Array MapEntry).push { key := .int .i64 1, val := .func (.func 138) #[] #[], born := 0 }) (0 + 1)) } := ⟨_, rfl⟩
  rw [← hW1] at hput1
  have hb1 : W1.heap[w.heap.size + 1]? = some (.map #[{ key := .int .i64 1, val := .func (.func 138) #[] #[], born := 0 }] 1) := by rw [hW1]; simp [Array.getElem?_setIfInBounds, hs0]
  have r1 : Rw W1 w.heap.size 2 #[.int .i64 p] := by unfold Rw at r0 ⊢; rw [hW1]; simp [Array.getElem?_setIfInBounds]; exact r0
  have B1 : Below w.heap.size w W1 := by
    rw [hW1]
    exact ⟨B0.os, B0.tape, B0.output, by simpa using B0.size, fun j hj => by have := B0.block j hj; simpa [Array.getElem?_setIfInBounds, show w.heap.size + 1 ≠ j by omega] using this⟩
  have hs1 : W1.heap.size = w.heap.size + 2 := by rw [hW1]; simpa using hs0
  have hput2 := run_mapPut_int (P := Try.prog) W1 116 2 112 (w.heap.size + 1) 1 _ 2 (.func (.func 139) #[] #[.pointer (some ⟨w.heap.size, 0, none⟩)]) Try.underlying116 Try.underlying2 hb1 rfl
  obtain ⟨W2, hW2⟩ : ∃ W : World, W = { W1 with heap := W1.heap.setIfInBounds (w.heap.size + 1) (.map ((#[{ key := .int .i64 1, val := .func (.func 138) #[] #[], born := 0 }] : Array MapEntry).push { key := .int .i64 2, val := .func (.func 139) #[] #[.pointer (some ⟨w.heap.size, 0, none⟩)], born := 1 }) (1 + 1)) } := ⟨_, rfl⟩
  rw [← hW2] at hput2
  have hb2 : W2.heap[w.heap.size + 1]? = some (.map (polEs w.heap.size) 2) := by rw [hW2]; simp [Array.getElem?_setIfInBounds, hs1, polEs]
  have r2 : Rw W2 w.heap.size 2 #[.int .i64 p] := by unfold Rw at r1 ⊢; rw [hW2]; simp [Array.getElem?_setIfInBounds]; exact r1
  have B2 : Below w.heap.size w W2 := by
    rw [hW2]
    exact ⟨B1.os, B1.tape, B1.output, by simpa using B1.size, fun j hj => by have := B1.block j hj; simpa [Array.getElem?_setIfInBounds, show w.heap.size + 1 ≠ j by omega] using this⟩
  have HB2 := Lib.hid hb2
  have R2 := Lib.hid r2
  have BB := Lib.hid B2
  clear hW1 hW2 hb0 hb1 hb2 r0 r1 r2 B0 B1 B2 hs0 hs1
  go_enter Try.func80, Try.ntmps80
  go_wp2_with fail
  rw [← hW0]
  clear hW0
  rw [hput1]
  go_wp2
  go_ret
  exact ⟨rfl, HB2.out, R2.out, BB.out⟩
theorem cand_any (g : Nat) (p : Int) (x : St) (r : Bool) (w : World) (hg : Rw w g 2 #[.int .i64 p]) (hp : p ≤ 640) (hx : StOk p x) (hr : r = true ↔ Cand p x) :
    Calls Try.prog 82 #[.agg #[.int .i64 x.l, .int .i64 x.a, .bool x.u], .pointer (some ⟨g, 0, none⟩)] w fun e w' => e = .returned (.bool r) ∧ Below w.heap.size w w' := by
  unfold StOk at hx
  unfold Cand at hr
  have HG := Lib.hid (fun (W : World) => gain_any x.l x.a p x.u W hx.1 hp)
  have B0 := Lib.hid ((Below.refl w.heap.size w).alloc (Nat.le_refl _) (.cells #[.int .i64 x.l, .int .i64 x.a, .bool x.u] 56))
  have c0 := (hg.alloc (.cells #[.int .i64 x.l, .int .i64 x.a, .bool x.u] 56)).cell 0
  have c0' : (w.alloc (.cells #[.int .i64 x.l, .int .i64 x.a, .bool x.u] 56)).cell? ⟨g, 0, none⟩ = some (.int .i64 p) := c0
  have hglt := hg.lt
  clear c0 hg
  generalize x.l = a at *
  generalize x.a = b at *
  cases hu : x.u with
  | false =>
    rw [hu] at hr HG B0 c0'
    obtain rfl : r = false := not_true hr (fun e => Bool.false_ne_true e.1)
    clear hr HG hu
    go_enter Try.func82, Try.ntmps82
    go_wp2
    go_ret
    exact ⟨rfl, B0.out⟩
  | true =>
    rw [hu] at hr HG B0 c0'
    have HR := Lib.hid (show r = decide (p - a > 0) by rw [Bool.eq_iff_iff, hr]; simp <;> omega)
    clear hr hu
    go_enter Try.func82, Try.ntmps82
    go_wp2_with fail
    refine (HG.out _).mono ?_
    rintro e w1 ⟨rfl, b1⟩
    have B1 := Lib.hid (B0.out.trans (b1.mono (by simp)))
    clear b1
    go_wp2
    go_ret
    exact ⟨ret_bool (by rw [HR.out]; exact decide_eq_decide.2 (by omega)), B1.out⟩
theorem better1_any (p : Int) (x y : St) (r : Bool) (w : World) (hr : r = true ↔ Bet 1 x y p) :
    Calls Try.prog 138 #[.agg #[.int .i64 x.l, .int .i64 x.a, .bool x.u], .agg #[.int .i64 y.l, .int .i64 y.a, .bool y.u]] w fun e w' => e = .returned (.bool r) ∧ Below w.heap.size w w' := by
  unfold Bet at hr
  generalize x.l = a at *
  generalize x.a = b at *
  generalize x.u = c at *
  generalize y.l = d at *
  generalize y.a = e at *
  generalize y.u = f at *
  have HB := Lib.hid (Rw.two_new w 56 56 #[.int .i64 a, .int .i64 b, .bool c] #[.int .i64 d, .int .i64 e, .bool f]).2.2
  obtain rfl : r = decide (a < d) := by rw [Bool.eq_iff_iff, hr]; simp
  clear hr
  go_enter Try.func138, Try.ntmps138
  go_wp2
  go_ret
  exact ⟨rfl, HB.out⟩
theorem cost_any (p : Int) (x : St) (w : World) (hp : p ≤ 640) (hx : StOk p x) : Calls Try.prog 141 #[.agg #[.int .i64 x.l, .int .i64 x.a, .bool x.u], .int .i64 p] w fun e w' => e = .returned (.int .i64 (p + x.l)) ∧ Below w.heap.size w w' := by
  unfold StOk at hx
  have HB := Lib.hid ((Below.refl w.heap.size w).alloc (Nat.le_refl _) (.cells #[.int .i64 x.l, .int .i64 x.a, .bool x.u] 56))
  generalize x.l = a at *
  generalize x.a = b at *
  generalize x.u = c at *
  have hw2 : IntKind.i64.wrap (p + a) = p + a := IntWalk.i64_in _ (by omega)
  go_enter Try.func141, Try.ntmps141
  go_wp2
  go_ret
  exact ⟨rfl, HB.out⟩
theorem benefit_any (p : Int) (x : St) (w : World) (hp : 1 ≤ p ∧ p ≤ 640) (hx : StOk p x) : Calls Try.prog 140 #[.agg #[.int .i64 x.l, .int .i64 x.a, .bool x.u], .int .i64 p] w fun e w' => e = .returned (.int .i64 ((p - x.l) * x.a)) ∧ Below w.heap.size w w' := by
  have hxy := betBounds hp hx hx
  unfold StOk at hx
  have HG := Lib.hid (fun (W : World) => gain_any x.l x.a p x.u W hx.1 hp.2)
  generalize x.l = a at *
  generalize x.a = b at *
  generalize x.u = c at *
  have hw2 : IntKind.i64.wrap ((p - a) * b) = (p - a) * b := IntWalk.i64_in _ (by omega)
  obtain ⟨C, hC⟩ : ∃ C : World → Prop, C = fun W => Rw W w.heap.size 56 #[.int .i64 a, .int .i64 b, .bool c] ∧ Below w.heap.size w W := ⟨_, rfl⟩
  have HC1 := Lib.hid (fun (W : World) (h : C W) => show Rw W w.heap.size 56 #[.int .i64 a, .int .i64 b, .bool c] ∧ Below w.heap.size w W by rw [hC] at h; exact h)
  have HC3 := Lib.hid (fun (W W' : World) (h : C W) (b : Below W.heap.size W W') => show C W' by rw [hC] at h ⊢; exact ⟨h.1.below b h.1.lt, h.2.trans (b.mono h.2.size)⟩)
  have hc0 : C (w.alloc (.cells #[.int .i64 a, .int .i64 b, .bool c] 56)).drew := by rw [hC]; exact ⟨Rw.new w _ _, ((Below.refl w.heap.size w).alloc (Nat.le_refl _) _).drew⟩
  clear hC hxy hx
  go_enter Try.func140, Try.ntmps140
  go_wp2_with fail
  refine wp_region_own (by kernel_rfl) (by kernel_rfl) hc0 ?_
  repeat (first
    | go_big_quiet_skip
    | (go_big_quiet_want
       go_big_quiet_op
       first
         | go_big_quiet_on
         | (apply Exists.intro
            refine ⟨fun W hW => ?_, ?_⟩
            · (first
                | rfl
                | (go_at_call 83
                   refine (HG.out _).mono ?_
                   rintro e w1 ⟨rfl, b⟩
                   exact ⟨rfl, HC3.out _ _ hW b⟩)
                | (obtain ⟨k0, k1, k2⟩ := (HC1.out _ hW).1.three
                   simp only [k0, k1, k2, Result.andThen]
                   exact ⟨trivial, rfl⟩))
            go_big_quiet_on)))
  refine wpQuiet_nil ?_
  intro w1 hw1
  have HB1 := Lib.hid (HC1.out _ hw1).2
  clear hw1 hc0
  go_wp2
  go_ret
  exact ⟨rfl, HB1.out⟩
set_option maxHeartbeats 8000000 in
set_option maxRecDepth 100000 in
theorem better2_any (g : Nat) (p : Int) (x y : St) (r : Bool) (w : World) (hg : Rw w g 2 #[.int .i64 p]) (hp : 1 ≤ p ∧ p ≤ 640) (hx : StOk p x) (hy : StOk p y) (hr : r = true ↔ Bet 2 x y p) :
    Calls Try.prog 139 #[.agg #[.int .i64 x.l, .int .i64 x.a, .bool x.u], .agg #[.int .i64 y.l, .int .i64 y.a, .bool y.u], .pointer (some ⟨g, 0, none⟩)] w fun e w' => e = .returned (.bool r) ∧ Below w.heap.size w w' := by
  have hxy := betBounds hp hx hy
  have hyx := betBounds hp hy hx
  have HBX := Lib.hid (fun (W : World) => benefit_any p x W hp hx)
  have HBY := Lib.hid (fun (W : World) => benefit_any p y W hp hy)
  have HCX := Lib.hid (fun (W : World) => cost_any p x W hp.2 hx)
  have HCY := Lib.hid (fun (W : World) => cost_any p y W hp.2 hy)
  unfold Bet at hr
  have HR := Lib.hid (show r = decide ((p - x.l) * x.a * (p + y.l) > (p - y.l) * y.a * (p + x.l)) by rw [Bool.eq_iff_iff, hr]; simp)
  have w4 : IntKind.i64.wrap ((p - x.l) * x.a * (p + y.l)) = (p - x.l) * x.a * (p + y.l) := IntWalk.i64_in _ (by omega)
  have w8 : IntKind.i64.wrap ((p - y.l) * y.a * (p + x.l)) = (p - y.l) * y.a * (p + x.l) := IntWalk.i64_in _ (by omega)
  obtain ⟨n1, n2, bb⟩ := Rw.two_new w 56 56 #[.int .i64 x.l, .int .i64 x.a, .bool x.u] #[.int .i64 y.l, .int .i64 y.a, .bool y.u]
  have hgl := hg.lt
  obtain ⟨m1, hm1⟩ : ∃ m, m = w.heap.size := ⟨_, rfl⟩
  obtain ⟨m2, hm2⟩ : ∃ m, m = w.heap.size + 1 := ⟨_, rfl⟩
  rw [← hm2] at n2
  rw [← hm1] at n1
  obtain ⟨C, hC⟩ : ∃ C : World → Prop, C = fun W => Rw W m1 56 #[.int .i64 x.l, .int .i64 x.a, .bool x.u] ∧ Rw W m2 56 #[.int .i64 y.l, .int .i64 y.a, .bool y.u] ∧ Below w.heap.size w W := ⟨_, rfl⟩
  have HC1 := Lib.hid (fun (W : World) (h : C W) => show (W.cell? ⟨m1, 0, none⟩ = some (.int .i64 x.l) ∧ W.cell? ⟨m1, 1, none⟩ = some (.int .i64 x.a) ∧ W.cell? ⟨m1, 2, none⟩ = some (.bool x.u)) ∧ (W.cell? ⟨m2, 0, none⟩ = some (.int .i64 y.l) ∧ W.cell? ⟨m2, 1, none⟩ = some (.int .i64 y.a) ∧ W.cell? ⟨m2, 2, none⟩ = some (.bool y.u)) ∧ W.cell? ⟨g, 0, none⟩ = some (.int .i64 p) by
    rw [hC] at h; exact ⟨h.1.three, h.2.1.three, (hg.below h.2.2 hgl).cell 0⟩)
  have HC2 := Lib.hid (fun (W : World) (h : C W) => show Below w.heap.size w W by rw [hC] at h; exact h.2.2)
  have HC3 := Lib.hid (fun (W W' : World) (h : C W) (b : Below W.heap.size W W') => show C W' by rw [hC] at h ⊢; exact ⟨h.1.below b h.1.lt, h.2.1.below b h.2.1.lt, h.2.2.trans (b.mono h.2.2.size)⟩)
  have hc0 : C ((w.alloc (.cells #[.int .i64 x.l, .int .i64 x.a, .bool x.u] 56)).alloc (.cells #[.int .i64 y.l, .int .i64 y.a, .bool y.u] 56)).drew := by rw [hC]; exact ⟨n1, n2, bb.drew⟩
  have HCC := Lib.hid (fun (W : World) (h : C W) => show W.cell? ⟨m1, 0, none⟩ = some (.int .i64 x.l) ∧ W.cell? ⟨m1, 1, none⟩ = some (.int .i64 x.a) ∧ W.cell? ⟨m1, 2, none⟩ = some (.bool x.u) ∧ W.cell? ⟨m2, 0, none⟩ = some (.int .i64 y.l) ∧ W.cell? ⟨m2, 1, none⟩ = some (.int .i64 y.a) ∧ W.cell? ⟨m2, 2, none⟩ = some (.bool y.u) ∧ W.cell? ⟨g, 0, none⟩ = some (.int .i64 p) from ⟨(HC1.out W h).1.1, (HC1.out W h).1.2.1, (HC1.out W h).1.2.2, (HC1.out W h).2.1.1, (HC1.out W h).2.1.2.1, (HC1.out W h).2.1.2.2, (HC1.out W h).2.2⟩)
  clear hC hxy hyx hx hy hg hr n1 n2 bb HC1
  generalize hbx : (p - x.l) * x.a = bx at *
  generalize hby : (p - y.l) * y.a = byy at *
  generalize hcx : p + x.l = cx at *
  generalize hcy : p + y.l = cy at *
  clear hbx hby hcx hcy
  generalize x.l = xl at *
  generalize x.a = xa at *
  generalize x.u = xu at *
  generalize y.l = yl at *
  generalize y.a = ya at *
  generalize y.u = yu at *
  go_enter Try.func139, Try.ntmps139
  go_wp2_with fail
  rw [← hm2, ← hm1]
  clear hm1 hm2
  refine wp_region_own (by kernel_rfl) (by kernel_rfl) hc0 ?_
  repeat (first
    | go_big_quiet_skip
    | (go_big_quiet_want
       go_big_quiet_op
       first
         | go_big_quiet_on
         | (apply Exists.intro
            refine ⟨fun W hW => ?_, ?_⟩
            · (first
                | rfl
                | (go_at_call 140
                   with_reducible refine (HBX.out _).mono ?_
                   rintro e w1 ⟨rfl, b⟩
                   exact ⟨rfl, HC3.out _ _ hW b⟩)
                | (go_at_call 140
                   with_reducible refine (HBY.out _).mono ?_
                   rintro e w1 ⟨rfl, b⟩
                   exact ⟨rfl, HC3.out _ _ hW b⟩)
                | (go_at_call 141
                   with_reducible refine (HCX.out _).mono ?_
                   rintro e w1 ⟨rfl, b⟩
                   exact ⟨rfl, HC3.out _ _ hW b⟩)
                | (go_at_call 141
                   with_reducible refine (HCY.out _).mono ?_
                   rintro e w1 ⟨rfl, b⟩
                   exact ⟨rfl, HC3.out _ _ hW b⟩)
                | (obtain ⟨k0, k1, k2, k3, k4, k5, k6⟩ := (HCC.out _ hW)
                   simp only [k0, k1, k2, k3, k4, k5, k6, Result.andThen]
                   exact ⟨trivial, rfl⟩))
            go_big_quiet_on)))
  refine wpQuiet_nil ?_
  intro w1 hw1
  have HB1 := Lib.hid (HC2.out _ hw1)
  clear hw1 hc0
  go_wp2
  go_ret
  exact ⟨ret_bool (by rw [HR.out]), HB1.out⟩
end Go.Proofs.Ytgkanacaijlljab
