/- The row holds: the call answers true whatever its arguments are, and they read behind it as before. -/
import Derived.Test.YtajnglhkdglglaaGreatDoorRunWatchesMath15
import Derived.Test.YtajnglhkdglglaaGreatDoorRunWatchesFacts
import Derived.Test.YtajnglhkdglglaaGreatDoorRows
import Derived.WalkKit
import Derived.ProofKit
import Derived.OpenShut
import Derived.LaidMore
import Derived.Stop.Joined
import Derived.Lib.SmallJoins
import Derived.Test.YtajnglhkdglglaaGreatDoorEvL21
namespace Go.Proofs.YtajnglhkdglglaaGreatDoor.runWatches
open Go.ChangeShapes Go.WideShapes Go.ChangeAt Go.RowKit Go.Joins Go.Ev Go.Ev.RunWatches
set_option linter.unusedVariables false
theorem own : ownKnob Tryz.prog.godebug = none := by kernel_rfl
theorem mixed : Tryz.prog.follows .mixedOrders = true := by kernel_rfl
theorem kids : Kids Tryz.prog (· < Tryz.prog.types.size) := kids_rows (by kernel_rfl) (by kernel_rfl)
theorem full : ∀ t e, t < Tryz.prog.types.size → Tryz.prog.underlying t = some (.slice e) → 0 < Tryz.prog.cellsOf e := slices_full_of Tryz.prog (by kernel_rfl)
theorem within : ∀ t ∈ Tryz.f7.params.toList, t < Tryz.prog.types.size := by
 have h : (Tryz.f7.params.toList.all fun t => decide (t < Tryz.prog.types.size)) = true := by kernel_rfl
 intro t ht
 exact of_decide_eq_true (List.all_eq_true.1 h t ht)
theorem door_met (os : Os) (args : Array Value) : laidMetH Tryz.prog Rows.runWatchesRow.laid ((World.doorLaid Tryz.prog 400 os).forCall (fun _ _ => 0) ⟨#[], args, []⟩).memory :=
 laidMetH_of_parts3 (fuel := 8) (laidMet_of_run' 8 (by kernel_rfl) (by kernel_rfl)) (by kernel_rfl) (by kernel_rfl)
set_option maxRecDepth 100000 in
theorem fix_ok {W : World} (h : laidMetH Tryz.prog Rows.runWatchesRow.laid W) : FixOK W Go.Proofs.YtajnglhkdglglaaGreatDoor.works.fixes := by
 rw [MakeChecks.laidMetH_plain _ _ _ (by kernel_rfl)] at h
 intro x hx
 simp only [Go.Proofs.YtajnglhkdglglaaGreatDoor.works.fixes, List.mem_cons, List.not_mem_nil, or_false] at hx
 rcases hx with rfl | rfl | rfl | rfl
 ·exact Vf h (name := "math/bits.deBruijn32tab") (k := .u8) (zs := [0, 1, 28, 2, 29, 14, 24, 3, 30, 22, 20, 15, 25, 17, 4, 8, 31, 27, 13, 23, 21, 19, 16, 7, 26, 12, 18, 6, 11, 5, 10, 9]) (g := 5) (t := 385) (e := 5) (n := 32) (by unfold Rows.runWatchesRow; exact .head _) (by kernel_rfl) (by kernel_rfl) (by kernel_rfl) (by kernel_rfl) (by kernel_rfl) (by kernel_rfl) (by simp)
 ·exact Vf h (name := "math/bits.deBruijn64tab") (k := .u8) (zs := [0, 1, 56, 2, 57, 49, 28, 3, 61, 58, 42, 50, 38, 29, 17, 4, 62, 47, 59, 36, 45, 43, 51, 22, 53, 39, 33, 30, 24, 18, 12, 5, 63, 55, 48, 27, 60, 41, 37, 16, 46, 35, 44, 21, 52, 32, 23, 11, 54, 26, 40, 15, 34, 20, 31, 10, 25, 14, 19, 9, 13, 8, 7, 6]) (g := 6) (t := 386) (e := 5) (n := 64) (by unfold Rows.runWatchesRow; exact .tail _ (.head _)) (by kernel_rfl) (by kernel_rfl) (by kernel_rfl) (by kernel_rfl) (by kernel_rfl) (by kernel_rfl) (by simp)
 ·exact Vf h (name := "internal/strconv.uint64pow10") (k := .u64) (zs := [1, 10, 100, 1000, 10000, 100000, 1000000, 10000000, 100000000, 1000000000, 10000000000, 100000000000, 1000000000000, 10000000000000, 100000000000000, 1000000000000000, 10000000000000000, 100000000000000000, 1000000000000000000, 10000000000000000000]) (g := 3) (t := 380) (e := 197) (n := 20) (by unfold Rows.runWatchesRow; exact .tail _ (.tail _ (.head _))) (by kernel_rfl) (by kernel_rfl) (by kernel_rfl) (by kernel_rfl) (by kernel_rfl) (by kernel_rfl) (by simp)
 ·exact Vf h (name := "ringdown/bank.quarter") (k := .i64) (zs := [0, 12, 25, 37, 49, 60, 71, 81, 90, 98, 106, 112, 117, 122, 125, 126, 127]) (g := 0) (t := 317) (e := 3) (n := 17) (by unfold Rows.runWatchesRow; exact .tail _ (.tail _ (.tail _ (.head _)))) (by kernel_rfl) (by kernel_rfl) (by kernel_rfl) (by kernel_rfl) (by kernel_rfl) (by kernel_rfl) (by simp)
theorem cells38 : Tryz.prog.cellsOf 38 = 6 := by kernel_rfl
theorem arr6 {α : Type} {cs : Array α} (h : cs.size = 6) : ∃ c0 c1 c2 c3 c4 c5, cs = #[c0, c1, c2, c3, c4, c5] := by
 obtain ⟨l⟩ := cs
 match l, h with
 | [c0, c1, c2, c3, c4, c5], _ => exact ⟨c0, c1, c2, c3, c4, c5, rfl⟩
theorem types38 : Tryz.prog.cellTypes Tryz.prog.depth 38 = some [32, 33, 34, 34, 24, 24] := by kernel_rfl
theorem Zs {α β : Type} {W : World} {z1 z2 K1 K2 : Nat} {R1 : Rd → List SV → α → Prop} {R2 : Rd → List SV → β → Prop} {Q1 : α → Prop} {Q2 : β → Prop} {cs1 cs2 : List Value} {a : α} {b : β} {r1 r2 : Nat → List Yz} {s1 s2 : Nat → List SV}
  (h1 : ElemN W z1 R1 Q1 cs1 a K1 r1 s1) (h2 : ElemN W z2 R2 Q2 cs2 b K2 r2 s2) :
  ElemN W (z1 + z2) (fun f cs (p : α × β) => ∃ x y, cs = x ++ y ∧ R1 f x p.1 ∧ R2 f y p.2) (fun p => Q1 p.1 ∧ Q2 p.2) (cs1 ++ cs2) (a, b) (K1 + K2) (fun j => r1 j ++ r2 (j + K1)) (fun j => s1 j ++ s2 (j + K1)) :=
 ElemN.app h1 h2 (fun _ x y _ hx hy => ⟨x, y, rfl, hx, hy⟩) (fun hx hy => ⟨hx, hy⟩)
theorem Vh {α β : Type} {W : World} {z K : Nat} {R : Rd → List SV → α → Prop} {Q : α → Prop} {cs : List Value} {a : α} {r : Nat → List Yz} {s : Nat → List SV} (h : ElemN W z R Q cs a K r s) {R' : Rd → List SV → β → Prop} {Q' : β → Prop} {b : β}
  (hR : ∀ f x, R f x a → R' f x b) (hQ : Q a → Q' b) : ElemN W z R' Q' cs b K r s :=
 ⟨h.cnt, h.row, h.val, fun f j hf => hR _ _ (h.rep f j hf), h.len, hQ h.ok⟩
theorem list6 {α : Type} : ∀ {l : List α}, l.length = 6 → ∃ a0 a1 a2 a3 a4 a5, l = [a0, a1, a2, a3, a4, a5]
 | [a0, a1, a2, a3, a4, a5], _ => ⟨a0, a1, a2, a3, a4, a5, rfl⟩
def rep38 (f : Rd) (cs : List SV) (a : Th) : Prop := ∃ q1 q2 q3 q4 q5 q6, cs = [q1, q2, q3, q4, q5, q6] ∧ Slc f 3 (Ta Q9) q1 a.Duties ∧ Slc f 2 (Ta Tg) q2 a.Work ∧ Slc f 2 (Tf f) q3 a.Vetoes.e0 ∧ Slc f 2 (Tf f) q4 a.Vetoes.e1 ∧ Slc f 1 (Ta Qd) q5 a.Data.e0 ∧ Slc f 1 (Ta Qd) q6 a.Data.e1
def qq127 (a : T2) : Prop := a.Segments.length ≤ maxLen
def qq35 (a : Tx) : Prop := (a.e0.length ≤ maxLen ∧ ∀ x ∈ a.e0, qq127 x) ∧ (a.e1.length ≤ maxLen ∧ ∀ x ∈ a.e1, qq127 x)
def qq36 (a : Qn) : Prop := a.e0.length ≤ maxLen ∧ a.e1.length ≤ maxLen
def qq38 (a : Th) : Prop := a.Duties.length ≤ maxLen ∧ a.Work.length ≤ maxLen ∧ qq35 a.Vetoes ∧ qq36 a.Data
theorem cells43 : Tryz.prog.cellsOf 43 = 3 := by kernel_rfl
def enc9 (a : (List UInt8)) : List SV := [(.str a)]
theorem cells9 : Tryz.prog.cellsOf 9 = 1 := by kernel_rfl
theorem read9 {H : Type} {enc : TypeId × Value → H} {W : World} {u9 : Bool} (n : Nat) (cs : List Value) (x : DataW H × List MemPlace) (h : DataW.trod enc Tryz.prog W 0 (fun _ => true) u9 n 9 cs = some x) : ∃ a : (List UInt8), ∀ m, concs m (enc9 a) = some cs := by
 obtain ⟨a, rfl, _, _⟩ := DataW.trod_string Tryz.underlying9 h
 refine ⟨a.data.toList, fun m => ?_⟩
 show concs m [.str a.data.toList] = _
 simp only [concs, conc, string_self]
 rfl
theorem V3 : Tryz.prog.cellsOf 3 = 1 := by kernel_rfl
theorem W7 {H : Type} {enc : TypeId × Value → H} {W : World} {u9 : Bool} (n : Nat) (cs : List Value) (x : DataW H × List MemPlace) (h : DataW.trod enc Tryz.prog W 0 (fun _ => true) u9 n 3 cs = some x) : ∃ a : Int, ∀ m, concs m (Qd a) = some cs := by
 obtain ⟨a, rfl, _, _⟩ := DataW.trod_int Tryz.underlying3 h
 exact ⟨a, fun m => rfl⟩
theorem list3 {α : Type} : ∀ {l : List α}, l.length = 3 → ∃ a0 a1 a2, l = [a0, a1, a2]
 | [a0, a1, a2], _ => ⟨a0, a1, a2, rfl⟩
theorem read43 {H : Type} {enc : TypeId × Value → H} {W : World} {u9 : Bool} (n : Nat) (cs : List Value) (x : DataW H × List MemPlace) (h : DataW.trod enc Tryz.prog W 0 (fun _ => true) u9 n 43 cs = some x) : ∃ a : T1, ∀ m, concs m (Q9 a) = some cs := by
 have hlen : cs.length = 3 := (DataW.trod_struct Tryz.underlying43 h).elim fun _ h1 => h1.elim fun _ h2 => h2.2.2.1.trans cells43
 obtain ⟨c0, c1, c2, rfl⟩ := list3 hlen
 obtain ⟨xs, m, _, hx, _, hl, hf⟩ := DataW.trod_struct Tryz.underlying43 h
 obtain ⟨x_0, x_1, x_2, rfl⟩ := list3 hl
 have g_0 := hf 0 (⟨ "Who", 9, 0, false, "", "", 0⟩) rfl
 simp only [cells9] at g_0
 have g_1 := hf 1 (⟨ "From", 3, 1, false, "", "", 16⟩) rfl
 simp only [V3] at g_1
 have g_2 := hf 2 (⟨ "To", 3, 2, false, "", "", 24⟩) rfl
 simp only [V3] at g_2
 have q_0 : DataW.trod enc Tryz.prog W 0 (fun _ => true) u9 m 9 [c0] = some x_0 := g_0
 have q_1 : DataW.trod enc Tryz.prog W 0 (fun _ => true) u9 m 3 [c1] = some x_1 := g_1
 have q_2 : DataW.trod enc Tryz.prog W 0 (fun _ => true) u9 m 3 [c2] = some x_2 := g_2
 obtain ⟨a_0, ha_0⟩ := read9 _ _ _ q_0
 obtain ⟨a_1, ha_1⟩ := W7 _ _ _ q_1
 obtain ⟨a_2, ha_2⟩ := W7 _ _ _ q_2
 exact ⟨⟨a_0, a_1, a_2⟩, fun m => Q4 (ha_0 m) (Q4 (ha_1 m) (ha_2 m))⟩
theorem Vz : Tryz.prog.cellsOf 106 = 2 := by kernel_rfl
theorem list2 {α : Type} : ∀ {l : List α}, l.length = 2 → ∃ a0 a1, l = [a0, a1]
 | [a0, a1], _ => ⟨a0, a1, rfl⟩
theorem read106 {H : Type} {enc : TypeId × Value → H} {W : World} {u9 : Bool} (n : Nat) (cs : List Value) (x : DataW H × List MemPlace) (h : DataW.trod enc Tryz.prog W 0 (fun _ => true) u9 n 106 cs = some x) : ∃ a : T0, ∀ m, concs m (Tg a) = some cs := by
 have hlen : cs.length = 2 := (DataW.trod_struct Tryz.underlying106 h).elim fun _ h1 => h1.elim fun _ h2 => h2.2.2.1.trans Vz
 obtain ⟨c0, c1, rfl⟩ := list2 hlen
 obtain ⟨xs, m, _, hx, _, hl, hf⟩ := DataW.trod_struct Tryz.underlying106 h
 obtain ⟨x_0, x_1, rfl⟩ := list2 hl
 have g_0 := hf 0 (⟨ "From", 3, 0, false, "", "", 0⟩) rfl
 simp only [V3] at g_0
 have g_1 := hf 1 (⟨ "To", 3, 1, false, "", "", 8⟩) rfl
 simp only [V3] at g_1
 have q_0 : DataW.trod enc Tryz.prog W 0 (fun _ => true) u9 m 3 [c0] = some x_0 := g_0
 have q_1 : DataW.trod enc Tryz.prog W 0 (fun _ => true) u9 m 3 [c1] = some x_1 := g_1
 obtain ⟨a_0, ha_0⟩ := W7 _ _ _ q_0
 obtain ⟨a_1, ha_1⟩ := W7 _ _ _ q_1
 exact ⟨⟨a_0, a_1⟩, fun m => Q4 (ha_0 m) (ha_1 m)⟩
theorem cells35 : Tryz.prog.cellsOf 35 = 2 := by kernel_rfl
def rep35 (f : Rd) (cs : List SV) (a : Tx) : Prop := ∃ q1 q2, cs = [q1, q2] ∧ Slc f 2 (Tf f) q1 a.e0 ∧ Slc f 2 (Tf f) q2 a.e1
theorem Wc : Tryz.prog.cellsOf 127 = 2 := by kernel_rfl
theorem cells33 : Tryz.prog.cellsOf 33 = 1 := by kernel_rfl
theorem gread127 {H : Type} {enc : TypeId × Value → H} {W : World} {u9 : Bool} (n : Nat) (cs : List Value) (x : DataW H × List MemPlace) (h : DataW.trod enc Tryz.prog W 0 (fun _ => true) u9 n 127 cs = some x) : ∃ (a : T2) (K : Nat) (rows : Nat → List Yz) (s : Nat → List SV), ElemN W 2 Tf qq127 cs a K rows s := by
 have hlen : cs.length = 2 := (DataW.trod_struct Tryz.underlying127 h).elim fun _ h1 => h1.elim fun _ h2 => h2.2.2.1.trans Wc
 obtain ⟨c0, c1, rfl⟩ := list2 hlen
 obtain ⟨xs, m, _, hx, _, hl, hf⟩ := DataW.trod_struct Tryz.underlying127 h
 obtain ⟨x_0, x_1, rfl⟩ := list2 hl
 have g_0 := hf 0 (⟨ "Name", 9, 0, false, "", "", 0⟩) rfl
 simp only [cells9] at g_0
 have g_1 := hf 1 (⟨ "Segments", 33, 1, false, "", "", 16⟩) rfl
 simp only [cells33] at g_1
 have q_0 : DataW.trod enc Tryz.prog W 0 (fun _ => true) u9 m 9 [c0] = some x_0 := g_0
 have q_1 : DataW.trod enc Tryz.prog W 0 (fun _ => true) u9 m 33 [c1] = some x_1 := g_1
 obtain ⟨b0, hb0⟩ := read9 _ _ _ q_0
 have e0 := ElemN.flat (W := W) (z := 1) (enc := enc9) (fun _ => rfl) hb0
 obtain ⟨b1, K1, R1, S1, n1⟩ := X6 (R := fun _ => Ta Tg) (Q := fun _ => True) (z := 2) (by omega) Vz ⟨(T0.mk (0 : Int) (0 : Int))⟩ Tryz.underlying33 q_1 (fun n cs x h => by obtain ⟨a, ha⟩ := read106 n cs x h; exact ⟨a, _, _, _, ElemN.flat (enc := Tg) (fun _ => rfl) ha⟩)
 have e1 := ElemN.slice (R' := fun f cs a => ∃ q1, cs = [q1] ∧ Slc f 2 (Ta Tg) q1 a) n1 (fun f j h => ⟨_, rfl, h⟩)
 have p1 := e1
 have p0 := Zs e0 p1
 refine ⟨⟨b0, b1⟩, _, _, _, Vh p0 (R' := Tf) (Q' := qq127) (b := ⟨b0, b1⟩) (fun f x h => ?_) (fun h => ?_)⟩
 ·obtain ⟨x0, x1, rfl, h0, h1⟩ := h
  have h0' : x0 = enc9 b0 := h0
  subst h0'
  obtain ⟨q1_0, rfl, g1_0⟩ := h1
  exact ⟨q1_0, rfl, g1_0⟩
 ·obtain ⟨w0, w1⟩ := h
  exact w1.1
theorem cells34 : Tryz.prog.cellsOf 34 = 1 := by kernel_rfl
theorem gread35 {H : Type} {enc : TypeId × Value → H} {W : World} {u9 : Bool} (n : Nat) (cs : List Value) (x : DataW H × List MemPlace) (h : DataW.trod enc Tryz.prog W 0 (fun _ => true) u9 n 35 cs = some x) : ∃ (a : Tx) (K : Nat) (rows : Nat → List Yz) (s : Nat → List SV), ElemN W 2 rep35 qq35 cs a K rows s := by
 have hlen : cs.length = 2 := (DataW.trod_array Tryz.underlying35 h).elim fun _ h1 => h1.elim fun _ h2 => h2.2.2.1.trans cells35
 obtain ⟨c0, c1, rfl⟩ := list2 hlen
 obtain ⟨xs, m, _, hx, _, hl, hf⟩ := DataW.trod_array Tryz.underlying35 h
 obtain ⟨x_0, x_1, rfl⟩ := list2 hl
 have g_0 := hf 0 (by omega)
 have g_1 := hf 1 (by omega)
 simp only [cells34] at g_0 g_1
 have q_0 : DataW.trod enc Tryz.prog W 0 (fun _ => true) u9 m 34 [c0] = some x_0 := g_0
 have q_1 : DataW.trod enc Tryz.prog W 0 (fun _ => true) u9 m 34 [c1] = some x_1 := g_1
 obtain ⟨b0, K0, R0, S0, n0⟩ := X6 (R := Tf) (Q := qq127) (z := 2) (by omega) Wc ⟨(T2.mk [] [])⟩ Tryz.underlying34 q_0 gread127
 have e0 := ElemN.slice (R' := fun f cs a => ∃ q1, cs = [q1] ∧ Slc f 2 (Tf f) q1 a) n0 (fun f j h => ⟨_, rfl, h⟩)
 obtain ⟨b1, K1, R1, S1, n1⟩ := X6 (R := Tf) (Q := qq127) (z := 2) (by omega) Wc ⟨(T2.mk [] [])⟩ Tryz.underlying34 q_1 gread127
 have e1 := ElemN.slice (R' := fun f cs a => ∃ q1, cs = [q1] ∧ Slc f 2 (Tf f) q1 a) n1 (fun f j h => ⟨_, rfl, h⟩)
 have p1 := e1
 have p0 := Zs e0 p1
 refine ⟨⟨b0, b1⟩, _, _, _, Vh p0 (R' := rep35) (Q' := qq35) (b := ⟨b0, b1⟩) (fun f x h => ?_) (fun h => ?_)⟩
 ·obtain ⟨x0, x1, rfl, h0, h1⟩ := h
  obtain ⟨q0_0, rfl, g0_0⟩ := h0
  obtain ⟨q1_0, rfl, g1_0⟩ := h1
  exact ⟨q0_0, q1_0, rfl, g0_0, g1_0⟩
 ·obtain ⟨w0, w1⟩ := h
  exact ⟨w0, w1⟩
theorem cells36 : Tryz.prog.cellsOf 36 = 2 := by kernel_rfl
def rep36 (f : Rd) (cs : List SV) (a : Qn) : Prop := ∃ q1 q2, cs = [q1, q2] ∧ Slc f 1 (Ta Qd) q1 a.e0 ∧ Slc f 1 (Ta Qd) q2 a.e1
theorem cells24 : Tryz.prog.cellsOf 24 = 1 := by kernel_rfl
theorem gread36 {H : Type} {enc : TypeId × Value → H} {W : World} {u9 : Bool} (n : Nat) (cs : List Value) (x : DataW H × List MemPlace) (h : DataW.trod enc Tryz.prog W 0 (fun _ => true) u9 n 36 cs = some x) : ∃ (a : Qn) (K : Nat) (rows : Nat → List Yz) (s : Nat → List SV), ElemN W 2 rep36 qq36 cs a K rows s := by
 have hlen : cs.length = 2 := (DataW.trod_array Tryz.underlying36 h).elim fun _ h1 => h1.elim fun _ h2 => h2.2.2.1.trans cells36
 obtain ⟨c0, c1, rfl⟩ := list2 hlen
 obtain ⟨xs, m, _, hx, _, hl, hf⟩ := DataW.trod_array Tryz.underlying36 h
 obtain ⟨x_0, x_1, rfl⟩ := list2 hl
 have g_0 := hf 0 (by omega)
 have g_1 := hf 1 (by omega)
 simp only [cells24] at g_0 g_1
 have q_0 : DataW.trod enc Tryz.prog W 0 (fun _ => true) u9 m 24 [c0] = some x_0 := g_0
 have q_1 : DataW.trod enc Tryz.prog W 0 (fun _ => true) u9 m 24 [c1] = some x_1 := g_1
 obtain ⟨b0, K0, R0, S0, n0⟩ := X6 (R := fun _ => Ta Qd) (Q := fun _ => True) (z := 1) (by omega) V3 ⟨(0 : Int)⟩ Tryz.underlying24 q_0 (fun n cs x h => by obtain ⟨a, ha⟩ := W7 n cs x h; exact ⟨a, _, _, _, ElemN.flat (enc := Qd) (fun _ => rfl) ha⟩)
 have e0 := ElemN.slice (R' := fun f cs a => ∃ q1, cs = [q1] ∧ Slc f 1 (Ta Qd) q1 a) n0 (fun f j h => ⟨_, rfl, h⟩)
 obtain ⟨b1, K1, R1, S1, n1⟩ := X6 (R := fun _ => Ta Qd) (Q := fun _ => True) (z := 1) (by omega) V3 ⟨(0 : Int)⟩ Tryz.underlying24 q_1 (fun n cs x h => by obtain ⟨a, ha⟩ := W7 n cs x h; exact ⟨a, _, _, _, ElemN.flat (enc := Qd) (fun _ => rfl) ha⟩)
 have e1 := ElemN.slice (R' := fun f cs a => ∃ q1, cs = [q1] ∧ Slc f 1 (Ta Qd) q1 a) n1 (fun f j h => ⟨_, rfl, h⟩)
 have p1 := e1
 have p0 := Zs e0 p1
 refine ⟨⟨b0, b1⟩, _, _, _, Vh p0 (R' := rep36) (Q' := qq36) (b := ⟨b0, b1⟩) (fun f x h => ?_) (fun h => ?_)⟩
 ·obtain ⟨x0, x1, rfl, h0, h1⟩ := h
  obtain ⟨q0_0, rfl, g0_0⟩ := h0
  obtain ⟨q1_0, rfl, g1_0⟩ := h1
  exact ⟨q0_0, q1_0, rfl, g0_0, g1_0⟩
 ·obtain ⟨w0, w1⟩ := h
  exact ⟨w0.1, w1.1⟩
theorem list4 {α : Type} : ∀ {l : List α}, l.length = 4 → ∃ a0 a1 a2 a3, l = [a0, a1, a2, a3]
 | [a0, a1, a2, a3], _ => ⟨a0, a1, a2, a3, rfl⟩
theorem cells32 : Tryz.prog.cellsOf 32 = 1 := by kernel_rfl
theorem gread38 {H : Type} {enc : TypeId × Value → H} {W : World} {u9 : Bool} (n : Nat) (cs : List Value) (x : DataW H × List MemPlace) (h : DataW.trod enc Tryz.prog W 0 (fun _ => true) u9 n 38 cs = some x) : ∃ (a : Th) (K : Nat) (rows : Nat → List Yz) (s : Nat → List SV), ElemN W 6 rep38 qq38 cs a K rows s := by
 have hlen : cs.length = 6 := (DataW.trod_struct Tryz.underlying38 h).elim fun _ h1 => h1.elim fun _ h2 => h2.2.2.1.trans cells38
 obtain ⟨c0, c1, c2, c3, c4, c5, rfl⟩ := list6 hlen
 obtain ⟨xs, m, _, hx, _, hl, hf⟩ := DataW.trod_struct Tryz.underlying38 h
 obtain ⟨x_0, x_1, x_2, x_3, rfl⟩ := list4 hl
 have g_0 := hf 0 (⟨ "Duties", 32, 0, false, "", "", 0⟩) rfl
 simp only [cells32] at g_0
 have g_1 := hf 1 (⟨ "Work", 33, 1, false, "", "", 24⟩) rfl
 simp only [cells33] at g_1
 have g_2 := hf 2 (⟨ "Vetoes", 35, 2, false, "", "", 48⟩) rfl
 simp only [cells35] at g_2
 have g_3 := hf 3 (⟨ "Data", 36, 4, false, "", "", 96⟩) rfl
 simp only [cells36] at g_3
 have q_0 : DataW.trod enc Tryz.prog W 0 (fun _ => true) u9 m 32 [c0] = some x_0 := g_0
 have q_1 : DataW.trod enc Tryz.prog W 0 (fun _ => true) u9 m 33 [c1] = some x_1 := g_1
 have q_2 : DataW.trod enc Tryz.prog W 0 (fun _ => true) u9 m 35 [c2, c3] = some x_2 := g_2
 have q_3 : DataW.trod enc Tryz.prog W 0 (fun _ => true) u9 m 36 [c4, c5] = some x_3 := g_3
 obtain ⟨b0, K0, R0, S0, n0⟩ := X6 (R := fun _ => Ta Q9) (Q := fun _ => True) (z := 3) (by omega) cells43 ⟨(T1.mk [] (0 : Int) (0 : Int))⟩ Tryz.underlying32 q_0 (fun n cs x h => by obtain ⟨a, ha⟩ := read43 n cs x h; exact ⟨a, _, _, _, ElemN.flat (enc := Q9) (fun _ => rfl) ha⟩)
 have e0 := ElemN.slice (R' := fun f cs a => ∃ q1, cs = [q1] ∧ Slc f 3 (Ta Q9) q1 a) n0 (fun f j h => ⟨_, rfl, h⟩)
 obtain ⟨b1, K1, R1, S1, n1⟩ := X6 (R := fun _ => Ta Tg) (Q := fun _ => True) (z := 2) (by omega) Vz ⟨(T0.mk (0 : Int) (0 : Int))⟩ Tryz.underlying33 q_1 (fun n cs x h => by obtain ⟨a, ha⟩ := read106 n cs x h; exact ⟨a, _, _, _, ElemN.flat (enc := Tg) (fun _ => rfl) ha⟩)
 have e1 := ElemN.slice (R' := fun f cs a => ∃ q1, cs = [q1] ∧ Slc f 2 (Ta Tg) q1 a) n1 (fun f j h => ⟨_, rfl, h⟩)
 obtain ⟨b2, K2, R2, S2, e2⟩ := gread35 _ _ _ q_2
 obtain ⟨b3, K3, R3, S3, e3⟩ := gread36 _ _ _ q_3
 have p3 := e3
 have p2 := Zs e2 p3
 have p1 := Zs e1 p2
 have p0 := Zs e0 p1
 refine ⟨⟨b0, b1, b2, b3⟩, _, _, _, Vh p0 (R' := rep38) (Q' := qq38) (b := ⟨b0, b1, b2, b3⟩) (fun f x h => ?_) (fun h => ?_)⟩
 ·obtain ⟨x0, y0, rfl, h0, x1, y1, rfl, h1, x2, x3, rfl, h2, h3⟩ := h
  obtain ⟨q0_0, rfl, g0_0⟩ := h0
  obtain ⟨q1_0, rfl, g1_0⟩ := h1
  obtain ⟨q2_0, q2_1, rfl, g2_0, g2_1⟩ := h2
  obtain ⟨q3_0, q3_1, rfl, g3_0, g3_1⟩ := h3
  exact ⟨q0_0, q1_0, q2_0, q2_1, q3_0, q3_1, rfl, g0_0, g1_0, g2_0, g2_1, g3_0, g3_1⟩
 ·obtain ⟨w0, w1, w2, w3⟩ := h
  exact ⟨w0.1, w1.1, w2, w3⟩
theorem cells46 : Tryz.prog.cellsOf 46 = 3 := by kernel_rfl
theorem arr3 {α : Type} {cs : Array α} (h : cs.size = 3) : ∃ c0 c1 c2, cs = #[c0, c1, c2] := by
 obtain ⟨l⟩ := cs
 match l, h with
 | [c0, c1, c2], _ => exact ⟨c0, c1, c2, rfl⟩
theorem types46 : Tryz.prog.cellTypes Tryz.prog.depth 46 = some [3, 3, 3] := by kernel_rfl
def enc46 (a : Qp) : List SV := [(.int .i64 a.Time), (.int .i64 a.Detector), (.int .i64 a.Length)]
theorem read46 {H : Type} {enc : TypeId × Value → H} {W : World} {u9 : Bool} (n : Nat) (cs : List Value) (x : DataW H × List MemPlace) (h : DataW.trod enc Tryz.prog W 0 (fun _ => true) u9 n 46 cs = some x) : ∃ a : Qp, ∀ m, concs m (enc46 a) = some cs := by
 have hlen : cs.length = 3 := (DataW.trod_struct Tryz.underlying46 h).elim fun _ h1 => h1.elim fun _ h2 => h2.2.2.1.trans cells46
 obtain ⟨c0, c1, c2, rfl⟩ := list3 hlen
 obtain ⟨xs, m, _, hx, _, hl, hf⟩ := DataW.trod_struct Tryz.underlying46 h
 obtain ⟨x_0, x_1, x_2, rfl⟩ := list3 hl
 have g_0 := hf 0 (⟨ "Time", 3, 0, false, "", "", 0⟩) rfl
 simp only [V3] at g_0
 have g_1 := hf 1 (⟨ "Detector", 3, 1, false, "", "", 8⟩) rfl
 simp only [V3] at g_1
 have g_2 := hf 2 (⟨ "Length", 3, 2, false, "", "", 16⟩) rfl
 simp only [V3] at g_2
 have q_0 : DataW.trod enc Tryz.prog W 0 (fun _ => true) u9 m 3 [c0] = some x_0 := g_0
 have q_1 : DataW.trod enc Tryz.prog W 0 (fun _ => true) u9 m 3 [c1] = some x_1 := g_1
 have q_2 : DataW.trod enc Tryz.prog W 0 (fun _ => true) u9 m 3 [c2] = some x_2 := g_2
 obtain ⟨a_0, ha_0⟩ := W7 _ _ _ q_0
 obtain ⟨a_1, ha_1⟩ := W7 _ _ _ q_1
 obtain ⟨a_2, ha_2⟩ := W7 _ _ _ q_2
 exact ⟨⟨a_0, a_1, a_2⟩, fun m => Q4 (ha_0 m) (Q4 (ha_1 m) (ha_2 m))⟩
noncomputable def Vl  (R0 : Nat → List Yz) : List Yz := [some (true, ⟨0, 0, 17⟩, Qo .i64 [0, 12, 25, 37, 49, 60, 71, 81, 90, 98, 106, 112, 117, 122, 125, 126, 127]), none, none, some (true, ⟨3, 0, 20⟩, Qo .u64 [1, 10, 100, 1000, 10000, 100000, 1000000, 10000000, 100000000, 1000000000, 10000000000, 100000000000, 1000000000000, 10000000000000, 100000000000000, 1000000000000000, 10000000000000000, 100000000000000000, 1000000000000000000, 10000000000000000000]), none, some (true, ⟨5, 0, 32⟩, Qo .u8 [0, 1, 28, 2, 29, 14, 24, 3, 30, 22, 20, 15, 25, 17, 4, 8, 31, 27, 13, 23, 21, 19, 16, 7, 26, 12, 18, 6, 11, 5, 10, 9]), some (true, ⟨6, 0, 64⟩, Qo .u8 [0, 1, 56, 2, 57, 49, 28, 3, 61, 58, 42, 50, 38, 29, 17, 4, 62, 47, 59, 36, 45, 43, 51, 22, 53, 39, 33, 30, 24, 18, 12, 5, 63, 55, 48, 27, 60, 41, 37, 16, 46, 35, 44, 21, 52, 32, 23, 11, 54, 26, 40, 15, 34, 20, 31, 10, 25, 14, 19, 9, 13, 8, 7, 6])] ++ R0 7
theorem relB {W : World}  {R0 : Nat → List Yz} (hf : FixOK W Go.Proofs.YtajnglhkdglglaaGreatDoor.works.fixes) (hN : ∀ (i : Nat) (y : Bool × Pl × List SV), (R0 7)[i]? = some (some y) → y.1 = false ∧ y.2.1.block < W.heap.size ∧ ∀ m, AtM m 7 (R0 7) → RowRel m y.2.1 none .lost y.2.2 W.heap[y.2.1.block]?) : MRel W.heap.size (mapB (Vl R0)) (memB (Vl R0)) W := memB_rel3 fun j x hj => by
 unfold Vl at hj
 rcases j with _ | _ | _ | _ | _ | _ | _ | j
 ·cases (Option.some.inj hj)
  have := W0 hf (x := (0, Qo .i64 [0, 12, 25, 37, 49, 60, 71, 81, 90, 98, 106, 112, 117, 122, 125, 126, 127])) (.tail _ (.tail _ (.tail _ (.head _))))
  exact ⟨this.1, this.2 _, fun _ => ⟨rfl, rfl, rfl⟩⟩
 ·simp at hj
 ·simp at hj
 ·cases (Option.some.inj hj)
  have := W0 hf (x := (3, Qo .u64 [1, 10, 100, 1000, 10000, 100000, 1000000, 10000000, 100000000, 1000000000, 10000000000, 100000000000, 1000000000000, 10000000000000, 100000000000000, 1000000000000000, 10000000000000000, 100000000000000000, 1000000000000000000, 10000000000000000000])) (.tail _ (.tail _ (.head _)))
  exact ⟨this.1, this.2 _, fun _ => ⟨rfl, rfl, rfl⟩⟩
 ·simp at hj
 ·cases (Option.some.inj hj)
  have := W0 hf (x := (5, Qo .u8 [0, 1, 28, 2, 29, 14, 24, 3, 30, 22, 20, 15, 25, 17, 4, 8, 31, 27, 13, 23, 21, 19, 16, 7, 26, 12, 18, 6, 11, 5, 10, 9])) (.head _)
  exact ⟨this.1, this.2 _, fun _ => ⟨rfl, rfl, rfl⟩⟩
 ·cases (Option.some.inj hj)
  have := W0 hf (x := (6, Qo .u8 [0, 1, 56, 2, 57, 49, 28, 3, 61, 58, 42, 50, 38, 29, 17, 4, 62, 47, 59, 36, 45, 43, 51, 22, 53, 39, 33, 30, 24, 18, 12, 5, 63, 55, 48, 27, 60, 41, 37, 16, 46, 35, 44, 21, 52, 32, 23, 11, 54, 26, 40, 15, 34, 20, 31, 10, 25, 14, 19, 9, 13, 8, 7, 6])) (.tail _ (.head _))
  exact ⟨this.1, this.2 _, fun _ => ⟨rfl, rfl, rfl⟩⟩
 ·have hj' : (R0 7)[j]? = some (some x) := hj
  obtain ⟨h1, h2, h3⟩ := hN j x hj'
  exact ⟨h2, h3 _ (atM_app (pre := [some (true, ⟨0, 0, 17⟩, Qo .i64 [0, 12, 25, 37, 49, 60, 71, 81, 90, 98, 106, 112, 117, 122, 125, 126, 127]), none, none, some (true, ⟨3, 0, 20⟩, Qo .u64 [1, 10, 100, 1000, 10000, 100000, 1000000, 10000000, 100000000, 1000000000, 10000000000, 100000000000, 1000000000000, 10000000000000, 100000000000000, 1000000000000000, 10000000000000000, 100000000000000000, 1000000000000000000, 10000000000000000000]), none, some (true, ⟨5, 0, 32⟩, Qo .u8 [0, 1, 28, 2, 29, 14, 24, 3, 30, 22, 20, 15, 25, 17, 4, 8, 31, 27, 13, 23, 21, 19, 16, 7, 26, 12, 18, 6, 11, 5, 10, 9]), some (true, ⟨6, 0, 64⟩, Qo .u8 [0, 1, 56, 2, 57, 49, 28, 3, 61, 58, 42, 50, 38, 29, 17, 4, 62, 47, 59, 36, 45, 43, 51, 22, 53, 39, 33, 30, 24, 18, 12, 5, 63, 55, 48, 27, 60, 41, 37, 16, 46, 35, 44, 21, 52, 32, 23, 11, 54, 26, 40, 15, 34, 20, 31, 10, 25, 14, 19, 9, 13, 8, 7, 6])])), fun h => by rw [h1] at h; simp at h⟩
theorem fixB  (R0 : Nat → List Yz) : FixIn (memB (Vl R0)) Go.Proofs.YtajnglhkdglglaaGreatDoor.works.fixes := fun x hx => by
 simp only [Go.Proofs.YtajnglhkdglglaaGreatDoor.works.fixes, List.mem_cons, List.not_mem_nil, or_false] at hx
 rcases hx with rfl | rfl | rfl | rfl
 ·exact Vg (j := 5) (p := ⟨5, 0, 32⟩) rfl
 ·exact Vg (j := 6) (p := ⟨6, 0, 64⟩) rfl
 ·exact Vg (j := 3) (p := ⟨3, 0, 20⟩) rfl
 ·exact Vg (j := 0) (p := ⟨0, 0, 17⟩) rfl
set_option maxRecDepth 100000 in
theorem lifted (os : Os) (started : os.Started) (H : Type) (enc : TypeId × Value → H) :
  ReturnsInHanded {} Tryz.checked os 7 .any (fun w args => (Rows.runWatchesSpec.pre enc Tryz.prog Tryz.f7 [] false w args ∧ laidMetH Tryz.prog Rows.runWatchesRow.laid w) ∧ sizedMet enc Tryz.prog Tryz.f7 (OpenSpec.ofChange Rows.runWatchesSpec) false w args)
   (Rows.runWatchesSpec.post enc Tryz.prog Tryz.f7 false true false false) := by
 refine returnsInHanded_of_change_and (C := Tryz.checked) (X := fun w _ => laidMetH Tryz.prog Rows.runWatchesRow.laid w) (fun _ _ _ hh h => h.of_heap hh) own started (by kernel_rfl) Tryz.func7
  (ChangeSpec.witness_shaped (enc := enc) (C := Tryz.checked) (os := os) (X := fun w _ => laidMetH Tryz.prog Rows.runWatchesRow.laid w) false (World.doorLaid Tryz.prog 400 os) #[.agg #[.slice none 0 0, .slice none 0 0, .slice none 0 0, .slice none 0 0, .slice none 0 0, .slice none 0 0], .agg #[.int .i64 0, .int .i64 0, .int .i64 0]] 8 rfl (World.shaped_of_RefB (by kernel_rfl) (by kernel_rfl)) (by kernel_rfl) (by kernel_rfl) (by kernel_rfl) (door_met os _)) ?_
 intro W base args ds gs before hval0 hW _ hsz hL _
 have hval : ∀ (j : Nat) t v, Tryz.f7.params[j]? = some t → args[j]? = some v → Value.okWide Tryz.prog W .any base t v := hval0
 have hW' := hW
 obtain ⟨p, q, hA0, hV, rfl, hfz, hnd⟩ := hW
 have hA : DataW.TrodAll enc Tryz.prog W 0 (fun _ => true) true Tryz.f7.params.toList args.toList ds p := hA0
 have hAk := hA
 rw [Tryz.params7] at hA hval
 obtain ⟨rfl, rfl⟩ := trodVars_none hV
 clear hA0 hval0
 simp only [List.append_nil] at hW'
 obtain ⟨v0, v1, d0, d1, p0, p1, rfl, rfl, rfl, h0, h1⟩ := trodAll_two hA
 have hv0 := hval 0 38 v0 rfl rfl
 simp only [Value.okWide, Tryz.underlying38] at hv0
 obtain ⟨cs0, rfl, hsz0, ts0, hts0, _, hall0⟩ := hv0
 rw [types38] at hts0
 cases hts0
 obtain ⟨c0_0, c0_1, c0_2, c0_3, c0_4, c0_5, rfl⟩ := arr6 (hsz0.trans cells38)
 obtain ⟨n0, h0⟩ := h0
 have g0 : DataW.trod enc Tryz.prog W 0 (fun _ => true) true n0 38 [c0_0, c0_1, c0_2, c0_3, c0_4, c0_5] = some (d0, p0) := h0
 obtain ⟨l0, K0, R0, S0, ha0⟩ := gread38 _ _ _ g0
 have hv1 := hval 1 46 v1 rfl rfl
 simp only [Value.okWide, Tryz.underlying46] at hv1
 obtain ⟨cs1, rfl, hsz1, ts1, hts1, _, hall1⟩ := hv1
 rw [types46] at hts1
 cases hts1
 obtain ⟨c1_0, c1_1, c1_2, rfl⟩ := arr3 (hsz1.trans cells46)
 obtain ⟨n1, h1⟩ := h1
 have g1 : DataW.trod enc Tryz.prog W 0 (fun _ => true) true n1 46 [c1_0, c1_1, c1_2] = some (d1, p1) := h1
 obtain ⟨b1, hb1⟩ := read46 _ _ _ g1
 have hrel : MRel W.heap.size (mapB (Vl R0)) (memB (Vl R0)) W := relB (fix_ok hL)  (ha0.row 7)
 have mN : AtM (mapB (Vl R0)) 7 (R0 7) := atM_app (pre := [some (true, ⟨0, 0, 17⟩, Qo .i64 [0, 12, 25, 37, 49, 60, 71, 81, 90, 98, 106, 112, 117, 122, 125, 126, 127]), none, none, some (true, ⟨3, 0, 20⟩, Qo .u64 [1, 10, 100, 1000, 10000, 100000, 1000000, 10000000, 100000000, 1000000000, 10000000000, 100000000000, 1000000000000, 10000000000000, 100000000000000, 1000000000000000, 10000000000000000, 100000000000000000, 1000000000000000000, 10000000000000000000]), none, some (true, ⟨5, 0, 32⟩, Qo .u8 [0, 1, 28, 2, 29, 14, 24, 3, 30, 22, 20, 15, 25, 17, 4, 8, 31, 27, 13, 23, 21, 19, 16, 7, 26, 12, 18, 6, 11, 5, 10, 9]), some (true, ⟨6, 0, 64⟩, Qo .u8 [0, 1, 56, 2, 57, 49, 28, 3, 61, 58, 42, 50, 38, 29, 17, 4, 62, 47, 59, 36, 45, 43, 51, 22, 53, 39, 33, 30, 24, 18, 12, 5, 63, 55, 48, 27, 60, 41, 37, 16, 46, 35, 44, 21, 52, 32, 23, 11, 54, 26, 40, 15, 34, 20, 31, 10, 25, 14, 19, 9, 13, 8, 7, 6])])
 have fN : AtF (rd (memB (Vl R0))) 7 (R0 7) := atF_app (pre := [some (true, ⟨0, 0, 17⟩, Qo .i64 [0, 12, 25, 37, 49, 60, 71, 81, 90, 98, 106, 112, 117, 122, 125, 126, 127]), none, none, some (true, ⟨3, 0, 20⟩, Qo .u64 [1, 10, 100, 1000, 10000, 100000, 1000000, 10000000, 100000000, 1000000000, 10000000000, 100000000000, 1000000000000, 10000000000000, 100000000000000, 1000000000000000, 10000000000000000, 100000000000000000, 1000000000000000000, 10000000000000000000]), none, some (true, ⟨5, 0, 32⟩, Qo .u8 [0, 1, 28, 2, 29, 14, 24, 3, 30, 22, 20, 15, 25, 17, 4, 8, 31, 27, 13, 23, 21, 19, 16, 7, 26, 12, 18, 6, 11, 5, 10, 9]), some (true, ⟨6, 0, 64⟩, Qo .u8 [0, 1, 56, 2, 57, 49, 28, 3, 61, 58, 42, 50, 38, 29, 17, 4, 62, 47, 59, 36, 45, 43, 51, 22, 53, 39, 33, 30, 24, 18, 12, 5, 63, 55, 48, 27, 60, 41, 37, 16, 46, 35, 44, 21, 52, 32, 23, 11, 54, 26, 40, 15, 34, 20, 31, 10, 25, 14, 19, 9, 13, 8, 7, 6])]) fun i y hy => (ha0.row 7 i y hy).1
 obtain ⟨q0_0, q0_1, q0_2, q0_3, q0_4, q0_5, hS0, hq0_0, hq0_1, hq0_2, hq0_3, hq0_4, hq0_5⟩ := ha0.rep _ 7 fN
 have hSv0 : concs (mapB (Vl R0)) [q0_0, q0_1, q0_2, q0_3, q0_4, q0_5] = some [c0_0, c0_1, c0_2, c0_3, c0_4, c0_5] := by
  rw [← hS0]
  exact ha0.val _ 7 mN
 have hlaw := law_eq (1001 + l0.Duties.length + l0.Work.length) l0 b1 ha0.ok.1 ha0.ok.2.1 (by omega) rfl
 have hrun := Zu (1001 + l0.Duties.length + l0.Work.length) l0 b1 _ _ _ _ _ _ true (memB (Vl R0)) hq0_0 hq0_1 hq0_2 hq0_3 hq0_4 hq0_5 (fixB R0) hlaw
 have has : concs (mapB (Vl R0)) [.agg [q0_0, q0_1, q0_2, q0_3, q0_4, q0_5], .agg [(.int .i64 b1.Time), (.int .i64 b1.Detector), (.int .i64 b1.Length)]] = some [.agg #[c0_0, c0_1, c0_2, c0_3, c0_4, c0_5], .agg #[c1_0, c1_1, c1_2]] := by
  refine K4 (conc_aggL hSv0) (K4 (conc_aggL (hb1 _)) (Kk _))
 have hcalls : Calls Tryz.prog 7 #[.agg #[c0_0, c0_1, c0_2, c0_3, c0_4, c0_5], .agg #[c1_0, c1_1, c1_2]] W fun e W' => e = .returned (.bool true) ∧ Below W.heap.size W W' := by
  refine (Run.calls (Q := J3 true) mixed Tryz.func7 rfl rfl (Va hrel) (vs := #[.agg #[c0_0, c0_1, c0_2, c0_3, c0_4, c0_5], .agg #[c1_0, c1_1, c1_2]]) has hrun).mono fun e W' ⟨m', M', s, x, he, hx, hs, hst⟩ => ?_
  have hs' : s = .bool true := hs
  subst hs'
  have hx' : x = .bool true := by simp [conc] at hx; exact hx.symm
  subst hx'
  exact ⟨he, hst.below⟩
 refine hcalls.mono fun e W' ⟨he, hb⟩ => ?_
 subst he
 exact ⟨_, rfl, _, _, _, [], _, [], hW', trodAll_cons_mk (shut_bool Tryz.underlying4 _) trodAll_mk0, W5 kids full hb within hAk, rfl, hb.frame _, fun h => by cases h⟩
theorem hfn : Tryz.prog.funcNamed Rows.runWatchesRow.func = some 7 := by kernel_rfl
theorem hinst : Tryz.f7.isInstance Tryz.prog Rows.runWatchesRow.origin Rows.runWatchesRow.targs := of_decide_eq_true (by kernel_rfl)
theorem hwrap : Tryz.f7.isWrapper Tryz.prog Rows.runWatchesRow.wrapper Rows.runWatchesRow.mainSum := by
 unfold Func.isWrapper
 first
  | (rw [if_pos (by decide +kernel)]; kernel_rfl)
  | (rw [if_neg (by decide +kernel)]; exact ⟨rfl, rfl⟩)
set_option maxRecDepth 100000 in
theorem facts : joinedFacts Tryz.prog 7 Tryz.f7 Rows.runWatchesSpec Rows.runWatchesRow = true := (V0 (V0 (V0 (V0 (V0 (V0 (V0 (V0 (V0 (V0 (V0 (V0 (V0 (V0 (V0 (V0 (V0 (V0 (V0 (V0 (V0 (V0 (V0 (V0 (V0 (V0 (V0 (V0 (V0 (V0 (V0 j0 j1) j2) j3) j4) j5) j6) j7) j8) j9) j10) j11) j12) j13) j14) j15) j16) j17) j18) j19) j20) j21) j22) j23) j24) j25) j26) j27) j28) j29) j30) j31)
theorem over : Rows.RunWatchesSaid :=
 OpenClaim.holds_of_wide (p := Tryz.pinned) (s := Rows.runWatchesSpec) (c := Rows.runWatchesRow) 7 Tryz.f7 rfl rfl rfl rfl rfl rfl rfl ⟨rfl, rfl, rfl, rfl, rfl⟩ rfl rfl rfl rfl rfl hfn Tryz.func7 facts hinst hwrap
  (fun os started H enc _ => lifted os started H enc)
end Go.Proofs.YtajnglhkdglglaaGreatDoor.runWatches
