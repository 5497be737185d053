/- FlowLists, whole; how its arguments are opened. -/
import Derived.Test.YtipbhdhiklmieaaGreatDoorZCC
import Derived.SliceStrings
set_option linter.all false
set_option maxRecDepth 100000
set_option maxHeartbeats 8000000
namespace Go.Proofs.YtipbhdhiklmieaaGreatDoor
open Go.RowKit Go.Shelf
theorem lists_out (n g : Nat) (q1 q2 : Option Addr) (c1 c2 : Nat) (m tl : Bool) (w : World) (hT : P7.Tab w) (hn9 : n <= maxLen) (h : ¬ (n <= 20 /\ n + 2 <= g /\ (m = true -> n % 2 = 0))) :
  Calls Tryz.prog 6 #[.slice q1 n c1, .slice q2 g c2, .bool m, .bool tl] w fun e w' => e = .returned (.bool true) /\ Below w.heap.size w w' := by
 have AL := alive_any w hT
 clear hT
 by_cases h1 : 20 < n
 ·have h1' : (20 : Int) < (n : Int) := by omega
  clear h
  go_enter Tryz.func6, Tryz.ntmps6
  go_wp2_with fail
  refine AL.mono ?_
  clear AL
  rintro e w1 ⟨rfl, hB1⟩
  go_wp2
  go_ret
  exact ⟨rfl, hB1⟩
 ·have h1' : ¬ (20 : Int) < (n : Int) := by omega
  have a4 : wrap64 ((n : Int) + 2) = (n : Int) + 2 := by unfold wrap64; omega
  by_cases h2 : g < n + 2
  ·have h2' : (g : Int) < (n : Int) + 2 := by omega
   clear h
   go_enter Tryz.func6, Tryz.ntmps6
   go_wp2_with fail
   refine AL.mono ?_
   clear AL
   rintro e w1 ⟨rfl, hB1⟩
   go_wp2
   go_ret
   exact ⟨rfl, hB1⟩
  ·have h2' : ¬ (g : Int) < (n : Int) + 2 := by omega
   obtain rfl : m = true := by
    cases m
    ·exact absurd ⟨by omega, by omega, fun e => by cases e⟩ h
    ·rfl
   have h3 : (n : Int).tmod 2 = 1 := by
    rw [Int.tmod_eq_emod_of_nonneg (by omega)]
    have : ¬ n % 2 = 0 := fun e => h ⟨by omega, by omega, fun _ => e⟩
    omega
   clear h
   go_enter Tryz.func6, Tryz.ntmps6
   go_wp2_with fail
   refine AL.mono ?_
   clear AL
   rintro e w1 ⟨rfl, hB1⟩
   go_wp2
   go_ret
   exact ⟨rfl, hB1⟩
theorem FlowLists_any (Ws : List ByteArray) (Gs : List Int) (q1 q2 : Option Addr) (c1 c2 : Nat) (m tl : Bool) (w : World) (hl : Ws.length <= maxLen) (h1 : Strs w q1 Ws) (h2 : Is w q2 Gs) (hT : P7.Tab w) :
  Calls Tryz.prog 6 #[.slice q1 Ws.length c1, .slice q2 Gs.length c2, .bool m, .bool tl] w fun e w' => e = .returned (.bool true) /\ Below w.heap.size w w' := by
 by_cases h : Ws.length <= 20 /\ Ws.length + 2 <= Gs.length /\ (m = true -> Ws.length % 2 = 0)
 ·exact lists_both Ws Gs q1 q2 c1 c2 m tl w h1 h2 hT h.1 h.2.1 h.2.2
 ·exact lists_out _ _ q1 q2 c1 c2 m tl w hT hl h
end Go.Proofs.YtipbhdhiklmieaaGreatDoor
namespace Go.Proofs.YtipbhdhiklmieaaGreatDoor
open Go.ChangeShapes Go.WideShapes Go.ChangeAt Go.RowKit
theorem laidOut : laidOutB Tryz.prog = true := by kernel_rfl
theorem is_cells {W : World} {x : Addr} {len cap : Nat} {zs : List Int} (hl : len <= cap) (hz : zs.length = cap) (hcell : ∀ i, i < cap -> W.cell? (x.add i) = some (.int .i64 (zs.getD i 0))) : Is W (some x) (zs.take len) := by
 by_cases h0 : len = 0
 ·subst h0; exact .inl (by simp)
 ·obtain ⟨b, off, spot⟩ := x
  have hc := hcell 0 (by omega)
  have hspot : spot = none := by simpa [Addr.add] using World.cell?_spot hc
  subst hspot
  refine .inr ⟨b, off, rfl, fun j hj => ?_⟩
  simp at hj
  have hj' : j < zs.length := by omega
  have hcj := hcell j (by omega)
  rw [add_plain] at hcj
  rw [hcj]
  simp [iAt, List.getD, List.getElem?_take, hj, hj']
theorem ints_open {H : Type} {enc : TypeId × Value -> H} {W : World} {a : Option Addr} {len cap : Nat} {d : DataW H} {p : List MemPlace}
  (h : DataW.Trod enc Tryz.prog W 0 (fun _ => true) true 41 (.slice a len cap) d p) : ∃ t : List Int, t.length = len /\ Is W a t := by
 obtain ⟨fuel, hf⟩ := h
 rcases open_ints Tryz.underlying41 Tryz.underlying3 (by kernel_rfl) hf with ⟨hcs, _⟩ | ⟨x, l, c, zs, hcs, _, hl, hm, hz, _, hcell, hwz⟩
 ·simp [Value.cells] at hcs
  obtain ⟨rfl, rfl, rfl⟩ := hcs
  exact ⟨[], rfl, .inl rfl⟩
 ·simp [Value.cells] at hcs
  obtain ⟨rfl, rfl, rfl⟩ := hcs
  simp only [if_true] at hz
  exact ⟨zs.take len, by simp; omega, is_cells hl hz (fun i hi => hcell i (by omega))⟩
theorem strs_open {H : Type} {enc : TypeId × Value -> H} {W : World} {a : Option Addr} {len cap : Nat} {d : DataW H} {p : List MemPlace}
  (h : DataW.Trod enc Tryz.prog W 0 (fun _ => true) true 48 (.slice a len cap) d p) : ∃ Ws : List ByteArray, Ws.length = len /\ len <= maxLen /\ Strs W a Ws := by
 obtain ⟨fuel, hf⟩ := h
 rcases open_strings Tryz.underlying48 Tryz.underlying9 (by kernel_rfl) hf with ⟨hcs, _⟩ | ⟨x, l, c, ss, hcs, _, hl, hm, hz, _, hcell, _⟩
 ·simp [Value.cells] at hcs
  obtain ⟨rfl, rfl, rfl⟩ := hcs
  exact ⟨[], rfl, by unfold maxLen; omega, fun i x hx => by simp at hx⟩
 ·simp [Value.cells] at hcs
  obtain ⟨rfl, rfl, rfl⟩ := hcs
  simp only [if_true] at hz
  refine ⟨ss.take len, by simp; omega, by omega, fun i y hy => ?_⟩
  have hi : i < len := by have := (List.getElem?_eq_some_iff.1 hy).1; simp at this; omega
  have hci := hcell i (by omega)
  obtain ⟨b, off, spot⟩ := x
  have hc := hcell 0 (by omega)
  have hspot : spot = none := by simpa [Addr.add] using World.cell?_spot hc
  subst hspot
  refine ⟨b, off, rfl, ?_⟩
  rw [add_plain] at hci
  rw [hci]
  rw [List.getElem?_take, if_pos hi] at hy
  simp [List.getD, hy]
end Go.Proofs.YtipbhdhiklmieaaGreatDoor
