/- How a graph that came in is opened. -/
import Derived.Test.YtjfeamfchgcblaaDoorGra
import Derived.WalkKit
import Derived.ProofKit
import Derived.OpenShut
import Derived.ChangeOld
import Derived.Below
import Derived.Deep.Slices
import Derived.SizedLaws
import Derived.Lib.SmallJoins
set_option linter.all false
set_option maxRecDepth 100000
namespace Go.Proofs.YtjfeamfchgcblaaDoor
open Go.ChangeShapes Go.WideShapes Go.ChangeAt Go.RowKit

theorem is_cells {W : World} {x : Addr} {len : Nat} {zs : List Int} (hz : len ≤ zs.length) (hcell : ∀ i, i < len → W.cell? (x.add i) = some (.int .i64 (zs.getD i 0))) : Is W (some x) (zs.take len) := by
  by_cases h0 : len = 0
  · subst h0; exact .inl (by simp)
  · obtain ⟨b, off, spot⟩ := x
    have hc := hcell 0 (by omega)
    have hspot : spot = none := by simpa [Addr.add] using World.cell?_spot hc
    subst hspot
    refine .inr ⟨b, off, rfl, fun j hj => ?_⟩
    simp at hj
    have hj' : j < zs.length := by omega
    have hcj := hcell j (by omega)
    rw [add_plain] at hcj
    rw [hcj]
    simp [iAt, List.getD, List.getElem?_take, hj, hj']
/-- A slice of ints that came in. -/
theorem ints_open {H : Type} {enc : TypeId × Value → H} {W : World} {fuel : Nat} {v : Value} {y : DataW H × List MemPlace}
    (hf : DataW.trod enc Tryd.prog W 0 (fun _ => true) true fuel 23 [v] = some y) : ∃ (a : Option Addr) (t : List Int) (cap : Nat), v = .slice a t.length cap ∧ t.length ≤ cap ∧ cap ≤ maxLen ∧ Is W a t ∧ (0 < t.length → (t.length * 8 ≤ 0 ∨ ∃ k ∈ y.1.weights Tryd.prog 23, t.length ≤ k)) := by
  rcases open_ints Tryd.underlying23 Tryd.underlying3 (by kernel_rfl) hf with ⟨hcs, _⟩ | ⟨x, l, c, zs, hcs, _, hl, hm, hz, hd, hcell, hwz⟩
  · cases hcs
    exact ⟨none, [], 0, rfl, Nat.le_refl _, by unfold maxLen; omega, .inl rfl, fun h => by simp at h⟩
  · cases hcs
    simp only [if_true] at hz
    have hlen : (zs.take l).length = l := by simp; omega
    refine ⟨some x, zs.take l, c, by rw [hlen], by rw [hlen]; exact hl, hm, is_cells (by omega) (fun i hi => hcell i (by omega)), fun h0 => .inr ?_⟩
    rw [hd]
    unfold DataW.weights
    rw [Tryd.underlying23]
    refine ⟨_, List.mem_cons_self .., ?_⟩
    have hb : Tryd.prog.bytesOf 3 = 8 := by kernel_rfl
    rw [hb, hlen]
    simp [lits]
    omega
theorem weights_all {H : Type} {P : Program} {e : TypeId} : ∀ {l : List (DataW H)} {d : DataW H}, d ∈ l → ∀ n ∈ d.weights P e, n ∈ DataW.weightsAll P e l
  | x :: l, d, h, n, hn => by
    unfold DataW.weightsAll
    rcases List.mem_cons.1 h with rfl | h
    · exact List.mem_append_left _ hn
    · exact List.mem_append_right _ (weights_all h n hn)
def Gn.cs (y : Gn) : List Value := [.int .i64 y.kind, .string y.tag, .string y.text, .slice y.q y.kids.length y.c, .bool y.plain]
theorem nodes_open {H : Type} {enc : TypeId × Value → H} {W : World} {fuel : Nat} {v : Value} {y : DataW H × List MemPlace}
    (hf : DataW.trod enc Tryd.prog W 0 (fun _ => true) true fuel 22 [v] = some y) :
    ∃ (a : Option Addr) (G : List Gn) (cap : Nat), v = .slice a G.length cap ∧ Gs W a G ∧ ∀ n, (∀ k ∈ y.1.weights Tryd.prog 22, k ≤ n) → G.length ≤ n ∧ ∀ x ∈ G, x.kids.length ≤ n ∧ x.text.size ≤ n ∧ x.tag.size ≤ n := by
  rcases Deep.open_slice Tryd.underlying22 hf with ⟨hcs, _⟩ | ⟨x, len, cap, m, n, D, Pl, hcs, _, hl, hm, hmm, hd, hx⟩
  · cases hcs
    exact ⟨none, [], 0, rfl, ⟨fun j hj => by simp at hj, fun h => by simp at h⟩, fun n _ => ⟨Nat.zero_le _, fun x hx => by cases hx⟩⟩
  · cases hcs
    simp only [if_true] at hmm
    have ce : Tryd.prog.cellsOf 33 = 5 := by kernel_rfl
    have each : ∀ i, i < len → ∃ z : Gn, (∀ j v, z.cs[j]? = some v → W.cell? (x.add (i * 5 + j)) = some v) ∧ Gk W z ∧ ∀ n, (∀ k ∈ (D i).weights Tryd.prog 33, k ≤ n) → z.kids.length ≤ n ∧ z.text.size ≤ n ∧ z.tag.size ≤ n := by
      intro i hi
      obtain ⟨cs', h1, h2⟩ := hx i (by omega)
      rw [ce] at h1
      obtain ⟨_, hlen, hcell⟩ := World.cells?_some h1
      obtain ⟨xs, k, hk, hxy, _, hxl, hf⟩ := DataW.trod_struct Tryd.underlying33 h2
      match xs, hxl, cs', hlen with
      | [x0, x1, x2, x3, x4], _, [v0, v1, v2, v3, v4], _ =>
        have g0 := hf 0 _ rfl
        have g1 := hf 1 _ rfl
        have g2 := hf 2 _ rfl
        have g3 := hf 3 _ rfl
        have g4 := hf 4 _ rfl
        have z3 : Tryd.prog.cellsOf 3 = 1 := by kernel_rfl
        have z9 : Tryd.prog.cellsOf 9 = 1 := by kernel_rfl
        have z4 : Tryd.prog.cellsOf 4 = 1 := by kernel_rfl
        have z23 : Tryd.prog.cellsOf 23 = 1 := by kernel_rfl
        simp [z3, z9, z4, z23] at g0 g1 g2 g3 g4
        obtain ⟨y0, e0, -, -⟩ := DataW.trod_int Tryd.underlying3 g0
        obtain ⟨y1, e1, d1, -⟩ := DataW.trod_string Tryd.underlying9 g1
        obtain ⟨y2, e2, d2, -⟩ := DataW.trod_string Tryd.underlying9 g2
        obtain ⟨a3, t3, c3, e3, hl3, hm3, hI3, hw3⟩ := ints_open g3
        obtain ⟨y4, e4, -⟩ := DataW.trod_bool Tryd.underlying4 g4
        cases e0
        cases e1
        cases e2
        cases e3
        cases e4
        refine ⟨⟨y0, y1, y2, a3, t3, c3, y4⟩, fun j v hj => ?_, ⟨hI3, hl3, hm3⟩, fun n hn => ?_⟩
        · have hj5 : j < 5 := by have := (List.getElem?_eq_some_iff.1 hj).1; simpa [Gn.cs] using this
          have := hcell j hj5
          rw [Deep.add_add] at this
          rw [this]
          exact hj
        · injection hxy with hxy _
          have hmem : ∀ (j : Nat) (t : TypeId) (dj : DataW H), [3, 9, 9, 23, 4][j]? = some t → [x0.1, x1.1, x2.1, x3.1, x4.1][j]? = some dj → ∀ k ∈ dj.weights Tryd.prog t, k ≤ n := fun j t dj h1 h2 k hk => hn k (by
            rw [hxy]
            unfold DataW.weights
            rw [Tryd.underlying33]
            show _ ∈ DataW.weightsEach _ [3, 9, 9, 23, 4] [x0.1, x1.1, x2.1, x3.1, x4.1]
            exact DataW.weights_mem_each (j := j) (t := t) (d := dj) h1 h2 _ hk)
          refine ⟨?_, ?_, ?_⟩
          · show t3.length ≤ n
            by_cases h0 : t3.length = 0
            · omega
            · rcases hw3 (by omega) with h | ⟨k, hk, hle⟩
              · omega
              · exact Nat.le_trans hle (hmem 3 23 x3.1 rfl rfl k hk)
          · have hx2 : x2.1 = .lit (.string y2.data.toList) := by rw [d2]
            have := hmem 2 9 x2.1 rfl rfl y2.data.toList.length (by rw [hx2]; unfold DataW.weights; simp)
            show y2.size ≤ n
            rw [show y2.size = y2.data.toList.length by simp]
            exact this
          · have hx1 : x1.1 = .lit (.string y1.data.toList) := by rw [d1]
            have := hmem 1 9 x1.1 rfl rfl y1.data.toList.length (by rw [hx1]; unfold DataW.weights; simp)
            show y1.size ≤ n
            rw [show y1.size = y1.data.toList.length by simp]
            exact this
    haveI : Inhabited Gn := ⟨⟨0, ⟨#[]⟩, ⟨#[]⟩, none, [], 0, false⟩⟩
    obtain ⟨Y, hY⟩ := Deep.choose_lt each
    have hat : ∀ i, i < len → gAt ((List.range len).map Y) i = Y i := by
      intro i hi
      rw [gAt_get (by simpa using hi)]
      simp
    have hlenY : ((List.range len).map Y).length = len := by simp
    refine ⟨some x, (List.range len).map Y, cap, by rw [hlenY], ⟨fun j hj => ?_, fun h0 => ?_⟩, fun n hn => ⟨?_, fun z hz => ?_⟩⟩
    · rw [hat j (by simpa using hj)]
      exact (hY j (by simpa using hj)).2.1
    · rw [hlenY] at h0
      obtain ⟨b, off, spot⟩ := x
      have hc := (hY 0 h0).1 0 _ rfl
      have hspot : spot = none := by simpa [Addr.add] using World.cell?_spot hc
      subst hspot
      refine ⟨b, off, rfl, fun j hj => ?_⟩
      have hj : j < len := by simpa using hj
      rw [hat j hj]
      have g : ∀ i v, (Y j).cs[i]? = some v → W.cell? ⟨b, off + j * 5 + i, none⟩ = some v := fun i v hv => by
        have := (hY j hj).1 i v hv
        rw [add_plain] at this
        rw [Nat.add_assoc]
        exact this
      exact ⟨g 0 _ rfl, g 1 _ rfl, g 2 _ rfl, g 3 _ rfl, g 4 _ rfl⟩
    · rw [hlenY]
      rw [hd] at hn
      unfold DataW.weights at hn
      rw [Tryd.underlying22] at hn
      have := hn _ (List.mem_cons_self ..)
      have hb : Tryd.prog.bytesOf 33 = 72 := by kernel_rfl
      rw [hb] at this
      simp at this
      omega
    · obtain ⟨i, hi, rfl⟩ := List.mem_map.1 hz
      have hi : i < len := by simpa using hi
      refine (hY i hi).2.2 n (fun k hk => hn k ?_)
      rw [hd]
      unfold DataW.weights
      rw [Tryd.underlying22]
      refine List.mem_cons_of_mem _ (List.mem_append_left _ ?_)
      exact weights_all (d := D i) (List.mem_map.2 ⟨i, by simpa using hi, rfl⟩) _ hk
theorem graph_open {H : Type} {enc : TypeId × Value → H} {W : World} {v : Value} {d : DataW H} {p : List MemPlace} {base : Nat} (hv : Value.okWide Tryd.prog W .any base 25 v)
    (h : DataW.Trod enc Tryd.prog W 0 (fun _ => true) true 25 v d p) :
    ∃ (a : Option Addr) (G : List Gn) (cap : Nat) (a2 : Option Addr) (rs : List Int) (cap2 : Nat), v = .agg #[.slice a G.length cap, .slice a2 rs.length cap2] ∧ Gs W a G ∧ Is W a2 rs ∧
      ∀ n, (∀ k ∈ d.weights Tryd.prog 25, k ≤ n) → (∀ x ∈ G, x.kids.length ≤ n ∧ x.text.size ≤ n ∧ x.tag.size ≤ n) ∧ G.length ≤ n ∧ rs.length ≤ n := by
  obtain ⟨v0, v1, y0, y1, n, rfl, rfl, rfl, t0, t1⟩ := Go.Joins.open_agg2 Tryd.underlying25 (by kernel_rfl) (by kernel_rfl) hv h
  obtain ⟨a, G, cap, rfl, hG, hw⟩ := nodes_open t0
  obtain ⟨a2, rs, cap2, rfl, -, -, hI, hw2⟩ := ints_open t1
  refine ⟨a, G, cap, a2, rs, cap2, rfl, hG, hI, fun m hm => ?_⟩
  have hmem : ∀ (j : Nat) (t : TypeId) (dj : DataW H), [22, 23][j]? = some t → [y0.1, y1.1][j]? = some dj → ∀ k ∈ dj.weights Tryd.prog t, k ≤ m := fun j t dj h1 h2 k hk => hm k (by
    unfold DataW.weights
    rw [Tryd.underlying25]
    show _ ∈ DataW.weightsEach _ [22, 23] [y0.1, y1.1]
    exact DataW.weights_mem_each (j := j) (t := t) (d := dj) h1 h2 _ hk)
  obtain ⟨h1, h2⟩ := hw m (hmem 0 22 y0.1 rfl rfl)
  refine ⟨h2, h1, ?_⟩
  by_cases h0 : rs.length = 0
  · omega
  · rcases hw2 (by omega) with h | ⟨k, hk, hle⟩
    · omega
    · exact Nat.le_trans hle (hmem 1 23 y1.1 rfl rfl k hk)
end Go.Proofs.YtjfeamfchgcblaaDoor
