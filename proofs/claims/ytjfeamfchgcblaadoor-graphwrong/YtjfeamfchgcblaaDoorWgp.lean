/- The fifteen graphs of GraphWrong. -/
import Derived.Test.YtjfeamfchgcblaaDoorRhf
set_option linter.all false
set_option maxRecDepth 100000
namespace Go.Proofs.YtjfeamfchgcblaaDoor
open Go.RowKit Go.Shelf

/-- What GraphWrong lays, one behind the other. -/
def wObs (h : Nat) : List Obj := [
  .cells #[.int .i64 1, .string ⟨#[120]⟩, .string ⟨#[97]⟩, .slice none 0 0, .bool false] 33,
  .cells #[.int .i64 1, .string ⟨#[]⟩, .string ⟨#[]⟩, .slice none 0 0, .bool false] 33,
  .cells #[.int .i64 1, .string ⟨#[33]⟩, .string ⟨#[]⟩, .slice none 0 0, .bool false] 33,
  .cells #[.int .i64 1, .string ⟨#[97, 32, 98]⟩, .string ⟨#[]⟩, .slice none 0 0, .bool false] 33,
  .cells #[.int .i64 1, .string ⟨#[120]⟩, .string ⟨#[255]⟩, .slice none 0 0, .bool false] 33,
  .cells #[.int .i64 0] 3,
  .cells #[.int .i64 1, .string ⟨#[120]⟩, .string ⟨#[]⟩, .slice (some ⟨h + 5, 0, none⟩) 1 1, .bool false] 33,
  .cells #[.int .i64 2, .string ⟨#[120]⟩, .string ⟨#[97]⟩, .slice none 0 0, .bool false] 33,
  .cells #[.int .i64 2, .string ⟨#[120]⟩, .string ⟨#[]⟩, .slice none 0 0, .bool true] 33,
  .cells #[.int .i64 0] 3,
  .cells #[.int .i64 3, .string ⟨#[120]⟩, .string ⟨#[]⟩, .slice (some ⟨h + 9, 0, none⟩) 1 1, .bool false] 33,
  .cells #[.int .i64 1] 3,
  .cells #[.int .i64 2, .string ⟨#[120]⟩, .string ⟨#[]⟩, .slice (some ⟨h + 11, 0, none⟩) 1 1, .bool false] 33,
  .cells #[.int .i64 (-1)] 3,
  .cells #[.int .i64 2, .string ⟨#[120]⟩, .string ⟨#[]⟩, .slice (some ⟨h + 13, 0, none⟩) 1 1, .bool false] 33,
  .cells #[.int .i64 4, .string ⟨#[120]⟩, .string ⟨#[]⟩, .slice none 0 0, .bool false] 33,
  .cells #[.int .i64 0, .string ⟨#[120]⟩, .string ⟨#[]⟩, .slice none 0 0, .bool false] 33,
  .cells #[.int .i64 1, .string ⟨#[120]⟩, .string ⟨#[97]⟩, .slice none 0 0, .bool false] 33,
  .cells #[.int .i64 1] 3,
  .cells #[.int .i64 1, .string ⟨#[120]⟩, .string ⟨#[97]⟩, .slice none 0 0, .bool false] 33,
  .cells #[.int .i64 0, .int .i64 (-1)] 3,
  .cells #[.int .i64 0] 3,
  .cells #[.slice (some ⟨h + 1, 0, none⟩) 1 1, .slice none 0 0, .slice (some ⟨h + 2, 0, none⟩) 1 1, .slice none 0 0, .slice (some ⟨h + 3, 0, none⟩) 1 1, .slice none 0 0, .slice (some ⟨h + 4, 0, none⟩) 1 1, .slice none 0 0, .slice (some ⟨h + 6, 0, none⟩) 1 1, .slice none 0 0, .slice (some ⟨h + 7, 0, none⟩) 1 1, .slice none 0 0, .slice (some ⟨h + 8, 0, none⟩) 1 1, .slice none 0 0, .slice (some ⟨h + 10, 0, none⟩) 1 1, .slice none 0 0, .slice (some ⟨h + 12, 0, none⟩) 1 1, .slice none 0 0, .slice (some ⟨h + 14, 0, none⟩) 1 1, .slice none 0 0, .slice (some ⟨h + 15, 0, none⟩) 1 1, .slice none 0 0, .slice (some ⟨h + 16, 0, none⟩) 1 1, .slice none 0 0, .slice (some ⟨h + 17, 0, none⟩) 1 1, .slice (some ⟨h + 18, 0, none⟩) 1 1, .slice (some ⟨h + 19, 0, none⟩) 1 1, .slice (some ⟨h + 20, 0, none⟩) 2 2, .slice none 0 0, .slice (some ⟨h + 21, 0, none⟩) 1 1] 25]
def alls (w : World) (l : List Obj) : World := l.foldl World.alloc w
theorem alls_below : ∀ (l : List Obj) (w : World), Below w.heap.size w (alls w l)
  | [], w => Below.refl _ w
  | o :: l, w => ((Below.refl w.heap.size w).alloc (Nat.le_refl _) o).trans ((alls_below l (w.alloc o)).mono (by rw [World.size_alloc]; omega))
theorem alls_at : ∀ (l : List Obj) (w : World) (k : Nat) (o : Obj), l[k]? = some o → (alls w l).heap[w.heap.size + k]? = some o
  | [], w, k, o, h => by simp at h
  | x :: l, w, 0, o, h => by
    cases h
    exact ((alls_below l (w.alloc x)).block w.heap.size (by rw [World.size_alloc]; omega)).trans (World.alloc_heap_new w x)
  | x :: l, w, k + 1, o, h => by
    have := alls_at l (w.alloc x) k o (by simpa using h)
    rw [World.size_alloc, show w.heap.size + 1 + k = w.heap.size + (k + 1) by omega] at this
    exact this
theorem gs_one {W : World} {b : Nat} {k : Int} {t s : ByteArray} {q : Option Addr} {kids : List Int} {c : Nat} {pl : Bool} (e : W.heap[b]? = some (.cells #[.int .i64 k, .string t, .string s, .slice q kids.length c, .bool pl] 33))
    (hq : Is W q kids) (h1 : kids.length ≤ c) (h2 : c ≤ 1000000) : Gs W (some ⟨b, 0, none⟩) [⟨k, t, s, q, kids, c, pl⟩] := by
  refine ⟨fun j hj => ?_, fun _ => ⟨_, _, rfl, fun j hj => ?_⟩⟩
  · obtain rfl : j = 0 := by simp at hj; omega
    exact ⟨hq, h1, by show c ≤ maxLen; unfold maxLen; omega⟩
  · obtain rfl : j = 0 := by simp at hj; omega
    constructor <;> (unfold World.cell?; rw [e]; rfl)
/-- A graph of the list that is not right. -/
def BadG (W : World) (gl i : Nat) : Prop := ∃ (p : Option Addr) (G : List Gn) (c : Nat) (pr : Option Addr) (rs : List Int) (cr : Nat), W.cell? ⟨gl, i * 2, none⟩ = some (.slice p G.length c) ∧ W.cell? ⟨gl, i * 2 + 1, none⟩ = some (.slice pr rs.length cr) ∧ Gs W p G ∧ Gz G ∧ Is W pr rs ∧ rs.length ≤ 1000000 ∧ rightP ritB rvB G rs = false
theorem bad_one {W : World} {gl i b : Nat} {k : Int} {t s : ByteArray} {q pr : Option Addr} {kids rs : List Int} {c cr : Nat} {pl : Bool} (e0 : W.cell? ⟨gl, i * 2, none⟩ = some (.slice (some ⟨b, 0, none⟩) 1 1)) (e1 : W.cell? ⟨gl, i * 2 + 1, none⟩ = some (.slice pr rs.length cr))
    (e : W.heap[b]? = some (.cells #[.int .i64 k, .string t, .string s, .slice q kids.length c, .bool pl] 33)) (hq : Is W q kids) (h1 : kids.length ≤ c) (h2 : c ≤ 1000000) (hI : Is W pr rs) (hr : rs.length ≤ 1000000) (ht : t.size ≤ 1000) (hs : s.size ≤ 1000)
    (hR : rightP ritB rvB [⟨k, t, s, none, kids, 0, pl⟩] rs = false) : BadG W gl i :=
  ⟨_, [⟨k, t, s, q, kids, c, pl⟩], _, _, rs, _, e0, e1, gs_one e hq h1 h2, ⟨by simp, fun x hx => by
    rw [List.mem_singleton.1 hx]
    dsimp only
    omega⟩, hI, hr, hR⟩
theorem bad_all {W : World} {h gl : Nat} (hgl : h + 22 = gl) (H : ∀ k o, (wObs h)[k]? = some o → W.heap[h + k]? = some o) : ∀ i, i < 15 → BadG W gl i := by
  subst hgl
  have e := H 22 _ rfl
  have ce : ∀ (j : Nat) (v : Value), (wObs h)[22]?.bind (fun o => match o with | .cells a _ _ => a[j]? | _ => none) = some v → W.cell? ⟨h + 22, j, none⟩ = some v := fun j v hv => by
    unfold World.cell?
    rw [e]
    exact hv
  intro i hi
  have hI : ∀ (b : Nat) (l : List Int), W.heap[b]? = some (.cells (l.map (Value.int .i64)).toArray 3) → Is W (some ⟨b, 0, none⟩) l := fun b l hb => is_of_block (f := (0, 0)) hb
  match i, hi with
  | 0, _ => exact bad_one (kids := []) (rs := []) (ce _ _ rfl) (ce _ _ rfl) (H 1 _ rfl) (.inl rfl) (by decide) (by decide) (.inl rfl) (by decide) (by decide) (by decide) (by decide +kernel)
  | 1, _ => exact bad_one (kids := []) (rs := []) (ce _ _ rfl) (ce _ _ rfl) (H 2 _ rfl) (.inl rfl) (by decide) (by decide) (.inl rfl) (by decide) (by decide) (by decide) (by decide +kernel)
  | 2, _ => exact bad_one (kids := []) (rs := []) (ce _ _ rfl) (ce _ _ rfl) (H 3 _ rfl) (.inl rfl) (by decide) (by decide) (.inl rfl) (by decide) (by decide) (by decide) (by decide +kernel)
  | 3, _ => exact bad_one (kids := []) (rs := []) (ce _ _ rfl) (ce _ _ rfl) (H 4 _ rfl) (.inl rfl) (by decide) (by decide) (.inl rfl) (by decide) (by decide) (by decide) (by decide +kernel)
  | 4, _ => exact bad_one (kids := [0]) (rs := []) (ce _ _ rfl) (ce _ _ rfl) (H 6 _ rfl) (hI _ [0] (H 5 _ rfl)) (by decide) (by decide) (.inl rfl) (by decide) (by decide) (by decide) (by decide +kernel)
  | 5, _ => exact bad_one (kids := []) (rs := []) (ce _ _ rfl) (ce _ _ rfl) (H 7 _ rfl) (.inl rfl) (by decide) (by decide) (.inl rfl) (by decide) (by decide) (by decide) (by decide +kernel)
  | 6, _ => exact bad_one (kids := []) (rs := []) (ce _ _ rfl) (ce _ _ rfl) (H 8 _ rfl) (.inl rfl) (by decide) (by decide) (.inl rfl) (by decide) (by decide) (by decide) (by decide +kernel)
  | 7, _ => exact bad_one (kids := [0]) (rs := []) (ce _ _ rfl) (ce _ _ rfl) (H 10 _ rfl) (hI _ [0] (H 9 _ rfl)) (by decide) (by decide) (.inl rfl) (by decide) (by decide) (by decide) (by decide +kernel)
  | 8, _ => exact bad_one (kids := [1]) (rs := []) (ce _ _ rfl) (ce _ _ rfl) (H 12 _ rfl) (hI _ [1] (H 11 _ rfl)) (by decide) (by decide) (.inl rfl) (by decide) (by decide) (by decide) (by decide +kernel)
  | 9, _ => exact bad_one (kids := [-1]) (rs := []) (ce _ _ rfl) (ce _ _ rfl) (H 14 _ rfl) (hI _ [-1] (H 13 _ rfl)) (by decide) (by decide) (.inl rfl) (by decide) (by decide) (by decide) (by decide +kernel)
  | 10, _ => exact bad_one (kids := []) (rs := []) (ce _ _ rfl) (ce _ _ rfl) (H 15 _ rfl) (.inl rfl) (by decide) (by decide) (.inl rfl) (by decide) (by decide) (by decide) (by decide +kernel)
  | 11, _ => exact bad_one (kids := []) (rs := []) (ce _ _ rfl) (ce _ _ rfl) (H 16 _ rfl) (.inl rfl) (by decide) (by decide) (.inl rfl) (by decide) (by decide) (by decide) (by decide +kernel)
  | 12, _ => exact bad_one (kids := []) (rs := [1]) (ce _ _ rfl) (ce _ _ rfl) (H 17 _ rfl) (.inl rfl) (by decide) (by decide) (hI _ [1] (H 18 _ rfl)) (by decide) (by decide) (by decide) (by decide +kernel)
  | 13, _ => exact bad_one (kids := []) (rs := [0, -1]) (ce _ _ rfl) (ce _ _ rfl) (H 19 _ rfl) (.inl rfl) (by decide) (by decide) (hI _ [0, -1] (H 20 _ rfl)) (by decide) (by decide) (by decide) (by decide +kernel)
  | 14, _ => exact ⟨none, [], 0, _, [0], _, ce _ _ rfl, ce _ _ rfl, ⟨fun j hj => by simp at hj, fun hj => by simp at hj⟩, ⟨by simp, fun x hx => by cases hx⟩, hI _ [0] (H 21 _ rfl), by simp, by decide +kernel⟩
  | i + 15, hi => omega
end Go.Proofs.YtjfeamfchgcblaaDoor
