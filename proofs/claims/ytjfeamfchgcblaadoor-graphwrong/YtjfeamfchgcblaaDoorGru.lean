/- The document's Uses. -/
import Derived.Test.YtjfeamfchgcblaaDoorGre
set_option linter.all false
set_option maxRecDepth 100000
namespace Go.Proofs.YtjfeamfchgcblaaDoor
open Go.RowKit

def incr (U : List Int) (k : Int) : List Int := U.set k.toNat (iAt U k.toNat + 1)
def incrs (U : List Int) (l : List Int) : List Int := l.foldl incr U
def usesF (G : List Gn) (U : List Int) (l : List Int) : List Int := l.foldl (fun U k => incrs U (kdN G k)) U
def usesP (rit rv : ByteArray → Bool) (G : List Gn) (rs : List Int) (r : Int) : List Int := if mayP rit rv G rs r = true then usesF G (incr (List.replicate G.length 0) r) (reachP rit rv G rs r) else []
theorem incr_len (U : List Int) (k : Int) : (incr U k).length = U.length := by unfold incr; simp
theorem incrs_len (U l : List Int) : (incrs U l).length = U.length := by
  unfold incrs
  induction l generalizing U with
  | nil => rfl
  | cons k l ih => rw [List.foldl_cons, ih, incr_len]
theorem rcF_range (G : List Gn) (n : Nat) (hG : ∀ x ∈ G, ∀ k ∈ x.kids, 0 ≤ k ∧ k.toNat < n) : ∀ f S T, (∀ k ∈ T, 0 ≤ k ∧ k.toNat < n) → ∀ k ∈ rcF G f S T, 0 ≤ k ∧ k.toNat < n := by
  intro f
  induction f with
  | zero => intro S T hT k hk; cases hk
  | succ f ih =>
    intro S T hT k hk
    cases T with
    | nil => cases hk
    | cons j T =>
      rw [rcF] at hk
      have hT' : ∀ k ∈ T, 0 ≤ k ∧ k.toNat < n := fun x hx => hT x (List.mem_cons_of_mem _ hx)
      split at hk
      · exact ih S T hT' k hk
      · rcases List.mem_cons.1 hk with rfl | hk
        · exact hT _ (List.mem_cons_self ..)
        · refine ih _ _ (fun x hx => ?_) k hk
          rcases List.mem_append.1 hx with h | h
          · unfold kdN at h
            by_cases hj : j.toNat < G.length
            · exact hG _ (gAt_mem hj) x h
            · unfold gAt at h
              rw [List.getElem?_eq_none (by omega)] at h
              cases h
          · exact hT' x h
theorem rcF_length (G : List Gn) : ∀ f S T, (rcF G f S T).length ≤ f := by
  intro f
  induction f with
  | zero => intro S T; exact Nat.le_refl _
  | succ f ih =>
    intro S T
    cases T with
    | nil => simp [rcF]
    | cons k T =>
      rw [rcF]
      split
      · have := ih S T; omega
      · have := ih (S.set k.toNat true) (kdN G k ++ T); rw [List.length_cons]; omega
/-- Counts in memory. -/
structure US (w0 : World) (ub bx : Nat) (gc : Array Value) (U : List Int) (a : Option Addr) (l : List Int) (wr : World) : Prop where
  bel : Below w0.heap.size w0 wr
  bx : wr.heap[bx]? = some (.cells gc 25)
  un : wr.heap[ub]? = some (.cells (U.map (Value.int .i64)).toArray 3)
  is : Is wr a l
  ne : ∀ x, a = some x → 0 < l.length → x.block ≠ ub
theorem US.cell {w0 : World} {ub bx : Nat} {gc : Array Value} {U : List Int} {a : Option Addr} {l : List Int} {wr : World} (h : US w0 ub bx gc U a l wr) {k : Nat} (hk : k < U.length) : wr.cell? ⟨ub, k, none⟩ = some (.int .i64 (iAt U k)) ∧ wr.frozen? ⟨ub, k, none⟩ = false := by
  constructor
  · simp [World.cell?, h.un, hk, iAt]
  · simp [World.frozen?, h.un]
theorem US.put {w0 : World} {ub bx : Nat} {gc : Array Value} {U : List Int} {a : Option Addr} {l : List Int} {wr : World} (ha : w0.heap.size ≤ ub) (hb : bx ≠ ub) (h : US w0 ub bx gc U a l wr) {k : Nat} (hk : k < U.length) (v : Int) :
    US w0 ub bx gc (U.set k v) a l (wr.setCell ⟨ub, k, none⟩ (.int .i64 v)) := by
  have hoth : ∀ j, j ≠ ub → (wr.setCell ⟨ub, k, none⟩ (.int .i64 v)).heap[j]? = wr.heap[j]? := fun j hj => Deep.blk_setCell_other _ _ _ _ hj
  have hg : wr.grownBy (wr.setCell ⟨ub, k, none⟩ (.int .i64 v)) (some ub) := ⟨rfl, rfl, rfl, by simp [World.setCell], fun j _ hne => hoth j (fun e => hne (by rw [e]))⟩
  refine ⟨h.bel.grown hg h.bel.size (fun j e => by cases e; exact ha), by rw [hoth bx hb]; exact h.bx, ?_, ?_, h.ne⟩
  · have hsn := h.un
    simp [World.setCell, Array.getElem?_modify, hsn]
  · rcases h.is with e | ⟨b, o, rfl, hc⟩
    · exact .inl e
    · by_cases hl : 0 < l.length
      · refine .inr ⟨b, o, rfl, fun j hj => ?_⟩
        rw [World.cell?_of_block (a := ⟨b, o + j, none⟩) (hoth b (h.ne _ rfl hl))]
        exact hc j hj
      · exact .inl (List.eq_nil_of_length_eq_zero (by omega))
/-- So many noughts. -/
theorem make_ints (n : Nat) (hn : n ≤ 1000000) (w : World) : ∃ w', (Instr.makeSlice 23 (.int .i64 (n : Int)) (.int .i64 (n : Int))).run Tryd.prog w = .ok (.slice (some ⟨w.heap.size, 0, none⟩) n n) w' ∧ w'.heap[w.heap.size]? = some (.cells ((List.replicate n (0 : Int)).map (Value.int .i64)).toArray 3) ∧ Below w.heap.size w w' ∧ w.heap.size < w'.heap.size := by
  obtain ⟨i0, hi, hz0, hz1, hz2⟩ := info_parts Tryd.info3
  obtain ⟨w', h1, h2, h3⟩ := run_make_full (P := Tryd.prog) w w.heap.size 23 3 i0 (.int .i64 0) 1 Tryd.underlying23 hi hz0 hz1 .i64 .i64 n (by rw [hz2]; omega) (by unfold maxLen; omega) (Nat.le_refl _)
  obtain ⟨a1, ⟨e, -⟩ | ⟨g, cap, cur, e, b1, b2, b3, b4, b5, b6⟩⟩ := h2
  · cases e
  · simp only [Value.slice.injEq, Option.some.injEq, Addr.mk.injEq] at e
    obtain ⟨⟨rfl, -, -⟩, -, rfl⟩ := e
    refine ⟨w', h1, ?_, ⟨h3.os, h3.tape, h3.output, h3.size, fun k hk => h3.block k hk (by simp)⟩, (Array.getElem?_eq_some_iff.1 b2).1⟩
    rw [b2]
    have hcur : cur = ((List.replicate n (0 : Int)).map (Value.int .i64)).toArray := by
      apply Array.ext'
      rw [List.take_of_length_le (by simp; omega)] at b6
      rw [b6]
      unfold madeCells
      apply List.ext_getElem
      · simp
      · intro i h1 h2
        simp [Value.cells]
        rw [Nat.mod_one]
        rfl
    rw [hcur]
theorem rReach_any {rit rv : ByteArray → Bool} (Lo : LowG rit rv) (p pr : Option Addr) (c cr : Nat) (G : List Gn) (rs : List Int) (r : Int) (w : World) (hG : Gs w p G) (hz : Gz G) (hI : Is w pr rs) (hr : rs.length ≤ 1000000) :
    Calls Tryd.prog 13 #[grV p G.length c pr rs.length cr, .int .i64 r] w fun e w' => ∃ v, e = .returned v ∧ OwnsI w' w.heap.size v (reachP rit rv G rs r) ∧ Below w.heap.size w w' :=
  (callsIn_wide (n := 9)).1 (rReach_in Lo p pr c cr G rs r w hG hz hI hr)
end Go.Proofs.YtjfeamfchgcblaaDoor
