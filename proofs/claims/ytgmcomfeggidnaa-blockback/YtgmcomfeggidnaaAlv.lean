/- Read of any lines and header; the document's example: alive answers true. -/
import Derived.Test.YtgmcomfeggidnaaRed
import Derived.Test.YtgmcomfeggidnaaHea
set_option linter.unusedVariables false
set_option linter.unusedSimpArgs false
namespace Go.Proofs.Ytgmcomfeggidnaa
open Go.RowKit Go.Shelf

set_option maxRecDepth 100000 in
set_option maxHeartbeats 1000000 in
theorem Read_none (f : Bool) (chomp more n : Int) (p : Option Addr) (L : List Ln) (cap : Nat) (w : World) (hB : Bnd L) (hL : Ls w p L) (hn : n ≤ 1000) (hm0 : 0 ≤ more) (hm1 : more ≤ 9) (hind : indP L more (max n (-1)) = none) :
    Calls Try.prog 12 #[.slice p L.length cap, .agg #[.bool f, .int .i64 chomp, .int .i64 more], .int .i64 n] w fun e w' => e = .returned (.tuple #[.string ⟨#[]⟩, .int .i64 0, .int .i64 7]) ∧ Below w.heap.size w w' := by
  have hb0 : Below w.heap.size w (w.alloc (.cells #[.bool f, .int .i64 chomp, .int .i64 more] 25)) := (Below.refl _ w).alloc (Nat.le_refl _) _
  have ID := indentOf_any p L cap more (max n (-1)) _ hB (hL.on hb0) (by omega) (by omega) hm0 hm1
  rw [hind] at ID
  unfold indV at ID
  dsimp only at ID
  have HB : Hid _ := hb0
  clear hb0 hind hL hB
  go_enter Try.func12, Try.ntmps12
  go_wp2_with (first | (go_at_call 20; refine ID.mono ?_; rintro e w2 ⟨rfl, hb2⟩))
  go_ret3
  exact ⟨rfl, HB.out.trans (hb2.mono (by simp))⟩

/-- What Read answers. -/
def readV (f : Bool) (chomp more n : Int) (L : List Ln) : Value :=
  match indP L more (max n (-1)) with
  | some ind => .tuple #[.string (strB (encZ (readT f chomp ind L))), .int .i64 (tkN ind L : Nat), .int .i64 0]
  | none => .tuple #[.string ⟨#[]⟩, .int .i64 0, .int .i64 7]

theorem Read_any (f : Bool) (chomp more n : Int) (p : Option Addr) (L : List Ln) (cap : Nat) (w : World) (hB : Bnd L) (hL : Ls w p L) (hn : n ≤ 1000) (hm0 : 0 ≤ more) (hm1 : more ≤ 9) :
    Calls Try.prog 12 #[.slice p L.length cap, .agg #[.bool f, .int .i64 chomp, .int .i64 more], .int .i64 n] w fun e w' => e = .returned (readV f chomp more n L) ∧ Below w.heap.size w w' := by
  unfold readV
  cases h : indP L more (max n (-1)) with
  | none => exact Read_none f chomp more n p L cap w hB hL hn hm0 hm1 h
  | some ind => exact Read_some f chomp more n p L cap w ind hB hL hn hm0 hm1 h

theorem num_any (x : Int) (w : World) : Calls Try.prog 10 #[.int .i64 x] w fun e w' => e = .returned (.int .i64 x) ∧ w' = w := by
  go_enter Try.func10, Try.ntmps10
  go_wp2
  go_ret
  exact ⟨rfl, rfl⟩

def lnC (x : Ln) : List Value := [.int .i64 x.n, .slice x.q x.t.length x.c]
theorem lnC_at : ∀ (L : List Ln) (j : Nat) (x : Ln), L[j]? = some x → (L.flatMap lnC)[j * 2]? = some (.int .i64 x.n) ∧ (L.flatMap lnC)[j * 2 + 1]? = some (.slice x.q x.t.length x.c)
  | [], j, x, h => by simp at h
  | y :: r, 0, x, h => by simp at h; subst h; exact ⟨rfl, rfl⟩
  | y :: r, j + 1, x, h => by
    have := lnC_at r j x (by simpa using h)
    have e : (y :: r).flatMap lnC = .int .i64 y.n :: .slice y.q y.t.length y.c :: r.flatMap lnC := rfl
    rw [e, show (j + 1) * 2 = j * 2 + 1 + 1 by omega]
    exact this
/-- Lines that lie in one block. -/
theorem ls_block {W : World} {b : Nat} {L : List Ln} {f : Nat × Nat} (h : W.heap[b]? = some (.cells (L.flatMap lnC).toArray 44 f)) (hx : ∀ (j : Nat) (x : Ln), L[j]? = some x → x.t.length ≤ x.c ∧ x.c ≤ maxLen ∧ Is W x.q x.t) : Ls W (some ⟨b, 0, none⟩) L := by
  refine ⟨hx, .inr ⟨b, 0, rfl, fun j x hj => ?_⟩⟩
  have h1 : ∀ o, W.cell? ⟨b, o, none⟩ = (L.flatMap lnC)[o]? := fun o => by
    show (match W.heap[b]? with | some (.cells c _ _) => c[o]? | _ => none) = _
    rw [h]
    simp
  obtain ⟨a1, a2⟩ := lnC_at L j x hj
  rw [Nat.zero_add]
  exact ⟨(h1 _).trans a1, (h1 _).trans a2⟩

theorem ex_head : headP [124, 45] = some (false, 1, 0) := by decide +kernel
theorem ex_read (q : Option Addr) (c : Nat) : readV false 1 0 (-1) [⟨2, q, [97], c⟩] = .tuple #[.string ⟨#[97]⟩, .int .i64 1, .int .i64 0] := by
  have h1 : indP [⟨2, q, [97], c⟩] 0 (max (-1) (-1)) = some 2 := by simp [indP, leadN, wideN, markP]
  have h2 : tkN 2 [⟨2, q, [97], c⟩] = 1 := by simp [tkN, endsP, markP]
  have h3 : pcsP 2 [⟨2, q, [97], c⟩] = [[97]] := by
    unfold pcsP
    rw [h2]
    simp [behP]
  unfold readV
  rw [h1]
  dsimp only
  rw [h2]
  unfold readT
  rw [h3, show wholeT (fp false) (rowsOf [[97]]) 1 = [97] from by decide +kernel, show encZ [97] = [97] from by decide +kernel]
  rfl

theorem ex_call (w : World) : Calls Try.prog 12 #[.slice (some ⟨w.heap.size + 1 + 1, 0, none⟩) 1 1, .agg #[.bool false, .int .i64 1, .int .i64 0], .int .i64 (-1)]
    (((w.alloc (.cells #[.bool false, .int .i64 1, .int .i64 0] 25)).alloc (.cells #[.int .i64 97] 3)).alloc (.cells #[.int .i64 2, .slice (some ⟨w.heap.size + 1, 0, none⟩) 1 1] 44)) fun e w' => e = .returned (.tuple #[.string ⟨#[97]⟩, .int .i64 1, .int .i64 0]) ∧ w'.cell? ⟨w.heap.size, 1, none⟩ = some (.int .i64 1) ∧ Below w.heap.size w w' := by
  obtain ⟨A, hA⟩ : ∃ A, ((w.alloc (.cells #[.bool false, .int .i64 1, .int .i64 0] 25)).alloc (.cells #[.int .i64 97] 3)).alloc (.cells #[.int .i64 2, .slice (some ⟨w.heap.size + 1, 0, none⟩) 1 1] 44) = A := ⟨_, rfl⟩
  have hb : Below w.heap.size w A := by rw [← hA]; exact (((Below.refl _ w).alloc (Nat.le_refl _) _).alloc (by simp) _).alloc (by simp; omega) _
  have h1 : A.heap[w.heap.size + 1]? = some (.cells #[.int .i64 97] 3) := by
    rw [← hA]
    have := World.alloc_heap_new (w.alloc (.cells #[.bool false, .int .i64 1, .int .i64 0] 25)) (.cells #[.int .i64 97] 3)
    rw [World.size_alloc] at this
    exact (Below.heap_alloc _ _ _ (by simp)).trans this
  have h2 : A.heap[w.heap.size + 1 + 1]? = some (.cells #[.int .i64 2, .slice (some ⟨w.heap.size + 1, 0, none⟩) 1 1] 44) := by
    rw [← hA]
    have := World.alloc_heap_new ((w.alloc (.cells #[.bool false, .int .i64 1, .int .i64 0] 25)).alloc (.cells #[.int .i64 97] 3)) (.cells #[.int .i64 2, .slice (some ⟨w.heap.size + 1, 0, none⟩) 1 1] 44)
    rw [World.size_alloc, World.size_alloc] at this
    exact this
  have hs : A.heap.size = w.heap.size + 3 := by rw [← hA]; simp
  have h0 : Hb A w.heap.size 25 false 1 0 := by
    rw [← hA]
    exact ((Hb.new w 25 false 1 0).on ((Below.refl _ _).alloc (Nat.le_refl _) _)).on ((Below.refl _ _).alloc (Nat.le_refl _) _)
  rw [hA]
  have hL : Ls A (some ⟨w.heap.size + 1 + 1, 0, none⟩) [⟨2, some ⟨w.heap.size + 1, 0, none⟩, [97], 1⟩] := ls_block h2 (fun j x hj => by
    match j, hj with
    | 0, hj => cases hj; exact ⟨by simp, (by decide : 1 ≤ maxLen), is_of_block (l := [97]) h1⟩
    | j + 1, hj => simp at hj)
  have R := Read_any false 1 0 (-1) _ _ 1 A ⟨by simp, fun j x hj => by
    match j, hj with
    | 0, hj => cases hj; simp
    | j + 1, hj => simp at hj⟩ hL (by decide) (by decide) (by decide)
  rw [ex_read] at R
  exact R.mono fun e w' ⟨he, hb'⟩ => ⟨he, (hb'.cell (p := ⟨w.heap.size, 1, none⟩) (by show w.heap.size < _; omega)).trans h0.cells.2.1, hb.trans (hb'.mono hb.size)⟩

set_option maxRecDepth 100000 in
set_option maxHeartbeats 1000000 in
theorem alive_any (w : World) : Calls Try.prog 7 #[] w fun e w' => e = .returned (.bool true) ∧ Below w.heap.size w w' := by
  have hb0 : Below w.heap.size w (w.alloc (.cells #[.int .i64 124, .int .i64 45] 3)) := (Below.refl _ w).alloc (Nat.le_refl _) _
  have HD := Head_any (some ⟨w.heap.size, 0, none⟩) [124, 45] 2 (w.alloc (.cells #[.int .i64 124, .int .i64 45] 3)) (by simp) (by simp) (by decide) (is_of_block (l := [124, 45]) (World.alloc_heap_new w _))
  rw [ex_head] at HD
  unfold headV at HD
  simp only [List.length_cons, List.length_nil, Nat.reduceAdd] at HD
  have HB : Hid (Below w.heap.size w (w.alloc (.cells #[.int .i64 124, .int .i64 45] 3))) := hb0
  clear hb0
  go_enter Try.func7, Try.ntmps7
  go_wp2_with (first | (go_at_call 8; refine HD.mono ?_; rintro e w2 ⟨rfl, hb2⟩) | (go_at_call 12; refine (ex_call _).mono ?_; rintro e w3 ⟨rfl, ch3, hb3⟩) | (go_at_call 10; refine (num_any _ _).mono ?_; rintro e w' ⟨rfl, rfl⟩))
  go_ret
  exact ⟨rfl, HB.out.trans ((hb2.mono (by simp)).trans (hb3.mono (by have := hb2.size; simp at this; omega)))⟩
end Go.Proofs.Ytgmcomfeggidnaa
