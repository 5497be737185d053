/- Read of one line. -/
import Derived.Test.YtpiefdpcinjkpaaDoorRed
set_option linter.unusedVariables false
set_option linter.unusedSimpArgs false
namespace Go.Proofs.YtpiefdpcinjkpaaDoor
open Go.RowKit Go.Shelf

theorem keep_all {u : List Item} (h : ∀ x ∈ u, keepI x = true) : u.filter keepI = u := List.filter_eq_self.2 h
theorem readE_one (t : List Int) : readE [t] = flP true 0 t := by
  have h0 : flAt [t] 0 = flP true 0 t := rfl
  by_cases hf : flP true 0 t = 0
  · rw [hf]
    exact readE_none (fun k hk => by
      have : k = 0 := by simp at hk; omega
      subst this; rw [h0]; exact hf)
  · rw [readE_first (k := 0) (by simp) (fun j hj => by omega) (by rw [h0]; exact hf), h0]
theorem readT_one (t : List Int) (hf : flP true 0 t = 0) : readT [t] = (itP true 0 t).map (·.1) := by
  obtain ⟨h1, h2⟩ := itP_end true t 0 hf
  have ho : opnI false (itP true 0 t) = false := by
    cases h : opnI false (itP true 0 t) with
    | false => rfl
    | true => rcases h1 false h with ⟨e, -⟩ | ⟨_, _, _, e⟩ <;> cases e
  have hs : siAt [t] 1 = ⟨[itP true 0 t], [], false⟩ := by
    show siNext ⟨[], [], false⟩ t true = _
    unfold siNext
    show (if opnI false (itP true 0 t) then _ else _) = _
    rw [ho]
    rfl
  unfold readT
  show ((flI (siAt [t] 1).L (siAt [t] 1).L.length).1.filter keepI).map (·.1) = _
  rw [hs]
  have : (flI [itP true 0 t] 1).1 = itP true 0 t := by simp [flI, gstep, gAt, sepJ, trimI]
  show ((flI [itP true 0 t] 1).1.filter keepI).map (·.1) = _
  rw [this, keep_all (h2 false ho)]

/-- Read of a line that is laid in a list of its own. -/
theorem Read_one (q : Option Addr) (t : List Int) (c : Nat) (W : World) (hI : Is W q t) (hc : t.length ≤ c) (hm : c ≤ maxLen) (ht : t.length ≤ 1048576) (hT : Tab W) :
    Calls Tryd.prog 11 #[.slice (some ⟨W.heap.size, 0, none⟩) 1 1] (W.alloc (.cells #[.slice q t.length c] 25)) fun e w' => Below W.heap.size W w' ∧
      ((flP true 0 t ≠ 0 ∧ e = .returned (.tuple #[.slice none 0 0, .int .i64 (flP true 0 t : Nat)])) ∨ (flP true 0 t = 0 ∧ ∃ v, e = .returned (.tuple #[v, .int .i64 0]) ∧ Owns w' W.heap.size v ((itP true 0 t).map (·.1)))) := by
  have hM : Mt (W.alloc (.cells #[.slice q t.length c] 25)) (some ⟨W.heap.size, 0, none⟩) [⟨q, t, c⟩] := by
    have hb := World.alloc_heap_new W (.cells #[.slice q t.length c] 25)
    refine ⟨fun j r hr => ?_, .inr ⟨_, 0, rfl, fun j r hr => ?_⟩⟩
    · match j, hr with
      | 0, hr => cases hr; exact ⟨hc, hm, hI.alloc _⟩
      | j + 1, hr => simp at hr
    · match j, hr with
      | 0, hr => cases hr; unfold World.cell?; dsimp only; rw [hb]; rfl
      | j + 1, hr => simp at hr
  have RD := Read_any (some ⟨W.heap.size, 0, none⟩) [⟨q, t, c⟩] 1 _ hM (by simp) (by simp [totK, lAt]; exact ht) (hT.grown (grown_new _ _))
  refine RD.mono ?_
  rintro e w' ⟨hb, h⟩
  have e1 : ([⟨q, t, c⟩] : List Row).map (·.t) = [t] := rfl
  rw [e1, readE_one] at h
  refine ⟨(grown_below (grown_new _ _)).trans (hb.mono (by simp)), ?_⟩
  rcases h with h | ⟨h1, v, rfl, ho⟩
  · exact .inl h
  · rw [readT_one t h1] at ho
    exact .inr ⟨h1, v, rfl, ownsRow_mono ho (by simp)⟩

/-- A text without backslashes is itself. -/
theorem it_plain (last : Bool) : ∀ t : List Int, (∀ c ∈ t, c ≠ 92) → flP last 0 t = 0 ∧ itP last 0 t = t.map fun c => (c, false)
  | [], _ => ⟨rfl, rfl⟩
  | c :: t, h => by
    obtain ⟨h1, h2⟩ := it_plain last t (fun x hx => h x (by simp [hx]))
    have hc := h c (by simp)
    rw [flP, itP, if_neg hc, if_neg hc, h2]
    exact ⟨h1, rfl⟩
end Go.Proofs.YtpiefdpcinjkpaaDoor
