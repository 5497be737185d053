/- utf.Points for any bytes whatever: the mark is passed by, the form told. -/
import Derived.Test.YtdkodepeglpimaaDoorPts
set_option linter.unusedVariables false
set_option linter.unusedSimpArgs false
namespace Go.Proofs.YtdkodepeglpimaaDoor
open Go.RowKit Go.Shelf

theorem slice_from (p : Option Addr) (len cap m : Nat) (hm : m ≤ len) (hl : len ≤ cap) (w2 : World) :
    (Instr.slice 22 (.slice p len cap) (some (.int .i64 m)) none none).run Tryd.prog w2 = .ok (.slice (if cap = m then p else p.map (·.add m)) (len - m) (cap - m)) w2 := by
  have h0 : (m : Int) ≤ len := by omega
  have h1 : (len : Int) ≤ cap := by omega
  have u := Tryd.underlying22
  have z := Tryd.sizeOf5
  simp [go_sem, h0, h1]

theorem add_plain (b o m : Nat) : (⟨b, o, none⟩ : Addr).add m = ⟨b, o + m, none⟩ := by unfold Addr.add; split <;> simp_all
theorem add_block (a : Addr) (m : Nat) : (a.add m).block = a.block := by unfold Addr.add; split <;> rfl

theorem Lies.from {n₀ : Nat} {w : World} {p : Option Addr} {l : List UInt8} (h : Lies n₀ w p l) (cap m : Nat) (hl : l.length ≤ cap) : Lies n₀ w (if cap = m then p else p.map (·.add m)) (l.drop m) := by
  obtain ⟨h1, h2, h3, h4⟩ := h
  refine ⟨?_, h2, h3, ?_⟩
  · split
    · refine .inl (List.drop_eq_nil_of_le (by omega))
    · rcases h1 with rfl | ⟨b, o, rfl, hc⟩
      · exact .inl (by simp)
      · rw [Option.map_some, add_plain]
        exact Bs.drop (.inr ⟨b, o, rfl, hc⟩) m
  · intro a ha hlen
    have hlen' : 0 < l.length := by simp at hlen; omega
    split at ha
    · exact h4 a ha hlen'
    · cases p with
      | none => simp at ha
      | some a' => simp at ha; rw [← ha, add_block]; exact h4 a' rfl hlen'

theorem beginsB_le {l : List UInt8} {m : ByteArray} (h : beginsB l m = true) : m.size ≤ l.length := by unfold beginsB at h; simp at h; exact h.1

theorem marked_size (l : List UInt8) : 0 ≤ (markedP l).2 ∧ (markedP l).2 ≤ l.length := by
  unfold markedP
  by_cases h1 : beginsB l ⟨#[0, 0, 254, 255]⟩ = true
  · have := beginsB_le h1; rw [if_pos h1]; simp [ByteArray.size] at this; simp; omega
  rw [if_neg h1]
  by_cases h2 : beginsB l ⟨#[255, 254, 0, 0]⟩ = true
  · have := beginsB_le h2; rw [if_pos h2]; simp [ByteArray.size] at this; simp; omega
  rw [if_neg h2]
  by_cases h3 : beginsB l ⟨#[254, 255]⟩ = true
  · have := beginsB_le h3; rw [if_pos h3]; simp [ByteArray.size] at this; simp; omega
  rw [if_neg h3]
  by_cases h4 : beginsB l ⟨#[255, 254]⟩ = true
  · have := beginsB_le h4; rw [if_pos h4]; simp [ByteArray.size] at this; simp; omega
  rw [if_neg h4]
  by_cases h5 : beginsB l ⟨#[239, 187, 191]⟩ = true
  · have := beginsB_le h5; rw [if_pos h5]; simp [ByteArray.size] at this; simp; omega
  rw [if_neg h5]
  simp

theorem form_size (l : List UInt8) : 0 ≤ (formP l).2 ∧ (formP l).2 ≤ l.length := by
  unfold formP
  split
  · exact marked_size l
  · simp

/-- The code points of any bytes, and the error's number. -/
def ptsOf (l : List UInt8) : List Int × Int :=
  if 1048576 < l.length then ([], 3)
  else if rightP (formP l).1 (l.drop (formP l).2.toNat) then (ptsP (formP l).1 (l.drop (formP l).2.toNat), 0) else ([], 4)

theorem Points_any (p : Option Addr) (l : List UInt8) (cap : Nat) (w : World) (hl : l.length ≤ cap) (hc : cap ≤ maxLen) (hL : Lies w.heap.size w p l) :
    Calls Tryd.prog 9 #[.slice p l.length cap] w fun e w' => ∃ v, e = .returned (.tuple #[v, .int .i64 (ptsOf l).2]) ∧ w'.ownsRow w.heap.size 3 1 v (ptsOf l).1.length ((ptsOf l).1.map (.int .i64)) ∧ Below w.heap.size w w' := by
  by_cases hlong : 1048576 < l.length
  · have e : ptsOf l = ([], 3) := by unfold ptsOf; rw [if_pos hlong]
    rw [e]
    refine (Points_long p l.length cap w (by omega)).mono ?_
    rintro e w' ⟨rfl, hb⟩
    exact ⟨_, rfl, World.ownsRow_nil _ _ _ _, hb⟩
  · obtain ⟨f0, f1⟩ := form_size l
    obtain ⟨m, hm⟩ := Int.eq_ofNat_of_zero_le f0
    have hml : m ≤ l.length := by omega
    have C := Points_in 3 (Nat.le_refl _) p (if cap = m then p else p.map (·.add m)) l.length cap m (formP l).1 (l.drop m) w (by omega) (by simp) (by simp; omega) hc
      (fun w2 hb => callsIn_wide.2 (by
        have := form_any p l cap w2 hl hc (hL.1.below hL.2.2.2 hb)
        rw [hm] at this
        exact this))
      (fun w2 => by rw [slice_from p l.length cap m hml hl w2, List.length_drop]) (hL.from cap m hl)
    refine ((callsIn_wide (n := 3)).1 C).mono ?_
    rintro e w' ⟨v, ec, rfl, hb, ⟨hr, rfl, ho⟩ | ⟨hr, rfl, rfl⟩⟩
    · have e : ptsOf l = (ptsP (formP l).1 (l.drop m), 0) := by unfold ptsOf; rw [if_neg hlong, hm, Int.toNat_natCast, if_pos hr]
      rw [e]
      exact ⟨_, rfl, ho, hb⟩
    · have e : ptsOf l = ([], 4) := by unfold ptsOf; rw [if_neg hlong, hm, Int.toNat_natCast, if_neg (by simp [hr])]
      rw [e]
      exact ⟨_, rfl, World.ownsRow_nil _ _ _ _, hb⟩
end Go.Proofs.YtdkodepeglpimaaDoor
