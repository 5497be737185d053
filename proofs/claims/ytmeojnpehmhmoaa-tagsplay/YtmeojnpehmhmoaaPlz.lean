/- TagsPlay, as it runs. -/
import Derived.Test.YtmeojnpehmhmoaaPst
import Derived.Test.YtmeojnpehmhmoaaBkl
set_option linter.all false
set_option maxRecDepth 100000
namespace Go.Proofs.Ytmeojnpehmhmoaa
open Go.RowKit Go.Shelf Go.Lib
attribute [local go_sem] Oper.semAt_some

/-- The pairs of a slice. -/
def Prs (w : World) (p : Option Addr) (L : List Mn) : Prop := ∀ i, i < L.length → ∃ b o, p = some ⟨b, o, none⟩ ∧ w.cell? ⟨b, o + i * 2, none⟩ = some (.string (mAt L i).1) ∧ w.cell? ⟨b, o + i * 2 + 1, none⟩ = some (.string (mAt L i).2)
theorem Prs.on {A B : World} {p : Option Addr} {L : List Mn} (h : Prs A p L) (hb : Below A.heap.size A B) : Prs B p L := fun i hi => by
  obtain ⟨b, o, e, h1, h2⟩ := h i hi
  have hlt := World.block_lt_of_cell? A _ h1
  exact ⟨b, o, e, (hb.cell (p := ⟨b, o + i * 2, none⟩) hlt).trans h1, (hb.cell (p := ⟨b, o + i * 2 + 1, none⟩) hlt).trans h2⟩
def sAt (Ws : List ByteArray) (i : Nat) : ByteArray := Ws[i]?.getD ⟨#[]⟩
/-- The texts of a slice. -/
def Sts (w : World) (p : Option Addr) (Ws : List ByteArray) : Prop := ∀ i, i < Ws.length → ∃ b o, p = some ⟨b, o, none⟩ ∧ w.cell? ⟨b, o + i, none⟩ = some (.string (sAt Ws i))
theorem Sts.on {A B : World} {p : Option Addr} {Ws : List ByteArray} (h : Sts A p Ws) (hb : Below A.heap.size A B) : Sts B p Ws := fun i hi => by
  obtain ⟨b, o, e, h1⟩ := h i hi
  exact ⟨b, o, e, (hb.cell (p := ⟨b, o + i, none⟩) (World.block_lt_of_cell? A _ h1)).trans h1⟩
/-- What nobody turns while the two are told the same. -/
def Sr (b o i : Nat) (x : Mn) (w : World) : Prop := w.cell? ⟨b, o + i * 2, none⟩ = some (.string x.1) ∧ w.cell? ⟨b, o + i * 2 + 1, none⟩ = some (.string x.2)

set_option maxHeartbeats 1600000 in
theorem play_small (a a2 : Option Addr) (c c2 : Nat) (L : List Mn) (Ws : List ByteArray) (w : World) (hL : Prs w a L) (hW : Sts w a2 Ws) (hn : L.length ≤ 20) (hn2 : Ws.length ≤ 20) (hq : ∀ x ∈ L, x.2.size ≤ 1000000000000000) :
    CallsIn Fence.wide 9 Try.prog 3 #[.slice a L.length c, .slice a2 Ws.length c2] w fun e w' => e = .returned (.bool true) ∧ Below w.heap.size w w' := by
  have AL := fun m => (callsIn_wide (n := m)).2 (alive_any w)
  have hn' : ¬ (20 : Int) < L.length := by omega
  have hn2' : ¬ (20 : Int) < Ws.length := by omega
  refine callsIn_of_wp Try.func3 rfl trivial ?_ rfl
  simp only [Try.ntmps3, List.size_toArray, List.length_cons, List.length_nil, Nat.reduceAdd, Nat.reduceSub, Array.replicate_succ, Array.replicate_zero, List.push_toArray, List.append_toArray, List.nil_append, List.cons_append]
  gi_wp2_with (first | (refine ⟨trivial, ?_⟩; gi_at_call 5; refine (AL _).mono ?_; rintro e w1 ⟨rfl, hB1⟩))
  clear AL
  have b1 := Boxed.new w1 27 (.slice none 0 0)
  have b2 := Boxed.new (w1.alloc (.cells #[.slice none 0 0] 27)) 27 (.slice none 0 0)
  have b3 := Boxed.new ((w1.alloc (.cells #[.slice none 0 0] 27)).alloc (.cells #[.slice none 0 0] 27)) 31 (.slice none 0 0)
  have s1 : (w1.alloc (.cells #[.slice none 0 0] 27)).heap.size = w1.heap.size + 1 := by simp
  have s2 : ((w1.alloc (.cells #[.slice none 0 0] 27)).alloc (.cells #[.slice none 0 0] 27)).heap.size = w1.heap.size + 1 + 1 := by simp
  have s3 : (((w1.alloc (.cells #[.slice none 0 0] 27)).alloc (.cells #[.slice none 0 0] 27)).alloc (.cells #[.slice none 0 0] 31)).heap.size = w1.heap.size + 1 + 1 + 1 := by simp
  rw [s1] at b2
  rw [s2] at b3
  have b1' := (b1.alloc (.cells #[.slice none 0 0] 27)).alloc (.cells #[.slice none 0 0] 31)
  have b2' := b2.alloc (.cells #[.slice none 0 0] 31)
  have hB2 := ((hB1.alloc hB1.size (.cells #[.slice none 0 0] 27)).alloc (by simp; have := hB1.size; omega) (.cells #[.slice none 0 0] 27)).alloc (by simp; have := hB1.size; omega) (.cells #[.slice none 0 0] 31)
  have hsz1 := hB1.size
  generalize ((w1.alloc (.cells #[.slice none 0 0] 27)).alloc (.cells #[.slice none 0 0] 27)).alloc (.cells #[.slice none 0 0] 31) = w2 at b1' b2' b3 hB2 s3 ⊢
  clear b1 b2 s1 s2 hB1
  generalize w1.heap.size = bs at *
  have hPB : PB w (bs + 1 + 1 + 1) bs (bs + 1) (bs + 1 + 1) := ⟨by omega, by omega, by omega, by omega, by omega, by omega, by omega, by omega, by omega⟩
  have hP0 : PS w (bs + 1 + 1 + 1) bs (bs + 1) (bs + 1 + 1) (.slice none 0 0) [] [] w2 :=
    ⟨hB2, by omega, b3, ⟨rfl, .inl ⟨rfl, rfl⟩⟩, Sc.zero _ b1' (by omega) (by omega), Sc.zero _ b2' (by omega) (by omega)⟩
  clear b1' b2' b3 hB2 s3 hsz1
  gi_loopw [9] (fun ri wr => ∃ (i : Nat) (v : Value) (D Do : List Mn), i ≤ L.length ∧ ri = .int .i64 i ∧ Hid (D.length ≤ i ∧ Do.length ≤ i ∧ ∀ x ∈ D, x ∈ L) ∧ PS w (bs + 1 + 1 + 1) bs (bs + 1) (bs + 1 + 1) v D Do wr) (fun ri _ => L.length - (RowKit.intOf ri).toNat)
  case atStart => exact ⟨0, _, [], [], Nat.zero_le _, rfl, ⟨by simp, by simp, by simp⟩, hP0⟩
  case round =>
    clear hP0
    obtain ⟨i, v, D, Do, hi, rfl, hD, hP⟩ := hrel
    by_cases hlt : i < L.length
    · obtain ⟨b, o, rfl, l1, l2⟩ := hL i hlt
      have hlt' : (i : Int) < L.length := by omega
      obtain ⟨hD1, hD2, hD3⟩ := hD.out
      have SO := fun m => (callsIn_wide (n := m)).2 (Set_any (bs + 1 + 1 + 1) (bs + 1) (Xv v) Do ⟨#[33]⟩ ⟨#[120]⟩ wr hP.lt hP.o (by omega))
      have hbl := World.block_lt_of_cell? w _ l1
      dsimp only at hbl
      have hmem : mAt L i ∈ L := by rw [mAt_get hlt]; exact List.getElem_mem hlt
      generalize mAt L i = x at l1 l2 hmem
      gi_wp2_with (first | (first | refine ⟨trivial, (fun h => by cases h), ?_⟩ | refine ⟨trivial, ?_⟩); gi_at_call 6; refine (SO _).mono ?_; rintro e w3 ⟨rfl, g3, S3⟩)
      have hP3 := hP.stepO hPB g3 S3
      have hP3d : PS w (bs + 1 + 1 + 1) bs (bs + 1) (bs + 1 + 1) v D (setD Do ⟨#[33]⟩ ⟨#[120]⟩) w3.drew := hP3.on ((Below.refl _ _).drew)
      replace hP3 := hP3d
      clear hP3d SO hP
      have SS := fun m => (callsIn_wide (n := m)).2 (Set_any (bs + 1 + 1 + 1) bs (Xv v) D x.1 x.2 w3.drew hP3.lt hP3.s (by omega))
      have T3 : Sr b o i x w3.drew := ⟨(hP3.bel.cell (p := ⟨b, o + i * 2, none⟩) hbl).trans l1, (hP3.bel.cell (p := ⟨b, o + i * 2 + 1, none⟩) hbl).trans l2⟩
      refine region_pick (Sr b o i x) (by kernel_rfl) ?_
      show Any _ _ _ _ _ _ 24 #[false, false, false, false, false, false, false, false, false, false, false, false, false, false, false, false, false, false, false, false, false, false, false, false] { tmps := #[_, _, _, _, _, _, _, _, _, _, _, _, _, _, _, _, _, _, _, _, _, _, _, _, _, _, _, _, _, _, _, _, _, _, _, _, _, _, _, _, _, _, _, _, _, _, _, _, _, _, _, _, _, _, _, _, _, _, _, _, _, _, _, _, _, _, _, _, _, _, _, _, _, _, _, _, _, _, _, _, _, _, _, _, _, _, _, _, _, _, _, _, _, _, _, _, _, _, _, _], defers := [] } w3.drew
      refine Any.take (i := 0) (v := (.slice (some ⟨b, o, none⟩) L.length c)) (wideF) rfl (by kernel_rfl) (by kernel_rfl) (by kernel_rfl) (fun _ _ _ h => h) (.inl ⟨rfl, fun w _ => by go_simp⟩) T3 ?_
      show Any _ _ _ _ _ _ 23 #[true, false, false, false, false, false, false, false, false, false, false, false, false, false, false, false, false, false, false, false, false, false, false, false] { tmps := #[_, _, _, _, _, _, _, _, _, _, _, _, _, _, _, _, _, _, _, _, _, _, _, _, _, _, _, _, _, _, _, _, _, _, _, _, _, _, (.slice (some ⟨b, o, none⟩) L.length c), _, _, _, _, _, _, _, _, _, _, _, _, _, _, _, _, _, _, _, _, _, _, _, _, _, _, _, _, _, _, _, _, _, _, _, _, _, _, _, _, _, _, _, _, _, _, _, _, _, _, _, _, _, _, _, _, _, _, _, _, _], defers := [] } w3.drew
      refine Any.take (i := 1) (v := (.int .i64 (i : Nat))) (wideF) rfl (by kernel_rfl) (by kernel_rfl) (by kernel_rfl) (fun _ _ _ h => h) (.inl ⟨rfl, fun w _ => by go_simp⟩) T3 ?_
      show Any _ _ _ _ _ _ 22 #[true, true, false, false, false, false, false, false, false, false, false, false, false, false, false, false, false, false, false, false, false, false, false, false] { tmps := #[_, _, _, _, _, _, _, _, _, _, _, _, _, _, _, _, _, _, _, _, _, _, _, _, _, _, _, _, _, _, _, _, _, _, _, _, _, _, (.slice (some ⟨b, o, none⟩) L.length c), (.int .i64 (i : Nat)), _, _, _, _, _, _, _, _, _, _, _, _, _, _, _, _, _, _, _, _, _, _, _, _, _, _, _, _, _, _, _, _, _, _, _, _, _, _, _, _, _, _, _, _, _, _, _, _, _, _, _, _, _, _, _, _, _, _, _, _], defers := [] } w3.drew
      refine Any.take (i := 2) (v := (.pointer (some ⟨b, o + i * 2, none⟩))) (wideF) rfl (by kernel_rfl) (by kernel_rfl) (by kernel_rfl) (fun _ _ _ h => h) (.inl ⟨rfl, fun w _ => by go_simp⟩) T3 ?_
      show Any _ _ _ _ _ _ 21 #[true, true, true, false, false, false, false, false, false, false, false, false, false, false, false, false, false, false, false, false, false, false, false, false] { tmps := #[_, _, _, _, _, _, _, _, _, _, _, _, _, _, _, _, _, _, _, _, _, _, _, _, _, _, _, _, _, _, _, _, _, _, _, _, _, _, (.slice (some ⟨b, o, none⟩) L.length c), (.int .i64 (i : Nat)), (.pointer (some ⟨b, o + i * 2, none⟩)), _, _, _, _, _, _, _, _, _, _, _, _, _, _, _, _, _, _, _, _, _, _, _, _, _, _, _, _, _, _, _, _, _, _, _, _, _, _, _, _, _, _, _, _, _, _, _, _, _, _, _, _, _, _, _, _, _, _, _], defers := [] } w3.drew
      refine Any.take (i := 3) (v := (.pointer (some ⟨b, o + i * 2, none⟩))) (wideF) rfl (by kernel_rfl) (by kernel_rfl) (by kernel_rfl) (fun _ _ _ h => h) (.inl ⟨rfl, fun w _ => by go_simp⟩) T3 ?_
      show Any _ _ _ _ _ _ 20 #[true, true, true, true, false, false, false, false, false, false, false, false, false, false, false, false, false, false, false, false, false, false, false, false] { tmps := #[_, _, _, _, _, _, _, _, _, _, _, _, _, _, _, _, _, _, _, _, _, _, _, _, _, _, _, _, _, _, _, _, _, _, _, _, _, _, (.slice (some ⟨b, o, none⟩) L.length c), (.int .i64 (i : Nat)), (.pointer (some ⟨b, o + i * 2, none⟩)), (.pointer (some ⟨b, o + i * 2, none⟩)), _, _, _, _, _, _, _, _, _, _, _, _, _, _, _, _, _, _, _, _, _, _, _, _, _, _, _, _, _, _, _, _, _, _, _, _, _, _, _, _, _, _, _, _, _, _, _, _, _, _, _, _, _, _, _, _, _, _], defers := [] } w3.drew
      refine Any.take (i := 4) (v := (.string x.1)) (wideF) rfl (by kernel_rfl) (by kernel_rfl) (by kernel_rfl) (fun _ _ _ h => h) (.inl ⟨rfl, fun w hw => by have r1 := hw.1; have r2 := hw.2; go_simp⟩) T3 ?_
      show Any _ _ _ _ _ _ 19 #[true, true, true, true, true, false, false, false, false, false, false, false, false, false, false, false, false, false, false, false, false, false, false, false] { tmps := #[_, _, _, _, _, _, _, _, _, _, _, _, _, _, _, _, _, _, _, _, _, _, _, _, _, _, _, _, _, _, _, _, _, _, _, _, _, _, (.slice (some ⟨b, o, none⟩) L.length c), (.int .i64 (i : Nat)), (.pointer (some ⟨b, o + i * 2, none⟩)), (.pointer (some ⟨b, o + i * 2, none⟩)), (.string x.1), _, _, _, _, _, _, _, _, _, _, _, _, _, _, _, _, _, _, _, _, _, _, _, _, _, _, _, _, _, _, _, _, _, _, _, _, _, _, _, _, _, _, _, _, _, _, _, _, _, _, _, _, _, _, _, _, _], defers := [] } w3.drew
      refine Any.take (i := 5) (v := (.slice (some ⟨b, o, none⟩) L.length c)) (wideF) rfl (by kernel_rfl) (by kernel_rfl) (by kernel_rfl) (fun _ _ _ h => h) (.inl ⟨rfl, fun w _ => by go_simp⟩) T3 ?_
      show Any _ _ _ _ _ _ 18 #[true, true, true, true, true, true, false, false, false, false, false, false, false, false, false, false, false, false, false, false, false, false, false, false] { tmps := #[_, _, _, _, _, _, _, _, _, _, _, _, _, _, _, _, _, _, _, _, _, _, _, _, _, _, _, _, _, _, _, _, _, _, _, _, _, _, (.slice (some ⟨b, o, none⟩) L.length c), (.int .i64 (i : Nat)), (.pointer (some ⟨b, o + i * 2, none⟩)), (.pointer (some ⟨b, o + i * 2, none⟩)), (.string x.1), (.slice (some ⟨b, o, none⟩) L.length c), _, _, _, _, _, _, _, _, _, _, _, _, _, _, _, _, _, _, _, _, _, _, _, _, _, _, _, _, _, _, _, _, _, _, _, _, _, _, _, _, _, _, _, _, _, _, _, _, _, _, _, _, _, _, _, _], defers := [] } w3.drew
      refine Any.take (i := 6) (v := (.int .i64 (i : Nat))) (wideF) rfl (by kernel_rfl) (by kernel_rfl) (by kernel_rfl) (fun _ _ _ h => h) (.inl ⟨rfl, fun w _ => by go_simp⟩) T3 ?_
      show Any _ _ _ _ _ _ 17 #[true, true, true, true, true, true, true, false, false, false, false, false, false, false, false, false, false, false, false, false, false, false, false, false] { tmps := #[_, _, _, _, _, _, _, _, _, _, _, _, _, _, _, _, _, _, _, _, _, _, _, _, _, _, _, _, _, _, _, _, _, _, _, _, _, _, (.slice (some ⟨b, o, none⟩) L.length c), (.int .i64 (i : Nat)), (.pointer (some ⟨b, o + i * 2, none⟩)), (.pointer (some ⟨b, o + i * 2, none⟩)), (.string x.1), (.slice (some ⟨b, o, none⟩) L.length c), (.int .i64 (i : Nat)), _, _, _, _, _, _, _, _, _, _, _, _, _, _, _, _, _, _, _, _, _, _, _, _, _, _, _, _, _, _, _, _, _, _, _, _, _, _, _, _, _, _, _, _, _, _, _, _, _, _, _, _, _, _, _], defers := [] } w3.drew
      refine Any.take (i := 7) (v := (.pointer (some ⟨b, o + i * 2, none⟩))) (wideF) rfl (by kernel_rfl) (by kernel_rfl) (by kernel_rfl) (fun _ _ _ h => h) (.inl ⟨rfl, fun w _ => by go_simp⟩) T3 ?_
      show Any _ _ _ _ _ _ 16 #[true, true, true, true, true, true, true, true, false, false, false, false, false, false, false, false, false, false, false, false, false, false, false, false] { tmps := #[_, _, _, _, _, _, _, _, _, _, _, _, _, _, _, _, _, _, _, _, _, _, _, _, _, _, _, _, _, _, _, _, _, _, _, _, _, _, (.slice (some ⟨b, o, none⟩) L.length c), (.int .i64 (i : Nat)), (.pointer (some ⟨b, o + i * 2, none⟩)), (.pointer (some ⟨b, o + i * 2, none⟩)), (.string x.1), (.slice (some ⟨b, o, none⟩) L.length c), (.int .i64 (i : Nat)), (.pointer (some ⟨b, o + i * 2, none⟩)), _, _, _, _, _, _, _, _, _, _, _, _, _, _, _, _, _, _, _, _, _, _, _, _, _, _, _, _, _, _, _, _, _, _, _, _, _, _, _, _, _, _, _, _, _, _, _, _, _, _, _, _, _, _], defers := [] } w3.drew
      refine Any.take (i := 8) (v := (.pointer (some ⟨b, o + i * 2 + 1, none⟩))) (wideF) rfl (by kernel_rfl) (by kernel_rfl) (by kernel_rfl) (fun _ _ _ h => h) (.inl ⟨rfl, fun w _ => by go_simp⟩) T3 ?_
      show Any _ _ _ _ _ _ 15 #[true, true, true, true, true, true, true, true, true, false, false, false, false, false, false, false, false, false, false, false, false, false, false, false] { tmps := #[_, _, _, _, _, _, _, _, _, _, _, _, _, _, _, _, _, _, _, _, _, _, _, _, _, _, _, _, _, _, _, _, _, _, _, _, _, _, (.slice (some ⟨b, o, none⟩) L.length c), (.int .i64 (i : Nat)), (.pointer (some ⟨b, o + i * 2, none⟩)), (.pointer (some ⟨b, o + i * 2, none⟩)), (.string x.1), (.slice (some ⟨b, o, none⟩) L.length c), (.int .i64 (i : Nat)), (.pointer (some ⟨b, o + i * 2, none⟩)), (.pointer (some ⟨b, o + i * 2 + 1, none⟩)), _, _, _, _, _, _, _, _, _, _, _, _, _, _, _, _, _, _, _, _, _, _, _, _, _, _, _, _, _, _, _, _, _, _, _, _, _, _, _, _, _, _, _, _, _, _, _, _, _, _, _, _, _], defers := [] } w3.drew
      refine Any.take (i := 9) (v := (.string x.2)) (wideF) rfl (by kernel_rfl) (by kernel_rfl) (by kernel_rfl) (fun _ _ _ h => h) (.inl ⟨rfl, fun w hw => by have r1 := hw.1; have r2 := hw.2; go_simp⟩) T3 ?_
      show Any _ _ _ _ _ _ 14 #[true, true, true, true, true, true, true, true, true, true, false, false, false, false, false, false, false, false, false, false, false, false, false, false] { tmps := #[_, _, _, _, _, _, _, _, _, _, _, _, _, _, _, _, _, _, _, _, _, _, _, _, _, _, _, _, _, _, _, _, _, _, _, _, _, _, (.slice (some ⟨b, o, none⟩) L.length c), (.int .i64 (i : Nat)), (.pointer (some ⟨b, o + i * 2, none⟩)), (.pointer (some ⟨b, o + i * 2, none⟩)), (.string x.1), (.slice (some ⟨b, o, none⟩) L.length c), (.int .i64 (i : Nat)), (.pointer (some ⟨b, o + i * 2, none⟩)), (.pointer (some ⟨b, o + i * 2 + 1, none⟩)), (.string x.2), _, _, _, _, _, _, _, _, _, _, _, _, _, _, _, _, _, _, _, _, _, _, _, _, _, _, _, _, _, _, _, _, _, _, _, _, _, _, _, _, _, _, _, _, _, _, _, _, _, _, _, _], defers := [] } w3.drew
      refine Any.take (i := 11) (v := (.pointer (some ⟨bs + 1 + 1, 0, none⟩))) (wideF) rfl (by kernel_rfl) (by kernel_rfl) (by kernel_rfl) (fun _ _ _ h => h) (.inl ⟨rfl, fun w _ => by go_simp⟩) T3 ?_
      show Any _ _ _ _ _ _ 13 #[true, true, true, true, true, true, true, true, true, true, false, true, false, false, false, false, false, false, false, false, false, false, false, false] { tmps := #[_, _, _, _, _, _, _, _, _, _, _, _, _, _, _, _, _, _, _, _, _, _, _, _, _, _, _, _, _, _, _, _, _, _, _, _, _, _, (.slice (some ⟨b, o, none⟩) L.length c), (.int .i64 (i : Nat)), (.pointer (some ⟨b, o + i * 2, none⟩)), (.pointer (some ⟨b, o + i * 2, none⟩)), (.string x.1), (.slice (some ⟨b, o, none⟩) L.length c), (.int .i64 (i : Nat)), (.pointer (some ⟨b, o + i * 2, none⟩)), (.pointer (some ⟨b, o + i * 2 + 1, none⟩)), (.string x.2), _, (.pointer (some ⟨bs + 1 + 1, 0, none⟩)), _, _, _, _, _, _, _, _, _, _, _, _, _, _, _, _, _, _, _, _, _, _, _, _, _, _, _, _, _, _, _, _, _, _, _, _, _, _, _, _, _, _, _, _, _, _, _, _, _, _], defers := [] } w3.drew
      refine Any.take (i := 12) (v := (.slice (some ⟨b, o, none⟩) L.length c)) (wideF) rfl (by kernel_rfl) (by kernel_rfl) (by kernel_rfl) (fun _ _ _ h => h) (.inl ⟨rfl, fun w _ => by go_simp⟩) T3 ?_
      show Any _ _ _ _ _ _ 12 #[true, true, true, true, true, true, true, true, true, true, false, true, true, false, false, false, false, false, false, false, false, false, false, false] { tmps := #[_, _, _, _, _, _, _, _, _, _, _, _, _, _, _, _, _, _, _, _, _, _, _, _, _, _, _, _, _, _, _, _, _, _, _, _, _, _, (.slice (some ⟨b, o, none⟩) L.length c), (.int .i64 (i : Nat)), (.pointer (some ⟨b, o + i * 2, none⟩)), (.pointer (some ⟨b, o + i * 2, none⟩)), (.string x.1), (.slice (some ⟨b, o, none⟩) L.length c), (.int .i64 (i : Nat)), (.pointer (some ⟨b, o + i * 2, none⟩)), (.pointer (some ⟨b, o + i * 2 + 1, none⟩)), (.string x.2), _, (.pointer (some ⟨bs + 1 + 1, 0, none⟩)), (.slice (some ⟨b, o, none⟩) L.length c), _, _, _, _, _, _, _, _, _, _, _, _, _, _, _, _, _, _, _, _, _, _, _, _, _, _, _, _, _, _, _, _, _, _, _, _, _, _, _, _, _, _, _, _, _, _, _, _, _], defers := [] } w3.drew
      refine Any.take (i := 13) (v := (.int .i64 (i : Nat))) (wideF) rfl (by kernel_rfl) (by kernel_rfl) (by kernel_rfl) (fun _ _ _ h => h) (.inl ⟨rfl, fun w _ => by go_simp⟩) T3 ?_
      show Any _ _ _ _ _ _ 11 #[true, true, true, true, true, true, true, true, true, true, false, true, true, true, false, false, false, false, false, false, false, false, false, false] { tmps := #[_, _, _, _, _, _, _, _, _, _, _, _, _, _, _, _, _, _, _, _, _, _, _, _, _, _, _, _, _, _, _, _, _, _, _, _, _, _, (.slice (some ⟨b, o, none⟩) L.length c), (.int .i64 (i : Nat)), (.pointer (some ⟨b, o + i * 2, none⟩)), (.pointer (some ⟨b, o + i * 2, none⟩)), (.string x.1), (.slice (some ⟨b, o, none⟩) L.length c), (.int .i64 (i : Nat)), (.pointer (some ⟨b, o + i * 2, none⟩)), (.pointer (some ⟨b, o + i * 2 + 1, none⟩)), (.string x.2), _, (.pointer (some ⟨bs + 1 + 1, 0, none⟩)), (.slice (some ⟨b, o, none⟩) L.length c), (.int .i64 (i : Nat)), _, _, _, _, _, _, _, _, _, _, _, _, _, _, _, _, _, _, _, _, _, _, _, _, _, _, _, _, _, _, _, _, _, _, _, _, _, _, _, _, _, _, _, _, _, _, _, _], defers := [] } w3.drew
      refine Any.take (i := 14) (v := (.pointer (some ⟨b, o + i * 2, none⟩))) (wideF) rfl (by kernel_rfl) (by kernel_rfl) (by kernel_rfl) (fun _ _ _ h => h) (.inl ⟨rfl, fun w _ => by go_simp⟩) T3 ?_
      show Any _ _ _ _ _ _ 10 #[true, true, true, true, true, true, true, true, true, true, false, true, true, true, true, false, false, false, false, false, false, false, false, false] { tmps := #[_, _, _, _, _, _, _, _, _, _, _, _, _, _, _, _, _, _, _, _, _, _, _, _, _, _, _, _, _, _, _, _, _, _, _, _, _, _, (.slice (some ⟨b, o, none⟩) L.length c), (.int .i64 (i : Nat)), (.pointer (some ⟨b, o + i * 2, none⟩)), (.pointer (some ⟨b, o + i * 2, none⟩)), (.string x.1), (.slice (some ⟨b, o, none⟩) L.length c), (.int .i64 (i : Nat)), (.pointer (some ⟨b, o + i * 2, none⟩)), (.pointer (some ⟨b, o + i * 2 + 1, none⟩)), (.string x.2), _, (.pointer (some ⟨bs + 1 + 1, 0, none⟩)), (.slice (some ⟨b, o, none⟩) L.length c), (.int .i64 (i : Nat)), (.pointer (some ⟨b, o + i * 2, none⟩)), _, _, _, _, _, _, _, _, _, _, _, _, _, _, _, _, _, _, _, _, _, _, _, _, _, _, _, _, _, _, _, _, _, _, _, _, _, _, _, _, _, _, _, _, _, _, _], defers := [] } w3.drew
      refine Any.take (i := 15) (v := (.pointer (some ⟨b, o + i * 2, none⟩))) (wideF) rfl (by kernel_rfl) (by kernel_rfl) (by kernel_rfl) (fun _ _ _ h => h) (.inl ⟨rfl, fun w _ => by go_simp⟩) T3 ?_
      show Any _ _ _ _ _ _ 9 #[true, true, true, true, true, true, true, true, true, true, false, true, true, true, true, true, false, false, false, false, false, false, false, false] { tmps := #[_, _, _, _, _, _, _, _, _, _, _, _, _, _, _, _, _, _, _, _, _, _, _, _, _, _, _, _, _, _, _, _, _, _, _, _, _, _, (.slice (some ⟨b, o, none⟩) L.length c), (.int .i64 (i : Nat)), (.pointer (some ⟨b, o + i * 2, none⟩)), (.pointer (some ⟨b, o + i * 2, none⟩)), (.string x.1), (.slice (some ⟨b, o, none⟩) L.length c), (.int .i64 (i : Nat)), (.pointer (some ⟨b, o + i * 2, none⟩)), (.pointer (some ⟨b, o + i * 2 + 1, none⟩)), (.string x.2), _, (.pointer (some ⟨bs + 1 + 1, 0, none⟩)), (.slice (some ⟨b, o, none⟩) L.length c), (.int .i64 (i : Nat)), (.pointer (some ⟨b, o + i * 2, none⟩)), (.pointer (some ⟨b, o + i * 2, none⟩)), _, _, _, _, _, _, _, _, _, _, _, _, _, _, _, _, _, _, _, _, _, _, _, _, _, _, _, _, _, _, _, _, _, _, _, _, _, _, _, _, _, _, _, _, _, _], defers := [] } w3.drew
      refine Any.take (i := 16) (v := (.string x.1)) (wideF) rfl (by kernel_rfl) (by kernel_rfl) (by kernel_rfl) (fun _ _ _ h => h) (.inl ⟨rfl, fun w hw => by have r1 := hw.1; have r2 := hw.2; go_simp⟩) T3 ?_
      show Any _ _ _ _ _ _ 8 #[true, true, true, true, true, true, true, true, true, true, false, true, true, true, true, true, true, false, false, false, false, false, false, false] { tmps := #[_, _, _, _, _, _, _, _, _, _, _, _, _, _, _, _, _, _, _, _, _, _, _, _, _, _, _, _, _, _, _, _, _, _, _, _, _, _, (.slice (some ⟨b, o, none⟩) L.length c), (.int .i64 (i : Nat)), (.pointer (some ⟨b, o + i * 2, none⟩)), (.pointer (some ⟨b, o + i * 2, none⟩)), (.string x.1), (.slice (some ⟨b, o, none⟩) L.length c), (.int .i64 (i : Nat)), (.pointer (some ⟨b, o + i * 2, none⟩)), (.pointer (some ⟨b, o + i * 2 + 1, none⟩)), (.string x.2), _, (.pointer (some ⟨bs + 1 + 1, 0, none⟩)), (.slice (some ⟨b, o, none⟩) L.length c), (.int .i64 (i : Nat)), (.pointer (some ⟨b, o + i * 2, none⟩)), (.pointer (some ⟨b, o + i * 2, none⟩)), (.string x.1), _, _, _, _, _, _, _, _, _, _, _, _, _, _, _, _, _, _, _, _, _, _, _, _, _, _, _, _, _, _, _, _, _, _, _, _, _, _, _, _, _, _, _, _, _], defers := [] } w3.drew
      refine Any.take (i := 17) (v := (.slice (some ⟨b, o, none⟩) L.length c)) (wideF) rfl (by kernel_rfl) (by kernel_rfl) (by kernel_rfl) (fun _ _ _ h => h) (.inl ⟨rfl, fun w _ => by go_simp⟩) T3 ?_
      show Any _ _ _ _ _ _ 7 #[true, true, true, true, true, true, true, true, true, true, false, true, true, true, true, true, true, true, false, false, false, false, false, false] { tmps := #[_, _, _, _, _, _, _, _, _, _, _, _, _, _, _, _, _, _, _, _, _, _, _, _, _, _, _, _, _, _, _, _, _, _, _, _, _, _, (.slice (some ⟨b, o, none⟩) L.length c), (.int .i64 (i : Nat)), (.pointer (some ⟨b, o + i * 2, none⟩)), (.pointer (some ⟨b, o + i * 2, none⟩)), (.string x.1), (.slice (some ⟨b, o, none⟩) L.length c), (.int .i64 (i : Nat)), (.pointer (some ⟨b, o + i * 2, none⟩)), (.pointer (some ⟨b, o + i * 2 + 1, none⟩)), (.string x.2), _, (.pointer (some ⟨bs + 1 + 1, 0, none⟩)), (.slice (some ⟨b, o, none⟩) L.length c), (.int .i64 (i : Nat)), (.pointer (some ⟨b, o + i * 2, none⟩)), (.pointer (some ⟨b, o + i * 2, none⟩)), (.string x.1), (.slice (some ⟨b, o, none⟩) L.length c), _, _, _, _, _, _, _, _, _, _, _, _, _, _, _, _, _, _, _, _, _, _, _, _, _, _, _, _, _, _, _, _, _, _, _, _, _, _, _, _, _, _, _, _], defers := [] } w3.drew
      refine Any.take (i := 18) (v := (.int .i64 (i : Nat))) (wideF) rfl (by kernel_rfl) (by kernel_rfl) (by kernel_rfl) (fun _ _ _ h => h) (.inl ⟨rfl, fun w _ => by go_simp⟩) T3 ?_
      show Any _ _ _ _ _ _ 6 #[true, true, true, true, true, true, true, true, true, true, false, true, true, true, true, true, true, true, true, false, false, false, false, false] { tmps := #[_, _, _, _, _, _, _, _, _, _, _, _, _, _, _, _, _, _, _, _, _, _, _, _, _, _, _, _, _, _, _, _, _, _, _, _, _, _, (.slice (some ⟨b, o, none⟩) L.length c), (.int .i64 (i : Nat)), (.pointer (some ⟨b, o + i * 2, none⟩)), (.pointer (some ⟨b, o + i * 2, none⟩)), (.string x.1), (.slice (some ⟨b, o, none⟩) L.length c), (.int .i64 (i : Nat)), (.pointer (some ⟨b, o + i * 2, none⟩)), (.pointer (some ⟨b, o + i * 2 + 1, none⟩)), (.string x.2), _, (.pointer (some ⟨bs + 1 + 1, 0, none⟩)), (.slice (some ⟨b, o, none⟩) L.length c), (.int .i64 (i : Nat)), (.pointer (some ⟨b, o + i * 2, none⟩)), (.pointer (some ⟨b, o + i * 2, none⟩)), (.string x.1), (.slice (some ⟨b, o, none⟩) L.length c), (.int .i64 (i : Nat)), _, _, _, _, _, _, _, _, _, _, _, _, _, _, _, _, _, _, _, _, _, _, _, _, _, _, _, _, _, _, _, _, _, _, _, _, _, _, _, _, _, _, _], defers := [] } w3.drew
      refine Any.take (i := 19) (v := (.pointer (some ⟨b, o + i * 2, none⟩))) (wideF) rfl (by kernel_rfl) (by kernel_rfl) (by kernel_rfl) (fun _ _ _ h => h) (.inl ⟨rfl, fun w _ => by go_simp⟩) T3 ?_
      show Any _ _ _ _ _ _ 5 #[true, true, true, true, true, true, true, true, true, true, false, true, true, true, true, true, true, true, true, true, false, false, false, false] { tmps := #[_, _, _, _, _, _, _, _, _, _, _, _, _, _, _, _, _, _, _, _, _, _, _, _, _, _, _, _, _, _, _, _, _, _, _, _, _, _, (.slice (some ⟨b, o, none⟩) L.length c), (.int .i64 (i : Nat)), (.pointer (some ⟨b, o + i * 2, none⟩)), (.pointer (some ⟨b, o + i * 2, none⟩)), (.string x.1), (.slice (some ⟨b, o, none⟩) L.length c), (.int .i64 (i : Nat)), (.pointer (some ⟨b, o + i * 2, none⟩)), (.pointer (some ⟨b, o + i * 2 + 1, none⟩)), (.string x.2), _, (.pointer (some ⟨bs + 1 + 1, 0, none⟩)), (.slice (some ⟨b, o, none⟩) L.length c), (.int .i64 (i : Nat)), (.pointer (some ⟨b, o + i * 2, none⟩)), (.pointer (some ⟨b, o + i * 2, none⟩)), (.string x.1), (.slice (some ⟨b, o, none⟩) L.length c), (.int .i64 (i : Nat)), (.pointer (some ⟨b, o + i * 2, none⟩)), _, _, _, _, _, _, _, _, _, _, _, _, _, _, _, _, _, _, _, _, _, _, _, _, _, _, _, _, _, _, _, _, _, _, _, _, _, _, _, _, _, _], defers := [] } w3.drew
      refine Any.take (i := 20) (v := (.pointer (some ⟨b, o + i * 2 + 1, none⟩))) (wideF) rfl (by kernel_rfl) (by kernel_rfl) (by kernel_rfl) (fun _ _ _ h => h) (.inl ⟨rfl, fun w _ => by go_simp⟩) T3 ?_
      show Any _ _ _ _ _ _ 4 #[true, true, true, true, true, true, true, true, true, true, false, true, true, true, true, true, true, true, true, true, true, false, false, false] { tmps := #[_, _, _, _, _, _, _, _, _, _, _, _, _, _, _, _, _, _, _, _, _, _, _, _, _, _, _, _, _, _, _, _, _, _, _, _, _, _, (.slice (some ⟨b, o, none⟩) L.length c), (.int .i64 (i : Nat)), (.pointer (some ⟨b, o + i * 2, none⟩)), (.pointer (some ⟨b, o + i * 2, none⟩)), (.string x.1), (.slice (some ⟨b, o, none⟩) L.length c), (.int .i64 (i : Nat)), (.pointer (some ⟨b, o + i * 2, none⟩)), (.pointer (some ⟨b, o + i * 2 + 1, none⟩)), (.string x.2), _, (.pointer (some ⟨bs + 1 + 1, 0, none⟩)), (.slice (some ⟨b, o, none⟩) L.length c), (.int .i64 (i : Nat)), (.pointer (some ⟨b, o + i * 2, none⟩)), (.pointer (some ⟨b, o + i * 2, none⟩)), (.string x.1), (.slice (some ⟨b, o, none⟩) L.length c), (.int .i64 (i : Nat)), (.pointer (some ⟨b, o + i * 2, none⟩)), (.pointer (some ⟨b, o + i * 2 + 1, none⟩)), _, _, _, _, _, _, _, _, _, _, _, _, _, _, _, _, _, _, _, _, _, _, _, _, _, _, _, _, _, _, _, _, _, _, _, _, _, _, _, _, _], defers := [] } w3.drew
      refine Any.take (i := 21) (v := (.string x.2)) (wideF) rfl (by kernel_rfl) (by kernel_rfl) (by kernel_rfl) (fun _ _ _ h => h) (.inl ⟨rfl, fun w hw => by have r1 := hw.1; have r2 := hw.2; go_simp⟩) T3 ?_
      show Any _ _ _ _ _ _ 3 #[true, true, true, true, true, true, true, true, true, true, false, true, true, true, true, true, true, true, true, true, true, true, false, false] { tmps := #[_, _, _, _, _, _, _, _, _, _, _, _, _, _, _, _, _, _, _, _, _, _, _, _, _, _, _, _, _, _, _, _, _, _, _, _, _, _, (.slice (some ⟨b, o, none⟩) L.length c), (.int .i64 (i : Nat)), (.pointer (some ⟨b, o + i * 2, none⟩)), (.pointer (some ⟨b, o + i * 2, none⟩)), (.string x.1), (.slice (some ⟨b, o, none⟩) L.length c), (.int .i64 (i : Nat)), (.pointer (some ⟨b, o + i * 2, none⟩)), (.pointer (some ⟨b, o + i * 2 + 1, none⟩)), (.string x.2), _, (.pointer (some ⟨bs + 1 + 1, 0, none⟩)), (.slice (some ⟨b, o, none⟩) L.length c), (.int .i64 (i : Nat)), (.pointer (some ⟨b, o + i * 2, none⟩)), (.pointer (some ⟨b, o + i * 2, none⟩)), (.string x.1), (.slice (some ⟨b, o, none⟩) L.length c), (.int .i64 (i : Nat)), (.pointer (some ⟨b, o + i * 2, none⟩)), (.pointer (some ⟨b, o + i * 2 + 1, none⟩)), (.string x.2), _, _, _, _, _, _, _, _, _, _, _, _, _, _, _, _, _, _, _, _, _, _, _, _, _, _, _, _, _, _, _, _, _, _, _, _, _, _, _, _], defers := [] } w3.drew
      refine Any.one (i := 10) (by kernel_rfl) rfl rfl (fun K hK => ?_)
      go_simp
      (first | refine ⟨trivial, (fun h => by cases h), ?_⟩ | refine ⟨trivial, ?_⟩)
      refine (SS _).mono ?_
      clear SS
      rintro en w4 ⟨rfl, g4, S4⟩
      have P4 := hP3.stepS hPB g4 S4
      obtain ⟨k1, k2, k3, k4, k5⟩ := P4
      have T4 : Sr b o i x w4 := ⟨(k1.cell (p := ⟨b, o + i * 2, none⟩) hbl).trans l1, (k1.cell (p := ⟨b, o + i * 2 + 1, none⟩) hbl).trans l2⟩
      have RR := fun m => (callsIn_wide (n := m)).2 (rSet_any (bs + 1 + 1 + 1) (bs + 1 + 1) v D x.1 x.2 w4 (by omega) k2 k3 k4 (by omega))
      refine hK _ _ T4 ?_
      clear hK K
      show Any _ _ _ _ _ _ 2 #[true, true, true, true, true, true, true, true, true, true, true, true, true, true, true, true, true, true, true, true, true, true, false, false] { tmps := #[_, _, _, _, _, _, _, _, _, _, _, _, _, _, _, _, _, _, _, _, _, _, _, _, _, _, _, _, _, _, _, _, _, _, _, _, _, _, (.slice (some ⟨b, o, none⟩) L.length c), (.int .i64 (i : Nat)), (.pointer (some ⟨b, o + i * 2, none⟩)), (.pointer (some ⟨b, o + i * 2, none⟩)), (.string x.1), (.slice (some ⟨b, o, none⟩) L.length c), (.int .i64 (i : Nat)), (.pointer (some ⟨b, o + i * 2, none⟩)), (.pointer (some ⟨b, o + i * 2 + 1, none⟩)), (.string x.2), (.bool (look D x.1).isNone), (.pointer (some ⟨bs + 1 + 1, 0, none⟩)), (.slice (some ⟨b, o, none⟩) L.length c), (.int .i64 (i : Nat)), (.pointer (some ⟨b, o + i * 2, none⟩)), (.pointer (some ⟨b, o + i * 2, none⟩)), (.string x.1), (.slice (some ⟨b, o, none⟩) L.length c), (.int .i64 (i : Nat)), (.pointer (some ⟨b, o + i * 2, none⟩)), (.pointer (some ⟨b, o + i * 2 + 1, none⟩)), (.string x.2), _, _, _, _, _, _, _, _, _, _, _, _, _, _, _, _, _, _, _, _, _, _, _, _, _, _, _, _, _, _, _, _, _, _, _, _, _, _, _, _], defers := [] } w4
      refine Any.one (i := 22) (by kernel_rfl) rfl rfl (fun K hK => ?_)
      go_simp
      (first | refine ⟨trivial, (fun h => by cases h), ?_⟩ | refine ⟨trivial, ?_⟩)
      refine (RR _).mono ?_
      clear RR
      rintro en w5 ⟨rfl, R5⟩
      obtain ⟨v5, hP5⟩ := PS.stepR hPB k1 k2 k4 k5 S4 R5
      have T5 : Sr b o i x w5 := ⟨(hP5.bel.cell (p := ⟨b, o + i * 2, none⟩) hbl).trans l1, (hP5.bel.cell (p := ⟨b, o + i * 2 + 1, none⟩) hbl).trans l2⟩
      refine hK _ _ T5 ?_
      clear hK K
      show Any _ _ _ _ _ _ 1 #[true, true, true, true, true, true, true, true, true, true, true, true, true, true, true, true, true, true, true, true, true, true, true, false] { tmps := #[_, _, _, _, _, _, _, _, _, _, _, _, _, _, _, _, _, _, _, _, _, _, _, _, _, _, _, _, _, _, _, _, _, _, _, _, _, _, (.slice (some ⟨b, o, none⟩) L.length c), (.int .i64 (i : Nat)), (.pointer (some ⟨b, o + i * 2, none⟩)), (.pointer (some ⟨b, o + i * 2, none⟩)), (.string x.1), (.slice (some ⟨b, o, none⟩) L.length c), (.int .i64 (i : Nat)), (.pointer (some ⟨b, o + i * 2, none⟩)), (.pointer (some ⟨b, o + i * 2 + 1, none⟩)), (.string x.2), (.bool (look D x.1).isNone), (.pointer (some ⟨bs + 1 + 1, 0, none⟩)), (.slice (some ⟨b, o, none⟩) L.length c), (.int .i64 (i : Nat)), (.pointer (some ⟨b, o + i * 2, none⟩)), (.pointer (some ⟨b, o + i * 2, none⟩)), (.string x.1), (.slice (some ⟨b, o, none⟩) L.length c), (.int .i64 (i : Nat)), (.pointer (some ⟨b, o + i * 2, none⟩)), (.pointer (some ⟨b, o + i * 2 + 1, none⟩)), (.string x.2), (.bool (look D x.1).isNone), _, _, _, _, _, _, _, _, _, _, _, _, _, _, _, _, _, _, _, _, _, _, _, _, _, _, _, _, _, _, _, _, _, _, _, _, _, _, _], defers := [] } w5
      refine Any.take (i := 23) (v := (.bool false)) (wideF) rfl (by kernel_rfl) (by kernel_rfl) (by kernel_rfl) (fun _ _ _ h => h) (.inl ⟨rfl, fun w _ => by go_simp⟩) T5 ?_
      show Any _ _ _ _ _ _ 0 #[true, true, true, true, true, true, true, true, true, true, true, true, true, true, true, true, true, true, true, true, true, true, true, true] { tmps := #[_, _, _, _, _, _, _, _, _, _, _, _, _, _, _, _, _, _, _, _, _, _, _, _, _, _, _, _, _, _, _, _, _, _, _, _, _, _, (.slice (some ⟨b, o, none⟩) L.length c), (.int .i64 (i : Nat)), (.pointer (some ⟨b, o + i * 2, none⟩)), (.pointer (some ⟨b, o + i * 2, none⟩)), (.string x.1), (.slice (some ⟨b, o, none⟩) L.length c), (.int .i64 (i : Nat)), (.pointer (some ⟨b, o + i * 2, none⟩)), (.pointer (some ⟨b, o + i * 2 + 1, none⟩)), (.string x.2), (.bool (look D x.1).isNone), (.pointer (some ⟨bs + 1 + 1, 0, none⟩)), (.slice (some ⟨b, o, none⟩) L.length c), (.int .i64 (i : Nat)), (.pointer (some ⟨b, o + i * 2, none⟩)), (.pointer (some ⟨b, o + i * 2, none⟩)), (.string x.1), (.slice (some ⟨b, o, none⟩) L.length c), (.int .i64 (i : Nat)), (.pointer (some ⟨b, o + i * 2, none⟩)), (.pointer (some ⟨b, o + i * 2 + 1, none⟩)), (.string x.2), (.bool (look D x.1).isNone), (.bool false), _, _, _, _, _, _, _, _, _, _, _, _, _, _, _, _, _, _, _, _, _, _, _, _, _, _, _, _, _, _, _, _, _, _, _, _, _, _], defers := [] } w5
      refine Any.done (by kernel_rfl) ?_
      rename_i Kb hKb
      refine hKb _ _ ?_
      clear hKb
      have HD : Hid ((setD D x.1 x.2).length ≤ i + 1 ∧ (setD Do ⟨#[33]⟩ ⟨#[120]⟩).length ≤ i + 1 ∧ ∀ y ∈ setD D x.1 x.2, y ∈ L) := ⟨by have := setD_len D x.1 x.2; omega, by have := setD_len Do ⟨#[33]⟩ ⟨#[120]⟩; omega, fun y hy => by
        rcases setD_mem hy with h | h
        · exact hD3 y h
        · rw [h]; exact hmem⟩
      gi_wp2
      go_roundw
      case rel => exact ⟨i + 1, v5, _, _, by omega, by go_num, HD.out, hP5⟩
      case measure => simp [RowKit.intOf]; omega
    · obtain rfl : i = L.length := by omega
      obtain ⟨hD1, hD2, hD3⟩ := hD.out
      have hq2 : ∀ x ∈ D, x.2.size ≤ 1000000000000000 := fun x hx => hq x (hD3 x hx)
      have hDl : D.length ≤ 50 := by omega
      clear hD hD2 hD3 hq hL hD1
      obtain ⟨wo, rfl⟩ : ∃ wo : World, wo = wr := ⟨_, rfl⟩
      gi_wp2
      gi_loopw [10] (fun rj wr => ∃ (j : Nat), j ≤ Ws.length ∧ rj = .int .i64 j ∧ PS w (bs + 1 + 1 + 1) bs (bs + 1) (bs + 1 + 1) v D Do wr) (fun rj _ => Ws.length - (RowKit.intOf rj).toNat)
      case atStart => exact ⟨0, Nat.zero_le _, rfl, hP⟩
      case round =>
        obtain ⟨j, hj, rfl, hPr⟩ := hrel
        clear hP
        by_cases hjl : j < Ws.length
        · obtain ⟨b2, o2, rfl, n1⟩ := (hW.on hPr.bel) j hjl
          have hjl' : (j : Int) < Ws.length := by omega
          generalize sAt Ws j = s at n1
          by_cases hs : s.size ≤ 200
          · have hs' : ¬ (200 : Int) < s.size := by omega
            obtain ⟨r, A1, A2⟩ := whole_both D s (by omega) hDl hq2
            have W8 := fun m => (callsIn_wide (n := m)).2 (A1 _ wr hPr.s.tels)
            unfold whoV at A2 W8
            have n2 := fun (W : World) (hb : Below wr.heap.size wr W) => (hb.cell (p := ⟨b2, o2 + j, none⟩) (World.block_lt_of_cell? wr _ n1)).trans n1
            have NM := fun m W => (callsIn_wide (n := m)).2 (num_any r.2 W)
            clear A1
            gi_wp2_with (first
              | (first | refine ⟨trivial, (fun h => by cases h), ?_⟩ | refine ⟨trivial, ?_⟩); gi_at_call 8; refine (W8 _).mono ?_; rintro e w6 ⟨rfl, hb6⟩; have hP6 := hPr.on hb6; have n3 := n2 _ hb6; have W9 := fun m => (callsIn_wide (n := m)).2 (A2 _ _ v w6 hP6.bx hP6.ow)
              | (first | refine ⟨trivial, (fun h => by cases h), ?_⟩ | refine ⟨trivial, ?_⟩); gi_at_call 9; refine (W9 _).mono ?_; rintro e w7 ⟨rfl, hb7⟩; have hP7 := hP6.on hb7
              | (first | refine ⟨trivial, (fun h => by cases h), ?_⟩ | refine ⟨trivial, ?_⟩); gi_at_call 10; refine (NM _ _).mono ?_; rintro e w8 ⟨rfl, rfl⟩)
            go_roundw
            case rel => exact ⟨j + 1, by omega, by go_num, hP7⟩
            case measure => simp [RowKit.intOf]; omega
          · have hs' : (200 : Int) < s.size := by omega
            gi_wp2
            go_ret
            exact ⟨rfl, hPr.bel⟩
        · obtain rfl : j = Ws.length := by omega
          gi_wp2
          go_ret
          exact ⟨rfl, hPr.bel⟩
set_option maxHeartbeats 1600000 in
theorem play_law (a a2 : Option Addr) (c c2 : Nat) (L : List Mn) (Ws : List ByteArray) (w : World) (hL : Prs w a L) (hW : Sts w a2 Ws) (hl : L.length ≤ maxLen) (hl2 : Ws.length ≤ maxLen) (hq : ∀ x ∈ L, x.2.size ≤ 1000000000000000) :
    Calls Try.prog 3 #[.slice a L.length c, .slice a2 Ws.length c2] w fun e w' => e = .returned (.bool true) ∧ Below w.heap.size w w' := by
  by_cases hn : L.length ≤ 20
  · by_cases hn2 : Ws.length ≤ 20
    · exact (callsIn_wide (n := 9)).1 (play_small a a2 c c2 L Ws w hL hW hn hn2 hq)
    · have AL := alive_any w
      have h1 : ¬ (20 : Int) < L.length := by omega
      have h2 : (20 : Int) < Ws.length := by omega
      go_enter Try.func3, Try.ntmps3
      go_wp2_with (first | (go_at_call 5; refine AL.mono ?_; rintro e w1 ⟨rfl, hB1⟩))
      go_ret
      exact ⟨rfl, hB1⟩
  · have AL := alive_any w
    have h1 : (20 : Int) < L.length := by omega
    go_enter Try.func3, Try.ntmps3
    go_wp2_with (first | (go_at_call 5; refine AL.mono ?_; rintro e w1 ⟨rfl, hB1⟩))
    go_ret
    exact ⟨rfl, hB1⟩
end Go.Proofs.Ytmeojnpehmhmoaa
