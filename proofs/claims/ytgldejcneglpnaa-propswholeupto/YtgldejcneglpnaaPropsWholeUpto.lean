/- For every text and either flag, where what comes in is of bulk at most 1048576: PropsWhole answers true: a tag between angles is what stands between them, and one without is all up to a blank. The one condition: that bulk. -/
import Derived.Test.YtgldejcneglpnaaWhf
import Derived.Test.YtgldejcneglpnaaWht
import Derived.Test.YtgldejcneglpnaaBase
import Derived.JoinedCond
import Derived.ChangeMaps5
set_option linter.unusedVariables false
set_option linter.unusedSimpArgs false
namespace Go.Proofs.Ytgldejcneglpnaa.propsWhole
open Go.ChangeShapes Go.WideShapes Go.ChangeAt Go.RowKit Go.Shelf Go.ChangeMaps

set_option maxRecDepth 100000 in
set_option maxHeartbeats 1000000 in
theorem walk (s : ByteArray) (words : Bool) (w : World) (hs : s.size ≤ 1048576) :
    Calls Try.prog 6 #[.string s, .bool words] w fun e w' => e = .returned (.bool true) ∧ Below w.heap.size w w' := by
  have AL := alive_any w
  have RV := fun W => rValid_any s W hs
  cases hrv : rvP s.data.toList with
  | false =>
    rw [hrv] at RV
    clear hrv
    go_enter Try.func6, Try.ntmps6
    go_wp2_with (first | (go_at_call 8; refine AL.mono ?_; rintro e W1 ⟨rfl, hB1⟩) | (go_at_call 16; refine (RV _).mono ?_; rintro e W2 ⟨rfl, hB2⟩; have hB2 := hB1.trans (hB2.mono hB1.size)))
    go_ret
    exact ⟨rfl, hB2⟩
  | true =>
    by_cases h2 : s.size ≤ 200
    · cases words with
      | true => exact whole_tt s w h2 hrv
      | false => exact whole_ff s w h2 hrv
    · have h2' : (200 : Int) < s.size := by omega
      rw [hrv] at RV
      clear hrv
      go_enter Try.func6, Try.ntmps6
      go_wp2_with (first | (go_at_call 8; refine AL.mono ?_; rintro e W1 ⟨rfl, hB1⟩) | (go_at_call 16; refine (RV _).mono ?_; rintro e W2 ⟨rfl, hB2⟩; have hB2 := hB1.trans (hB2.mono hB1.size)))
      go_ret
      exact ⟨rfl, hB2⟩

theorem contract (H : Type) (enc : TypeId × Value → H) (W : World) (base : Nat) (args : Array Value) (ds gs : List (DataW H)) (before : List MemPlace)
    (hval0 : ∀ (j : Nat) t v, Try.f6.params[j]? = some t → args[j]? = some v → Value.okWide Try.prog W .any base t v)
    (hW : DataW.Whole enc Try.prog Try.f6.params.toList Rows.propsWholeSpec.vars false W args.toList ds gs before) (hk : Rows.uptoSmall H (ds ++ gs) = true) :
    Calls Try.prog 6 args W fun e W' => ∃ v, e = .returned v ∧ Rows.propsWholeSpec.post enc Try.prog Try.f6 false true false false W args v W' := by
  have hval := hval0
  have hW' := hW
  obtain ⟨p, q, hA0, hV, rfl, hfz, hnd⟩ := hW
  have hA : DataW.TrodAll enc Try.prog W 0 (fun _ => true) true Try.f6.params.toList args.toList ds p := hA0
  rw [Try.params6] at hA hval
  obtain ⟨v0, vs0, d0, ds0, p0, q0, hargs0, rfl, rfl, h0, r0⟩ := trodAll_cons hA
  obtain ⟨v1, vs1, d1, ds1, p1, q1, hargs1, rfl, rfl, h1, r1⟩ := trodAll_cons r0
  obtain ⟨rfl, rfl, rfl⟩ := trodAll_nil r1
  obtain rfl : args = #[v0, v1] := by cases args; simp_all
  obtain ⟨rfl, rfl⟩ := trodVars_none hV
  have k0 := h0
  have lt0 : ∀ x ∈ p0, x.block < W.heap.size := by obtain ⟨m, hm⟩ := k0; exact DataW.trod_lt m _ _ _ hm
  obtain ⟨a0, rfl, rfl, rfl, hmx⟩ := open_string Try.underlying9 (hval 0 9 v0 rfl rfl) h0
  obtain ⟨a1, rfl, rfl, rfl⟩ := open_bool Try.underlying4 (hval 1 4 v1 rfl rfl) h1
  have hb := of_decide_eq_true hk
  simp only [List.cons_append, List.nil_append, List.append_nil, Rows.uptoBulkAll, Rows.uptoBulk] at hb
  have hsz : a0.size = a0.data.toList.length := by simp
  clear hA0 hval0
  refine (walk a0 a1 W (by omega)).mono fun e W' ⟨he, bel⟩ => ?_
  subst he
  exact ⟨_, rfl, _, _, _, [], _, [], hW', trodAll_mk1 (shut_bool Try.underlying4 _), (trodAll_cons_mk (Below.trod laidOut (by kernel_rfl) (of_decide_eq_true (by kernel_rfl)) k0 bel lt0) (trodAll_cons_mk (shut_bool Try.underlying4 _) trodAll_mk0)), rfl, bel.frame _, fun h => by cases h⟩

set_option maxRecDepth 100000 in
theorem lifted (os : Os) (started : os.Started) (H : Type) (enc : TypeId × Value → H) (F : Stop.Interp) :
    ReturnsInHanded {} Try.checked os 6 .any ((Rows.OpenSpec.upto Rows.propsWholeSpec).pre6 enc Try.prog Try.f6 Rows.propsWholeUptoRow.domain false) (((Rows.OpenSpec.upto Rows.propsWholeSpec).at F).post enc Try.prog Try.f6 false true false false) := by
  refine returnsInHanded_of_cond (C := Try.checked) (s := Rows.OpenSpec.upto Rows.propsWholeSpec) (k := Rows.uptoSmall) rfl own started (by kernel_rfl) Try.func6
    (OpenSpec.witness (enc := enc) (C := Try.checked) (s := Rows.OpenSpec.upto Rows.propsWholeSpec) (k := Rows.uptoSmall) rfl false ⟨#[], #[.string ⟨#[]⟩, .bool false], []⟩ 8 (by kernel_rfl) (by kernel_rfl) (by kernel_rfl)
      (x := ([.lit (.string []), .lit (.bool false)], [], [])) (by kernel_rfl) rfl (by kernel_rfl)) ?_
  intro W base args ds gs before hval hW _ hk _
  exact contract H enc W base args ds gs before hval hW hk

theorem over : Rows.propsWholeUptoRow.holds Try.pinned (Rows.OpenSpec.upto Rows.propsWholeSpec) :=
  OpenClaim.holds_of_cond 6 Try.f6 rfl rfl rfl rfl rfl rfl rfl ⟨rfl, rfl, rfl, rfl, rfl⟩ rfl rfl rfl rfl rfl (by kernel_rfl) Try.func6 (by kernel_rfl)
    (of_decide_eq_true (by kernel_rfl)) (by unfold Func.isWrapper; first | (rw [if_pos (by decide +kernel)]; kernel_rfl) | (rw [if_neg (by decide +kernel)]; exact ⟨rfl, rfl⟩))
    (fun os started H enc _ F => lifted os started H enc F)
end Go.Proofs.Ytgldejcneglpnaa.propsWhole
namespace Go.Proofs.Ytgldejcneglpnaa
theorem propsWholeUpto_holds : Rows.PropsWholeUptoSaid := propsWhole.over
end Go.Proofs.Ytgldejcneglpnaa
