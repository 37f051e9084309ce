/-
  THE PAGE that every law of layer 5 asks first, plain.
-/
import Derived.Test.YtjbkgokiikbaeaaGreatDoorTPlain
namespace Go.Proofs.YtjbkgokiikbaeaaGreatDoor
def Tw.str (l : List UInt8) : ByteArray := ⟨l.toArray⟩
def Tw.page : ByteArray := ⟨#[97, 60, 80, 32, 120, 61, 39, 49, 39, 32, 88, 61, 50, 32, 121, 62, 98, 38, 108, 116, 59, 60, 98, 114, 47, 62, 60, 47, 112, 62, 60, 33, 45, 45, 99, 45, 45, 62, 60, 116, 105, 116, 108, 101, 62, 60, 47, 116, 105, 116, 60, 47, 84, 73, 84, 76, 69, 62]⟩
def Tw.want : List Tk := [⟨0, Ts.e, ⟨#[97]⟩, [], false⟩, ⟨1, ⟨#[112]⟩, Ts.e, [(⟨#[120]⟩, ⟨#[49]⟩), (⟨#[121]⟩, Ts.e)], false⟩, ⟨0, Ts.e, ⟨#[98, 60]⟩, [], false⟩, ⟨1, ⟨#[98, 114]⟩, Ts.e, [], true⟩, ⟨2, ⟨#[112]⟩, Ts.e, [], false⟩, ⟨3, Ts.e, ⟨#[99]⟩, [], false⟩, ⟨1, ⟨#[116, 105, 116, 108, 101]⟩, Ts.e, [], false⟩, ⟨0, Ts.e, ⟨#[60, 47, 116, 105, 116]⟩, [], false⟩, ⟨2, ⟨#[116, 105, 116, 108, 101]⟩, Ts.e, [], false⟩]
theorem Tw.tokens : Rd.tokens Tw.page = Tw.want := by decide +kernel
end Go.Proofs.YtjbkgokiikbaeaaGreatDoor
