"""The shelf: rows that are kept, each standing on rows that are kept."""

from primeslip.errors import Needed, NoRow, NotHeld
from primeslip.parts import cut
from primeslip.rows import needs, tells_prime
from primeslip.slips import lets_by


class Shelf:
    """Rows that hold, one of a number."""

    def __init__(self):
        self._rows = {}

    def put(self, thing):
        """Keeps the rows of numbers of which there is none yet, and tells those numbers, rising."""
        if not lets_by(thing):
            raise NotHeld("not a slip that is let by")
        added = []
        for row in thing:
            if row[0] not in self._rows:
                self._rows[row[0]] = row
                added.append(row[0])
        return added

    def told(self, number):
        """What is told of a number, or None."""
        if number not in self._rows:
            return None
        if tells_prime(self._rows[number]):
            return "prime"
        return "parted"

    def numbers(self):
        """The numbers of which there are rows, rising."""
        return sorted(self._rows)

    def slip(self, number):
        """The row of a number and those on which it stands, as they are kept."""
        rows = tuple([self._rows[kept] for kept in self.numbers()])
        return cut(rows, number)

    def drop(self, number):
        """Drops the row of a number that no other row needs."""
        if number not in self._rows:
            raise NoRow("there is no row of the number")
        for row in self._rows.values():
            if number in needs(row):
                raise Needed("a row that is kept needs the number")
        del self._rows[number]
